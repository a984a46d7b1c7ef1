/-
  Grammars as they came in, with what is asked of one that is lent, how long its lists and its names are at most.
-/
import Derived.Test.YtkbljcfkokiceaaDoorGramOpenU
namespace Go.Proofs.YtkbljcfkokiceaaDoor.GramOpen
open Go.Deep Go.Joins Go.ChangeShapes Go.WideShapes Go.ChangeAt Go.RowKit Go.Proofs.YtkbljcfkokiceaaDoor.GramMath Go.Proofs.YtkbljcfkokiceaaDoor.GramRow
set_option linter.unusedVariables false

section
variable {H : Type} {enc : TypeId × Value → H} {W : World} {sp : Nat → Bool} {hd : Bool}

theorem open_ss4 {n : Nat} {v : Value} {y : DataW H × List MemPlace} (h : DataW.trod enc Tryd.prog W 0 sp hd n 22 [v] = some y) (hw : ∀ k ∈ y.1.weights Tryd.prog 22, k ≤ reachBytes) :
    ∃ a c ss, v = .slice a ss.length c ∧ ss.length ≤ c ∧ ss.length * 16 ≤ 140737488351232 ∧ (∀ s ∈ ss, s.size ≤ 281474976710656) ∧ SRow W a ss ∧ (a = none → ss.length = 0 ∧ c = 0) ∧ ss.length ≤ Rows.uptoBulk y.1 ∧ ∀ s ∈ ss, s.size ≤ Rows.uptoBulk y.1 := by
  rcases open_strings Tryd.underlying22 Tryd.underlying9 (by kernel_rfl) h with ⟨hcs, _⟩ | ⟨x, l, c, ss, hcs, _, hl, hm, hz, rfl, hcell, hwz⟩
  · obtain rfl : v = .slice none 0 0 := by simpa using hcs
    exact ⟨none, 0, [], rfl, by simp, by simp, fun s hs => (by cases hs), fun i x hx => (by simp at hx), fun _ => ⟨rfl, rfl⟩, Nat.zero_le _, fun s hs => (by cases hs)⟩
  · obtain rfl : v = .slice (some x) l c := by simpa using hcs
    have hz2 : l ≤ ss.length := by rw [hz]; split <;> omega
    have e : (ss.take l).length = l := by rw [List.length_take]; omega
    have hbk : (ss.take l).length ≤ Rows.uptoBulk (.slice (strs (H := H) (ss.take l)) (strs (H := H) (ss.drop l))) := by
      have h1 := bulk_len (strs (H := H) (ss.take l))
      rw [strs_length] at h1
      rw [bulk_slice]
      omega
    have hbs : ∀ s ∈ ss.take l, s.size ≤ Rows.uptoBulk (.slice (strs (H := H) (ss.take l)) (strs (H := H) (ss.drop l))) := fun s hs => by
      have h1 := bulk_mem (mem_strs (H := H) hs)
      have h2 : Rows.uptoBulk (.lit (.string s.data.toList) : DataW H) = s.data.toList.length + 1 := rfl
      have e2 : s.size = s.data.toList.length := by cases s; simp [ByteArray.size]
      rw [bulk_slice]
      omega
    have hw1 : ((strs (H := H) (ss.take l)).length + (strs (H := H) (ss.drop l)).length) * Tryd.prog.bytesOf 9 ≤ reachBytes := hw _ (by simp [DataW.weights, Tryd.underlying22])
    rw [strs_length, strs_length, bytesS, e] at hw1
    unfold reachBytes at hw1
    refine ⟨some x, c, ss.take l, by rw [e], by omega, by rw [e]; omega, fun s hs => ?_, fun i u hu => ?_, fun h => (by cases h), hbk, hbs⟩
    · have := hw s.data.toList.length (by
        simp only [DataW.weights, Tryd.underlying22, List.mem_cons, List.mem_append]
        exact .inr (.inl (mem_all (mem_strs hs) (by simp [DataW.weights]))))
      unfold reachBytes at this
      have e2 : s.size = s.data.toList.length := by cases s; simp [ByteArray.size]
      omega
    · rw [List.getElem?_take] at hu
      by_cases hi : i < l
      · rw [if_pos hi] at hu
        have hc := hcell i (by omega)
        obtain ⟨b, off, spot⟩ := x
        have hspot : spot = none := by simpa [Addr.add] using World.cell?_spot (hcell 0 (by omega))
        subst hspot
        rw [Addr.add_lit, List.getD_eq_getElem?_getD, hu] at hc
        exact ⟨b, off, rfl, hc⟩
      · rw [if_neg hi] at hu; cases hu

set_option maxRecDepth 100000 in
theorem open_gram4 {base : Nat} {v : Value} {d : DataW H} {p : List MemPlace} (hval : Value.okWide Tryd.prog W .any base 25 v) (h : DataW.Trod enc Tryd.prog W 0 sp hd 25 v d p) (hw : ∀ k ∈ d.weights Tryd.prog 25, k ≤ reachBytes) :
    ∃ ta tc na nc ra rc g, v = .agg #[.slice ta g.ts.length tc, .slice na g.ns.length nc, .int .i64 g.ax, .slice ra g.rs.length rc] ∧ GramLent.Lendable W ta na ra tc nc g ∧ okG g ∧ g.ts.length ≤ Rows.uptoBulk d ∧ g.ns.length ≤ Rows.uptoBulk d ∧ g.rs.length ≤ Rows.uptoBulk d ∧ (∀ r ∈ g.rs, r.right.length ≤ Rows.uptoBulk d) ∧ (∀ s ∈ g.ts, s.size ≤ Rows.uptoBulk d) ∧ ∀ s ∈ g.ns, s.size ≤ Rows.uptoBulk d := by
  obtain ⟨f0, f1, f2, f3, hf, t0, t1, t2, t3, hone⟩ := gram_parts
  have hu := gramFields
  rw [hf] at hu
  obtain ⟨v0, v1, v2, v3, y0, y1, y2, y3, n, rfl, rfl, rfl, h0, h1, h2, h3⟩ := open_agg4 hu hone cellsG hval h
  rw [t0] at h0
  rw [t1] at h1
  rw [t2] at h2
  rw [t3] at h3
  have hws : ∀ k, (k ∈ y0.1.weights Tryd.prog 22 ∨ k ∈ y1.1.weights Tryd.prog 22 ∨ k ∈ y3.1.weights Tryd.prog 23) → k ≤ reachBytes := fun k hk => hw k (by
    simp only [DataW.weights, hu, List.map_cons, List.map_nil, DataW.weightsEach, List.mem_append, t0, t1, t2, t3]
    rcases hk with hk | hk | hk
    · exact .inl hk
    · exact .inr (.inl hk)
    · exact .inr (.inr (.inr (.inl hk))))
  obtain ⟨ta, tc, ts, rfl, a1, a2, a3, a4, a5, a6, a7⟩ := open_ss4 h0 (fun k hk => hws k (.inl hk))
  obtain ⟨na, nc, ns, rfl, b1, b2, b3, b4, b5, b6, b7⟩ := open_ss4 h1 (fun k hk => hws k (.inr (.inl hk)))
  obtain ⟨z, hz, _, hz2⟩ := DataW.trod_int Tryd.underlying3 h2
  obtain rfl : v2 = .int .i64 z := by simpa using hz
  obtain ⟨ra, rc, rs, rfl, c1, c2, c3, c4, c5, c6⟩ := open_rs3 h3 (fun k hk => hws k (.inr (.inr hk)))
  have hbk : Rows.uptoBulk (.agg [y0.1, y1.1, y2.1, y3.1]) = Rows.uptoBulk y0.1 + (Rows.uptoBulk y1.1 + (Rows.uptoBulk y2.1 + (Rows.uptoBulk y3.1 + 0))) + 1 := rfl
  exact ⟨ta, tc, na, nc, ra, rc, ⟨ts, ns, z, rs⟩, rfl, ⟨a4, b4, c4, a5, b5, a2, b2, c2, c3⟩, ⟨show ts.length ≤ _ by omega, show ns.length ≤ _ by omega, show rs.length ≤ _ by omega, wf64 hz2, fun r hr => (c3 r hr).1, a3, b3⟩, by rw [hbk]; show ts.length ≤ _; omega, by rw [hbk]; show ns.length ≤ _; omega, by rw [hbk]; show rs.length ≤ _; omega, fun r hr => (by have := c6 r hr; rw [hbk]; omega), fun s hs => (by have := a7 s hs; rw [hbk]; omega), fun s hs => (by have := b7 s hs; rw [hbk]; omega)⟩

end
end Go.Proofs.YtkbljcfkokiceaaDoor.GramOpen
