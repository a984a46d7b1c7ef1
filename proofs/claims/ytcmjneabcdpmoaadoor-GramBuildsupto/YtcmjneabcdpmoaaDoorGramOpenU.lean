/-
  Grammars as they came in, with what is asked of one that is lent, and how long its lists are at most.
-/
import Derived.Test.YtcmjneabcdpmoaaDoorGramOpens
import Derived.Test.YtcmjneabcdpmoaaDoorRows
namespace Go.Proofs.YtcmjneabcdpmoaaDoor.GramOpen
open Go.Deep Go.Joins Go.ChangeShapes Go.WideShapes Go.ChangeAt Go.RowKit Go.Proofs.YtcmjneabcdpmoaaDoor.GramMath Go.Proofs.YtcmjneabcdpmoaaDoor.GramRow
set_option linter.unusedVariables false

theorem bulk_pos {H : Type} (d : DataW H) : 1 ≤ Rows.uptoBulk d := by
  cases d with
  | lit x => cases x <;> simp [Rows.uptoBulk]
  | _ => simp [Rows.uptoBulk]

theorem bulk_len {H : Type} : ∀ l : List (DataW H), l.length ≤ Rows.uptoBulkAll l
  | [] => Nat.zero_le _
  | d :: r => by
    have h1 := bulk_len r
    have h2 := bulk_pos d
    show r.length + 1 ≤ Rows.uptoBulk d + Rows.uptoBulkAll r
    omega

theorem bulk_mem {H : Type} {d : DataW H} : ∀ {l : List (DataW H)}, d ∈ l → Rows.uptoBulk d ≤ Rows.uptoBulkAll l
  | [], h => by cases h
  | x :: r, h => by
    show _ ≤ Rows.uptoBulk x + Rows.uptoBulkAll r
    rcases List.mem_cons.1 h with rfl | h
    · omega
    · have := bulk_mem h
      omega

theorem bulk_slice {H : Type} (a b : List (DataW H)) : Rows.uptoBulk (.slice a b) = Rows.uptoBulkAll a + Rows.uptoBulkAll b + 1 := rfl

section
variable {H : Type} {enc : TypeId × Value → H} {W : World} {sp : Nat → Bool} {hd : Bool}

theorem open_ss3 {n : Nat} {v : Value} {y : DataW H × List MemPlace} (h : DataW.trod enc Tryd.prog W 0 sp hd n 25 [v] = some y) (hw : ∀ k ∈ y.1.weights Tryd.prog 25, k ≤ reachBytes) :
    ∃ a c ss, v = .slice a ss.length c ∧ ss.length ≤ c ∧ ss.length * 16 ≤ 140737488351232 ∧ (∀ s ∈ ss, s.size ≤ 281474976710656) ∧ SRow W a ss ∧ (a = none → ss.length = 0 ∧ c = 0) ∧ ss.length ≤ Rows.uptoBulk y.1 := by
  rcases open_strings Tryd.underlying25 Tryd.underlying9 (by kernel_rfl) h with ⟨hcs, _⟩ | ⟨x, l, c, ss, hcs, _, hl, hm, hz, rfl, hcell, hwz⟩
  · obtain rfl : v = .slice none 0 0 := by simpa using hcs
    exact ⟨none, 0, [], rfl, by simp, by simp, fun s hs => (by cases hs), fun i x hx => (by simp at hx), fun _ => ⟨rfl, rfl⟩, Nat.zero_le _⟩
  · obtain rfl : v = .slice (some x) l c := by simpa using hcs
    have hz2 : l ≤ ss.length := by rw [hz]; split <;> omega
    have e : (ss.take l).length = l := by rw [List.length_take]; omega
    have hbk : (ss.take l).length ≤ Rows.uptoBulk (.slice (strs (H := H) (ss.take l)) (strs (H := H) (ss.drop l))) := by
      have h1 := bulk_len (strs (H := H) (ss.take l))
      rw [strs_length] at h1
      rw [bulk_slice]
      omega
    have hw1 : ((strs (H := H) (ss.take l)).length + (strs (H := H) (ss.drop l)).length) * Tryd.prog.bytesOf 9 ≤ reachBytes := hw _ (by simp [DataW.weights, Tryd.underlying25])
    rw [strs_length, strs_length, bytesS, e] at hw1
    unfold reachBytes at hw1
    refine ⟨some x, c, ss.take l, by rw [e], by omega, by rw [e]; omega, fun s hs => ?_, fun i u hu => ?_, fun h => (by cases h), hbk⟩
    · have := hw s.data.toList.length (by
        simp only [DataW.weights, Tryd.underlying25, List.mem_cons, List.mem_append]
        exact .inr (.inl (mem_all (mem_strs hs) (by simp [DataW.weights]))))
      unfold reachBytes at this
      have e2 : s.size = s.data.toList.length := by cases s; simp [ByteArray.size]
      omega
    · rw [List.getElem?_take] at hu
      by_cases hi : i < l
      · rw [if_pos hi] at hu
        have hc := hcell i (by omega)
        obtain ⟨b, off, spot⟩ := x
        have hspot : spot = none := by simpa [Addr.add] using World.cell?_spot (hcell 0 (by omega))
        subst hspot
        rw [Addr.add_lit, List.getD_eq_getElem?_getD, hu] at hc
        exact ⟨b, off, rfl, hc⟩
      · rw [if_neg hi] at hu; cases hu

theorem open_is3 {n : Nat} {v : Value} {y : DataW H × List MemPlace} (h : DataW.trod enc Tryd.prog W 0 sp hd n 39 [v] = some y) (hw : ∀ k ∈ y.1.weights Tryd.prog 39, k ≤ reachBytes) :
    ∃ a c zs, v = .slice a zs.length c ∧ zs.length ≤ c ∧ zs.length * 8 ≤ 140737488351232 ∧ (∀ x ∈ zs, I64 x) ∧ IRow W a zs ∧ (a = none → zs.length = 0 ∧ c = 0) ∧ zs.length ≤ Rows.uptoBulk y.1 := by
  rcases open_ints Tryd.underlying39 Tryd.underlying3 (by kernel_rfl) h with ⟨hcs, _⟩ | ⟨x, l, c, ss, hcs, _, hl, hm, hz, rfl, hcell, hwz⟩
  · obtain rfl : v = .slice none 0 0 := by simpa using hcs
    exact ⟨none, 0, [], rfl, by simp, by simp, fun s hs => (by cases hs), fun i x hx => (by simp at hx), fun _ => ⟨rfl, rfl⟩, Nat.zero_le _⟩
  · obtain rfl : v = .slice (some x) l c := by simpa using hcs
    have hz2 : l ≤ ss.length := by rw [hz]; split <;> omega
    have e : (ss.take l).length = l := by rw [List.length_take]; omega
    have hbk : (ss.take l).length ≤ Rows.uptoBulk (.slice (lits (H := H) .i64 (ss.take l)) (lits (H := H) .i64 (ss.drop l))) := by
      have h1 := bulk_len (lits (H := H) .i64 (ss.take l))
      have h2 : (lits (H := H) .i64 (ss.take l)).length = (ss.take l).length := by simp [lits]
      rw [bulk_slice]
      omega
    have hw1 : ((lits (H := H) .i64 (ss.take l)).length + (lits (H := H) .i64 (ss.drop l)).length) * Tryd.prog.bytesOf 3 ≤ reachBytes := hw _ (by simp [DataW.weights, Tryd.underlying39])
    simp only [lits, List.length_map, bytesI, e] at hw1
    unfold reachBytes at hw1
    refine ⟨some x, c, ss.take l, by rw [e], by omega, by rw [e]; omega, fun s hs => ?_, fun i u hu => ?_, fun h => (by cases h), hbk⟩
    · have := hwz s (List.mem_of_mem_take hs)
      exact wf64 this
    · rw [List.getElem?_take] at hu
      by_cases hi : i < l
      · rw [if_pos hi] at hu
        have hc := hcell i (by omega)
        obtain ⟨b, off, spot⟩ := x
        have hspot : spot = none := by simpa [Addr.add] using World.cell?_spot (hcell 0 (by omega))
        subst hspot
        rw [Addr.add_lit, List.getD_eq_getElem?_getD, hu] at hc
        exact ⟨b, off, rfl, hc⟩
      · rw [if_neg hi] at hu; cases hu

theorem open_rule3 {n : Nat} {cs : List Value} {y : DataW H × List MemPlace} (h : DataW.trod enc Tryd.prog W 0 sp hd n 53 cs = some y) (hw : ∀ k ∈ y.1.weights Tryd.prog 53, k ≤ reachBytes) :
    ∃ r a c, cs = [.int .i64 r.left, .slice a r.right.length c] ∧ okR r ∧ r.right.length * 8 ≤ 140737488351232 ∧ IRow W a r.right ∧ (a = none → r.right.length = 0 ∧ c = 0) ∧ r.right.length ≤ Rows.uptoBulk y.1 := by
  obtain ⟨f0, f1, hf, t0, o0, t1, o1⟩ := rule_parts
  have hu := ruleFields
  rw [hf] at hu
  obtain ⟨y0, y1, m, rfl, hl, h0, h1⟩ := trod_struct2 hu h
  rw [cellsR] at hl
  obtain ⟨c0, c1, rfl⟩ := list2 hl
  rw [t0, o0, show Tryd.prog.cellsOf 3 = 1 by kernel_rfl] at h0
  rw [t1, o1, show Tryd.prog.cellsOf 39 = 1 by kernel_rfl] at h1
  obtain ⟨z, hz, hx, hz2⟩ := DataW.trod_int Tryd.underlying3 h0
  obtain rfl : c0 = .int .i64 z := by simpa using hz
  have h1' : DataW.trod enc Tryd.prog W 0 sp hd m 39 [c1] = some y1 := h1
  obtain ⟨a, c, zs, rfl, hc, hlen, hall, hrow, hnil, hbk⟩ := open_is3 h1' (fun k hk => hw k (by
    simp only [DataW.weights, hu, List.map_cons, List.map_nil, DataW.weightsEach, List.mem_append, t0, t1]
    exact .inr (.inl hk)))
  exact ⟨⟨z, zs⟩, a, c, rfl, ⟨wf64 hz2, hall, show zs.length ≤ _ by omega⟩, hlen, hrow, hnil, by
    show zs.length ≤ Rows.uptoBulk y0.1 + (Rows.uptoBulk y1.1 + 0) + 1
    omega⟩

theorem open_rs3 {n : Nat} {v : Value} {y : DataW H × List MemPlace} (h : DataW.trod enc Tryd.prog W 0 sp hd n 29 [v] = some y) (hw : ∀ k ∈ y.1.weights Tryd.prog 29, k ≤ reachBytes) :
    ∃ a c rs, v = .slice a rs.length c ∧ rs.length ≤ c ∧ rs.length * 32 ≤ 140737488351232 ∧ (∀ r ∈ rs, okR r ∧ r.right.length * 8 ≤ 140737488351232) ∧ GramLent.RRowN W a rs ∧ rs.length ≤ Rows.uptoBulk y.1 ∧ ∀ r ∈ rs, r.right.length ≤ Rows.uptoBulk y.1 := by
  rcases open_slice Tryd.underlying29 h with ⟨hcs, _⟩ | ⟨x, l, c, m, n', D, Pl, hcs, _, hl, hm, hmm, rfl, hall⟩
  · obtain rfl : v = .slice none 0 0 := by simpa using hcs
    exact ⟨none, 0, [], rfl, by simp, by simp, fun s hs => (by cases hs), fun i x hx => (by simp at hx), Nat.zero_le _, fun r hr => by cases hr⟩
  · obtain rfl : v = .slice (some x) l c := by simpa using hcs
    have hz2 : l ≤ m := by rw [hmm]; split <;> omega
    have hw1 : (((List.range l).map D).length + ((List.range (m - l)).map fun j => D (l + j)).length) * Tryd.prog.bytesOf 53 ≤ reachBytes := hw _ (by simp [DataW.weights, Tryd.underlying29])
    simp only [List.length_map, List.length_range, bytesR] at hw1
    unfold reachBytes at hw1
    rw [cellsR] at hall
    have hex : ∀ i, i < l → ∃ q : R × Option Addr × Nat, W.cells? 0 (x.add (i * 2)) 2 = some [.int .i64 q.1.left, .slice q.2.1 q.1.right.length q.2.2] ∧ (okR q.1 ∧ q.1.right.length * 8 ≤ 140737488351232) ∧ IRow W q.2.1 q.1.right ∧ (q.2.1 = none → q.1.right.length = 0 ∧ q.2.2 = 0) ∧ q.1.right.length ≤ Rows.uptoBulk (D i) := fun i hi => by
      obtain ⟨cs', h1, h2⟩ := hall i (by omega)
      obtain ⟨r, a, c', rfl, hr, hrl, hrow, hrn, hrb⟩ := open_rule3 h2 (fun k hk => hw k (by
        simp only [DataW.weights, Tryd.underlying29, List.mem_cons, List.mem_append]
        exact .inr (.inl (mem_all (List.mem_map.2 ⟨i, List.mem_range.2 hi, rfl⟩) hk))))
      exact ⟨⟨r, a, c'⟩, h1, ⟨hr, hrl⟩, hrow, hrn, hrb⟩
    classical
    let F : Nat → R × Option Addr × Nat := fun i => if hi : i < l then (hex i hi).choose else (⟨0, []⟩, none, 0)
    have hF : ∀ i, i < l → W.cells? 0 (x.add (i * 2)) 2 = some [.int .i64 (F i).1.left, .slice (F i).2.1 (F i).1.right.length (F i).2.2] ∧ (okR (F i).1 ∧ (F i).1.right.length * 8 ≤ 140737488351232) ∧ IRow W (F i).2.1 (F i).1.right ∧ ((F i).2.1 = none → (F i).1.right.length = 0 ∧ (F i).2.2 = 0) ∧ (F i).1.right.length ≤ Rows.uptoBulk (D i) := fun i hi => by
      have := (hex i hi).choose_spec
      simp only [F, dif_pos hi]
      exact this
    refine ⟨some x, c, (List.range l).map (fun i => (F i).1), by simp, by simpa using hl, by simp; omega, fun r hr => ?_, fun i u hu => ?_, ?_, fun r hr => ?_⟩
    · obtain ⟨i, hi, rfl⟩ := List.mem_map.1 hr
      exact (hF i (List.mem_range.1 hi)).2.1
    · rw [List.getElem?_map] at hu
      have hi : i < l := by
        rcases Nat.lt_or_ge i l with h | h
        · exact h
        · rw [List.getElem?_eq_none (by simpa using h)] at hu; cases hu
      rw [List.getElem?_range hi] at hu
      obtain rfl : (F i).1 = u := by simpa using hu
      obtain ⟨h1, _, h3⟩ := hF i hi
      obtain ⟨_, _, h4⟩ := World.cells?_some h1
      have c0 := h4 0 (by omega)
      have c1 := h4 1 (by omega)
      obtain ⟨b, off, spot⟩ := x
      have hspot : spot = none := by
        obtain ⟨h6, _⟩ := hF 0 (by omega)
        obtain ⟨_, _, h7⟩ := World.cells?_some h6
        have h8 := h7 0 (by omega)
        rw [Go.Deep.add_add] at h8
        simpa [Addr.add] using World.cell?_spot h8
      subst hspot
      rw [Go.Deep.add_add, Addr.add_lit] at c0 c1
      exact ⟨b, off, _, _, rfl, c0, c1, h3.1, h3.2.1⟩
    · have h1 := bulk_len ((List.range l).map D)
      rw [List.length_map, List.length_range] at h1
      show _ ≤ Rows.uptoBulkAll ((List.range l).map D) + Rows.uptoBulkAll _ + 1
      simp only [List.length_map, List.length_range]
      omega
    · obtain ⟨i, hi, rfl⟩ := List.mem_map.1 hr
      have h1 := (hF i (List.mem_range.1 hi)).2.2.2.2
      have h2 := bulk_mem (List.mem_map.2 ⟨i, hi, rfl⟩ : D i ∈ (List.range l).map D)
      show _ ≤ Rows.uptoBulkAll ((List.range l).map D) + Rows.uptoBulkAll _ + 1
      omega

set_option maxRecDepth 100000 in
theorem open_gram3 {base : Nat} {v : Value} {d : DataW H} {p : List MemPlace} (hval : Value.okWide Tryd.prog W .any base 35 v) (h : DataW.Trod enc Tryd.prog W 0 sp hd 35 v d p) (hw : ∀ k ∈ d.weights Tryd.prog 35, k ≤ reachBytes) :
    ∃ ta tc na nc ra rc g, v = .agg #[.slice ta g.ts.length tc, .slice na g.ns.length nc, .int .i64 g.ax, .slice ra g.rs.length rc] ∧ GramLent.Lendable W ta na ra tc nc g ∧ okG g ∧ g.ts.length ≤ Rows.uptoBulk d ∧ g.ns.length ≤ Rows.uptoBulk d ∧ g.rs.length ≤ Rows.uptoBulk d ∧ ∀ r ∈ g.rs, r.right.length ≤ Rows.uptoBulk d := by
  obtain ⟨f0, f1, f2, f3, hf, t0, t1, t2, t3, hone⟩ := gram_parts
  have hu := gramFields
  rw [hf] at hu
  obtain ⟨v0, v1, v2, v3, y0, y1, y2, y3, n, rfl, rfl, rfl, h0, h1, h2, h3⟩ := open_agg4 hu hone cellsG hval h
  rw [t0] at h0
  rw [t1] at h1
  rw [t2] at h2
  rw [t3] at h3
  have hws : ∀ k, (k ∈ y0.1.weights Tryd.prog 25 ∨ k ∈ y1.1.weights Tryd.prog 25 ∨ k ∈ y3.1.weights Tryd.prog 29) → k ≤ reachBytes := fun k hk => hw k (by
    simp only [DataW.weights, hu, List.map_cons, List.map_nil, DataW.weightsEach, List.mem_append, t0, t1, t2, t3]
    rcases hk with hk | hk | hk
    · exact .inl hk
    · exact .inr (.inl hk)
    · exact .inr (.inr (.inr (.inl hk))))
  obtain ⟨ta, tc, ts, rfl, a1, a2, a3, a4, a5, a6⟩ := open_ss3 h0 (fun k hk => hws k (.inl hk))
  obtain ⟨na, nc, ns, rfl, b1, b2, b3, b4, b5, b6⟩ := open_ss3 h1 (fun k hk => hws k (.inr (.inl hk)))
  obtain ⟨z, hz, _, hz2⟩ := DataW.trod_int Tryd.underlying3 h2
  obtain rfl : v2 = .int .i64 z := by simpa using hz
  obtain ⟨ra, rc, rs, rfl, c1, c2, c3, c4, c5, c6⟩ := open_rs3 h3 (fun k hk => hws k (.inr (.inr hk)))
  have hbk : Rows.uptoBulk (.agg [y0.1, y1.1, y2.1, y3.1]) = Rows.uptoBulk y0.1 + (Rows.uptoBulk y1.1 + (Rows.uptoBulk y2.1 + (Rows.uptoBulk y3.1 + 0))) + 1 := rfl
  exact ⟨ta, tc, na, nc, ra, rc, ⟨ts, ns, z, rs⟩, rfl, ⟨a4, b4, c4, a5, b5, a2, b2, c2, c3⟩, ⟨show ts.length ≤ _ by omega, show ns.length ≤ _ by omega, show rs.length ≤ _ by omega, wf64 hz2, fun r hr => (c3 r hr).1, a3, b3⟩, by rw [hbk]; show ts.length ≤ _; omega, by rw [hbk]; show ns.length ≤ _; omega, by rw [hbk]; show rs.length ≤ _; omega, fun r hr => by have := c6 r hr; rw [hbk]; omega⟩

end
end Go.Proofs.YtcmjneabcdpmoaaDoor.GramOpen
