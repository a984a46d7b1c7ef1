/-
  A script of steps as it came in, with how long its lists are at most.
-/
import Derived.Test.YtcmjneabcdpmoaaDoorGramOpens
import Derived.Test.YtcmjneabcdpmoaaDoorGramBuildsM
namespace Go.Proofs.YtcmjneabcdpmoaaDoor.GramOpen
open Go.Deep Go.Joins Go.ChangeShapes Go.WideShapes Go.ChangeAt Go.RowKit Go.Proofs.YtcmjneabcdpmoaaDoor.GramMath Go.Proofs.YtcmjneabcdpmoaaDoor.GramRow Go.Proofs.YtcmjneabcdpmoaaDoor.GramRoll
set_option linter.unusedVariables false

theorem opFields : Tryd.prog.underlying 41 = some (.struct (Tryd.prog.fieldsOf 41)) := by kernel_rfl
theorem cellsO : Tryd.prog.cellsOf 41 = 5 := by kernel_rfl
theorem bytesO : Tryd.prog.bytesOf 41 = 64 := by kernel_rfl
theorem op_parts : ∃ f0 f1 f2 f3 f4 : Field, Tryd.prog.fieldsOf 41 = #[f0, f1, f2, f3, f4] ∧ (f0.type = 3 ∧ f0.offset = 0) ∧ (f1.type = 3 ∧ f1.offset = 1) ∧ (f2.type = 3 ∧ f2.offset = 2) ∧ (f3.type = 9 ∧ f3.offset = 3) ∧ f4.type = 39 ∧ f4.offset = 4 :=
  ⟨_, _, _, _, _, (by kernel_rfl : Tryd.prog.fieldsOf 41 = #[(Tryd.prog.fieldsOf 41).getD 0 default, (Tryd.prog.fieldsOf 41).getD 1 default, (Tryd.prog.fieldsOf 41).getD 2 default, (Tryd.prog.fieldsOf 41).getD 3 default, (Tryd.prog.fieldsOf 41).getD 4 default]), ⟨by kernel_rfl, by kernel_rfl⟩, ⟨by kernel_rfl, by kernel_rfl⟩, ⟨by kernel_rfl, by kernel_rfl⟩, ⟨by kernel_rfl, by kernel_rfl⟩, by kernel_rfl, by kernel_rfl⟩
theorem list5 {α : Type} {l : List α} (h : l.length = 5) : ∃ a b c d e, l = [a, b, c, d, e] := by
  match l, h with
  | [a, b, c, d, e], _ => exact ⟨a, b, c, d, e, rfl⟩

section
variable {H : Type} {enc : TypeId × Value → H} {W : World} {sp : Nat → Bool} {hd : Bool}

theorem trod_struct5 {P : Program} {base : Nat} {t : TypeId} {f0 f1 f2 f3 f4 : Field} {fuel : Nat} {cs : List Value} {x : DataW H × List MemPlace} (ht : P.underlying t = some (.struct #[f0, f1, f2, f3, f4])) (h : DataW.trod enc P W base sp hd fuel t cs = some x) :
    ∃ y0 y1 y2 y3 y4 n, x = (.agg [y0.1, y1.1, y2.1, y3.1, y4.1], y0.2 ++ (y1.2 ++ (y2.2 ++ (y3.2 ++ y4.2)))) ∧ cs.length = P.cellsOf t ∧ DataW.trod enc P W base sp hd n f0.type ((cs.drop f0.offset).take (P.cellsOf f0.type)) = some y0 ∧
      DataW.trod enc P W base sp hd n f1.type ((cs.drop f1.offset).take (P.cellsOf f1.type)) = some y1 ∧ DataW.trod enc P W base sp hd n f2.type ((cs.drop f2.offset).take (P.cellsOf f2.type)) = some y2 ∧
      DataW.trod enc P W base sp hd n f3.type ((cs.drop f3.offset).take (P.cellsOf f3.type)) = some y3 ∧ DataW.trod enc P W base sp hd n f4.type ((cs.drop f4.offset).take (P.cellsOf f4.type)) = some y4 := by
  obtain ⟨xs, n, _, rfl, hl, hlen, hf⟩ := DataW.trod_struct ht h
  match xs, hlen with
  | [y0, y1, y2, y3, y4], _ => exact ⟨y0, y1, y2, y3, y4, n, by simp, hl, by simpa using hf 0 f0 rfl, by simpa using hf 1 f1 rfl, by simpa using hf 2 f2 rfl, by simpa using hf 3 f3 rfl, by simpa using hf 4 f4 rfl⟩

theorem open_op {n : Nat} {cs : List Value} {y : DataW H × List MemPlace} (h : DataW.trod enc Tryd.prog W 0 sp hd n 41 cs = some y) (hw : ∀ k ∈ y.1.weights Tryd.prog 41, k ≤ reachBytes) :
    ∃ o : OpD, cs = [.int .i64 o.kind, .int .i64 o.who, .int .i64 o.n, .string o.name, .slice o.ra o.right.length o.rc] ∧ IRow W o.ra o.right ∧ (o.ra = none → o.right.length = 0 ∧ o.rc = 0) ∧ I64 o.n ∧ (∀ x ∈ o.right, I64 x) ∧ o.right.length * 8 ≤ 140737488351232 ∧ o.name.size ≤ 140737488351232 := by
  obtain ⟨f0, f1, f2, f3, f4, hf, ⟨t0, o0⟩, ⟨t1, o1⟩, ⟨t2, o2⟩, ⟨t3, o3⟩, t4, o4⟩ := op_parts
  have hu := opFields
  rw [hf] at hu
  obtain ⟨y0, y1, y2, y3, y4, m, rfl, hl, h0, h1, h2, h3, h4⟩ := trod_struct5 hu h
  rw [cellsO] at hl
  obtain ⟨c0, c1, c2, c3, c4, rfl⟩ := list5 hl
  rw [t0, o0, show Tryd.prog.cellsOf 3 = 1 by kernel_rfl] at h0
  rw [t1, o1, show Tryd.prog.cellsOf 3 = 1 by kernel_rfl] at h1
  rw [t2, o2, show Tryd.prog.cellsOf 3 = 1 by kernel_rfl] at h2
  rw [t3, o3, show Tryd.prog.cellsOf 9 = 1 by kernel_rfl] at h3
  rw [t4, o4, show Tryd.prog.cellsOf 39 = 1 by kernel_rfl] at h4
  obtain ⟨z0, hz0, hx0, _⟩ := DataW.trod_int Tryd.underlying3 h0
  obtain rfl : c0 = .int .i64 z0 := by simpa using hz0
  obtain ⟨z1, hz1, hx1, _⟩ := DataW.trod_int Tryd.underlying3 h1
  obtain rfl : c1 = .int .i64 z1 := by simpa using hz1
  obtain ⟨z2, hz2, hx2, hwf⟩ := DataW.trod_int Tryd.underlying3 h2
  obtain rfl : c2 = .int .i64 z2 := by simpa using hz2
  obtain ⟨s, hs, hx3, _⟩ := DataW.trod_string Tryd.underlying9 h3
  obtain rfl : c3 = .string s := by simpa using hs
  have h4' : DataW.trod enc Tryd.prog W 0 sp hd m 39 [c4] = some y4 := h4
  obtain ⟨a, c, zs, rfl, hc, hlen, hall, hrow, hnil⟩ := open_is2 h4' (fun k hk => hw k (by
    simp only [DataW.weights, hu, List.map_cons, List.map_nil, DataW.weightsEach, List.mem_append, t0, t1, t2, t3, t4]
    exact .inr (.inr (.inr (.inr (.inl hk))))))
  have hsz : s.size ≤ 140737488351232 := by
    have := hw s.data.toList.length (by
      simp only [DataW.weights, hu, List.map_cons, List.map_nil, DataW.weightsEach, List.mem_append, t0, t1, t2, t3, t4, hx3]
      refine .inr (.inr (.inr (.inl ?_)))
      simp)
    unfold reachBytes at this
    have e2 : s.size = s.data.toList.length := by cases s; simp [ByteArray.size]
    omega
  exact ⟨⟨z0, z1, z2, s, zs, a, c⟩, rfl, hrow, hnil, wf64 hwf, hall, hlen, hsz⟩

theorem open_ops {n : Nat} {v : Value} {y : DataW H × List MemPlace} (h : DataW.trod enc Tryd.prog W 0 sp hd n 22 [v] = some y) (hw : ∀ k ∈ y.1.weights Tryd.prog 22, k ≤ reachBytes) :
    ∃ a c l, v = .slice a l.length c ∧ OpsAt W a l ∧ (∀ o ∈ l, OpOk o) ∧ l.length ≤ 2199023255552 := by
  rcases open_slice Tryd.underlying22 h with ⟨hcs, _⟩ | ⟨x, l, c, m, n', D, Pl, hcs, _, hl, hm, hmm, rfl, hall⟩
  · obtain rfl : v = .slice none 0 0 := by simpa using hcs
    exact ⟨none, 0, [], rfl, fun i x hx => (by simp at hx), fun s hs => (by cases hs), Nat.zero_le _⟩
  · obtain rfl : v = .slice (some x) l c := by simpa using hcs
    have hz2 : l ≤ m := by rw [hmm]; split <;> omega
    have hw1 : (((List.range l).map D).length + ((List.range (m - l)).map fun j => D (l + j)).length) * Tryd.prog.bytesOf 41 ≤ reachBytes := hw _ (by simp [DataW.weights, Tryd.underlying22])
    simp only [List.length_map, List.length_range, bytesO] at hw1
    unfold reachBytes at hw1
    rw [cellsO] at hall
    have hex : ∀ i, i < l → ∃ o : OpD, W.cells? 0 (x.add (i * 5)) 5 = some [.int .i64 o.kind, .int .i64 o.who, .int .i64 o.n, .string o.name, .slice o.ra o.right.length o.rc] ∧ IRow W o.ra o.right ∧ (o.ra = none → o.right.length = 0 ∧ o.rc = 0) ∧ OpOk o := fun i hi => by
      obtain ⟨cs', h1, h2⟩ := hall i (by omega)
      obtain ⟨o, rfl, hrow, hn, h64, hr64, hrl, hnl⟩ := open_op h2 (fun k hk => hw k (by
        simp only [DataW.weights, Tryd.underlying22, List.mem_cons, List.mem_append]
        exact .inr (.inl (mem_all (List.mem_map.2 ⟨i, List.mem_range.2 hi, rfl⟩) hk))))
      exact ⟨o, h1, hrow, hn, ⟨h64, hnl, hrl, hr64⟩⟩
    classical
    let F : Nat → OpD := fun i => if hi : i < l then (hex i hi).choose else ⟨0, 0, 0, ByteArray.empty, [], none, 0⟩
    have hF : ∀ i, i < l → W.cells? 0 (x.add (i * 5)) 5 = some [.int .i64 (F i).kind, .int .i64 (F i).who, .int .i64 (F i).n, .string (F i).name, .slice (F i).ra (F i).right.length (F i).rc] ∧ IRow W (F i).ra (F i).right ∧ ((F i).ra = none → (F i).right.length = 0 ∧ (F i).rc = 0) ∧ OpOk (F i) := fun i hi => by
      have := (hex i hi).choose_spec
      simp only [F, dif_pos hi]
      exact this
    refine ⟨some x, c, (List.range l).map F, by simp, fun i u hu => ?_, fun o ho => ?_, ?_⟩
    · rw [List.getElem?_map] at hu
      have hi : i < l := by
        rcases Nat.lt_or_ge i l with h | h
        · exact h
        · rw [List.getElem?_eq_none (by simpa using h)] at hu; cases hu
      rw [List.getElem?_range hi] at hu
      obtain rfl : F i = u := by simpa using hu
      obtain ⟨h1, h3, h5, _⟩ := hF i hi
      obtain ⟨_, _, h4⟩ := World.cells?_some h1
      have c0 := h4 0 (by omega)
      have c1 := h4 1 (by omega)
      have c2 := h4 2 (by omega)
      have c3 := h4 3 (by omega)
      have c4 := h4 4 (by omega)
      obtain ⟨b, off, spot⟩ := x
      have hspot : spot = none := by
        obtain ⟨h6, _⟩ := hF 0 (by omega)
        obtain ⟨_, _, h7⟩ := World.cells?_some h6
        have h8 := h7 0 (by omega)
        rw [Go.Deep.add_add] at h8
        simpa [Addr.add] using World.cell?_spot h8
      subst hspot
      rw [Go.Deep.add_add, Addr.add_lit] at c0 c1 c2 c3 c4
      exact ⟨b, off, rfl, c0, c1, c2, c3, c4, h3, h5⟩
    · obtain ⟨i, hi, rfl⟩ := List.mem_map.1 ho
      exact (hF i (List.mem_range.1 hi)).2.2.2
    · simp only [List.length_map, List.length_range]
      omega

end
end Go.Proofs.YtcmjneabcdpmoaaDoor.GramOpen
