/-
  A grammar that is handed in: what it reads as, lendable, its caps.
-/
import Derived.Test.YtcmjneabcdpmoaaDoorGramBase
import Derived.SliceStrings
import Derived.Deep.Slices
import Derived.Lib.SmallJoins
import Derived.SizedLaws
import Derived.Test.YtcmjneabcdpmoaaDoorGramLentG
namespace Go.Proofs.YtcmjneabcdpmoaaDoor.GramOpen
open Go.Deep Go.Joins Go.ChangeShapes Go.WideShapes Go.ChangeAt Go.RowKit Go.Proofs.YtcmjneabcdpmoaaDoor.GramMath Go.Proofs.YtcmjneabcdpmoaaDoor.GramRow
set_option linter.unusedVariables false

theorem bytesS : Tryd.prog.bytesOf 9 = 16 := by kernel_rfl
theorem bytesI : Tryd.prog.bytesOf 3 = 8 := by kernel_rfl

theorem bytesR : Tryd.prog.bytesOf 53 = 32 := by kernel_rfl
theorem cellsR : Tryd.prog.cellsOf 53 = 2 := by kernel_rfl
theorem cellsG : Tryd.prog.cellsOf 35 = 4 := by kernel_rfl

theorem wf64 {n : Int} (h : (Lit.int .i64 n).wf = true) : I64 n := by
  have h2 : IntKind.i64.min ≤ n ∧ n ≤ IntKind.i64.max := by simpa [Lit.wf] using h
  have e1 : IntKind.i64.min = -9223372036854775808 := by decide
  have e2 : IntKind.i64.max = 9223372036854775807 := by decide
  unfold I64
  omega

theorem list2 {α : Type} {l : List α} (h : l.length = 2) : ∃ a b, l = [a, b] := by
  match l, h with
  | [a, b], _ => exact ⟨a, b, rfl⟩

section
variable {H : Type} {enc : TypeId × Value → H} {W : World} {sp : Nat → Bool} {hd : Bool}

theorem mem_all {e : TypeId} {d : DataW H} {k : Nat} : ∀ {l : List (DataW H)}, d ∈ l → k ∈ d.weights Tryd.prog e → k ∈ DataW.weightsAll Tryd.prog e l
  | [], h, _ => by cases h
  | x :: l, h, hk => by
    simp only [DataW.weightsAll, List.mem_append]
    rcases List.mem_cons.1 h with rfl | h
    · exact .inl hk
    · exact .inr (mem_all h hk)

theorem mem_strs {s : ByteArray} : ∀ {l : List ByteArray}, s ∈ l → (DataW.lit (.string s.data.toList) : DataW H) ∈ strs (H := H) l
  | [], h => by cases h
  | x :: l, h => by
    rcases List.mem_cons.1 h with rfl | h
    · exact List.mem_cons_self
    · exact List.mem_cons_of_mem _ (mem_strs h)

theorem strs_length : ∀ l : List ByteArray, (strs (H := H) l).length = l.length
  | [] => rfl
  | x :: l => by show (strs (H := H) l).length + 1 = _; rw [strs_length l]; rfl

theorem open_ss {n : Nat} {v : Value} {y : DataW H × List MemPlace} (h : DataW.trod enc Tryd.prog W 0 sp hd n 25 [v] = some y) (hw : ∀ k ∈ y.1.weights Tryd.prog 25, k ≤ reachBytes) :
    ∃ a c ss, v = .slice a ss.length c ∧ ss.length ≤ c ∧ ss.length ≤ 1125899906842624 ∧ (∀ s ∈ ss, s.size ≤ 281474976710656) ∧ SRow W a ss := by
  rcases open_strings Tryd.underlying25 Tryd.underlying9 (by kernel_rfl) h with ⟨hcs, _⟩ | ⟨x, l, c, ss, hcs, _, hl, hm, hz, rfl, hcell, hwz⟩
  · obtain rfl : v = .slice none 0 0 := by simpa using hcs
    exact ⟨none, 0, [], rfl, by simp, by simp, fun s hs => (by cases hs), fun i x hx => by simp at hx⟩
  · obtain rfl : v = .slice (some x) l c := by simpa using hcs
    have hz2 : l ≤ ss.length := by rw [hz]; split <;> omega
    have e : (ss.take l).length = l := by rw [List.length_take]; omega
    have hw1 : ((strs (H := H) (ss.take l)).length + (strs (H := H) (ss.drop l)).length) * Tryd.prog.bytesOf 9 ≤ reachBytes := hw _ (by simp [DataW.weights, Tryd.underlying25])
    rw [strs_length, strs_length, bytesS, e] at hw1
    unfold reachBytes at hw1
    refine ⟨some x, c, ss.take l, by rw [e], by omega, by omega, fun s hs => ?_, fun i u hu => ?_⟩
    · have := hw s.data.toList.length (by
        simp only [DataW.weights, Tryd.underlying25, List.mem_cons, List.mem_append]
        exact .inr (.inl (mem_all (mem_strs hs) (by simp [DataW.weights]))))
      unfold reachBytes at this
      have e2 : s.size = s.data.toList.length := by cases s; simp [ByteArray.size]
      omega
    · rw [List.getElem?_take] at hu
      by_cases hi : i < l
      · rw [if_pos hi] at hu
        have hc := hcell i (by omega)
        obtain ⟨b, off, spot⟩ := x
        have hspot : spot = none := by simpa [Addr.add] using World.cell?_spot (hcell 0 (by omega))
        subst hspot
        rw [Addr.add_lit, List.getD_eq_getElem?_getD, hu] at hc
        exact ⟨b, off, rfl, hc⟩
      · rw [if_neg hi] at hu; cases hu

theorem open_is {n : Nat} {v : Value} {y : DataW H × List MemPlace} (h : DataW.trod enc Tryd.prog W 0 sp hd n 39 [v] = some y) (hw : ∀ k ∈ y.1.weights Tryd.prog 39, k ≤ reachBytes) :
    ∃ a c zs, v = .slice a zs.length c ∧ zs.length ≤ c ∧ zs.length ≤ 1125899906842624 ∧ (∀ x ∈ zs, I64 x) ∧ IRow W a zs := by
  rcases open_ints Tryd.underlying39 Tryd.underlying3 (by kernel_rfl) h with ⟨hcs, _⟩ | ⟨x, l, c, ss, hcs, _, hl, hm, hz, rfl, hcell, hwz⟩
  · obtain rfl : v = .slice none 0 0 := by simpa using hcs
    exact ⟨none, 0, [], rfl, by simp, by simp, fun s hs => (by cases hs), fun i x hx => by simp at hx⟩
  · obtain rfl : v = .slice (some x) l c := by simpa using hcs
    have hz2 : l ≤ ss.length := by rw [hz]; split <;> omega
    have e : (ss.take l).length = l := by rw [List.length_take]; omega
    have hw1 : ((lits (H := H) .i64 (ss.take l)).length + (lits (H := H) .i64 (ss.drop l)).length) * Tryd.prog.bytesOf 3 ≤ reachBytes := hw _ (by simp [DataW.weights, Tryd.underlying39])
    simp only [lits, List.length_map, bytesI, e] at hw1
    unfold reachBytes at hw1
    refine ⟨some x, c, ss.take l, by rw [e], by omega, by omega, fun s hs => ?_, fun i u hu => ?_⟩
    · have := hwz s (List.mem_of_mem_take hs)
      exact wf64 this
    · rw [List.getElem?_take] at hu
      by_cases hi : i < l
      · rw [if_pos hi] at hu
        have hc := hcell i (by omega)
        obtain ⟨b, off, spot⟩ := x
        have hspot : spot = none := by simpa [Addr.add] using World.cell?_spot (hcell 0 (by omega))
        subst hspot
        rw [Addr.add_lit, List.getD_eq_getElem?_getD, hu] at hc
        exact ⟨b, off, rfl, hc⟩
      · rw [if_neg hi] at hu; cases hu

theorem gramFields : Tryd.prog.underlying 35 = some (.struct (Tryd.prog.fieldsOf 35)) := by kernel_rfl
theorem ruleFields : Tryd.prog.underlying 53 = some (.struct (Tryd.prog.fieldsOf 53)) := by kernel_rfl

theorem rule_parts : ∃ f0 f1 : Field, Tryd.prog.fieldsOf 53 = #[f0, f1] ∧ f0.type = 3 ∧ f0.offset = 0 ∧ f1.type = 39 ∧ f1.offset = 1 :=
  ⟨_, _, (by kernel_rfl : Tryd.prog.fieldsOf 53 = #[(Tryd.prog.fieldsOf 53).getD 0 default, (Tryd.prog.fieldsOf 53).getD 1 default]), by kernel_rfl, by kernel_rfl, by kernel_rfl, by kernel_rfl⟩

theorem gram_parts : ∃ f0 f1 f2 f3 : Field, Tryd.prog.fieldsOf 35 = #[f0, f1, f2, f3] ∧ f0.type = 25 ∧ f1.type = 25 ∧ f2.type = 3 ∧ f3.type = 29 ∧ oneCellFields Tryd.prog #[f0, f1, f2, f3] = true :=
  ⟨_, _, _, _, (by kernel_rfl : Tryd.prog.fieldsOf 35 = #[(Tryd.prog.fieldsOf 35).getD 0 default, (Tryd.prog.fieldsOf 35).getD 1 default, (Tryd.prog.fieldsOf 35).getD 2 default, (Tryd.prog.fieldsOf 35).getD 3 default]), by kernel_rfl, by kernel_rfl, by kernel_rfl, by kernel_rfl, by kernel_rfl⟩

theorem open_rule {n : Nat} {cs : List Value} {y : DataW H × List MemPlace} (h : DataW.trod enc Tryd.prog W 0 sp hd n 53 cs = some y) (hw : ∀ k ∈ y.1.weights Tryd.prog 53, k ≤ reachBytes) :
    ∃ r a c, cs = [.int .i64 r.left, .slice a r.right.length c] ∧ okR r ∧ r.right.length ≤ c ∧ IRow W a r.right := by
  obtain ⟨f0, f1, hf, t0, o0, t1, o1⟩ := rule_parts
  have hu := ruleFields
  rw [hf] at hu
  obtain ⟨y0, y1, m, rfl, hl, h0, h1⟩ := trod_struct2 hu h
  rw [cellsR] at hl
  obtain ⟨c0, c1, rfl⟩ := list2 hl
  rw [t0, o0, show Tryd.prog.cellsOf 3 = 1 by kernel_rfl] at h0
  rw [t1, o1, show Tryd.prog.cellsOf 39 = 1 by kernel_rfl] at h1
  obtain ⟨z, hz, hx, hz2⟩ := DataW.trod_int Tryd.underlying3 h0
  obtain rfl : c0 = .int .i64 z := by simpa using hz
  have h1' : DataW.trod enc Tryd.prog W 0 sp hd m 39 [c1] = some y1 := h1
  obtain ⟨a, c, zs, rfl, hc, hlen, hall, hrow⟩ := open_is h1' (fun k hk => hw k (by
    simp only [DataW.weights, hu, List.map_cons, List.map_nil, DataW.weightsEach, List.mem_append, t0, t1]
    exact .inr (.inl hk)))
  exact ⟨⟨z, zs⟩, a, c, rfl, ⟨wf64 hz2, hall, hlen⟩, hc, hrow⟩

theorem open_rs {n : Nat} {v : Value} {y : DataW H × List MemPlace} (h : DataW.trod enc Tryd.prog W 0 sp hd n 29 [v] = some y) (hw : ∀ k ∈ y.1.weights Tryd.prog 29, k ≤ reachBytes) :
    ∃ a c rs, v = .slice a rs.length c ∧ rs.length ≤ c ∧ rs.length ≤ 1125899906842624 ∧ (∀ r ∈ rs, okR r) ∧ RRow W a rs := by
  rcases open_slice Tryd.underlying29 h with ⟨hcs, _⟩ | ⟨x, l, c, m, n', D, Pl, hcs, _, hl, hm, hmm, rfl, hall⟩
  · obtain rfl : v = .slice none 0 0 := by simpa using hcs
    exact ⟨none, 0, [], rfl, by simp, by simp, fun s hs => (by cases hs), fun i x hx => by simp at hx⟩
  · obtain rfl : v = .slice (some x) l c := by simpa using hcs
    have hz2 : l ≤ m := by rw [hmm]; split <;> omega
    have hw1 : (((List.range l).map D).length + ((List.range (m - l)).map fun j => D (l + j)).length) * Tryd.prog.bytesOf 53 ≤ reachBytes := hw _ (by simp [DataW.weights, Tryd.underlying29])
    simp only [List.length_map, List.length_range, bytesR] at hw1
    unfold reachBytes at hw1
    rw [cellsR] at hall
    have hex : ∀ i, i < l → ∃ q : R × Option Addr × Nat, W.cells? 0 (x.add (i * 2)) 2 = some [.int .i64 q.1.left, .slice q.2.1 q.1.right.length q.2.2] ∧ okR q.1 ∧ IRow W q.2.1 q.1.right := fun i hi => by
      obtain ⟨cs', h1, h2⟩ := hall i (by omega)
      obtain ⟨r, a, c', rfl, hr, _, hrow⟩ := open_rule h2 (fun k hk => hw k (by
        simp only [DataW.weights, Tryd.underlying29, List.mem_cons, List.mem_append]
        exact .inr (.inl (mem_all (List.mem_map.2 ⟨i, List.mem_range.2 hi, rfl⟩) hk))))
      exact ⟨⟨r, a, c'⟩, h1, hr, hrow⟩
    classical
    let F : Nat → R × Option Addr × Nat := fun i => if hi : i < l then (hex i hi).choose else (⟨0, []⟩, none, 0)
    have hF : ∀ i, i < l → W.cells? 0 (x.add (i * 2)) 2 = some [.int .i64 (F i).1.left, .slice (F i).2.1 (F i).1.right.length (F i).2.2] ∧ okR (F i).1 ∧ IRow W (F i).2.1 (F i).1.right := fun i hi => by
      have := (hex i hi).choose_spec
      simp only [F, dif_pos hi]
      exact this
    refine ⟨some x, c, (List.range l).map (fun i => (F i).1), by simp, by simpa using hl, by simp; omega, fun r hr => ?_, fun i u hu => ?_⟩
    · obtain ⟨i, hi, rfl⟩ := List.mem_map.1 hr
      exact (hF i (List.mem_range.1 hi)).2.1
    · rw [List.getElem?_map] at hu
      have hi : i < l := by
        rcases Nat.lt_or_ge i l with h | h
        · exact h
        · rw [List.getElem?_eq_none (by simpa using h)] at hu; cases hu
      rw [List.getElem?_range hi] at hu
      obtain rfl : (F i).1 = u := by simpa using hu
      obtain ⟨h1, _, h3⟩ := hF i hi
      obtain ⟨_, _, h4⟩ := World.cells?_some h1
      have c0 := h4 0 (by omega)
      have c1 := h4 1 (by omega)
      obtain ⟨b, off, spot⟩ := x
      have hspot : spot = none := by
        obtain ⟨h6, _, _⟩ := hF 0 (by omega)
        obtain ⟨_, _, h7⟩ := World.cells?_some h6
        have h8 := h7 0 (by omega)
        rw [Go.Deep.add_add] at h8
        simpa [Addr.add] using World.cell?_spot h8
      subst hspot
      rw [Go.Deep.add_add, Addr.add_lit] at c0 c1
      exact ⟨b, off, _, _, rfl, c0, c1, h3⟩

set_option maxRecDepth 100000 in
theorem open_gram {base : Nat} {v : Value} {d : DataW H} {p : List MemPlace} (hval : Value.okWide Tryd.prog W .any base 35 v) (h : DataW.Trod enc Tryd.prog W 0 sp hd 35 v d p) (hw : ∀ k ∈ d.weights Tryd.prog 35, k ≤ reachBytes) :
    ∃ ta tc na nc ra rc g, v = .agg #[.slice ta g.ts.length tc, .slice na g.ns.length nc, .int .i64 g.ax, .slice ra g.rs.length rc] ∧ GRow W ta na ra g ∧ okG g ∧ g.ts.length ≤ tc ∧ g.ns.length ≤ nc ∧ g.rs.length ≤ rc := by
  obtain ⟨f0, f1, f2, f3, hf, t0, t1, t2, t3, hone⟩ := gram_parts
  have hu := gramFields
  rw [hf] at hu
  obtain ⟨v0, v1, v2, v3, y0, y1, y2, y3, n, rfl, rfl, rfl, h0, h1, h2, h3⟩ := open_agg4 hu hone cellsG hval h
  rw [t0] at h0
  rw [t1] at h1
  rw [t2] at h2
  rw [t3] at h3
  have hws : ∀ k, (k ∈ y0.1.weights Tryd.prog 25 ∨ k ∈ y1.1.weights Tryd.prog 25 ∨ k ∈ y3.1.weights Tryd.prog 29) → k ≤ reachBytes := fun k hk => hw k (by
    simp only [DataW.weights, hu, List.map_cons, List.map_nil, DataW.weightsEach, List.mem_append, t0, t1, t2, t3]
    rcases hk with hk | hk | hk
    · exact .inl hk
    · exact .inr (.inl hk)
    · exact .inr (.inr (.inr (.inl hk))))
  obtain ⟨ta, tc, ts, rfl, a1, a2, a3, a4⟩ := open_ss h0 (fun k hk => hws k (.inl hk))
  obtain ⟨na, nc, ns, rfl, b1, b2, b3, b4⟩ := open_ss h1 (fun k hk => hws k (.inr (.inl hk)))
  obtain ⟨z, hz, _, hz2⟩ := DataW.trod_int Tryd.underlying3 h2
  obtain rfl : v2 = .int .i64 z := by simpa using hz
  obtain ⟨ra, rc, rs, rfl, c1, c2, c3, c4⟩ := open_rs h3 (fun k hk => hws k (.inr (.inr hk)))
  exact ⟨ta, tc, na, nc, ra, rc, ⟨ts, ns, z, rs⟩, rfl, ⟨a4, b4, c4⟩, ⟨a2, b2, c2, wf64 hz2, c3, a3, b3⟩, a1, b1, c1⟩

end
end Go.Proofs.YtcmjneabcdpmoaaDoor.GramOpen

namespace Go.Proofs.YtcmjneabcdpmoaaDoor.GramOpen
open Go.Deep Go.Joins Go.ChangeShapes Go.WideShapes Go.ChangeAt Go.RowKit Go.Proofs.YtcmjneabcdpmoaaDoor.GramMath Go.Proofs.YtcmjneabcdpmoaaDoor.GramRow
set_option linter.unusedVariables false

theorem lendable_row {w : World} {ta na ra : Option Addr} {tc nc : Nat} {g : G} (h : GramLent.Lendable w ta na ra tc nc g) : GRow w ta na ra g := ⟨h.ts, h.ns, fun i x hx => by
  obtain ⟨b, off, qa, qc, h1, h2, h3, h4, _⟩ := h.rs i x hx
  exact ⟨b, off, qa, qc, h1, h2, h3, h4⟩⟩

section
variable {H : Type} {enc : TypeId × Value → H} {W : World} {sp : Nat → Bool} {hd : Bool}

theorem open_ss2 {n : Nat} {v : Value} {y : DataW H × List MemPlace} (h : DataW.trod enc Tryd.prog W 0 sp hd n 25 [v] = some y) (hw : ∀ k ∈ y.1.weights Tryd.prog 25, k ≤ reachBytes) :
    ∃ a c ss, v = .slice a ss.length c ∧ ss.length ≤ c ∧ ss.length * 16 ≤ 140737488351232 ∧ (∀ s ∈ ss, s.size ≤ 281474976710656) ∧ SRow W a ss ∧ (a = none → ss.length = 0 ∧ c = 0) := by
  rcases open_strings Tryd.underlying25 Tryd.underlying9 (by kernel_rfl) h with ⟨hcs, _⟩ | ⟨x, l, c, ss, hcs, _, hl, hm, hz, rfl, hcell, hwz⟩
  · obtain rfl : v = .slice none 0 0 := by simpa using hcs
    exact ⟨none, 0, [], rfl, by simp, by simp, fun s hs => (by cases hs), fun i x hx => (by simp at hx), fun _ => ⟨rfl, rfl⟩⟩
  · obtain rfl : v = .slice (some x) l c := by simpa using hcs
    have hz2 : l ≤ ss.length := by rw [hz]; split <;> omega
    have e : (ss.take l).length = l := by rw [List.length_take]; omega
    have hw1 : ((strs (H := H) (ss.take l)).length + (strs (H := H) (ss.drop l)).length) * Tryd.prog.bytesOf 9 ≤ reachBytes := hw _ (by simp [DataW.weights, Tryd.underlying25])
    rw [strs_length, strs_length, bytesS, e] at hw1
    unfold reachBytes at hw1
    refine ⟨some x, c, ss.take l, by rw [e], by omega, by rw [e]; omega, fun s hs => ?_, fun i u hu => ?_, fun h => by cases h⟩
    · have := hw s.data.toList.length (by
        simp only [DataW.weights, Tryd.underlying25, List.mem_cons, List.mem_append]
        exact .inr (.inl (mem_all (mem_strs hs) (by simp [DataW.weights]))))
      unfold reachBytes at this
      have e2 : s.size = s.data.toList.length := by cases s; simp [ByteArray.size]
      omega
    · rw [List.getElem?_take] at hu
      by_cases hi : i < l
      · rw [if_pos hi] at hu
        have hc := hcell i (by omega)
        obtain ⟨b, off, spot⟩ := x
        have hspot : spot = none := by simpa [Addr.add] using World.cell?_spot (hcell 0 (by omega))
        subst hspot
        rw [Addr.add_lit, List.getD_eq_getElem?_getD, hu] at hc
        exact ⟨b, off, rfl, hc⟩
      · rw [if_neg hi] at hu; cases hu

theorem open_is2 {n : Nat} {v : Value} {y : DataW H × List MemPlace} (h : DataW.trod enc Tryd.prog W 0 sp hd n 39 [v] = some y) (hw : ∀ k ∈ y.1.weights Tryd.prog 39, k ≤ reachBytes) :
    ∃ a c zs, v = .slice a zs.length c ∧ zs.length ≤ c ∧ zs.length * 8 ≤ 140737488351232 ∧ (∀ x ∈ zs, I64 x) ∧ IRow W a zs ∧ (a = none → zs.length = 0 ∧ c = 0) := by
  rcases open_ints Tryd.underlying39 Tryd.underlying3 (by kernel_rfl) h with ⟨hcs, _⟩ | ⟨x, l, c, ss, hcs, _, hl, hm, hz, rfl, hcell, hwz⟩
  · obtain rfl : v = .slice none 0 0 := by simpa using hcs
    exact ⟨none, 0, [], rfl, by simp, by simp, fun s hs => (by cases hs), fun i x hx => (by simp at hx), fun _ => ⟨rfl, rfl⟩⟩
  · obtain rfl : v = .slice (some x) l c := by simpa using hcs
    have hz2 : l ≤ ss.length := by rw [hz]; split <;> omega
    have e : (ss.take l).length = l := by rw [List.length_take]; omega
    have hw1 : ((lits (H := H) .i64 (ss.take l)).length + (lits (H := H) .i64 (ss.drop l)).length) * Tryd.prog.bytesOf 3 ≤ reachBytes := hw _ (by simp [DataW.weights, Tryd.underlying39])
    simp only [lits, List.length_map, bytesI, e] at hw1
    unfold reachBytes at hw1
    refine ⟨some x, c, ss.take l, by rw [e], by omega, by rw [e]; omega, fun s hs => ?_, fun i u hu => ?_, fun h => by cases h⟩
    · have := hwz s (List.mem_of_mem_take hs)
      exact wf64 this
    · rw [List.getElem?_take] at hu
      by_cases hi : i < l
      · rw [if_pos hi] at hu
        have hc := hcell i (by omega)
        obtain ⟨b, off, spot⟩ := x
        have hspot : spot = none := by simpa [Addr.add] using World.cell?_spot (hcell 0 (by omega))
        subst hspot
        rw [Addr.add_lit, List.getD_eq_getElem?_getD, hu] at hc
        exact ⟨b, off, rfl, hc⟩
      · rw [if_neg hi] at hu; cases hu

theorem open_rule2 {n : Nat} {cs : List Value} {y : DataW H × List MemPlace} (h : DataW.trod enc Tryd.prog W 0 sp hd n 53 cs = some y) (hw : ∀ k ∈ y.1.weights Tryd.prog 53, k ≤ reachBytes) :
    ∃ r a c, cs = [.int .i64 r.left, .slice a r.right.length c] ∧ okR r ∧ r.right.length * 8 ≤ 140737488351232 ∧ IRow W a r.right ∧ (a = none → r.right.length = 0 ∧ c = 0) := by
  obtain ⟨f0, f1, hf, t0, o0, t1, o1⟩ := rule_parts
  have hu := ruleFields
  rw [hf] at hu
  obtain ⟨y0, y1, m, rfl, hl, h0, h1⟩ := trod_struct2 hu h
  rw [cellsR] at hl
  obtain ⟨c0, c1, rfl⟩ := list2 hl
  rw [t0, o0, show Tryd.prog.cellsOf 3 = 1 by kernel_rfl] at h0
  rw [t1, o1, show Tryd.prog.cellsOf 39 = 1 by kernel_rfl] at h1
  obtain ⟨z, hz, hx, hz2⟩ := DataW.trod_int Tryd.underlying3 h0
  obtain rfl : c0 = .int .i64 z := by simpa using hz
  have h1' : DataW.trod enc Tryd.prog W 0 sp hd m 39 [c1] = some y1 := h1
  obtain ⟨a, c, zs, rfl, hc, hlen, hall, hrow, hnil⟩ := open_is2 h1' (fun k hk => hw k (by
    simp only [DataW.weights, hu, List.map_cons, List.map_nil, DataW.weightsEach, List.mem_append, t0, t1]
    exact .inr (.inl hk)))
  exact ⟨⟨z, zs⟩, a, c, rfl, ⟨wf64 hz2, hall, show zs.length ≤ _ by omega⟩, hlen, hrow, hnil⟩

theorem open_rs2 {n : Nat} {v : Value} {y : DataW H × List MemPlace} (h : DataW.trod enc Tryd.prog W 0 sp hd n 29 [v] = some y) (hw : ∀ k ∈ y.1.weights Tryd.prog 29, k ≤ reachBytes) :
    ∃ a c rs, v = .slice a rs.length c ∧ rs.length ≤ c ∧ rs.length * 32 ≤ 140737488351232 ∧ (∀ r ∈ rs, okR r ∧ r.right.length * 8 ≤ 140737488351232) ∧ GramLent.RRowN W a rs := by
  rcases open_slice Tryd.underlying29 h with ⟨hcs, _⟩ | ⟨x, l, c, m, n', D, Pl, hcs, _, hl, hm, hmm, rfl, hall⟩
  · obtain rfl : v = .slice none 0 0 := by simpa using hcs
    exact ⟨none, 0, [], rfl, by simp, by simp, fun s hs => (by cases hs), fun i x hx => by simp at hx⟩
  · obtain rfl : v = .slice (some x) l c := by simpa using hcs
    have hz2 : l ≤ m := by rw [hmm]; split <;> omega
    have hw1 : (((List.range l).map D).length + ((List.range (m - l)).map fun j => D (l + j)).length) * Tryd.prog.bytesOf 53 ≤ reachBytes := hw _ (by simp [DataW.weights, Tryd.underlying29])
    simp only [List.length_map, List.length_range, bytesR] at hw1
    unfold reachBytes at hw1
    rw [cellsR] at hall
    have hex : ∀ i, i < l → ∃ q : R × Option Addr × Nat, W.cells? 0 (x.add (i * 2)) 2 = some [.int .i64 q.1.left, .slice q.2.1 q.1.right.length q.2.2] ∧ (okR q.1 ∧ q.1.right.length * 8 ≤ 140737488351232) ∧ IRow W q.2.1 q.1.right ∧ (q.2.1 = none → q.1.right.length = 0 ∧ q.2.2 = 0) := fun i hi => by
      obtain ⟨cs', h1, h2⟩ := hall i (by omega)
      obtain ⟨r, a, c', rfl, hr, hrl, hrow, hrn⟩ := open_rule2 h2 (fun k hk => hw k (by
        simp only [DataW.weights, Tryd.underlying29, List.mem_cons, List.mem_append]
        exact .inr (.inl (mem_all (List.mem_map.2 ⟨i, List.mem_range.2 hi, rfl⟩) hk))))
      exact ⟨⟨r, a, c'⟩, h1, ⟨hr, hrl⟩, hrow, hrn⟩
    classical
    let F : Nat → R × Option Addr × Nat := fun i => if hi : i < l then (hex i hi).choose else (⟨0, []⟩, none, 0)
    have hF : ∀ i, i < l → W.cells? 0 (x.add (i * 2)) 2 = some [.int .i64 (F i).1.left, .slice (F i).2.1 (F i).1.right.length (F i).2.2] ∧ (okR (F i).1 ∧ (F i).1.right.length * 8 ≤ 140737488351232) ∧ IRow W (F i).2.1 (F i).1.right ∧ ((F i).2.1 = none → (F i).1.right.length = 0 ∧ (F i).2.2 = 0) := fun i hi => by
      have := (hex i hi).choose_spec
      simp only [F, dif_pos hi]
      exact this
    refine ⟨some x, c, (List.range l).map (fun i => (F i).1), by simp, by simpa using hl, by simp; omega, fun r hr => ?_, fun i u hu => ?_⟩
    · obtain ⟨i, hi, rfl⟩ := List.mem_map.1 hr
      exact (hF i (List.mem_range.1 hi)).2.1
    · rw [List.getElem?_map] at hu
      have hi : i < l := by
        rcases Nat.lt_or_ge i l with h | h
        · exact h
        · rw [List.getElem?_eq_none (by simpa using h)] at hu; cases hu
      rw [List.getElem?_range hi] at hu
      obtain rfl : (F i).1 = u := by simpa using hu
      obtain ⟨h1, _, h3⟩ := hF i hi
      obtain ⟨_, _, h4⟩ := World.cells?_some h1
      have c0 := h4 0 (by omega)
      have c1 := h4 1 (by omega)
      obtain ⟨b, off, spot⟩ := x
      have hspot : spot = none := by
        obtain ⟨h6, _, _, _⟩ := hF 0 (by omega)
        obtain ⟨_, _, h7⟩ := World.cells?_some h6
        have h8 := h7 0 (by omega)
        rw [Go.Deep.add_add] at h8
        simpa [Addr.add] using World.cell?_spot h8
      subst hspot
      rw [Go.Deep.add_add, Addr.add_lit] at c0 c1
      exact ⟨b, off, _, _, rfl, c0, c1, h3.1, h3.2⟩

set_option maxRecDepth 100000 in
theorem open_gram2 {base : Nat} {v : Value} {d : DataW H} {p : List MemPlace} (hval : Value.okWide Tryd.prog W .any base 35 v) (h : DataW.Trod enc Tryd.prog W 0 sp hd 35 v d p) (hw : ∀ k ∈ d.weights Tryd.prog 35, k ≤ reachBytes) :
    ∃ ta tc na nc ra rc g, v = .agg #[.slice ta g.ts.length tc, .slice na g.ns.length nc, .int .i64 g.ax, .slice ra g.rs.length rc] ∧ GramLent.Lendable W ta na ra tc nc g ∧ okG g ∧ g.ts.length ≤ tc ∧ g.ns.length ≤ nc ∧ g.rs.length ≤ rc := by
  obtain ⟨f0, f1, f2, f3, hf, t0, t1, t2, t3, hone⟩ := gram_parts
  have hu := gramFields
  rw [hf] at hu
  obtain ⟨v0, v1, v2, v3, y0, y1, y2, y3, n, rfl, rfl, rfl, h0, h1, h2, h3⟩ := open_agg4 hu hone cellsG hval h
  rw [t0] at h0
  rw [t1] at h1
  rw [t2] at h2
  rw [t3] at h3
  have hws : ∀ k, (k ∈ y0.1.weights Tryd.prog 25 ∨ k ∈ y1.1.weights Tryd.prog 25 ∨ k ∈ y3.1.weights Tryd.prog 29) → k ≤ reachBytes := fun k hk => hw k (by
    simp only [DataW.weights, hu, List.map_cons, List.map_nil, DataW.weightsEach, List.mem_append, t0, t1, t2, t3]
    rcases hk with hk | hk | hk
    · exact .inl hk
    · exact .inr (.inl hk)
    · exact .inr (.inr (.inr (.inl hk))))
  obtain ⟨ta, tc, ts, rfl, a1, a2, a3, a4, a5⟩ := open_ss2 h0 (fun k hk => hws k (.inl hk))
  obtain ⟨na, nc, ns, rfl, b1, b2, b3, b4, b5⟩ := open_ss2 h1 (fun k hk => hws k (.inr (.inl hk)))
  obtain ⟨z, hz, _, hz2⟩ := DataW.trod_int Tryd.underlying3 h2
  obtain rfl : v2 = .int .i64 z := by simpa using hz
  obtain ⟨ra, rc, rs, rfl, c1, c2, c3, c4⟩ := open_rs2 h3 (fun k hk => hws k (.inr (.inr hk)))
  exact ⟨ta, tc, na, nc, ra, rc, ⟨ts, ns, z, rs⟩, rfl, ⟨a4, b4, c4, a5, b5, a2, b2, c2, c3⟩, ⟨show ts.length ≤ _ by omega, show ns.length ≤ _ by omega, show rs.length ≤ _ by omega, wf64 hz2, fun r hr => (c3 r hr).1, a3, b3⟩, a1, b1, c1⟩

end
end Go.Proofs.YtcmjneabcdpmoaaDoor.GramOpen

namespace Go.Proofs.YtcmjneabcdpmoaaDoor.GramOpen
open Go.Deep Go.Joins Go.ChangeShapes Go.WideShapes Go.ChangeAt Go.RowKit Go.Proofs.YtcmjneabcdpmoaaDoor.GramMath Go.Proofs.YtcmjneabcdpmoaaDoor.GramRow
set_option linter.unusedVariables false

/-- No list of a row of rules has a cap that is less than its length. -/
def Caps (W : World) (ra : Option Addr) (m : Nat) : Prop := ∀ i, i < m → ∀ b off, ra = some ⟨b, off, none⟩ → ∀ qa n qc, W.cell? ⟨b, off + i * 2 + 1, none⟩ = some (.slice qa n qc) → n ≤ qc

section
variable {H : Type} {enc : TypeId × Value → H} {W : World} {sp : Nat → Bool} {hd : Bool}

theorem cap_ints {n : Nat} {v : Value} {y : DataW H × List MemPlace} (h : DataW.trod enc Tryd.prog W 0 sp hd n 39 [v] = some y) : ∀ a l c, v = .slice a l c → l ≤ c := by
  rintro a l c rfl
  rcases open_ints Tryd.underlying39 Tryd.underlying3 (by kernel_rfl) h with ⟨hcs, _⟩ | ⟨x, l', c', ss, hcs, _, hl, _⟩
  · obtain ⟨_, rfl, rfl⟩ : a = none ∧ l = 0 ∧ c = 0 := by simpa using hcs
    exact Nat.le_refl _
  · obtain ⟨_, rfl, rfl⟩ : a = some x ∧ l = l' ∧ c = c' := by simpa using hcs
    exact hl

theorem cap_rule {n : Nat} {cs : List Value} {y : DataW H × List MemPlace} (h : DataW.trod enc Tryd.prog W 0 sp hd n 53 cs = some y) : ∀ u a l c, cs = [u, .slice a l c] → l ≤ c := by
  obtain ⟨f0, f1, hf, t0, o0, t1, o1⟩ := rule_parts
  have hu := ruleFields
  rw [hf] at hu
  obtain ⟨y0, y1, m, rfl, hl, h0, h1⟩ := trod_struct2 hu h
  rw [cellsR] at hl
  obtain ⟨c0, c1, rfl⟩ := list2 hl
  rw [t1, o1, show Tryd.prog.cellsOf 39 = 1 by kernel_rfl] at h1
  have h1' : DataW.trod enc Tryd.prog W 0 sp hd m 39 [c1] = some y1 := h1
  intro u a l c he
  have : c1 = .slice a l c := by simpa using (List.cons.inj (List.cons.inj he).2).1
  exact cap_ints h1' a l c this

theorem cap_rules {n : Nat} {ra : Option Addr} {m c : Nat} {y : DataW H × List MemPlace} (h : DataW.trod enc Tryd.prog W 0 sp hd n 29 [.slice ra m c] = some y) : Caps W ra m := by
  rcases open_slice Tryd.underlying29 h with ⟨hcs, _⟩ | ⟨x, l, c', m', n', D, Pl, hcs, _, hl, hm, hmm, rfl, hall⟩
  · obtain ⟨rfl, rfl, rfl⟩ : ra = none ∧ m = 0 ∧ c = 0 := by simpa using hcs
    intro i hi
    omega
  · obtain ⟨rfl, rfl, rfl⟩ : ra = some x ∧ m = l ∧ c = c' := by simpa using hcs
    have hz2 : m ≤ m' := by rw [hmm]; split <;> omega
    rw [cellsR] at hall
    intro i hi b off he qa k qc hq
    obtain rfl := Option.some.inj he
    obtain ⟨cs', h1, h2⟩ := hall i (by omega)
    obtain ⟨_, hlen, h4⟩ := World.cells?_some h1
    have c1 := h4 1 (by omega)
    rw [Go.Deep.add_add, Addr.add_lit] at c1
    rw [show off + (i * 2 + 1) = off + i * 2 + 1 by omega, hq] at c1
    have hl2 : cs'.length = 2 := by simpa using hlen
    obtain ⟨u0, u1, rfl⟩ := list2 hl2
    refine cap_rule h2 u0 qa k qc ?_
    simp at c1
    rw [← c1]

set_option maxRecDepth 100000 in
theorem gram_caps {base : Nat} {v0 v1 v2 : Value} {ra : Option Addr} {m c : Nat} {d : DataW H} {p : List MemPlace} (hval : Value.okWide Tryd.prog W .any base 35 (.agg #[v0, v1, v2, .slice ra m c])) (h : DataW.Trod enc Tryd.prog W 0 sp hd 35 (.agg #[v0, v1, v2, .slice ra m c]) d p) : Caps W ra m := by
  obtain ⟨f0, f1, f2, f3, hf, t0, t1, t2, t3, hone⟩ := gram_parts
  have hu := gramFields
  rw [hf] at hu
  obtain ⟨u0, u1, u2, u3, y0, y1, y2, y3, n, hv, _, _, h0, h1, h2, h3⟩ := open_agg4 hu hone cellsG hval h
  have e : u3 = .slice ra m c := by
    have := congrArg Value.cells hv
    simp [Value.cells] at this
    exact this.2.2.2.symm
  subst e
  rw [t3] at h3
  exact cap_rules h3

end
end Go.Proofs.YtcmjneabcdpmoaaDoor.GramOpen
