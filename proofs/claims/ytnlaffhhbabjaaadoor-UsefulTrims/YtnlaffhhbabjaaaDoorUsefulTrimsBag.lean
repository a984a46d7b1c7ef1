/-
  The table and the errors laid, grammars opened, kinds of errors, grammars compared, and the walk of UsefulTrims.
-/
import Derived.Test.YtnlaffhhbabjaaaDoorGramErrs
import Derived.Test.YtnlaffhhbabjaaaDoorSetsFns
import Derived.Lib.LaidTab
import Derived.LaidSub
import Derived.Test.YtnlaffhhbabjaaaDoorGramBase
import Derived.SliceStrings
import Derived.Deep.Slices
import Derived.Lib.SmallJoins
import Derived.SizedLaws
import Derived.Test.YtnlaffhhbabjaaaDoorGramLentG
import Derived.LaidEql
import Derived.Stop.Asserts
import Derived.RowKitTokens
import Derived.Test.YtnlaffhhbabjaaaDoorGramEq
import Derived.Test.YtnlaffhhbabjaaaDoorUsefulRTrim
namespace Go.Proofs.YtnlaffhhbabjaaaDoor.UsefulTabs
open Go.RowKit Go.Proofs.YtnlaffhhbabjaaaDoor.SetsAlg Go.Proofs.YtnlaffhhbabjaaaDoor.GramErrs Go.Proofs.YtnlaffhhbabjaaaDoor.GramRow
set_option linter.unusedVariables false

theorem gTz : Tryd.prog.globalNamed "math/bits.deBruijn64tab" = some 15 := by kernel_rfl
theorem gtTz : (Tryd.prog.globals[15]?).map (·.type) = some 144 := by kernel_rfl
theorem gcTz : Tryd.prog.cellsOf 144 = 64 := by kernel_rfl
def valsTz : List Int := [0, 1, 56, 2, 57, 49, 28, 3, 61, 58, 42, 50, 38, 29, 17, 4, 62, 47, 59, 36, 45, 43, 51, 22, 53, 39, 33, 30, 24, 18, 12, 5, 63, 55, 48, 27, 60, 41, 37, 16, 46, 35, 44, 21, 52, 32, 23, 11, 54, 26, 40, 15, 34, 20, 31, 10, 25, 14, 19, 9, 13, 8, 7, 6]

def tabLaid : List (String × DataW Unit) := ("math/bits.deBruijn64tab", Rows.laid_math_bits_deBruijn64tab) :: errLaid

theorem errs_laid {W : World} (h : laidMetH Tryd.prog tabLaid W) : laidMetH Tryd.prog errLaid W := by
  have h2 := laidMetH.filter (fun x => !decide (x.1 = "math/bits.deBruijn64tab")) h
  have e : tabLaid.filter (fun x => !decide (x.1 = "math/bits.deBruijn64tab")) = errLaid := by kernel_rfl
  rw [e] at h2
  exact h2

theorem tableTz {W : World} (h : laidMetH Tryd.prog tabLaid W) : Lib.TabIs Tryd.prog W "math/bits.deBruijn64tab" .u8 valsTz := by
  have h2 := laidMetH.filter (fun x => decide (x.1 = "math/bits.deBruijn64tab")) h
  have e : tabLaid.filter (fun x => decide (x.1 = "math/bits.deBruijn64tab")) = [("math/bits.deBruijn64tab", Lib.tabData .u8 valsTz)] := by kernel_rfl
  rw [e] at h2
  exact Lib.tabIs_of_head (rest := []) gTz gtTz Tryd.underlying144 Tryd.underlying5 (by kernel_rfl) gcTz h2

theorem tab_laid {W : World} (h : laidMetH Tryd.prog tabLaid W) : Tab W ∧ 15 < W.heap.size := by
  have hc : ∀ i, i < valsTz.length → W.cell? ⟨15, i, none⟩ = some (.int .u8 (valsTz.getD i 0)) := fun i hi => (tableTz h).cell gTz i hi
  refine ⟨fun j hj => ?_, cell_lt (hc 0 (by decide))⟩
  have e : ∀ j, j < 64 → valsTz.getD j 0 = ((Lib.deBruijn64tab.getD j 0 : Nat) : Int) := by decide +kernel
  rw [hc j hj, e j hj]

def layTz : Obj → Obj
  | .cells _ t frozen => .cells (valsTz.map (fun z => Value.int .u8 z)).toArray t frozen
  | o => o

noncomputable def laidWorldT (os : Os) : World := { laidWorld os with heap := (laidWorld os).heap.modify 15 layTz }

end Go.Proofs.YtnlaffhhbabjaaaDoor.UsefulTabs

namespace Go.Proofs.YtnlaffhhbabjaaaDoor.GramOpen
open Go.Deep Go.Joins Go.ChangeShapes Go.WideShapes Go.ChangeAt Go.RowKit Go.Proofs.YtnlaffhhbabjaaaDoor.GramMath Go.Proofs.YtnlaffhhbabjaaaDoor.GramRow
set_option linter.unusedVariables false

theorem bytesS : Tryd.prog.bytesOf 9 = 16 := by kernel_rfl
theorem bytesI : Tryd.prog.bytesOf 3 = 8 := by kernel_rfl
theorem bytesR : Tryd.prog.bytesOf 45 = 32 := by kernel_rfl
theorem cellsR : Tryd.prog.cellsOf 45 = 2 := by kernel_rfl
theorem cellsG : Tryd.prog.cellsOf 25 = 4 := by kernel_rfl

theorem wf64 {n : Int} (h : (Lit.int .i64 n).wf = true) : I64 n := by
  have h2 : IntKind.i64.min ≤ n ∧ n ≤ IntKind.i64.max := by simpa [Lit.wf] using h
  have e1 : IntKind.i64.min = -9223372036854775808 := by decide
  have e2 : IntKind.i64.max = 9223372036854775807 := by decide
  unfold I64
  omega

theorem list2 {α : Type} {l : List α} (h : l.length = 2) : ∃ a b, l = [a, b] := by
  match l, h with
  | [a, b], _ => exact ⟨a, b, rfl⟩

section
variable {H : Type} {enc : TypeId × Value → H} {W : World} {sp : Nat → Bool} {hd : Bool}

theorem mem_all {e : TypeId} {d : DataW H} {k : Nat} : ∀ {l : List (DataW H)}, d ∈ l → k ∈ d.weights Tryd.prog e → k ∈ DataW.weightsAll Tryd.prog e l
  | [], h, _ => by cases h
  | x :: l, h, hk => by
    simp only [DataW.weightsAll, List.mem_append]
    rcases List.mem_cons.1 h with rfl | h
    · exact .inl hk
    · exact .inr (mem_all h hk)

theorem mem_strs {s : ByteArray} : ∀ {l : List ByteArray}, s ∈ l → (DataW.lit (.string s.data.toList) : DataW H) ∈ strs (H := H) l
  | [], h => by cases h
  | x :: l, h => by
    rcases List.mem_cons.1 h with rfl | h
    · exact List.mem_cons_self
    · exact List.mem_cons_of_mem _ (mem_strs h)

theorem strs_length : ∀ l : List ByteArray, (strs (H := H) l).length = l.length
  | [] => rfl
  | x :: l => by show (strs (H := H) l).length + 1 = _; rw [strs_length l]; rfl

theorem open_ss {n : Nat} {v : Value} {y : DataW H × List MemPlace} (h : DataW.trod enc Tryd.prog W 0 sp hd n 22 [v] = some y) (hw : ∀ k ∈ y.1.weights Tryd.prog 22, k ≤ reachBytes) :
    ∃ a c ss, v = .slice a ss.length c ∧ ss.length ≤ c ∧ ss.length ≤ 1125899906842624 ∧ (∀ s ∈ ss, s.size ≤ 281474976710656) ∧ SRow W a ss := by
  rcases open_strings Tryd.underlying22 Tryd.underlying9 (by kernel_rfl) h with ⟨hcs, _⟩ | ⟨x, l, c, ss, hcs, _, hl, hm, hz, rfl, hcell, hwz⟩
  · obtain rfl : v = .slice none 0 0 := by simpa using hcs
    exact ⟨none, 0, [], rfl, by simp, by simp, fun s hs => (by cases hs), fun i x hx => by simp at hx⟩
  · obtain rfl : v = .slice (some x) l c := by simpa using hcs
    have hz2 : l ≤ ss.length := by rw [hz]; split <;> omega
    have e : (ss.take l).length = l := by rw [List.length_take]; omega
    have hw1 : ((strs (H := H) (ss.take l)).length + (strs (H := H) (ss.drop l)).length) * Tryd.prog.bytesOf 9 ≤ reachBytes := hw _ (by simp [DataW.weights, Tryd.underlying22])
    rw [strs_length, strs_length, bytesS, e] at hw1
    unfold reachBytes at hw1
    refine ⟨some x, c, ss.take l, by rw [e], by omega, by omega, fun s hs => ?_, fun i u hu => ?_⟩
    · have := hw s.data.toList.length (by
        simp only [DataW.weights, Tryd.underlying22, List.mem_cons, List.mem_append]
        exact .inr (.inl (mem_all (mem_strs hs) (by simp [DataW.weights]))))
      unfold reachBytes at this
      have e2 : s.size = s.data.toList.length := by cases s; simp [ByteArray.size]
      omega
    · rw [List.getElem?_take] at hu
      by_cases hi : i < l
      · rw [if_pos hi] at hu
        have hc := hcell i (by omega)
        obtain ⟨b, off, spot⟩ := x
        have hspot : spot = none := by simpa [Addr.add] using World.cell?_spot (hcell 0 (by omega))
        subst hspot
        rw [Addr.add_lit, List.getD_eq_getElem?_getD, hu] at hc
        exact ⟨b, off, rfl, hc⟩
      · rw [if_neg hi] at hu; cases hu

theorem open_is {n : Nat} {v : Value} {y : DataW H × List MemPlace} (h : DataW.trod enc Tryd.prog W 0 sp hd n 36 [v] = some y) (hw : ∀ k ∈ y.1.weights Tryd.prog 36, k ≤ reachBytes) :
    ∃ a c zs, v = .slice a zs.length c ∧ zs.length ≤ c ∧ zs.length ≤ 1125899906842624 ∧ (∀ x ∈ zs, I64 x) ∧ IRow W a zs := by
  rcases open_ints Tryd.underlying36 Tryd.underlying3 (by kernel_rfl) h with ⟨hcs, _⟩ | ⟨x, l, c, ss, hcs, _, hl, hm, hz, rfl, hcell, hwz⟩
  · obtain rfl : v = .slice none 0 0 := by simpa using hcs
    exact ⟨none, 0, [], rfl, by simp, by simp, fun s hs => (by cases hs), fun i x hx => by simp at hx⟩
  · obtain rfl : v = .slice (some x) l c := by simpa using hcs
    have hz2 : l ≤ ss.length := by rw [hz]; split <;> omega
    have e : (ss.take l).length = l := by rw [List.length_take]; omega
    have hw1 : ((lits (H := H) .i64 (ss.take l)).length + (lits (H := H) .i64 (ss.drop l)).length) * Tryd.prog.bytesOf 3 ≤ reachBytes := hw _ (by simp [DataW.weights, Tryd.underlying36])
    simp only [lits, List.length_map, bytesI, e] at hw1
    unfold reachBytes at hw1
    refine ⟨some x, c, ss.take l, by rw [e], by omega, by omega, fun s hs => ?_, fun i u hu => ?_⟩
    · have := hwz s (List.mem_of_mem_take hs)
      exact wf64 this
    · rw [List.getElem?_take] at hu
      by_cases hi : i < l
      · rw [if_pos hi] at hu
        have hc := hcell i (by omega)
        obtain ⟨b, off, spot⟩ := x
        have hspot : spot = none := by simpa [Addr.add] using World.cell?_spot (hcell 0 (by omega))
        subst hspot
        rw [Addr.add_lit, List.getD_eq_getElem?_getD, hu] at hc
        exact ⟨b, off, rfl, hc⟩
      · rw [if_neg hi] at hu; cases hu

theorem gramFields : Tryd.prog.underlying 25 = some (.struct (Tryd.prog.fieldsOf 25)) := by kernel_rfl
theorem ruleFields : Tryd.prog.underlying 45 = some (.struct (Tryd.prog.fieldsOf 45)) := by kernel_rfl

theorem rule_parts : ∃ f0 f1 : Field, Tryd.prog.fieldsOf 45 = #[f0, f1] ∧ f0.type = 3 ∧ f0.offset = 0 ∧ f1.type = 36 ∧ f1.offset = 1 :=
  ⟨_, _, (by kernel_rfl : Tryd.prog.fieldsOf 45 = #[(Tryd.prog.fieldsOf 45).getD 0 default, (Tryd.prog.fieldsOf 45).getD 1 default]), by kernel_rfl, by kernel_rfl, by kernel_rfl, by kernel_rfl⟩

theorem gram_parts : ∃ f0 f1 f2 f3 : Field, Tryd.prog.fieldsOf 25 = #[f0, f1, f2, f3] ∧ f0.type = 22 ∧ f1.type = 22 ∧ f2.type = 3 ∧ f3.type = 23 ∧ oneCellFields Tryd.prog #[f0, f1, f2, f3] = true :=
  ⟨_, _, _, _, (by kernel_rfl : Tryd.prog.fieldsOf 25 = #[(Tryd.prog.fieldsOf 25).getD 0 default, (Tryd.prog.fieldsOf 25).getD 1 default, (Tryd.prog.fieldsOf 25).getD 2 default, (Tryd.prog.fieldsOf 25).getD 3 default]), by kernel_rfl, by kernel_rfl, by kernel_rfl, by kernel_rfl, by kernel_rfl⟩

theorem open_rule {n : Nat} {cs : List Value} {y : DataW H × List MemPlace} (h : DataW.trod enc Tryd.prog W 0 sp hd n 45 cs = some y) (hw : ∀ k ∈ y.1.weights Tryd.prog 45, k ≤ reachBytes) :
    ∃ r a c, cs = [.int .i64 r.left, .slice a r.right.length c] ∧ okR r ∧ r.right.length ≤ c ∧ IRow W a r.right := by
  obtain ⟨f0, f1, hf, t0, o0, t1, o1⟩ := rule_parts
  have hu := ruleFields
  rw [hf] at hu
  obtain ⟨y0, y1, m, rfl, hl, h0, h1⟩ := trod_struct2 hu h
  rw [cellsR] at hl
  obtain ⟨c0, c1, rfl⟩ := list2 hl
  rw [t0, o0, show Tryd.prog.cellsOf 3 = 1 by kernel_rfl] at h0
  rw [t1, o1, show Tryd.prog.cellsOf 36 = 1 by kernel_rfl] at h1
  obtain ⟨z, hz, hx, hz2⟩ := DataW.trod_int Tryd.underlying3 h0
  obtain rfl : c0 = .int .i64 z := by simpa using hz
  have h1' : DataW.trod enc Tryd.prog W 0 sp hd m 36 [c1] = some y1 := h1
  obtain ⟨a, c, zs, rfl, hc, hlen, hall, hrow⟩ := open_is h1' (fun k hk => hw k (by
    simp only [DataW.weights, hu, List.map_cons, List.map_nil, DataW.weightsEach, List.mem_append, t0, t1]
    exact .inr (.inl hk)))
  exact ⟨⟨z, zs⟩, a, c, rfl, ⟨wf64 hz2, hall, hlen⟩, hc, hrow⟩

theorem open_rs {n : Nat} {v : Value} {y : DataW H × List MemPlace} (h : DataW.trod enc Tryd.prog W 0 sp hd n 23 [v] = some y) (hw : ∀ k ∈ y.1.weights Tryd.prog 23, k ≤ reachBytes) :
    ∃ a c rs, v = .slice a rs.length c ∧ rs.length ≤ c ∧ rs.length ≤ 1125899906842624 ∧ (∀ r ∈ rs, okR r) ∧ RRow W a rs := by
  rcases open_slice Tryd.underlying23 h with ⟨hcs, _⟩ | ⟨x, l, c, m, n', D, Pl, hcs, _, hl, hm, hmm, rfl, hall⟩
  · obtain rfl : v = .slice none 0 0 := by simpa using hcs
    exact ⟨none, 0, [], rfl, by simp, by simp, fun s hs => (by cases hs), fun i x hx => by simp at hx⟩
  · obtain rfl : v = .slice (some x) l c := by simpa using hcs
    have hz2 : l ≤ m := by rw [hmm]; split <;> omega
    have hw1 : (((List.range l).map D).length + ((List.range (m - l)).map fun j => D (l + j)).length) * Tryd.prog.bytesOf 45 ≤ reachBytes := hw _ (by simp [DataW.weights, Tryd.underlying23])
    simp only [List.length_map, List.length_range, bytesR] at hw1
    unfold reachBytes at hw1
    rw [cellsR] at hall
    have hex : ∀ i, i < l → ∃ q : R × Option Addr × Nat, W.cells? 0 (x.add (i * 2)) 2 = some [.int .i64 q.1.left, .slice q.2.1 q.1.right.length q.2.2] ∧ okR q.1 ∧ IRow W q.2.1 q.1.right := fun i hi => by
      obtain ⟨cs', h1, h2⟩ := hall i (by omega)
      obtain ⟨r, a, c', rfl, hr, _, hrow⟩ := open_rule h2 (fun k hk => hw k (by
        simp only [DataW.weights, Tryd.underlying23, List.mem_cons, List.mem_append]
        exact .inr (.inl (mem_all (List.mem_map.2 ⟨i, List.mem_range.2 hi, rfl⟩) hk))))
      exact ⟨⟨r, a, c'⟩, h1, hr, hrow⟩
    classical
    let F : Nat → R × Option Addr × Nat := fun i => if hi : i < l then (hex i hi).choose else (⟨0, []⟩, none, 0)
    have hF : ∀ i, i < l → W.cells? 0 (x.add (i * 2)) 2 = some [.int .i64 (F i).1.left, .slice (F i).2.1 (F i).1.right.length (F i).2.2] ∧ okR (F i).1 ∧ IRow W (F i).2.1 (F i).1.right := fun i hi => by
      have := (hex i hi).choose_spec
      simp only [F, dif_pos hi]
      exact this
    refine ⟨some x, c, (List.range l).map (fun i => (F i).1), by simp, by simpa using hl, by simp; omega, fun r hr => ?_, fun i u hu => ?_⟩
    · obtain ⟨i, hi, rfl⟩ := List.mem_map.1 hr
      exact (hF i (List.mem_range.1 hi)).2.1
    · rw [List.getElem?_map] at hu
      have hi : i < l := by
        rcases Nat.lt_or_ge i l with h | h
        · exact h
        · rw [List.getElem?_eq_none (by simpa using h)] at hu; cases hu
      rw [List.getElem?_range hi] at hu
      obtain rfl : (F i).1 = u := by simpa using hu
      obtain ⟨h1, _, h3⟩ := hF i hi
      obtain ⟨_, _, h4⟩ := World.cells?_some h1
      have c0 := h4 0 (by omega)
      have c1 := h4 1 (by omega)
      obtain ⟨b, off, spot⟩ := x
      have hspot : spot = none := by
        obtain ⟨h6, _, _⟩ := hF 0 (by omega)
        obtain ⟨_, _, h7⟩ := World.cells?_some h6
        have h8 := h7 0 (by omega)
        rw [Go.Deep.add_add] at h8
        simpa [Addr.add] using World.cell?_spot h8
      subst hspot
      rw [Go.Deep.add_add, Addr.add_lit] at c0 c1
      exact ⟨b, off, _, _, rfl, c0, c1, h3⟩

set_option maxRecDepth 100000 in
theorem open_gram {base : Nat} {v : Value} {d : DataW H} {p : List MemPlace} (hval : Value.okWide Tryd.prog W .any base 25 v) (h : DataW.Trod enc Tryd.prog W 0 sp hd 25 v d p) (hw : ∀ k ∈ d.weights Tryd.prog 25, k ≤ reachBytes) :
    ∃ ta tc na nc ra rc g, v = .agg #[.slice ta g.ts.length tc, .slice na g.ns.length nc, .int .i64 g.ax, .slice ra g.rs.length rc] ∧ GRow W ta na ra g ∧ okG g ∧ g.ts.length ≤ tc ∧ g.ns.length ≤ nc ∧ g.rs.length ≤ rc := by
  obtain ⟨f0, f1, f2, f3, hf, t0, t1, t2, t3, hone⟩ := gram_parts
  have hu := gramFields
  rw [hf] at hu
  obtain ⟨v0, v1, v2, v3, y0, y1, y2, y3, n, rfl, rfl, rfl, h0, h1, h2, h3⟩ := open_agg4 hu hone cellsG hval h
  rw [t0] at h0
  rw [t1] at h1
  rw [t2] at h2
  rw [t3] at h3
  have hws : ∀ k, (k ∈ y0.1.weights Tryd.prog 22 ∨ k ∈ y1.1.weights Tryd.prog 22 ∨ k ∈ y3.1.weights Tryd.prog 23) → k ≤ reachBytes := fun k hk => hw k (by
    simp only [DataW.weights, hu, List.map_cons, List.map_nil, DataW.weightsEach, List.mem_append, t0, t1, t2, t3]
    rcases hk with hk | hk | hk
    · exact .inl hk
    · exact .inr (.inl hk)
    · exact .inr (.inr (.inr (.inl hk))))
  obtain ⟨ta, tc, ts, rfl, a1, a2, a3, a4⟩ := open_ss h0 (fun k hk => hws k (.inl hk))
  obtain ⟨na, nc, ns, rfl, b1, b2, b3, b4⟩ := open_ss h1 (fun k hk => hws k (.inr (.inl hk)))
  obtain ⟨z, hz, _, hz2⟩ := DataW.trod_int Tryd.underlying3 h2
  obtain rfl : v2 = .int .i64 z := by simpa using hz
  obtain ⟨ra, rc, rs, rfl, c1, c2, c3, c4⟩ := open_rs h3 (fun k hk => hws k (.inr (.inr hk)))
  exact ⟨ta, tc, na, nc, ra, rc, ⟨ts, ns, z, rs⟩, rfl, ⟨a4, b4, c4⟩, ⟨a2, b2, c2, wf64 hz2, c3, a3, b3⟩, a1, b1, c1⟩

end
end Go.Proofs.YtnlaffhhbabjaaaDoor.GramOpen

namespace Go.Proofs.YtnlaffhhbabjaaaDoor.GramOpen
open Go.Deep Go.Joins Go.ChangeShapes Go.WideShapes Go.ChangeAt Go.RowKit Go.Proofs.YtnlaffhhbabjaaaDoor.GramMath Go.Proofs.YtnlaffhhbabjaaaDoor.GramRow
set_option linter.unusedVariables false

theorem lendable_row {w : World} {ta na ra : Option Addr} {tc nc : Nat} {g : G} (h : GramLent.Lendable w ta na ra tc nc g) : GRow w ta na ra g := ⟨h.ts, h.ns, fun i x hx => by
  obtain ⟨b, off, qa, qc, h1, h2, h3, h4, _⟩ := h.rs i x hx
  exact ⟨b, off, qa, qc, h1, h2, h3, h4⟩⟩

section
variable {H : Type} {enc : TypeId × Value → H} {W : World} {sp : Nat → Bool} {hd : Bool}

theorem open_ss2 {n : Nat} {v : Value} {y : DataW H × List MemPlace} (h : DataW.trod enc Tryd.prog W 0 sp hd n 22 [v] = some y) (hw : ∀ k ∈ y.1.weights Tryd.prog 22, k ≤ reachBytes) :
    ∃ a c ss, v = .slice a ss.length c ∧ ss.length ≤ c ∧ ss.length * 16 ≤ 140737488351232 ∧ (∀ s ∈ ss, s.size ≤ 281474976710656) ∧ SRow W a ss ∧ (a = none → ss.length = 0 ∧ c = 0) := by
  rcases open_strings Tryd.underlying22 Tryd.underlying9 (by kernel_rfl) h with ⟨hcs, _⟩ | ⟨x, l, c, ss, hcs, _, hl, hm, hz, rfl, hcell, hwz⟩
  · obtain rfl : v = .slice none 0 0 := by simpa using hcs
    exact ⟨none, 0, [], rfl, by simp, by simp, fun s hs => (by cases hs), fun i x hx => (by simp at hx), fun _ => ⟨rfl, rfl⟩⟩
  · obtain rfl : v = .slice (some x) l c := by simpa using hcs
    have hz2 : l ≤ ss.length := by rw [hz]; split <;> omega
    have e : (ss.take l).length = l := by rw [List.length_take]; omega
    have hw1 : ((strs (H := H) (ss.take l)).length + (strs (H := H) (ss.drop l)).length) * Tryd.prog.bytesOf 9 ≤ reachBytes := hw _ (by simp [DataW.weights, Tryd.underlying22])
    rw [strs_length, strs_length, bytesS, e] at hw1
    unfold reachBytes at hw1
    refine ⟨some x, c, ss.take l, by rw [e], by omega, by rw [e]; omega, fun s hs => ?_, fun i u hu => ?_, fun h => by cases h⟩
    · have := hw s.data.toList.length (by
        simp only [DataW.weights, Tryd.underlying22, List.mem_cons, List.mem_append]
        exact .inr (.inl (mem_all (mem_strs hs) (by simp [DataW.weights]))))
      unfold reachBytes at this
      have e2 : s.size = s.data.toList.length := by cases s; simp [ByteArray.size]
      omega
    · rw [List.getElem?_take] at hu
      by_cases hi : i < l
      · rw [if_pos hi] at hu
        have hc := hcell i (by omega)
        obtain ⟨b, off, spot⟩ := x
        have hspot : spot = none := by simpa [Addr.add] using World.cell?_spot (hcell 0 (by omega))
        subst hspot
        rw [Addr.add_lit, List.getD_eq_getElem?_getD, hu] at hc
        exact ⟨b, off, rfl, hc⟩
      · rw [if_neg hi] at hu; cases hu

theorem open_is2 {n : Nat} {v : Value} {y : DataW H × List MemPlace} (h : DataW.trod enc Tryd.prog W 0 sp hd n 36 [v] = some y) (hw : ∀ k ∈ y.1.weights Tryd.prog 36, k ≤ reachBytes) :
    ∃ a c zs, v = .slice a zs.length c ∧ zs.length ≤ c ∧ zs.length * 8 ≤ 140737488351232 ∧ (∀ x ∈ zs, I64 x) ∧ IRow W a zs ∧ (a = none → zs.length = 0 ∧ c = 0) := by
  rcases open_ints Tryd.underlying36 Tryd.underlying3 (by kernel_rfl) h with ⟨hcs, _⟩ | ⟨x, l, c, ss, hcs, _, hl, hm, hz, rfl, hcell, hwz⟩
  · obtain rfl : v = .slice none 0 0 := by simpa using hcs
    exact ⟨none, 0, [], rfl, by simp, by simp, fun s hs => (by cases hs), fun i x hx => (by simp at hx), fun _ => ⟨rfl, rfl⟩⟩
  · obtain rfl : v = .slice (some x) l c := by simpa using hcs
    have hz2 : l ≤ ss.length := by rw [hz]; split <;> omega
    have e : (ss.take l).length = l := by rw [List.length_take]; omega
    have hw1 : ((lits (H := H) .i64 (ss.take l)).length + (lits (H := H) .i64 (ss.drop l)).length) * Tryd.prog.bytesOf 3 ≤ reachBytes := hw _ (by simp [DataW.weights, Tryd.underlying36])
    simp only [lits, List.length_map, bytesI, e] at hw1
    unfold reachBytes at hw1
    refine ⟨some x, c, ss.take l, by rw [e], by omega, by rw [e]; omega, fun s hs => ?_, fun i u hu => ?_, fun h => by cases h⟩
    · have := hwz s (List.mem_of_mem_take hs)
      exact wf64 this
    · rw [List.getElem?_take] at hu
      by_cases hi : i < l
      · rw [if_pos hi] at hu
        have hc := hcell i (by omega)
        obtain ⟨b, off, spot⟩ := x
        have hspot : spot = none := by simpa [Addr.add] using World.cell?_spot (hcell 0 (by omega))
        subst hspot
        rw [Addr.add_lit, List.getD_eq_getElem?_getD, hu] at hc
        exact ⟨b, off, rfl, hc⟩
      · rw [if_neg hi] at hu; cases hu

theorem open_rule2 {n : Nat} {cs : List Value} {y : DataW H × List MemPlace} (h : DataW.trod enc Tryd.prog W 0 sp hd n 45 cs = some y) (hw : ∀ k ∈ y.1.weights Tryd.prog 45, k ≤ reachBytes) :
    ∃ r a c, cs = [.int .i64 r.left, .slice a r.right.length c] ∧ okR r ∧ r.right.length * 8 ≤ 140737488351232 ∧ IRow W a r.right ∧ (a = none → r.right.length = 0 ∧ c = 0) := by
  obtain ⟨f0, f1, hf, t0, o0, t1, o1⟩ := rule_parts
  have hu := ruleFields
  rw [hf] at hu
  obtain ⟨y0, y1, m, rfl, hl, h0, h1⟩ := trod_struct2 hu h
  rw [cellsR] at hl
  obtain ⟨c0, c1, rfl⟩ := list2 hl
  rw [t0, o0, show Tryd.prog.cellsOf 3 = 1 by kernel_rfl] at h0
  rw [t1, o1, show Tryd.prog.cellsOf 36 = 1 by kernel_rfl] at h1
  obtain ⟨z, hz, hx, hz2⟩ := DataW.trod_int Tryd.underlying3 h0
  obtain rfl : c0 = .int .i64 z := by simpa using hz
  have h1' : DataW.trod enc Tryd.prog W 0 sp hd m 36 [c1] = some y1 := h1
  obtain ⟨a, c, zs, rfl, hc, hlen, hall, hrow, hnil⟩ := open_is2 h1' (fun k hk => hw k (by
    simp only [DataW.weights, hu, List.map_cons, List.map_nil, DataW.weightsEach, List.mem_append, t0, t1]
    exact .inr (.inl hk)))
  exact ⟨⟨z, zs⟩, a, c, rfl, ⟨wf64 hz2, hall, show zs.length ≤ _ by omega⟩, hlen, hrow, hnil⟩

theorem open_rs2 {n : Nat} {v : Value} {y : DataW H × List MemPlace} (h : DataW.trod enc Tryd.prog W 0 sp hd n 23 [v] = some y) (hw : ∀ k ∈ y.1.weights Tryd.prog 23, k ≤ reachBytes) :
    ∃ a c rs, v = .slice a rs.length c ∧ rs.length ≤ c ∧ rs.length * 32 ≤ 140737488351232 ∧ (∀ r ∈ rs, okR r ∧ r.right.length * 8 ≤ 140737488351232) ∧ GramLent.RRowN W a rs := by
  rcases open_slice Tryd.underlying23 h with ⟨hcs, _⟩ | ⟨x, l, c, m, n', D, Pl, hcs, _, hl, hm, hmm, rfl, hall⟩
  · obtain rfl : v = .slice none 0 0 := by simpa using hcs
    exact ⟨none, 0, [], rfl, by simp, by simp, fun s hs => (by cases hs), fun i x hx => by simp at hx⟩
  · obtain rfl : v = .slice (some x) l c := by simpa using hcs
    have hz2 : l ≤ m := by rw [hmm]; split <;> omega
    have hw1 : (((List.range l).map D).length + ((List.range (m - l)).map fun j => D (l + j)).length) * Tryd.prog.bytesOf 45 ≤ reachBytes := hw _ (by simp [DataW.weights, Tryd.underlying23])
    simp only [List.length_map, List.length_range, bytesR] at hw1
    unfold reachBytes at hw1
    rw [cellsR] at hall
    have hex : ∀ i, i < l → ∃ q : R × Option Addr × Nat, W.cells? 0 (x.add (i * 2)) 2 = some [.int .i64 q.1.left, .slice q.2.1 q.1.right.length q.2.2] ∧ (okR q.1 ∧ q.1.right.length * 8 ≤ 140737488351232) ∧ IRow W q.2.1 q.1.right ∧ (q.2.1 = none → q.1.right.length = 0 ∧ q.2.2 = 0) := fun i hi => by
      obtain ⟨cs', h1, h2⟩ := hall i (by omega)
      obtain ⟨r, a, c', rfl, hr, hrl, hrow, hrn⟩ := open_rule2 h2 (fun k hk => hw k (by
        simp only [DataW.weights, Tryd.underlying23, List.mem_cons, List.mem_append]
        exact .inr (.inl (mem_all (List.mem_map.2 ⟨i, List.mem_range.2 hi, rfl⟩) hk))))
      exact ⟨⟨r, a, c'⟩, h1, ⟨hr, hrl⟩, hrow, hrn⟩
    classical
    let F : Nat → R × Option Addr × Nat := fun i => if hi : i < l then (hex i hi).choose else (⟨0, []⟩, none, 0)
    have hF : ∀ i, i < l → W.cells? 0 (x.add (i * 2)) 2 = some [.int .i64 (F i).1.left, .slice (F i).2.1 (F i).1.right.length (F i).2.2] ∧ (okR (F i).1 ∧ (F i).1.right.length * 8 ≤ 140737488351232) ∧ IRow W (F i).2.1 (F i).1.right ∧ ((F i).2.1 = none → (F i).1.right.length = 0 ∧ (F i).2.2 = 0) := fun i hi => by
      have := (hex i hi).choose_spec
      simp only [F, dif_pos hi]
      exact this
    refine ⟨some x, c, (List.range l).map (fun i => (F i).1), by simp, by simpa using hl, by simp; omega, fun r hr => ?_, fun i u hu => ?_⟩
    · obtain ⟨i, hi, rfl⟩ := List.mem_map.1 hr
      exact (hF i (List.mem_range.1 hi)).2.1
    · rw [List.getElem?_map] at hu
      have hi : i < l := by
        rcases Nat.lt_or_ge i l with h | h
        · exact h
        · rw [List.getElem?_eq_none (by simpa using h)] at hu; cases hu
      rw [List.getElem?_range hi] at hu
      obtain rfl : (F i).1 = u := by simpa using hu
      obtain ⟨h1, _, h3⟩ := hF i hi
      obtain ⟨_, _, h4⟩ := World.cells?_some h1
      have c0 := h4 0 (by omega)
      have c1 := h4 1 (by omega)
      obtain ⟨b, off, spot⟩ := x
      have hspot : spot = none := by
        obtain ⟨h6, _, _, _⟩ := hF 0 (by omega)
        obtain ⟨_, _, h7⟩ := World.cells?_some h6
        have h8 := h7 0 (by omega)
        rw [Go.Deep.add_add] at h8
        simpa [Addr.add] using World.cell?_spot h8
      subst hspot
      rw [Go.Deep.add_add, Addr.add_lit] at c0 c1
      exact ⟨b, off, _, _, rfl, c0, c1, h3.1, h3.2⟩

set_option maxRecDepth 100000 in
theorem open_gram2 {base : Nat} {v : Value} {d : DataW H} {p : List MemPlace} (hval : Value.okWide Tryd.prog W .any base 25 v) (h : DataW.Trod enc Tryd.prog W 0 sp hd 25 v d p) (hw : ∀ k ∈ d.weights Tryd.prog 25, k ≤ reachBytes) :
    ∃ ta tc na nc ra rc g, v = .agg #[.slice ta g.ts.length tc, .slice na g.ns.length nc, .int .i64 g.ax, .slice ra g.rs.length rc] ∧ GramLent.Lendable W ta na ra tc nc g ∧ okG g ∧ g.ts.length ≤ tc ∧ g.ns.length ≤ nc ∧ g.rs.length ≤ rc := by
  obtain ⟨f0, f1, f2, f3, hf, t0, t1, t2, t3, hone⟩ := gram_parts
  have hu := gramFields
  rw [hf] at hu
  obtain ⟨v0, v1, v2, v3, y0, y1, y2, y3, n, rfl, rfl, rfl, h0, h1, h2, h3⟩ := open_agg4 hu hone cellsG hval h
  rw [t0] at h0
  rw [t1] at h1
  rw [t2] at h2
  rw [t3] at h3
  have hws : ∀ k, (k ∈ y0.1.weights Tryd.prog 22 ∨ k ∈ y1.1.weights Tryd.prog 22 ∨ k ∈ y3.1.weights Tryd.prog 23) → k ≤ reachBytes := fun k hk => hw k (by
    simp only [DataW.weights, hu, List.map_cons, List.map_nil, DataW.weightsEach, List.mem_append, t0, t1, t2, t3]
    rcases hk with hk | hk | hk
    · exact .inl hk
    · exact .inr (.inl hk)
    · exact .inr (.inr (.inr (.inl hk))))
  obtain ⟨ta, tc, ts, rfl, a1, a2, a3, a4, a5⟩ := open_ss2 h0 (fun k hk => hws k (.inl hk))
  obtain ⟨na, nc, ns, rfl, b1, b2, b3, b4, b5⟩ := open_ss2 h1 (fun k hk => hws k (.inr (.inl hk)))
  obtain ⟨z, hz, _, hz2⟩ := DataW.trod_int Tryd.underlying3 h2
  obtain rfl : v2 = .int .i64 z := by simpa using hz
  obtain ⟨ra, rc, rs, rfl, c1, c2, c3, c4⟩ := open_rs2 h3 (fun k hk => hws k (.inr (.inr hk)))
  exact ⟨ta, tc, na, nc, ra, rc, ⟨ts, ns, z, rs⟩, rfl, ⟨a4, b4, c4, a5, b5, a2, b2, c2, c3⟩, ⟨show ts.length ≤ _ by omega, show ns.length ≤ _ by omega, show rs.length ≤ _ by omega, wf64 hz2, fun r hr => (c3 r hr).1, a3, b3⟩, a1, b1, c1⟩

end
end Go.Proofs.YtnlaffhhbabjaaaDoor.GramOpen

namespace Go.Proofs.YtnlaffhhbabjaaaDoor.GramOpen
open Go.Deep Go.Joins Go.ChangeShapes Go.WideShapes Go.ChangeAt Go.RowKit Go.Proofs.YtnlaffhhbabjaaaDoor.GramMath Go.Proofs.YtnlaffhhbabjaaaDoor.GramRow
set_option linter.unusedVariables false

/-- No list of a row of rules has a cap that is less than its length. -/
def Caps (W : World) (ra : Option Addr) (m : Nat) : Prop := ∀ i, i < m → ∀ b off, ra = some ⟨b, off, none⟩ → ∀ qa n qc, W.cell? ⟨b, off + i * 2 + 1, none⟩ = some (.slice qa n qc) → n ≤ qc

section
variable {H : Type} {enc : TypeId × Value → H} {W : World} {sp : Nat → Bool} {hd : Bool}

theorem cap_ints {n : Nat} {v : Value} {y : DataW H × List MemPlace} (h : DataW.trod enc Tryd.prog W 0 sp hd n 36 [v] = some y) : ∀ a l c, v = .slice a l c → l ≤ c := by
  rintro a l c rfl
  rcases open_ints Tryd.underlying36 Tryd.underlying3 (by kernel_rfl) h with ⟨hcs, _⟩ | ⟨x, l', c', ss, hcs, _, hl, _⟩
  · obtain ⟨_, rfl, rfl⟩ : a = none ∧ l = 0 ∧ c = 0 := by simpa using hcs
    exact Nat.le_refl _
  · obtain ⟨_, rfl, rfl⟩ : a = some x ∧ l = l' ∧ c = c' := by simpa using hcs
    exact hl

theorem cap_rule {n : Nat} {cs : List Value} {y : DataW H × List MemPlace} (h : DataW.trod enc Tryd.prog W 0 sp hd n 45 cs = some y) : ∀ u a l c, cs = [u, .slice a l c] → l ≤ c := by
  obtain ⟨f0, f1, hf, t0, o0, t1, o1⟩ := rule_parts
  have hu := ruleFields
  rw [hf] at hu
  obtain ⟨y0, y1, m, rfl, hl, h0, h1⟩ := trod_struct2 hu h
  rw [cellsR] at hl
  obtain ⟨c0, c1, rfl⟩ := list2 hl
  rw [t1, o1, show Tryd.prog.cellsOf 36 = 1 by kernel_rfl] at h1
  have h1' : DataW.trod enc Tryd.prog W 0 sp hd m 36 [c1] = some y1 := h1
  intro u a l c he
  have : c1 = .slice a l c := by simpa using (List.cons.inj (List.cons.inj he).2).1
  exact cap_ints h1' a l c this

theorem cap_rules {n : Nat} {ra : Option Addr} {m c : Nat} {y : DataW H × List MemPlace} (h : DataW.trod enc Tryd.prog W 0 sp hd n 23 [.slice ra m c] = some y) : Caps W ra m := by
  rcases open_slice Tryd.underlying23 h with ⟨hcs, _⟩ | ⟨x, l, c', m', n', D, Pl, hcs, _, hl, hm, hmm, rfl, hall⟩
  · obtain ⟨rfl, rfl, rfl⟩ : ra = none ∧ m = 0 ∧ c = 0 := by simpa using hcs
    intro i hi
    omega
  · obtain ⟨rfl, rfl, rfl⟩ : ra = some x ∧ m = l ∧ c = c' := by simpa using hcs
    have hz2 : m ≤ m' := by rw [hmm]; split <;> omega
    rw [cellsR] at hall
    intro i hi b off he qa k qc hq
    obtain rfl := Option.some.inj he
    obtain ⟨cs', h1, h2⟩ := hall i (by omega)
    obtain ⟨_, hlen, h4⟩ := World.cells?_some h1
    have c1 := h4 1 (by omega)
    rw [Go.Deep.add_add, Addr.add_lit] at c1
    rw [show off + (i * 2 + 1) = off + i * 2 + 1 by omega, hq] at c1
    have hl2 : cs'.length = 2 := by simpa using hlen
    obtain ⟨u0, u1, rfl⟩ := list2 hl2
    refine cap_rule h2 u0 qa k qc ?_
    simp at c1
    rw [← c1]

set_option maxRecDepth 100000 in
theorem gram_caps {base : Nat} {v0 v1 v2 : Value} {ra : Option Addr} {m c : Nat} {d : DataW H} {p : List MemPlace} (hval : Value.okWide Tryd.prog W .any base 25 (.agg #[v0, v1, v2, .slice ra m c])) (h : DataW.Trod enc Tryd.prog W 0 sp hd 25 (.agg #[v0, v1, v2, .slice ra m c]) d p) : Caps W ra m := by
  obtain ⟨f0, f1, f2, f3, hf, t0, t1, t2, t3, hone⟩ := gram_parts
  have hu := gramFields
  rw [hf] at hu
  obtain ⟨u0, u1, u2, u3, y0, y1, y2, y3, n, hv, _, _, h0, h1, h2, h3⟩ := open_agg4 hu hone cellsG hval h
  have e : u3 = .slice ra m c := by
    have := congrArg Value.cells hv
    simp [Value.cells] at this
    exact this.2.2.2.symm
  subst e
  rw [t3] at h3
  exact cap_rules h3

end
end Go.Proofs.YtnlaffhhbabjaaaDoor.GramOpen

namespace Go.Proofs.YtnlaffhhbabjaaaDoor.GramErrs
open Go.RowKit Go.Extern.Stop Go.Stop Go.Extern Go.Proofs.YtnlaffhhbabjaaaDoor.GramMath Go.Proofs.YtnlaffhhbabjaaaDoor.GramRow

theorem isTypeOf (v : Value) (w : World) : (ReflectliteType.typeOf #[.iface 149 v]).run Tryd.prog w = .ok (.iface 114 (.agg #[.pointer (some ⟨16, 149, none⟩)])) w := by kernel_rfl
theorem isComparable (w : World) : (callFunc 116 #[.agg #[.pointer (some ⟨16, 149, none⟩)]]).run Tryd.prog w = .ok (.value (.bool true)) w := by
  rw [@run_callFunc_extern Tryd.prog 116 _ (ReflectliteType.method fun t => do Rtype.noPackHeld "Comparable" t; pure (.bool (← typeInfo t).comparable)) Tryd.func116 (by kernel_rfl) (by kernel_rfl) (by kernel_rfl) (by kernel_rfl)]
  kernel_rfl
theorem isMethodComparable (n : Nat) (v : Value) (w : World) : (Go.method (n + 1) 114 v "Comparable").run Tryd.prog w = .ok (116, v) w := by kernel_rfl
theorem isComp : (Tryd.prog.info? 149).map (·.comparable) = some true := by kernel_rfl
theorem isSize : (Tryd.prog.info? 174).map (·.size) = some 1 := by kernel_rfl

theorem noIsE (v : Value) (xT : TypeId) (w : World) : (Instr.typeAssert (.iface 149 v) xT 116 true).run Tryd.prog w = .ok (.tuple #[.nilIface, .bool false]) w := run_typeAssert_lacksB Tryd.underlying116 (by kernel_rfl) (by kernel_rfl) v xT w
theorem noUnwrapE (v : Value) (xT : TypeId) (w : World) : (Instr.typeAssert (.iface 149 v) xT 119 true).run Tryd.prog w = .ok (.tuple #[.nilIface, .bool false]) w := run_typeAssert_lacksB Tryd.underlying119 (by kernel_rfl) (by kernel_rfl) v xT w
theorem noUnwrapsE (v : Value) (xT : TypeId) (w : World) : (Instr.typeAssert (.iface 149 v) xT 121 true).run Tryd.prog w = .ok (.tuple #[.nilIface, .bool false]) w := run_typeAssert_lacksB Tryd.underlying121 (by kernel_rfl) (by kernel_rfl) v xT w
theorem noIsP (v : Value) (xT : TypeId) (w : World) : (Instr.typeAssert (.iface 126 v) xT 116 true).run Tryd.prog w = .ok (.tuple #[.nilIface, .bool false]) w := run_typeAssert_lacksB Tryd.underlying116 (by kernel_rfl) (by kernel_rfl) v xT w
theorem hasUnwrapP (v : Value) (xT : TypeId) (w : World) : (Instr.typeAssert (.iface 126 v) xT 119 true).run Tryd.prog w = .ok (.tuple #[.iface 126 v, .bool true]) w := run_typeAssert_hasB Tryd.underlying119 (by kernel_rfl) v xT w
theorem methodUnwrap (n : Nat) (v : Value) (w : World) : (Go.method (n + 1) 126 v "Unwrap").run Tryd.prog w = .ok (126, v) w := by kernel_rfl

set_option maxRecDepth 100000 in
set_option maxHeartbeats 2000000 in
theorem is_same (a : Addr) (w : World) :
    Calls Tryd.prog 23 #[.iface 149 (.pointer (some a)), .iface 149 (.pointer (some a))] w fun e w' => e = .returned (.bool true) ∧ w' = w := by
  obtain ⟨i, hi, hcmp⟩ := Option.map_eq_some_iff.1 isComp
  obtain ⟨j, hj, hjs⟩ := Option.map_eq_some_iff.1 isSize
  have h8 := @run_callFunc_extern Tryd.prog 51 _ ReflectliteType.typeOf Tryd.func51 (by kernel_rfl) (by kernel_rfl) (by kernel_rfl) (by kernel_rfl)
  have tT := isTypeOf
  have cT := isComparable
  have mR := isMethodComparable
  have heq := run_eql_iface_ptr_same (P := Tryd.prog) w a Tryd.underlying28 Tryd.underlying149 hi hcmp hj
  go_enter Tryd.func23, Tryd.ntmps23
  go_wp2
  refine wp_loop_rounds 1 ?_
  rw [rounds_succ]
  go_wp2
  go_ret
  exact ⟨rfl, rfl⟩

set_option maxRecDepth 100000 in
set_option maxHeartbeats 2000000 in
theorem is_other (a b : Addr) (w : World) (hne : a ≠ b) (ha : Row0 w a) (hb : Row0 w b) :
    Calls Tryd.prog 23 #[.iface 149 (.pointer (some a)), .iface 149 (.pointer (some b))] w fun e w' => e = .returned (.bool false) ∧ w' = w := by
  obtain ⟨i, hi, hcmp⟩ := Option.map_eq_some_iff.1 isComp
  obtain ⟨j, hj, hjs⟩ := Option.map_eq_some_iff.1 isSize
  have h8 := @run_callFunc_extern Tryd.prog 51 _ ReflectliteType.typeOf Tryd.func51 (by kernel_rfl) (by kernel_rfl) (by kernel_rfl) (by kernel_rfl)
  have tT := isTypeOf
  have cT := isComparable
  have mR := isMethodComparable
  have nE := noIsE
  have uE := noUnwrapE
  have vE := noUnwrapsE
  obtain ⟨ca, ta, ha⟩ := ha
  obtain ⟨cb, tb, hb⟩ := hb
  have heq := run_eql_iface_ptr_other (P := Tryd.prog) w Tryd.underlying28 Tryd.underlying149 hi hcmp hj (by rw [hjs]; decide) hne ha hb
  go_enter Tryd.func23, Tryd.ntmps23
  go_wp2
  refine wp_loop_rounds 1 ?_
  rw [rounds_succ]
  go_wp2
  go_ret
  exact ⟨rfl, rfl⟩

set_option maxRecDepth 100000 in
set_option maxHeartbeats 2000000 in
theorem is_place_same (blk : Nat) (p : Int) (a : Addr) (w : World) (hblk : w.heap[blk]? = some (.cells #[.int .i64 p, .iface 149 (.pointer (some a))] 128 (0, 0))) :
    Calls Tryd.prog 23 #[.iface 126 (.pointer (some ⟨blk, 0, none⟩)), .iface 149 (.pointer (some a))] w fun e w' => e = .returned (.bool true) ∧ w' = w := by
  obtain ⟨i, hi, hcmp⟩ := Option.map_eq_some_iff.1 isComp
  obtain ⟨j, hj, hjs⟩ := Option.map_eq_some_iff.1 isSize
  have h8 := @run_callFunc_extern Tryd.prog 51 _ ReflectliteType.typeOf Tryd.func51 (by kernel_rfl) (by kernel_rfl) (by kernel_rfl) (by kernel_rfl)
  have tT := isTypeOf
  have cT := isComparable
  have mR := isMethodComparable
  have nE := noIsE
  have uE := noUnwrapE
  have vE := noUnwrapsE
  have nP := noIsP
  have uP := hasUnwrapP
  have mU := methodUnwrap
  have hety := fun (u v : Value) (W : World) => run_eql_iface_types (P := Tryd.prog) 126 149 u v Tryd.underlying28 (by decide) W
  have c1 : w.cell? ⟨blk, 1, none⟩ = some (.iface 149 (.pointer (some a))) := by
    unfold World.cell?
    rw [hblk]
    rfl
  have heq := run_eql_iface_ptr_same (P := Tryd.prog) w a Tryd.underlying28 Tryd.underlying149 hi hcmp hj
  go_enter Tryd.func23, Tryd.ntmps23
  go_wp2
  refine wp_loop_rounds 2 ?_
  rw [rounds_succ]
  go_wp2
  rw [rounds_succ]
  go_wp2
  go_ret
  exact ⟨rfl, rfl⟩

set_option maxRecDepth 100000 in
set_option maxHeartbeats 2000000 in
theorem is_place_other (blk : Nat) (p : Int) (a b : Addr) (w : World) (hblk : w.heap[blk]? = some (.cells #[.int .i64 p, .iface 149 (.pointer (some a))] 128 (0, 0))) (hne : a ≠ b) (ha : Row0 w a) (hb : Row0 w b) :
    Calls Tryd.prog 23 #[.iface 126 (.pointer (some ⟨blk, 0, none⟩)), .iface 149 (.pointer (some b))] w fun e w' => e = .returned (.bool false) ∧ w' = w := by
  obtain ⟨i, hi, hcmp⟩ := Option.map_eq_some_iff.1 isComp
  obtain ⟨j, hj, hjs⟩ := Option.map_eq_some_iff.1 isSize
  have h8 := @run_callFunc_extern Tryd.prog 51 _ ReflectliteType.typeOf Tryd.func51 (by kernel_rfl) (by kernel_rfl) (by kernel_rfl) (by kernel_rfl)
  have tT := isTypeOf
  have cT := isComparable
  have mR := isMethodComparable
  have nE := noIsE
  have uE := noUnwrapE
  have vE := noUnwrapsE
  have nP := noIsP
  have uP := hasUnwrapP
  have mU := methodUnwrap
  have hety := fun (u v : Value) (W : World) => run_eql_iface_types (P := Tryd.prog) 126 149 u v Tryd.underlying28 (by decide) W
  have c1 : w.cell? ⟨blk, 1, none⟩ = some (.iface 149 (.pointer (some a))) := by
    unfold World.cell?
    rw [hblk]
    rfl
  obtain ⟨ca, ta, ha⟩ := ha
  obtain ⟨cb, tb, hb⟩ := hb
  have heq := run_eql_iface_ptr_other (P := Tryd.prog) w Tryd.underlying28 Tryd.underlying149 hi hcmp hj (by rw [hjs]; decide) hne ha hb
  go_enter Tryd.func23, Tryd.ntmps23
  go_wp2
  refine wp_loop_rounds 2 ?_
  rw [rounds_succ]
  go_wp2
  rw [rounds_succ]
  go_wp2
  go_ret
  exact ⟨rfl, rfl⟩

end Go.Proofs.YtnlaffhhbabjaaaDoor.GramErrs

namespace Go.Proofs.YtnlaffhhbabjaaaDoor.GramErrs
open Go.RowKit Go.Extern.Stop Go.Stop Go.Extern Go.Proofs.YtnlaffhhbabjaaaDoor.GramMath Go.Proofs.YtnlaffhhbabjaaaDoor.GramRow

end Go.Proofs.YtnlaffhhbabjaaaDoor.GramErrs

namespace Go.Proofs.YtnlaffhhbabjaaaDoor.GramErrs
open Go.RowKit Go.Proofs.YtnlaffhhbabjaaaDoor.GramMath Go.Proofs.YtnlaffhhbabjaaaDoor.GramRow

def ErrsO (w : World) (p : Nat → Addr) : Prop := (∀ k, k < 15 → Sent w (globN.getD k 0) (p k) ∧ Row0 w (p k)) ∧ ∀ i j, i < 15 → j < 15 → p i = p j → i = j
theorem Errs.old {w : World} {p : Nat → Addr} (h : Errs w p) : ErrsO w (fun k => p (k + 1)) := h

/-- The list that Kind goes over. -/
def errL (p : Nat → Addr) : Array Value := #[.iface 149 (.pointer (some (p 0))), .iface 149 (.pointer (some (p 1))), .iface 149 (.pointer (some (p 2))), .iface 149 (.pointer (some (p 3))), .iface 149 (.pointer (some (p 4))), .iface 149 (.pointer (some (p 5))), .iface 149 (.pointer (some (p 6))), .iface 149 (.pointer (some (p 7))), .iface 149 (.pointer (some (p 8))), .iface 149 (.pointer (some (p 9))), .iface 149 (.pointer (some (p 10))), .iface 149 (.pointer (some (p 11))), .iface 149 (.pointer (some (p 12))), .iface 149 (.pointer (some (p 13))), .iface 149 (.pointer (some (p 14)))]

theorem errL_at (p : Nat → Addr) (i : Nat) (hi : i < 15) : (errL p)[i]? = some (.iface 149 (.pointer (some (p i)))) := by
  match i, hi with
  | 0, _ => rfl
  | 1, _ => rfl
  | 2, _ => rfl
  | 3, _ => rfl
  | 4, _ => rfl
  | 5, _ => rfl
  | 6, _ => rfl
  | 7, _ => rfl
  | 8, _ => rfl
  | 9, _ => rfl
  | 10, _ => rfl
  | 11, _ => rfl
  | 12, _ => rfl
  | 13, _ => rfl
  | 14, _ => rfl
  | n + 15, h => exact absurd h (by omega)

set_option maxHeartbeats 400000 in
theorem kind_nil (w : World) : Calls Tryd.prog 8 #[.nilIface] w fun e w' => e = .returned (.int .i64 0) ∧ w' = w := by
  go_enter Tryd.func8, Tryd.ntmps8
  go_wp2
  go_ret
  exact ⟨rfl, rfl⟩



set_option maxRecDepth 100000 in
set_option maxHeartbeats 8000000 in
theorem kind_of (t : TypeId) (u : Value) (k0 : Nat) (p : Nat → Addr) (w : World) (hk0 : k0 < 15) (hE : ErrsO w p)
    (hIs : ∀ (W : World) (b : Addr), Below w.heap.size w W → Row0 W b → Calls Tryd.prog 23 #[.iface t u, .iface 149 (.pointer (some b))] W fun e w' => e = .returned (.bool (decide (p k0 = b))) ∧ w' = W) :
    Calls Tryd.prog 8 #[.iface t u] w fun e w' => e = .returned (.int .i64 ((k0 : Int) + 1)) ∧ Below w.heap.size w w' := by
  have hnil := eql_nil
  have e0 : w.cell? ⟨1, 0, none⟩ = some (.iface 149 (.pointer (some (p 0)))) := (hE.1 0 (by omega)).1
  have e1 : w.cell? ⟨2, 0, none⟩ = some (.iface 149 (.pointer (some (p 1)))) := (hE.1 1 (by omega)).1
  have e2 : w.cell? ⟨3, 0, none⟩ = some (.iface 149 (.pointer (some (p 2)))) := (hE.1 2 (by omega)).1
  have e3 : w.cell? ⟨4, 0, none⟩ = some (.iface 149 (.pointer (some (p 3)))) := (hE.1 3 (by omega)).1
  have e4 : w.cell? ⟨5, 0, none⟩ = some (.iface 149 (.pointer (some (p 4)))) := (hE.1 4 (by omega)).1
  have e5 : w.cell? ⟨6, 0, none⟩ = some (.iface 149 (.pointer (some (p 5)))) := (hE.1 5 (by omega)).1
  have e6 : w.cell? ⟨7, 0, none⟩ = some (.iface 149 (.pointer (some (p 6)))) := (hE.1 6 (by omega)).1
  have e7 : w.cell? ⟨8, 0, none⟩ = some (.iface 149 (.pointer (some (p 7)))) := (hE.1 7 (by omega)).1
  have e8 : w.cell? ⟨9, 0, none⟩ = some (.iface 149 (.pointer (some (p 8)))) := (hE.1 8 (by omega)).1
  have e9 : w.cell? ⟨10, 0, none⟩ = some (.iface 149 (.pointer (some (p 9)))) := (hE.1 9 (by omega)).1
  have e10 : w.cell? ⟨11, 0, none⟩ = some (.iface 149 (.pointer (some (p 10)))) := (hE.1 10 (by omega)).1
  have e11 : w.cell? ⟨12, 0, none⟩ = some (.iface 149 (.pointer (some (p 11)))) := (hE.1 11 (by omega)).1
  have e12 : w.cell? ⟨13, 0, none⟩ = some (.iface 149 (.pointer (some (p 12)))) := (hE.1 12 (by omega)).1
  have e13 : w.cell? ⟨14, 0, none⟩ = some (.iface 149 (.pointer (some (p 13)))) := (hE.1 13 (by omega)).1
  have e14 : w.cell? ⟨0, 0, none⟩ = some (.iface 149 (.pointer (some (p 14)))) := (hE.1 14 (by omega)).1
  have hB : Below w.heap.size w (w.alloc (.cells (errL p) 28)) := (Below.refl _ _).alloc (Nat.le_refl _) _
  have hcell : ∀ i, i < 15 → (w.alloc (.cells (errL p) 28)).cell? ⟨w.heap.size, i, none⟩ = some (.iface 149 (.pointer (some (p i)))) := fun i hi => by
    rw [← errL_at p i hi]
    exact World.cell?_alloc_mark w (errL p) 28 (0, 0) i
  have hrow : ∀ i, i < 15 → Row0 (w.alloc (.cells (errL p) 28)) (p i) := fun i hi => (hE.1 i hi).2.below hB (Nat.le_refl _)
  have hinj := hE.2
  clear hE
  go_enter Tryd.func8, Tryd.ntmps8
  go_wp2
  have hw1 : w.alloc (.cells #[.iface 149 (.pointer (some (p 0))), .iface 149 (.pointer (some (p 1))), .iface 149 (.pointer (some (p 2))), .iface 149 (.pointer (some (p 3))), .iface 149 (.pointer (some (p 4))), .iface 149 (.pointer (some (p 5))), .iface 149 (.pointer (some (p 6))), .iface 149 (.pointer (some (p 7))), .iface 149 (.pointer (some (p 8))), .iface 149 (.pointer (some (p 9))), .iface 149 (.pointer (some (p 10))), .iface 149 (.pointer (some (p 11))), .iface 149 (.pointer (some (p 12))), .iface 149 (.pointer (some (p 13))), .iface 149 (.pointer (some (p 14)))] 28) = w.alloc (.cells (errL p) 28) := rfl
  rw [hw1]
  clear hw1
  generalize w.alloc (.cells (errL p) 28) = W1 at *
  go_loop [4, 5] (fun h i => ∃ k : Nat, k ≤ 15 ∧ i = .int .i64 k ∧ h = .int .i64 (if k ≤ k0 then 99 else (k0 : Int) + 1)) (fun _ i => 15 - (intOf i).toNat)
  case atStart => exact ⟨0, by omega, rfl, by simp⟩
  case round =>
    obtain ⟨k, hk, rfl, rfl⟩ := hrel
    by_cases hlt : k < 15
    · have hc := hcell k hlt
      have hr := hrow k hlt
      have hlt2 : (k : Int) < 15 := by omega
      by_cases he : k0 = k
      · have hd : decide (p k0 = p k) = true := by simp [he]
        have h1 : (if k ≤ k0 then (99 : Int) else (k0 : Int) + 1) = 99 := if_pos (by omega)
        have h2 : Hid ((if k + 1 ≤ k0 then (99 : Int) else (k0 : Int) + 1) = (k : Int) + 1) := by show _ = _; rw [if_neg (by omega), he]
        rw [h1]
        clear h1 hcell hrow hnil
        go_wp2_with fail
        refine (hIs _ (p k) hB hr).mono ?_
        rintro e w2 ⟨rfl, hw2⟩
        obtain rfl := hw2.symm
        rw [hd]
        go_wp2
        go_round
        case rel => exact ⟨k + 1, by omega, by go_num, by rw [h2.out]⟩
        case measure => simp [intOf]; omega
      · have hd : decide (p k0 = p k) = false := by
          simp only [decide_eq_false_iff_not]
          exact fun e => he (hinj _ _ hk0 hlt e)
        have h2 : Hid ((if k + 1 ≤ k0 then (99 : Int) else (k0 : Int) + 1) = (if k ≤ k0 then (99 : Int) else (k0 : Int) + 1)) := by
          show _ = _
          by_cases h : k ≤ k0
          · rw [if_pos h, if_pos (by omega)]
          · rw [if_neg h, if_neg (by omega)]
        generalize (if k ≤ k0 then (99 : Int) else (k0 : Int) + 1) = z at *
        clear hcell hrow hnil
        go_wp2_with fail
        refine (hIs _ (p k) hB hr).mono ?_
        rintro e w2 ⟨rfl, hw2⟩
        obtain rfl := hw2.symm
        rw [hd]
        go_wp2
        go_round
        case rel => exact ⟨k + 1, by omega, by go_num, by rw [h2.out]⟩
        case measure => simp [intOf]; omega
    · have h1 : (if k ≤ k0 then (99 : Int) else (k0 : Int) + 1) = (k0 : Int) + 1 := if_neg (by omega)
      rw [h1]
      clear h1 hcell hrow hnil
      go_wp2
      go_ret
      exact ⟨rfl, hB⟩

end Go.Proofs.YtnlaffhhbabjaaaDoor.GramErrs

namespace Go.Proofs.YtnlaffhhbabjaaaDoor.GramErrs
open Go.RowKit Go.Extern.Stop Go.Stop Go.Extern Go.Proofs.YtnlaffhhbabjaaaDoor.GramMath Go.Proofs.YtnlaffhhbabjaaaDoor.GramRow
set_option linter.unusedVariables false

/-- The rule that a finding names; -1: none. -/
def ruleZ (z : Nat × Option Nat) : Int :=
  match z with
  | (_ + 1, some i) => (i : Int)
  | _ => -1

set_option maxRecDepth 100000 in
theorem kind_ck (base : Nat) (p : Nat → Addr) (z : Nat × Option Nat) (w : World) (v : Value) (hE : Errs w p) (hz : z.1 ≤ 15) (hv : CkV base p z w v) : Calls Tryd.prog 8 #[v] w fun e w' => e = .returned (.int .i64 (z.1 : Int)) ∧ Below w.heap.size w w' := by
  match z, hz, hv with
  | (0, x), _, hv =>
    obtain rfl : v = .nilIface := hv
    refine (kind_nil w).mono ?_
    rintro e w1 ⟨rfl, hw1⟩
    obtain rfl := hw1.symm
    exact ⟨rfl, Below.refl _ _⟩
  | (k + 1, none), hz, hv =>
    obtain rfl : v = .iface 149 (.pointer (some (p (k + 1)))) := hv
    refine (kind_of 149 (.pointer (some (p (k + 1)))) k (fun k => p (k + 1)) w (by omega) hE.old ?_).mono ?_
    · intro W b hB hb
      by_cases he : p (k + 1) = b
      · subst he
        simpa using is_same (p (k + 1)) W
      · simpa [he] using is_other (p (k + 1)) b W he ((hE.1 k (by omega)).2.below hB (Nat.le_refl _)) hb
    · rintro e w1 ⟨rfl, hb1⟩
      exact ⟨ret_num (by simp), hb1⟩
  | (k + 1, some i), hz, ⟨blk, _, hv, hblk⟩ =>
    subst hv
    refine (kind_of 126 (.pointer (some ⟨blk, 0, none⟩)) k (fun k => p (k + 1)) w (by omega) hE.old ?_).mono ?_
    · intro W b hB hb
      have hblk2 := (hB.block blk (Array.getElem?_eq_some_iff.1 hblk).1).trans hblk
      by_cases he : p (k + 1) = b
      · subst he
        simpa using is_place_same blk _ (p (k + 1)) W hblk2
      · simpa [he] using is_place_other blk _ (p (k + 1)) b W hblk2 he ((hE.1 k (by omega)).2.below hB (Nat.le_refl _)) hb
    · rintro e w1 ⟨rfl, hb1⟩
      exact ⟨ret_num (by simp), hb1⟩

end Go.Proofs.YtnlaffhhbabjaaaDoor.GramErrs

namespace Go.Proofs.YtnlaffhhbabjaaaDoor.GramSame
open Go.RowKit Go.Proofs.YtnlaffhhbabjaaaDoor.GramMath Go.Proofs.YtnlaffhhbabjaaaDoor.GramRow Go.Proofs.YtnlaffhhbabjaaaDoor.GramOne
set_option linter.unusedVariables false

set_option maxRecDepth 100000 in
set_option maxHeartbeats 4000000 in
theorem grammar_any (ta na ra tb nb rb : Option Addr) (tc nc rc td nd rd : Nat) (g h : G) (w : World) (hG : GRow w ta na ra g) (hH : GRow w tb nb rb h) (og : okG g) (oh : okG h) :
    Calls Tryd.prog 9 #[.agg #[.slice ta g.ts.length tc, .slice na g.ns.length nc, .int .i64 g.ax, .slice ra g.rs.length rc], .agg #[.slice tb h.ts.length td, .slice nb h.ns.length nd, .int .i64 h.ax, .slice rb h.rs.length rd]] w fun e w' => e = .returned (.bool (eqG g h)) ∧ Below w.heap.size w w' := by
  have hB : Below w.heap.size w ((w.alloc (.cells #[.slice ta g.ts.length tc, .slice na g.ns.length nc, .int .i64 g.ax, .slice ra g.rs.length rc] 25)).alloc (.cells #[.slice tb h.ts.length td, .slice nb h.ns.length nd, .int .i64 h.ax, .slice rb h.rs.length rd] 25)) := ((Below.refl _ _).alloc (Nat.le_refl _) _).alloc (by simp) _
  obtain ⟨G1, G2, G3⟩ := hG.below hB (Nat.le_refl _)
  obtain ⟨H1, H2, H3⟩ := hH.below hB (Nat.le_refl _)
  obtain ⟨p1, p2, p3, _, p5, _⟩ := og
  obtain ⟨q1, q2, q3, _, q5, _⟩ := oh
  have hand := eqG_and g h
  have ht := fun q => strs_any ta tb tc td g.ts h.ts (World.drewN ((w.alloc (.cells #[.slice ta g.ts.length tc, .slice na g.ns.length nc, .int .i64 g.ax, .slice ra g.rs.length rc] 25)).alloc (.cells #[.slice tb h.ts.length td, .slice nb h.ns.length nd, .int .i64 h.ax, .slice rb h.rs.length rd] 25)) q) G1 H1 p1 q1
  have hn := fun q => strs_any na nb nc nd g.ns h.ns (World.drewN ((w.alloc (.cells #[.slice ta g.ts.length tc, .slice na g.ns.length nc, .int .i64 g.ax, .slice ra g.rs.length rc] 25)).alloc (.cells #[.slice tb h.ts.length td, .slice nb h.ns.length nd, .int .i64 h.ax, .slice rb h.rs.length rd] 25)) q) G2 H2 p2 q2
  have hr := fun q => rules_any ra rb rc rd g.rs h.rs (World.drewN ((w.alloc (.cells #[.slice ta g.ts.length tc, .slice na g.ns.length nc, .int .i64 g.ax, .slice ra g.rs.length rc] 25)).alloc (.cells #[.slice tb h.ts.length td, .slice nb h.ns.length nd, .int .i64 h.ax, .slice rb h.rs.length rd] 25)) q) G3 H3 p3 q3 p5 q5
  cases ht1 : eqS g.ts h.ts with
  | false =>
    rw [ht1, Bool.false_and, Bool.false_and, Bool.false_and] at hand
    have E : Hid (eqG g h = false) := hand
    rw [ht1] at ht
    clear hand ht1
    go_enter Tryd.func9, Tryd.ntmps9
    go_wp2_with fail
    refine (ht 0).mono ?_
    rintro e w1 ⟨rfl, q, rfl⟩
    go_wp2
    go_ret
    exact ⟨ret_bool E.out.symm, hB.os, hB.tape, hB.output, hB.size, hB.block⟩
  | true =>
    rw [ht1, Bool.true_and] at hand
    rw [ht1] at ht
    cases hn1 : eqS g.ns h.ns with
    | false =>
      rw [hn1, Bool.false_and, Bool.false_and] at hand
      have E : Hid (eqG g h = false) := hand
      rw [hn1] at hn
      clear hand ht1 hn1
      go_enter Tryd.func9, Tryd.ntmps9
      go_wp2_with fail
      refine (ht 0).mono ?_
      rintro e w1 ⟨rfl, q, rfl⟩
      go_wp2_with fail
      refine (hn _).mono ?_
      rintro e w1 ⟨rfl, q2, rfl⟩
      go_wp2
      go_ret
      exact ⟨ret_bool E.out.symm, hB.os, hB.tape, hB.output, hB.size, hB.block⟩
    | true =>
      rw [hn1, Bool.true_and] at hand
      rw [hn1] at hn
      by_cases hax : g.ax = h.ax
      · have hf : (g.ax == h.ax) = true := by simpa using hax
        rw [decide_eq_true hax, Bool.true_and] at hand
        have E : Hid (eqG g h = eqRs g.rs h.rs) := hand
        clear hand hax ht1 hn1
        go_enter Tryd.func9, Tryd.ntmps9
        go_wp2_with fail
        refine (ht 0).mono ?_
        rintro e w1 ⟨rfl, q, rfl⟩
        go_wp2_with fail
        refine (hn _).mono ?_
        rintro e w1 ⟨rfl, q2, rfl⟩
        rw [World.drewN_drewN]
        go_wp2_with fail
        refine (hr _).mono ?_
        rintro e w1 ⟨rfl, q3, rfl⟩
        go_wp2
        go_ret
        exact ⟨ret_bool E.out.symm, hB.os, hB.tape, hB.output, hB.size, hB.block⟩
      · have hf : (g.ax == h.ax) = false := by simpa using hax
        rw [decide_eq_false hax, Bool.false_and] at hand
        have E : Hid (eqG g h = false) := hand
        clear hand hax ht1 hn1 hr
        go_enter Tryd.func9, Tryd.ntmps9
        go_wp2_with fail
        refine (ht 0).mono ?_
        rintro e w1 ⟨rfl, q, rfl⟩
        go_wp2_with fail
        refine (hn _).mono ?_
        rintro e w1 ⟨rfl, q2, rfl⟩
        go_wp2
        go_ret
        exact ⟨ret_bool E.out.symm, hB.os, hB.tape, hB.output, hB.size, hB.block⟩

end Go.Proofs.YtnlaffhhbabjaaaDoor.GramSame

namespace Go.Proofs.YtnlaffhhbabjaaaDoor.UsefulTrimsW
open Go.RowKit Go.Proofs.YtnlaffhhbabjaaaDoor.GramLess Go.Proofs.YtnlaffhhbabjaaaDoor.GramMath Go.Proofs.YtnlaffhhbabjaaaDoor.GramRow Go.Proofs.YtnlaffhhbabjaaaDoor.GramOne Go.Proofs.YtnlaffhhbabjaaaDoor.GramApart Go.Proofs.YtnlaffhhbabjaaaDoor.GramCopy Go.Proofs.YtnlaffhhbabjaaaDoor.GramRoll Go.Proofs.YtnlaffhhbabjaaaDoor.GramLent Go.Proofs.YtnlaffhhbabjaaaDoor.GramErrs Go.Proofs.YtnlaffhhbabjaaaDoor.SetsAlg Go.Proofs.YtnlaffhhbabjaaaDoor.SetsEach Go.Proofs.YtnlaffhhbabjaaaDoor.UsefulMath Go.Proofs.YtnlaffhhbabjaaaDoor.UsefulTop Go.Proofs.YtnlaffhhbabjaaaDoor.UsefulTrimM Go.Proofs.YtnlaffhhbabjaaaDoor.UsefulTrim Go.Proofs.YtnlaffhhbabjaaaDoor.UsefulRTrim
set_option linter.unusedVariables false

theorem emptyRow (w : World) : GRow w none none none emptyG := ⟨fun k x hx => by simp [emptyG] at hx, fun k x hx => by simp [emptyG] at hx, fun k x hx => by simp [emptyG] at hx⟩

theorem trim_form {w0 w' : World} {p : Nat → Addr} {g : G} {e : Ending} (h : TrimV w0 w' p g e) : ∃ ta tc na nc ra rc v, e = .returned (.tuple #[.agg #[.slice ta (trimA g).ts.length tc, .slice na (trimA g).ns.length nc, .int .i64 (trimA g).ax, .slice ra (trimA g).rs.length rc], v]) ∧ GRow w' ta na ra (trimA g) ∧ CkV w0.heap.size p (trimZ g) w' v := by
  rcases h with ⟨h0, b1, b2, b3, bs, rfl, hc⟩ | ⟨h0, v, rfl, hv⟩
  · have e : trimA g = trimG g := if_pos h0
    rw [e]
    exact ⟨_, _, _, _, _, _, _, rfl, hc.row, ck_of_nil h0⟩
  · have e : trimA g = emptyG := if_neg h0
    rw [e]
    exact ⟨none, 0, none, 0, none, 0, v, rfl, emptyRow _, hv⟩

theorem okG_trimA {g : G} (hg : okG g) : okG (trimA g) := by
  unfold trimA
  split
  · rename_i h
    have h0 : (checkG g).1 = 0 := by
      by_cases h0 : (checkG g).1 = 0
      · exact h0
      · rw [trimZ_bad h0] at h
        exact absurd h h0
    exact okG_cut (good_of h0) hg _
  · refine ⟨by simp [emptyG], by simp [emptyG], by simp [emptyG], ⟨by simp [emptyG], by simp [emptyG]⟩, fun r hr => by simp [emptyG] at hr, fun r hr => by simp [emptyG] at hr, fun r hr => by simp [emptyG] at hr⟩

theorem trimZ_le (g : G) : (trimZ g).1 ≤ 15 := by
  unfold trimZ
  split
  · exact check_le g
  · split <;> simp

set_option maxRecDepth 100000 in
set_option maxHeartbeats 8000000 in
theorem walk (ta na ra : Option Addr) (tc nc rc : Nat) (g : G) (p : Nat → Addr) (w : World) (hL : Lendable w ta na ra tc nc g) (hg : okG g) (hE : Errs w p) (hT : Tab w) (hGl : 15 < w.heap.size) (hG0 : 0 < w.heap.size) :
    Calls Tryd.prog 3 #[.agg #[.slice ta g.ts.length tc, .slice na g.ns.length nc, .int .i64 g.ax, .slice ra g.rs.length rc]] w fun e w' => e = .returned (.bool true) ∧ Below w.heap.size w w' := by
  have hG := GramOpen.lendable_row hL
  have hB1 : Below w.heap.size w (w.alloc (.cells #[.slice ta g.ts.length tc, .slice na g.ns.length nc, .int .i64 g.ax, .slice ra g.rs.length rc] 25)) := (Below.refl _ _).alloc (Nat.le_refl _) _
  have hbx1 := rowNew w #[.slice ta g.ts.length tc, .slice na g.ns.length nc, .int .i64 g.ax, .slice ra g.rs.length rc] 25
  have hL1 : Lendable (w.alloc (.cells #[.slice ta g.ts.length tc, .slice na g.ns.length nc, .int .i64 g.ax, .slice ra g.rs.length rc] 25)) ta na ra tc nc g := ⟨hL.ts.below hB1 (Nat.le_refl _), hL.ns.below hB1 (Nat.le_refl _), hL.rs.below hB1 (Nat.le_refl _), hL.tn, hL.nn, hL.tm, hL.nm, hL.rm, hL.each⟩
  have hlend := lentG ta na ra tc nc rc g _ hL1
  go_enter Tryd.func3, Tryd.ntmps3
  go_wp2_with fail
  refine hlend.mono ?_
  rintro e w1 ⟨⟨g1, c1, g2, c2, g3, c3, lq, rfl, hlg⟩, hb1⟩
  have hB2 := hB1.trans (hb1.mono hB1.size)
  have hbx2 := hbx1.below hb1 hbx1.lt
  clear hlend hL1 hL hbx1 hB1 hb1
  have hBn : Below w1.heap.size w1 (w1.alloc (.cells #[.slice (some ⟨g1, 0, none⟩) g.ts.length c1, .slice (some ⟨g2, 0, none⟩) g.ns.length c2, .int .i64 g.ax, .slice (some ⟨g3, 0, none⟩) g.rs.length c3] 25)) := (Below.refl _ _).alloc (Nat.le_refl _) _
  have hin2 := rowNew w1 #[.slice (some ⟨g1, 0, none⟩) g.ts.length c1, .slice (some ⟨g2, 0, none⟩) g.ns.length c2, .int .i64 g.ax, .slice (some ⟨g3, 0, none⟩) g.rs.length c3] 25
  have hlg2 := hlg.below hBn (Nat.le_refl _)
  have hB3 := hB2.trans (hBn.mono hB2.size)
  have hbx3 := hbx2.alloc (.cells #[.slice (some ⟨g1, 0, none⟩) g.ts.length c1, .slice (some ⟨g2, 0, none⟩) g.ns.length c2, .int .i64 g.ax, .slice (some ⟨g3, 0, none⟩) g.rs.length c3] 25)
  have htc := Nat.le_of_lt hlg.tc
  have hnc := Nat.le_of_lt hlg.nc
  clear hbx2 hlg hBn hB2
  have htrim := trim_top (some ⟨g1, 0, none⟩) (some ⟨g2, 0, none⟩) (some ⟨g3, 0, none⟩) c1 c2 c3 g p _ hlg2.row hg htc hnc (fun h => by cases h) (hE.below hB3 (Nat.le_refl _)) (Tab.from hT hB3 hGl) (Nat.lt_of_lt_of_le hGl hB3.size) (Nat.lt_of_lt_of_le hG0 hB3.size)
  go_wp2_with fail
  refine htrim.mono ?_
  rintro e w3 ⟨hV, hb⟩
  obtain ⟨ta1, tc1, na1, nc1, ra1, rc1, v, rfl, hGa, hv⟩ := trim_form hV
  have hB4 := hB3.trans (hb.mono hB3.size)
  have hbx4 := hbx3.below hb hbx3.lt
  have hin4 := hin2.below hb hin2.lt
  have hlg4 := hlg2.below hb (Nat.le_refl _)
  clear htrim hV hB3 hbx3 hin2 hlg2 hb
  have oh := okG_trimA hg
  obtain ⟨h, hh⟩ : ∃ h, trimA g = h := ⟨_, rfl⟩
  rw [hh] at hGa oh ⊢
  have HH : Hid (trimA g = h) := hh
  clear hh
  have hBn : Below w3.heap.size w3 (w3.alloc (.cells #[.slice ta1 h.ts.length tc1, .slice na1 h.ns.length nc1, .int .i64 h.ax, .slice ra1 h.rs.length rc1] 25)) := (Below.refl _ _).alloc (Nat.le_refl _) _
  have ha5 := rowNew w3 #[.slice ta1 h.ts.length tc1, .slice na1 h.ns.length nc1, .int .i64 h.ax, .slice ra1 h.rs.length rc1] 25
  have hGa5 := hGa.below hBn (Nat.le_refl _)
  have hbx5 := hbx4.alloc (.cells #[.slice ta1 h.ts.length tc1, .slice na1 h.ns.length nc1, .int .i64 h.ax, .slice ra1 h.rs.length rc1] 25)
  have hin5 := hin4.alloc (.cells #[.slice ta1 h.ts.length tc1, .slice na1 h.ns.length nc1, .int .i64 h.ax, .slice ra1 h.rs.length rc1] 25)
  have hlg5 := hlg4.below hBn (Nat.le_refl _)
  have hv5 := hv.below hBn (Nat.le_refl _)
  have hB5 := hB4.trans (hBn.mono hB4.size)
  clear hGa hbx4 hin4 hlg4 hv hB4 hBn
  have a0 := hbx5.cell (q := 0) rfl
  have a1 := hbx5.cell (q := 1) rfl
  have a2 := hbx5.cell (q := 2) rfl
  have a3 := hbx5.cell (q := 3) rfl
  have hrt := rtrim_any ta na ra tc nc rc g (w3.alloc (.cells #[.slice ta1 h.ts.length tc1, .slice na1 h.ns.length nc1, .int .i64 h.ax, .slice ra1 h.rs.length rc1] 25)) (hG.below hB5 (Nat.le_refl _)) hg
  go_wp2_with fail
  refine hrt.mono ?_
  rintro e w6 ⟨⟨ta2, tc2, na2, nc2, ra2, rc2, rfl, hGb⟩, hb⟩
  rw [HH.out] at hGb ⊢
  have hB6 := hB5.trans (hb.mono hB5.size)
  have hbx6 := hbx5.below hb hbx5.lt
  have hin6 := hin5.below hb hin5.lt
  have ha6 := ha5.below hb ha5.lt
  have hlg6 := hlg5.below hb (Nat.le_refl _)
  have hGa6 := hGa5.below hb (Nat.le_refl _)
  have hv6 := hv5.below hb (Nat.le_refl _)
  clear hrt hB5 hbx5 hin5 ha5 hlg5 hGa5 hv5 hb a0 a1 a2 a3
  have hBn : Below w6.heap.size w6 (w6.alloc (.cells #[.slice ta2 h.ts.length tc2, .slice na2 h.ns.length nc2, .int .i64 h.ax, .slice ra2 h.rs.length rc2] 25)) := (Below.refl _ _).alloc (Nat.le_refl _) _
  have hb7 := rowNew w6 #[.slice ta2 h.ts.length tc2, .slice na2 h.ns.length nc2, .int .i64 h.ax, .slice ra2 h.rs.length rc2] 25
  have hbx7 := hbx6.alloc (.cells #[.slice ta2 h.ts.length tc2, .slice na2 h.ns.length nc2, .int .i64 h.ax, .slice ra2 h.rs.length rc2] 25)
  have hin7 := hin6.alloc (.cells #[.slice ta2 h.ts.length tc2, .slice na2 h.ns.length nc2, .int .i64 h.ax, .slice ra2 h.rs.length rc2] 25)
  have ha7 := ha6.alloc (.cells #[.slice ta2 h.ts.length tc2, .slice na2 h.ns.length nc2, .int .i64 h.ax, .slice ra2 h.rs.length rc2] 25)
  have hlg7 := hlg6.below hBn (Nat.le_refl _)
  have hGa7 := hGa6.below hBn (Nat.le_refl _)
  have hGb7 := hGb.below hBn (Nat.le_refl _)
  have hv7 := hv6.below hBn (Nat.le_refl _)
  have hB7 := hB6.trans (hBn.mono hB6.size)
  clear hB6 hbx6 hin6 ha6 hlg6 hGa6 hGb hv6 hBn
  have hkk := kind_ck _ p (trimZ g) _ v (hE.below hB7 (Nat.le_refl _)) (trimZ_le g) hv7
  obtain ⟨kz, hkz⟩ : ∃ kz : Int, ((trimZ g).1 : Int) = kz := ⟨_, rfl⟩
  rw [hkz] at hkk ⊢
  have ez : (kz == kz) = true := by simp
  clear hkz
  go_wp2_with fail
  refine hkk.mono ?_
  rintro e w8 ⟨rfl, hb⟩
  have hB8 := hB7.trans (hb.mono hB7.size)
  have hbx8 := hbx7.below hb hbx7.lt
  have hin8 := hin7.below hb hin7.lt
  have ha8 := ha7.below hb ha7.lt
  have hb8 := hb7.below hb hb7.lt
  have hlg8 := hlg7.below hb (Nat.le_refl _)
  have hGa8 := hGa7.below hb (Nat.le_refl _)
  have hGb8 := hGb7.below hb (Nat.le_refl _)
  clear hkk hB7 hbx7 hin7 ha7 hb7 hlg7 hGa7 hGb7 hv7 hb
  have x0 := ha8.cell (q := 0) rfl
  have x1 := ha8.cell (q := 1) rfl
  have x2 := ha8.cell (q := 2) rfl
  have x3 := ha8.cell (q := 3) rfl
  have y0 := hb8.cell (q := 0) rfl
  have y1 := hb8.cell (q := 1) rfl
  have y2 := hb8.cell (q := 2) rfl
  have y3 := hb8.cell (q := 3) rfl
  have hge := GramSame.grammar_any ta1 na1 ra1 ta2 na2 ra2 tc1 nc1 rc1 tc2 nc2 rc2 h h w8 hGa8 hGb8 oh oh
  rw [GramSame.eqG_refl] at hge
  go_wp2_with fail
  refine hge.mono ?_
  rintro e w9 ⟨rfl, hb⟩
  have hB9 := hB8.trans (hb.mono hB8.size)
  have hbx9 := hbx8.below hb hbx8.lt
  have hin9 := hin8.below hb hin8.lt
  have hlg9 := hlg8.below hb (Nat.le_refl _)
  clear hge x0 x1 x2 x3 y0 y1 y2 y3 hB8 hbx8 hin8 hlg8 ha8 hb8 hGa8 hGb8 hb
  have a0 := hbx9.cell (q := 0) rfl
  have a1 := hbx9.cell (q := 1) rfl
  have a2 := hbx9.cell (q := 2) rfl
  have a3 := hbx9.cell (q := 3) rfl
  have b0 := hin9.cell (q := 0) rfl
  have b1 := hin9.cell (q := 1) rfl
  have b2 := hin9.cell (q := 2) rfl
  have b3 := hin9.cell (q := 3) rfl
  have hkept := keptG g1 c1 g2 c2 g3 c3 lq ta na ra tc nc rc g w9 hlg9 (hG.below hB9 (Nat.le_refl _)) hg
  go_wp2_with fail
  refine hkept.mono ?_
  rintro e w12 ⟨rfl, hb⟩
  have hBe := hB9.trans (hb.mono hB9.size)
  go_wp2
  go_ret
  exact ⟨rfl, hBe⟩

end Go.Proofs.YtnlaffhhbabjaaaDoor.UsefulTrimsW
