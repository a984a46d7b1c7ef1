/-
  Texts that stand together: GramOpens, SpecTabs, WordsMath.
-/
import Derived.Test.YtbeflhpekklgoaaGreatDoorBGramBase
import Derived.SliceStrings
import Derived.Deep.Slices
import Derived.Lib.SmallJoins
import Derived.SizedLaws
import Derived.Test.YtbeflhpekklgoaaGreatDoorBGramLentG
import Derived.Test.YtbeflhpekklgoaaGreatDoorBGramErrs
import Derived.LaidSub
import Derived.WalkKit
namespace Go.Proofs.YtbeflhpekklgoaaGreatDoor.GramOpen
open Go.Deep Go.Joins Go.ChangeShapes Go.WideShapes Go.ChangeAt Go.RowKit Go.Proofs.YtbeflhpekklgoaaGreatDoor.GramMath Go.Proofs.YtbeflhpekklgoaaGreatDoor.GramRow
set_option linter.unusedVariables false

theorem bytesS : Tryz.prog.bytesOf 9 = 16 := by kernel_rfl
theorem bytesI : Tryz.prog.bytesOf 3 = 8 := by kernel_rfl

theorem bytesR : Tryz.prog.bytesOf 40 = 32 := by kernel_rfl
theorem cellsR : Tryz.prog.cellsOf 40 = 2 := by kernel_rfl
theorem cellsG : Tryz.prog.cellsOf 25 = 4 := by kernel_rfl

theorem wf64 {n : Int} (h : (Lit.int .i64 n).wf = true) : I64 n := by
  have h2 : IntKind.i64.min ≤ n ∧ n ≤ IntKind.i64.max := by simpa [Lit.wf] using h
  have e1 : IntKind.i64.min = -9223372036854775808 := by decide
  have e2 : IntKind.i64.max = 9223372036854775807 := by decide
  unfold I64
  omega

theorem list2 {α : Type} {l : List α} (h : l.length = 2) : ∃ a b, l = [a, b] := by
  match l, h with
  | [a, b], _ => exact ⟨a, b, rfl⟩

section
variable {H : Type} {enc : TypeId × Value → H} {W : World} {sp : Nat → Bool} {hd : Bool}

theorem mem_all {e : TypeId} {d : DataW H} {k : Nat} : ∀ {l : List (DataW H)}, d ∈ l → k ∈ d.weights Tryz.prog e → k ∈ DataW.weightsAll Tryz.prog e l
  | [], h, _ => by cases h
  | x :: l, h, hk => by
    simp only [DataW.weightsAll, List.mem_append]
    rcases List.mem_cons.1 h with rfl | h
    · exact .inl hk
    · exact .inr (mem_all h hk)

theorem mem_strs {s : ByteArray} : ∀ {l : List ByteArray}, s ∈ l → (DataW.lit (.string s.data.toList) : DataW H) ∈ strs (H := H) l
  | [], h => by cases h
  | x :: l, h => by
    rcases List.mem_cons.1 h with rfl | h
    · exact List.mem_cons_self
    · exact List.mem_cons_of_mem _ (mem_strs h)

theorem strs_length : ∀ l : List ByteArray, (strs (H := H) l).length = l.length
  | [] => rfl
  | x :: l => by show (strs (H := H) l).length + 1 = _; rw [strs_length l]; rfl

theorem gramFields : Tryz.prog.underlying 25 = some (.struct (Tryz.prog.fieldsOf 25)) := by kernel_rfl
theorem ruleFields : Tryz.prog.underlying 40 = some (.struct (Tryz.prog.fieldsOf 40)) := by kernel_rfl

theorem rule_parts : ∃ f0 f1 : Field, Tryz.prog.fieldsOf 40 = #[f0, f1] ∧ f0.type = 3 ∧ f0.offset = 0 ∧ f1.type = 38 ∧ f1.offset = 1 :=
  ⟨_, _, (by kernel_rfl : Tryz.prog.fieldsOf 40 = #[(Tryz.prog.fieldsOf 40).getD 0 default, (Tryz.prog.fieldsOf 40).getD 1 default]), by kernel_rfl, by kernel_rfl, by kernel_rfl, by kernel_rfl⟩

theorem gram_parts : ∃ f0 f1 f2 f3 : Field, Tryz.prog.fieldsOf 25 = #[f0, f1, f2, f3] ∧ f0.type = 22 ∧ f1.type = 22 ∧ f2.type = 3 ∧ f3.type = 23 ∧ oneCellFields Tryz.prog #[f0, f1, f2, f3] = true :=
  ⟨_, _, _, _, (by kernel_rfl : Tryz.prog.fieldsOf 25 = #[(Tryz.prog.fieldsOf 25).getD 0 default, (Tryz.prog.fieldsOf 25).getD 1 default, (Tryz.prog.fieldsOf 25).getD 2 default, (Tryz.prog.fieldsOf 25).getD 3 default]), by kernel_rfl, by kernel_rfl, by kernel_rfl, by kernel_rfl, by kernel_rfl⟩

end
end Go.Proofs.YtbeflhpekklgoaaGreatDoor.GramOpen

namespace Go.Proofs.YtbeflhpekklgoaaGreatDoor.GramOpen
open Go.Deep Go.Joins Go.ChangeShapes Go.WideShapes Go.ChangeAt Go.RowKit Go.Proofs.YtbeflhpekklgoaaGreatDoor.GramMath Go.Proofs.YtbeflhpekklgoaaGreatDoor.GramRow
set_option linter.unusedVariables false

theorem lendable_row {w : World} {ta na ra : Option Addr} {tc nc : Nat} {g : G} (h : GramLent.Lendable w ta na ra tc nc g) : GRow w ta na ra g := ⟨h.ts, h.ns, fun i x hx => by
  obtain ⟨b, off, qa, qc, h1, h2, h3, h4, _⟩ := h.rs i x hx
  exact ⟨b, off, qa, qc, h1, h2, h3, h4⟩⟩

section
variable {H : Type} {enc : TypeId × Value → H} {W : World} {sp : Nat → Bool} {hd : Bool}

theorem open_ss2 {n : Nat} {v : Value} {y : DataW H × List MemPlace} (h : DataW.trod enc Tryz.prog W 0 sp hd n 22 [v] = some y) (hw : ∀ k ∈ y.1.weights Tryz.prog 22, k ≤ reachBytes) :
    ∃ a c ss, v = .slice a ss.length c ∧ ss.length ≤ c ∧ ss.length * 16 ≤ 140737488351232 ∧ (∀ s ∈ ss, s.size ≤ 281474976710656) ∧ SRow W a ss ∧ (a = none → ss.length = 0 ∧ c = 0) := by
  rcases open_strings Tryz.underlying22 Tryz.underlying9 (by kernel_rfl) h with ⟨hcs, _⟩ | ⟨x, l, c, ss, hcs, _, hl, hm, hz, rfl, hcell, hwz⟩
  · obtain rfl : v = .slice none 0 0 := by simpa using hcs
    exact ⟨none, 0, [], rfl, by simp, by simp, fun s hs => (by cases hs), fun i x hx => (by simp at hx), fun _ => ⟨rfl, rfl⟩⟩
  · obtain rfl : v = .slice (some x) l c := by simpa using hcs
    have hz2 : l ≤ ss.length := by rw [hz]; split <;> omega
    have e : (ss.take l).length = l := by rw [List.length_take]; omega
    have hw1 : ((strs (H := H) (ss.take l)).length + (strs (H := H) (ss.drop l)).length) * Tryz.prog.bytesOf 9 ≤ reachBytes := hw _ (by simp [DataW.weights, Tryz.underlying22])
    rw [strs_length, strs_length, bytesS, e] at hw1
    unfold reachBytes at hw1
    refine ⟨some x, c, ss.take l, by rw [e], by omega, by rw [e]; omega, fun s hs => ?_, fun i u hu => ?_, fun h => by cases h⟩
    · have := hw s.data.toList.length (by
        simp only [DataW.weights, Tryz.underlying22, List.mem_cons, List.mem_append]
        exact .inr (.inl (mem_all (mem_strs hs) (by simp [DataW.weights]))))
      unfold reachBytes at this
      have e2 : s.size = s.data.toList.length := by cases s; simp [ByteArray.size]
      omega
    · rw [List.getElem?_take] at hu
      by_cases hi : i < l
      · rw [if_pos hi] at hu
        have hc := hcell i (by omega)
        obtain ⟨b, off, spot⟩ := x
        have hspot : spot = none := by simpa [Addr.add] using World.cell?_spot (hcell 0 (by omega))
        subst hspot
        rw [Addr.add_lit, List.getD_eq_getElem?_getD, hu] at hc
        exact ⟨b, off, rfl, hc⟩
      · rw [if_neg hi] at hu; cases hu

theorem open_is2 {n : Nat} {v : Value} {y : DataW H × List MemPlace} (h : DataW.trod enc Tryz.prog W 0 sp hd n 38 [v] = some y) (hw : ∀ k ∈ y.1.weights Tryz.prog 38, k ≤ reachBytes) :
    ∃ a c zs, v = .slice a zs.length c ∧ zs.length ≤ c ∧ zs.length * 8 ≤ 140737488351232 ∧ (∀ x ∈ zs, I64 x) ∧ IRow W a zs ∧ (a = none → zs.length = 0 ∧ c = 0) := by
  rcases open_ints Tryz.underlying38 Tryz.underlying3 (by kernel_rfl) h with ⟨hcs, _⟩ | ⟨x, l, c, ss, hcs, _, hl, hm, hz, rfl, hcell, hwz⟩
  · obtain rfl : v = .slice none 0 0 := by simpa using hcs
    exact ⟨none, 0, [], rfl, by simp, by simp, fun s hs => (by cases hs), fun i x hx => (by simp at hx), fun _ => ⟨rfl, rfl⟩⟩
  · obtain rfl : v = .slice (some x) l c := by simpa using hcs
    have hz2 : l ≤ ss.length := by rw [hz]; split <;> omega
    have e : (ss.take l).length = l := by rw [List.length_take]; omega
    have hw1 : ((lits (H := H) .i64 (ss.take l)).length + (lits (H := H) .i64 (ss.drop l)).length) * Tryz.prog.bytesOf 3 ≤ reachBytes := hw _ (by simp [DataW.weights, Tryz.underlying38])
    simp only [lits, List.length_map, bytesI, e] at hw1
    unfold reachBytes at hw1
    refine ⟨some x, c, ss.take l, by rw [e], by omega, by rw [e]; omega, fun s hs => ?_, fun i u hu => ?_, fun h => by cases h⟩
    · have := hwz s (List.mem_of_mem_take hs)
      exact wf64 this
    · rw [List.getElem?_take] at hu
      by_cases hi : i < l
      · rw [if_pos hi] at hu
        have hc := hcell i (by omega)
        obtain ⟨b, off, spot⟩ := x
        have hspot : spot = none := by simpa [Addr.add] using World.cell?_spot (hcell 0 (by omega))
        subst hspot
        rw [Addr.add_lit, List.getD_eq_getElem?_getD, hu] at hc
        exact ⟨b, off, rfl, hc⟩
      · rw [if_neg hi] at hu; cases hu

theorem open_rule2 {n : Nat} {cs : List Value} {y : DataW H × List MemPlace} (h : DataW.trod enc Tryz.prog W 0 sp hd n 40 cs = some y) (hw : ∀ k ∈ y.1.weights Tryz.prog 40, k ≤ reachBytes) :
    ∃ r a c, cs = [.int .i64 r.left, .slice a r.right.length c] ∧ okR r ∧ r.right.length * 8 ≤ 140737488351232 ∧ IRow W a r.right ∧ (a = none → r.right.length = 0 ∧ c = 0) := by
  obtain ⟨f0, f1, hf, t0, o0, t1, o1⟩ := rule_parts
  have hu := ruleFields
  rw [hf] at hu
  obtain ⟨y0, y1, m, rfl, hl, h0, h1⟩ := trod_struct2 hu h
  rw [cellsR] at hl
  obtain ⟨c0, c1, rfl⟩ := list2 hl
  rw [t0, o0, show Tryz.prog.cellsOf 3 = 1 by kernel_rfl] at h0
  rw [t1, o1, show Tryz.prog.cellsOf 38 = 1 by kernel_rfl] at h1
  obtain ⟨z, hz, hx, hz2⟩ := DataW.trod_int Tryz.underlying3 h0
  obtain rfl : c0 = .int .i64 z := by simpa using hz
  have h1' : DataW.trod enc Tryz.prog W 0 sp hd m 38 [c1] = some y1 := h1
  obtain ⟨a, c, zs, rfl, hc, hlen, hall, hrow, hnil⟩ := open_is2 h1' (fun k hk => hw k (by
    simp only [DataW.weights, hu, List.map_cons, List.map_nil, DataW.weightsEach, List.mem_append, t0, t1]
    exact .inr (.inl hk)))
  exact ⟨⟨z, zs⟩, a, c, rfl, ⟨wf64 hz2, hall, show zs.length ≤ _ by omega⟩, hlen, hrow, hnil⟩

theorem open_rs2 {n : Nat} {v : Value} {y : DataW H × List MemPlace} (h : DataW.trod enc Tryz.prog W 0 sp hd n 23 [v] = some y) (hw : ∀ k ∈ y.1.weights Tryz.prog 23, k ≤ reachBytes) :
    ∃ a c rs, v = .slice a rs.length c ∧ rs.length ≤ c ∧ rs.length * 32 ≤ 140737488351232 ∧ (∀ r ∈ rs, okR r ∧ r.right.length * 8 ≤ 140737488351232) ∧ GramLent.RRowN W a rs := by
  rcases open_slice Tryz.underlying23 h with ⟨hcs, _⟩ | ⟨x, l, c, m, n', D, Pl, hcs, _, hl, hm, hmm, rfl, hall⟩
  · obtain rfl : v = .slice none 0 0 := by simpa using hcs
    exact ⟨none, 0, [], rfl, by simp, by simp, fun s hs => (by cases hs), fun i x hx => by simp at hx⟩
  · obtain rfl : v = .slice (some x) l c := by simpa using hcs
    have hz2 : l ≤ m := by rw [hmm]; split <;> omega
    have hw1 : (((List.range l).map D).length + ((List.range (m - l)).map fun j => D (l + j)).length) * Tryz.prog.bytesOf 40 ≤ reachBytes := hw _ (by simp [DataW.weights, Tryz.underlying23])
    simp only [List.length_map, List.length_range, bytesR] at hw1
    unfold reachBytes at hw1
    rw [cellsR] at hall
    have hex : ∀ i, i < l → ∃ q : R × Option Addr × Nat, W.cells? 0 (x.add (i * 2)) 2 = some [.int .i64 q.1.left, .slice q.2.1 q.1.right.length q.2.2] ∧ (okR q.1 ∧ q.1.right.length * 8 ≤ 140737488351232) ∧ IRow W q.2.1 q.1.right ∧ (q.2.1 = none → q.1.right.length = 0 ∧ q.2.2 = 0) := fun i hi => by
      obtain ⟨cs', h1, h2⟩ := hall i (by omega)
      obtain ⟨r, a, c', rfl, hr, hrl, hrow, hrn⟩ := open_rule2 h2 (fun k hk => hw k (by
        simp only [DataW.weights, Tryz.underlying23, List.mem_cons, List.mem_append]
        exact .inr (.inl (mem_all (List.mem_map.2 ⟨i, List.mem_range.2 hi, rfl⟩) hk))))
      exact ⟨⟨r, a, c'⟩, h1, ⟨hr, hrl⟩, hrow, hrn⟩
    classical
    let F : Nat → R × Option Addr × Nat := fun i => if hi : i < l then (hex i hi).choose else (⟨0, []⟩, none, 0)
    have hF : ∀ i, i < l → W.cells? 0 (x.add (i * 2)) 2 = some [.int .i64 (F i).1.left, .slice (F i).2.1 (F i).1.right.length (F i).2.2] ∧ (okR (F i).1 ∧ (F i).1.right.length * 8 ≤ 140737488351232) ∧ IRow W (F i).2.1 (F i).1.right ∧ ((F i).2.1 = none → (F i).1.right.length = 0 ∧ (F i).2.2 = 0) := fun i hi => by
      have := (hex i hi).choose_spec
      simp only [F, dif_pos hi]
      exact this
    refine ⟨some x, c, (List.range l).map (fun i => (F i).1), by simp, by simpa using hl, by simp; omega, fun r hr => ?_, fun i u hu => ?_⟩
    · obtain ⟨i, hi, rfl⟩ := List.mem_map.1 hr
      exact (hF i (List.mem_range.1 hi)).2.1
    · rw [List.getElem?_map] at hu
      have hi : i < l := by
        rcases Nat.lt_or_ge i l with h | h
        · exact h
        · rw [List.getElem?_eq_none (by simpa using h)] at hu; cases hu
      rw [List.getElem?_range hi] at hu
      obtain rfl : (F i).1 = u := by simpa using hu
      obtain ⟨h1, _, h3⟩ := hF i hi
      obtain ⟨_, _, h4⟩ := World.cells?_some h1
      have c0 := h4 0 (by omega)
      have c1 := h4 1 (by omega)
      obtain ⟨b, off, spot⟩ := x
      have hspot : spot = none := by
        obtain ⟨h6, _, _, _⟩ := hF 0 (by omega)
        obtain ⟨_, _, h7⟩ := World.cells?_some h6
        have h8 := h7 0 (by omega)
        rw [Go.Deep.add_add] at h8
        simpa [Addr.add] using World.cell?_spot h8
      subst hspot
      rw [Go.Deep.add_add, Addr.add_lit] at c0 c1
      exact ⟨b, off, _, _, rfl, c0, c1, h3.1, h3.2⟩

set_option maxRecDepth 100000 in
theorem open_gram2 {base : Nat} {v : Value} {d : DataW H} {p : List MemPlace} (hval : Value.okWide Tryz.prog W .any base 25 v) (h : DataW.Trod enc Tryz.prog W 0 sp hd 25 v d p) (hw : ∀ k ∈ d.weights Tryz.prog 25, k ≤ reachBytes) :
    ∃ ta tc na nc ra rc g, v = .agg #[.slice ta g.ts.length tc, .slice na g.ns.length nc, .int .i64 g.ax, .slice ra g.rs.length rc] ∧ GramLent.Lendable W ta na ra tc nc g ∧ okG g ∧ g.ts.length ≤ tc ∧ g.ns.length ≤ nc ∧ g.rs.length ≤ rc := by
  obtain ⟨f0, f1, f2, f3, hf, t0, t1, t2, t3, hone⟩ := gram_parts
  have hu := gramFields
  rw [hf] at hu
  obtain ⟨v0, v1, v2, v3, y0, y1, y2, y3, n, rfl, rfl, rfl, h0, h1, h2, h3⟩ := open_agg4 hu hone cellsG hval h
  rw [t0] at h0
  rw [t1] at h1
  rw [t2] at h2
  rw [t3] at h3
  have hws : ∀ k, (k ∈ y0.1.weights Tryz.prog 22 ∨ k ∈ y1.1.weights Tryz.prog 22 ∨ k ∈ y3.1.weights Tryz.prog 23) → k ≤ reachBytes := fun k hk => hw k (by
    simp only [DataW.weights, hu, List.map_cons, List.map_nil, DataW.weightsEach, List.mem_append, t0, t1, t2, t3]
    rcases hk with hk | hk | hk
    · exact .inl hk
    · exact .inr (.inl hk)
    · exact .inr (.inr (.inr (.inl hk))))
  obtain ⟨ta, tc, ts, rfl, a1, a2, a3, a4, a5⟩ := open_ss2 h0 (fun k hk => hws k (.inl hk))
  obtain ⟨na, nc, ns, rfl, b1, b2, b3, b4, b5⟩ := open_ss2 h1 (fun k hk => hws k (.inr (.inl hk)))
  obtain ⟨z, hz, _, hz2⟩ := DataW.trod_int Tryz.underlying3 h2
  obtain rfl : v2 = .int .i64 z := by simpa using hz
  obtain ⟨ra, rc, rs, rfl, c1, c2, c3, c4⟩ := open_rs2 h3 (fun k hk => hws k (.inr (.inr hk)))
  exact ⟨ta, tc, na, nc, ra, rc, ⟨ts, ns, z, rs⟩, rfl, ⟨a4, b4, c4, a5, b5, a2, b2, c2, c3⟩, ⟨show ts.length ≤ _ by omega, show ns.length ≤ _ by omega, show rs.length ≤ _ by omega, wf64 hz2, fun r hr => (c3 r hr).1, a3, b3⟩, a1, b1, c1⟩

end
end Go.Proofs.YtbeflhpekklgoaaGreatDoor.GramOpen

namespace Go.Proofs.YtbeflhpekklgoaaGreatDoor.GramOpen
open Go.Deep Go.Joins Go.ChangeShapes Go.WideShapes Go.ChangeAt Go.RowKit Go.Proofs.YtbeflhpekklgoaaGreatDoor.GramMath Go.Proofs.YtbeflhpekklgoaaGreatDoor.GramRow
set_option linter.unusedVariables false

/-- No list of a row of rules has a cap that is less than its length. -/
def Caps (W : World) (ra : Option Addr) (m : Nat) : Prop := ∀ i, i < m → ∀ b off, ra = some ⟨b, off, none⟩ → ∀ qa n qc, W.cell? ⟨b, off + i * 2 + 1, none⟩ = some (.slice qa n qc) → n ≤ qc

section
variable {H : Type} {enc : TypeId × Value → H} {W : World} {sp : Nat → Bool} {hd : Bool}

end
end Go.Proofs.YtbeflhpekklgoaaGreatDoor.GramOpen

namespace Go.Proofs.YtbeflhpekklgoaaGreatDoor.SpecTabs
open Go.RowKit Go.Proofs.YtbeflhpekklgoaaGreatDoor.GramErrs Go.Proofs.YtbeflhpekklgoaaGreatDoor.GramRow
set_option linter.unusedVariables false

def keepE (x : String × DataW Unit) : Bool := !decide (x.1 = "unicode/utf8.acceptRanges") && !decide (x.1 = "unicode/utf8.first")
def utfLaid : List (String × DataW Unit) := ("unicode/utf8.acceptRanges", Rows.laid_unicode_utf8_acceptRanges) :: (errLaid ++ [("unicode/utf8.first", Rows.laid_unicode_utf8_first)])

theorem errs_laid {W : World} (h : laidMetH Tryz.prog utfLaid W) : laidMetH Tryz.prog errLaid W := by
  have h2 := laidMetH.filter keepE h
  have e : utfLaid.filter keepE = errLaid := by kernel_rfl
  rw [e] at h2
  exact h2

def valsAr : List Int := [128, 191, 160, 191, 128, 159, 144, 191, 128, 143, 0, 0, 0, 0, 0, 0, 0, 0, 0, 0, 0, 0, 0, 0, 0, 0, 0, 0, 0, 0, 0, 0]
def layAr : Obj → Obj
  | .cells _ t frozen => .cells (valsAr.map (fun z => Value.int .u8 z)).toArray t frozen
  | o => o
def layFi : Obj → Obj
  | .cells _ t frozen => .cells (Go.Pinned.utf8FirstZ.map (fun (z : Nat) => Value.int .u8 (Int.ofNat z))).toArray t frozen
  | o => o

noncomputable def laidWorldU (os : Os) : World := { laidWorld os with heap := ((laidWorld os).heap.modify 18 layAr).modify 17 layFi }

end Go.Proofs.YtbeflhpekklgoaaGreatDoor.SpecTabs

namespace Go.Proofs.YtbeflhpekklgoaaGreatDoor.WordsMath

def blankN (n : Nat) : Bool := n == 32 || n == 9
def plainN (n : Nat) : Bool := decide (32 < n) && (decide (n < 127) && n != 34)
def hexN (n : Nat) : Option Nat := if 48 ≤ n ∧ n ≤ 57 then some (n - 48) else if 65 ≤ n ∧ n ≤ 70 then some (n - 55) else none
def hexB (n : Nat) : UInt8 := if n < 10 then UInt8.ofNat (48 + n) else UInt8.ofNat (55 + n)

/-- A word of a line. -/
structure W where
  text : List UInt8
  quoted : Bool
  place : Nat

def endsL : List UInt8 → Bool
  | [] => true
  | c :: _ => blankN c.toNat

/-- The byte that two digits at the beginning say. -/
def sixL : List UInt8 → Option UInt8
  | a :: b :: _ => match hexN a.toNat, hexN b.toNat with
    | some x, some y => some (UInt8.ofNat (16 * x + y))
    | _, _ => none
  | _ => none

/-- What stands behind a backslash: the byte that the escape says, and how many bytes it has there. -/
def escL : List UInt8 → Option (UInt8 × Nat)
  | [] => none
  | d :: r => if d.toNat = 34 ∨ d.toNat = 92 then some (d, 1) else if d.toNat = 110 then some (10, 1) else if d.toNat = 120 then (sixL r).map (fun b => (b, 3)) else none

/-- A piece of a quoted word that begins with c: its byte, and how many bytes more it has. -/
def pieceL (c : UInt8) (r : List UInt8) : Option (UInt8 × Nat) :=
  if c.toNat = 92 then escL r else if c.toNat = 10 then none else some (c, 0)

def unqL (l : List UInt8) (i : Nat) (acc : List UInt8) : Except Nat (List UInt8 × Nat) :=
  match l with
  | [] => .error i
  | c :: r =>
    if c.toNat = 34 then .ok (acc, i + 1)
    else match pieceL c r with
      | none => .error i
      | some (b, k) => unqL (r.drop k) (i + 1 + k) (acc ++ [b])
termination_by l.length
decreasing_by simp; omega

/-- A quoted word behind its first quote, and what may stand behind it. -/
def unqE (l : List UInt8) (i : Nat) : Except Nat (List UInt8 × Nat) :=
  match unqL l i [] with
  | .error p => .error p
  | .ok (t, e) => if endsL (l.drop (e - i)) then .ok (t, e) else .error e

def plainLen : List UInt8 → Nat
  | [] => 0
  | c :: r => if plainN c.toNat then plainLen r + 1 else 0

def lineL (l : List UInt8) (i : Nat) (out : List W) : Except Nat (List W) :=
  match l with
  | [] => .ok out
  | c :: r =>
    if blankN c.toNat then lineL r (i + 1) out
    else if c.toNat = 35 then .ok out
    else if c.toNat = 34 then
      match unqE r (i + 1) with
      | .error p => .error p
      | .ok (t, e) => lineL (r.drop (e - (i + 1))) e (out ++ [⟨t, true, i⟩])
    else if plainN c.toNat then
      if endsL (r.drop (plainLen r)) then lineL (r.drop (plainLen r)) (i + 1 + plainLen r) (out ++ [⟨c :: r.take (plainLen r), false, i⟩])
      else .error (i + 1 + plainLen r)
    else .error i
termination_by l.length
decreasing_by all_goals (simp; try omega)

theorem unqL_nil (i : Nat) (acc : List UInt8) : unqL [] i acc = .error i := by rw [unqL]
theorem unqL_end {c : UInt8} (h : c.toNat = 34) (r : List UInt8) (i : Nat) (acc : List UInt8) : unqL (c :: r) i acc = .ok (acc, i + 1) := by rw [unqL]; simp [h]
theorem unqL_none {c : UInt8} (h : c.toNat ≠ 34) {r : List UInt8} (hp : pieceL c r = none) (i : Nat) (acc : List UInt8) : unqL (c :: r) i acc = .error i := by rw [unqL]; simp [h, hp]
theorem unqL_some {c : UInt8} (h : c.toNat ≠ 34) {r : List UInt8} {b : UInt8} {k : Nat} (hp : pieceL c r = some (b, k)) (i : Nat) (acc : List UInt8) : unqL (c :: r) i acc = unqL (r.drop k) (i + 1 + k) (acc ++ [b]) := by rw [unqL]; simp [h, hp]

theorem sixL_len {l : List UInt8} {b : UInt8} (h : sixL l = some b) : 2 ≤ l.length := by
  match l with
  | [] => cases h
  | [_] => cases h
  | _ :: _ :: _ => simp

theorem escL_len {l : List UInt8} {b : UInt8} {k : Nat} (h : escL l = some (b, k)) : 1 ≤ k ∧ k ≤ l.length := by
  cases l with
  | nil => cases h
  | cons d r =>
    unfold escL at h
    dsimp only at h
    by_cases h1 : d.toNat = 34 ∨ d.toNat = 92
    · rw [if_pos h1] at h; cases h; simp
    · rw [if_neg h1] at h
      by_cases h2 : d.toNat = 110
      · rw [if_pos h2] at h; cases h; simp
      · rw [if_neg h2] at h
        by_cases h3 : d.toNat = 120
        · rw [if_pos h3] at h
          cases h4 : sixL r with
          | none => rw [h4] at h; cases h
          | some x => rw [h4] at h; cases h; have := sixL_len h4; simp; omega
        · rw [if_neg h3] at h; cases h

theorem pieceL_len {c : UInt8} {r : List UInt8} {b : UInt8} {k : Nat} (h : pieceL c r = some (b, k)) : k ≤ r.length := by
  unfold pieceL at h
  by_cases h1 : c.toNat = 92
  · rw [if_pos h1] at h; exact (escL_len h).2
  · rw [if_neg h1] at h
    by_cases h2 : c.toNat = 10
    · rw [if_pos h2] at h; cases h
    · rw [if_neg h2] at h; cases h; omega

theorem unqL_bound (n : Nat) : ∀ (l : List UInt8) (i : Nat) (acc : List UInt8), l.length ≤ n →
    (∀ t e, unqL l i acc = .ok (t, e) → i < e ∧ e ≤ i + l.length) ∧ (∀ p, unqL l i acc = .error p → i ≤ p ∧ p ≤ i + l.length) := by
  induction n with
  | zero =>
    intro l i acc hl
    have : l = [] := List.eq_nil_of_length_eq_zero (by omega)
    subst this
    rw [unqL_nil]
    exact ⟨fun t e h => (by cases h), fun p h => by cases h; simp⟩
  | succ n ih =>
    intro l i acc hl
    cases l with
    | nil => rw [unqL_nil]; exact ⟨fun t e h => (by cases h), fun p h => by cases h; simp⟩
    | cons c r =>
      by_cases h1 : c.toNat = 34
      · rw [unqL_end h1]
        exact ⟨fun t e h => (by cases h; simp), fun p h => (by cases h)⟩
      · cases hp : pieceL c r with
        | none => rw [unqL_none h1 hp]; exact ⟨fun t e h => (by cases h), fun p h => by cases h; simp⟩
        | some x =>
          obtain ⟨b, k⟩ := x
          have hk := pieceL_len hp
          rw [unqL_some h1 hp]
          have hlen : (r.drop k).length = r.length - k := List.length_drop
          simp only [List.length_cons] at hl ⊢
          obtain ⟨ih1, ih2⟩ := ih (r.drop k) (i + 1 + k) (acc ++ [b]) (by omega)
          exact ⟨fun t e h => by have := ih1 t e h; omega, fun p h => by have := ih2 p h; omega⟩

theorem unqE_ok {l : List UInt8} {i : Nat} {t : List UInt8} {e : Nat} (h : unqE l i = .ok (t, e)) : unqL l i [] = .ok (t, e) ∧ endsL (l.drop (e - i)) = true := by
  unfold unqE at h
  cases h1 : unqL l i [] with
  | error p => rw [h1] at h; cases h
  | ok x =>
    obtain ⟨t', e'⟩ := x
    rw [h1] at h
    dsimp only at h
    by_cases h2 : endsL (l.drop (e' - i)) = true
    · rw [if_pos h2] at h; cases h; exact ⟨rfl, h2⟩
    · rw [if_neg h2] at h; cases h

theorem unqE_bound {l : List UInt8} {i : Nat} : (∀ t e, unqE l i = .ok (t, e) → i < e ∧ e ≤ i + l.length) ∧ (∀ p, unqE l i = .error p → i ≤ p ∧ p ≤ i + l.length) := by
  obtain ⟨b1, b2⟩ := unqL_bound l.length l i [] (Nat.le_refl _)
  refine ⟨fun t e h => b1 t e (unqE_ok h).1, fun p h => ?_⟩
  unfold unqE at h
  cases h1 : unqL l i [] with
  | error p' => rw [h1] at h; cases h; exact b2 _ h1
  | ok x =>
    obtain ⟨t', e'⟩ := x
    rw [h1] at h
    dsimp only at h
    have := b1 _ _ h1
    by_cases h2 : endsL (l.drop (e' - i)) = true
    · rw [if_pos h2] at h; cases h
    · rw [if_neg h2] at h; cases h; omega

theorem lineL_nil (i : Nat) (out : List W) : lineL [] i out = .ok out := by rw [lineL]
theorem lineL_blank {c : UInt8} (h : blankN c.toNat = true) (r : List UInt8) (i : Nat) (out : List W) : lineL (c :: r) i out = lineL r (i + 1) out := by rw [lineL]; simp [h]
theorem lineL_comment {c : UInt8} (h : c.toNat = 35) (r : List UInt8) (i : Nat) (out : List W) : lineL (c :: r) i out = .ok out := by rw [lineL]; simp [h, blankN]
theorem lineL_bad {c : UInt8} (h : c.toNat = 34) {r : List UInt8} {i p : Nat} (hq : unqE r (i + 1) = .error p) (out : List W) : lineL (c :: r) i out = .error p := by rw [lineL]; simp [h, blankN, hq]
theorem lineL_quoted {c : UInt8} (h : c.toNat = 34) {r : List UInt8} {i e : Nat} {t : List UInt8} (hq : unqE r (i + 1) = .ok (t, e)) (out : List W) : lineL (c :: r) i out = lineL (r.drop (e - (i + 1))) e (out ++ [⟨t, true, i⟩]) := by rw [lineL]; simp [h, blankN, hq]
theorem plain_not {n : Nat} (h : plainN n = true) : blankN n = false ∧ n ≠ 34 := by
  unfold plainN at h
  simp at h
  unfold blankN
  refine ⟨?_, h.2.2⟩
  simp; omega
theorem lineL_plain {c : UInt8} (h : plainN c.toNat = true) (h2 : c.toNat ≠ 35) {r : List UInt8} (he : endsL (r.drop (plainLen r)) = true) (i : Nat) (out : List W) :
    lineL (c :: r) i out = lineL (r.drop (plainLen r)) (i + 1 + plainLen r) (out ++ [⟨c :: r.take (plainLen r), false, i⟩]) := by
  obtain ⟨h3, h4⟩ := plain_not h
  rw [lineL]; simp [h, h2, h3, h4, he]
theorem lineL_cut {c : UInt8} (h : plainN c.toNat = true) (h2 : c.toNat ≠ 35) {r : List UInt8} (he : endsL (r.drop (plainLen r)) = false) (i : Nat) (out : List W) :
    lineL (c :: r) i out = .error (i + 1 + plainLen r) := by
  obtain ⟨h3, h4⟩ := plain_not h
  rw [lineL]; simp [h, h2, h3, h4, he]
theorem lineL_wrong {c : UInt8} (h : plainN c.toNat = false) (h1 : blankN c.toNat = false) (h2 : c.toNat ≠ 34) (r : List UInt8) (i : Nat) (out : List W) : lineL (c :: r) i out = .error i := by
  have h3 : c.toNat ≠ 35 := fun e => by rw [e] at h; revert h; decide
  rw [lineL]; simp [h, h1, h2, h3]

theorem plainLen_le : ∀ l : List UInt8, plainLen l ≤ l.length
  | [] => Nat.le_refl _
  | c :: r => by
    unfold plainLen
    have := plainLen_le r
    by_cases h : plainN c.toNat = true
    · rw [if_pos h]; simp; omega
    · rw [if_neg h]; simp

/-- Plain words; how words are written. -/
def allPlain (l : List UInt8) : Bool := l.all (fun c => plainN c.toNat)
def headOk : List UInt8 → Bool
  | [] => false
  | c :: _ => c.toNat != 35
def plainW (l : List UInt8) : Bool := allPlain l && headOk l
def quoteB (c : UInt8) : List UInt8 :=
  if c.toNat = 34 ∨ c.toNat = 92 then [92, c] else if c.toNat = 10 then [92, 110] else if c.toNat < 32 ∨ 127 ≤ c.toNat then [92, 120, hexB (c.toNat / 16), hexB (c.toNat % 16)] else [c]
def quoteL (l : List UInt8) : List UInt8 := 34 :: (l.flatMap quoteB ++ [34])
def wordL (t : List UInt8) (q : Bool) : List UInt8 := if q || !plainW t then quoteL t else t
def writeL : List (List UInt8 × Bool) → List UInt8
  | [] => []
  | (t, q) :: r => wordL t q ++ r.flatMap (fun x => 32 :: wordL x.1 x.2)

theorem allPlain_cons (c : UInt8) (r : List UInt8) : allPlain (c :: r) = (plainN c.toNat && allPlain r) := rfl
theorem quoteB_len (c : UInt8) : 1 ≤ (quoteB c).length ∧ (quoteB c).length ≤ 4 := by
  unfold quoteB
  split
  · simp
  · split
    · simp
    · split <;> simp
theorem flat_len : ∀ l : List UInt8, (l.flatMap quoteB).length ≤ 4 * l.length
  | [] => by simp
  | c :: r => by
    have := quoteB_len c
    have := flat_len r
    rw [List.flatMap_cons, List.length_append, List.length_cons]
    omega
theorem quoteL_len (l : List UInt8) : (quoteL l).length ≤ 4 * l.length + 2 := by
  have := flat_len l
  unfold quoteL
  simp only [List.length_cons, List.length_append, List.length_nil]
  omega

end Go.Proofs.YtbeflhpekklgoaaGreatDoor.WordsMath
