/-
  A grammar that is handed in: what it reads as, lendable, its caps.
-/
import Derived.Test.YtgllcbajgndldaaDoorGramBase
import Derived.SliceStrings
import Derived.Deep.Slices
import Derived.Lib.SmallJoins
import Derived.SizedLaws
import Derived.Test.YtgllcbajgndldaaDoorGramLentG
namespace Go.Proofs.YtgllcbajgndldaaDoor.GramOpen
open Go.Deep Go.Joins Go.ChangeShapes Go.WideShapes Go.ChangeAt Go.RowKit Go.Proofs.YtgllcbajgndldaaDoor.GramMath Go.Proofs.YtgllcbajgndldaaDoor.GramRow
set_option linter.unusedVariables false

theorem bytesS : Tryd.prog.bytesOf 9 = 16 := by kernel_rfl
theorem bytesI : Tryd.prog.bytesOf 3 = 8 := by kernel_rfl

theorem wf64 {n : Int} (h : (Lit.int .i64 n).wf = true) : I64 n := by
  have h2 : IntKind.i64.min ≤ n ∧ n ≤ IntKind.i64.max := by simpa [Lit.wf] using h
  have e1 : IntKind.i64.min = -9223372036854775808 := by decide
  have e2 : IntKind.i64.max = 9223372036854775807 := by decide
  unfold I64
  omega

theorem list2 {α : Type} {l : List α} (h : l.length = 2) : ∃ a b, l = [a, b] := by
  match l, h with
  | [a, b], _ => exact ⟨a, b, rfl⟩

section
variable {H : Type} {enc : TypeId × Value → H} {W : World} {sp : Nat → Bool} {hd : Bool}

theorem mem_all {e : TypeId} {d : DataW H} {k : Nat} : ∀ {l : List (DataW H)}, d ∈ l → k ∈ d.weights Tryd.prog e → k ∈ DataW.weightsAll Tryd.prog e l
  | [], h, _ => by cases h
  | x :: l, h, hk => by
    simp only [DataW.weightsAll, List.mem_append]
    rcases List.mem_cons.1 h with rfl | h
    · exact .inl hk
    · exact .inr (mem_all h hk)

theorem mem_strs {s : ByteArray} : ∀ {l : List ByteArray}, s ∈ l → (DataW.lit (.string s.data.toList) : DataW H) ∈ strs (H := H) l
  | [], h => by cases h
  | x :: l, h => by
    rcases List.mem_cons.1 h with rfl | h
    · exact List.mem_cons_self
    · exact List.mem_cons_of_mem _ (mem_strs h)

theorem strs_length : ∀ l : List ByteArray, (strs (H := H) l).length = l.length
  | [] => rfl
  | x :: l => by show (strs (H := H) l).length + 1 = _; rw [strs_length l]; rfl

theorem open_is {n : Nat} {v : Value} {y : DataW H × List MemPlace} (h : DataW.trod enc Tryd.prog W 0 sp hd n 24 [v] = some y) (hw : ∀ k ∈ y.1.weights Tryd.prog 24, k ≤ reachBytes) :
    ∃ a c zs, v = .slice a zs.length c ∧ zs.length ≤ c ∧ zs.length ≤ 1125899906842624 ∧ (∀ x ∈ zs, I64 x) ∧ IRow W a zs := by
  rcases open_ints Tryd.underlying24 Tryd.underlying3 (by kernel_rfl) h with ⟨hcs, _⟩ | ⟨x, l, c, ss, hcs, _, hl, hm, hz, rfl, hcell, hwz⟩
  · obtain rfl : v = .slice none 0 0 := by simpa using hcs
    exact ⟨none, 0, [], rfl, by simp, by simp, fun s hs => (by cases hs), fun i x hx => by simp at hx⟩
  · obtain rfl : v = .slice (some x) l c := by simpa using hcs
    have hz2 : l ≤ ss.length := by rw [hz]; split <;> omega
    have e : (ss.take l).length = l := by rw [List.length_take]; omega
    have hw1 : ((lits (H := H) .i64 (ss.take l)).length + (lits (H := H) .i64 (ss.drop l)).length) * Tryd.prog.bytesOf 3 ≤ reachBytes := hw _ (by simp [DataW.weights, Tryd.underlying24])
    simp only [lits, List.length_map, bytesI, e] at hw1
    unfold reachBytes at hw1
    refine ⟨some x, c, ss.take l, by rw [e], by omega, by omega, fun s hs => ?_, fun i u hu => ?_⟩
    · have := hwz s (List.mem_of_mem_take hs)
      exact wf64 this
    · rw [List.getElem?_take] at hu
      by_cases hi : i < l
      · rw [if_pos hi] at hu
        have hc := hcell i (by omega)
        obtain ⟨b, off, spot⟩ := x
        have hspot : spot = none := by simpa [Addr.add] using World.cell?_spot (hcell 0 (by omega))
        subst hspot
        rw [Addr.add_lit, List.getD_eq_getElem?_getD, hu] at hc
        exact ⟨b, off, rfl, hc⟩
      · rw [if_neg hi] at hu; cases hu

end
end Go.Proofs.YtgllcbajgndldaaDoor.GramOpen

namespace Go.Proofs.YtgllcbajgndldaaDoor.GramOpen
open Go.Deep Go.Joins Go.ChangeShapes Go.WideShapes Go.ChangeAt Go.RowKit Go.Proofs.YtgllcbajgndldaaDoor.GramMath Go.Proofs.YtgllcbajgndldaaDoor.GramRow
set_option linter.unusedVariables false

theorem lendable_row {w : World} {ta na ra : Option Addr} {tc nc : Nat} {g : G} (h : GramLent.Lendable w ta na ra tc nc g) : GRow w ta na ra g := ⟨h.ts, h.ns, fun i x hx => by
  obtain ⟨b, off, qa, qc, h1, h2, h3, h4, _⟩ := h.rs i x hx
  exact ⟨b, off, qa, qc, h1, h2, h3, h4⟩⟩

section
variable {H : Type} {enc : TypeId × Value → H} {W : World} {sp : Nat → Bool} {hd : Bool}

theorem open_is2 {n : Nat} {v : Value} {y : DataW H × List MemPlace} (h : DataW.trod enc Tryd.prog W 0 sp hd n 24 [v] = some y) (hw : ∀ k ∈ y.1.weights Tryd.prog 24, k ≤ reachBytes) :
    ∃ a c zs, v = .slice a zs.length c ∧ zs.length ≤ c ∧ zs.length * 8 ≤ 140737488351232 ∧ (∀ x ∈ zs, I64 x) ∧ IRow W a zs ∧ (a = none → zs.length = 0 ∧ c = 0) := by
  rcases open_ints Tryd.underlying24 Tryd.underlying3 (by kernel_rfl) h with ⟨hcs, _⟩ | ⟨x, l, c, ss, hcs, _, hl, hm, hz, rfl, hcell, hwz⟩
  · obtain rfl : v = .slice none 0 0 := by simpa using hcs
    exact ⟨none, 0, [], rfl, by simp, by simp, fun s hs => (by cases hs), fun i x hx => (by simp at hx), fun _ => ⟨rfl, rfl⟩⟩
  · obtain rfl : v = .slice (some x) l c := by simpa using hcs
    have hz2 : l ≤ ss.length := by rw [hz]; split <;> omega
    have e : (ss.take l).length = l := by rw [List.length_take]; omega
    have hw1 : ((lits (H := H) .i64 (ss.take l)).length + (lits (H := H) .i64 (ss.drop l)).length) * Tryd.prog.bytesOf 3 ≤ reachBytes := hw _ (by simp [DataW.weights, Tryd.underlying24])
    simp only [lits, List.length_map, bytesI, e] at hw1
    unfold reachBytes at hw1
    refine ⟨some x, c, ss.take l, by rw [e], by omega, by rw [e]; omega, fun s hs => ?_, fun i u hu => ?_, fun h => by cases h⟩
    · have := hwz s (List.mem_of_mem_take hs)
      exact wf64 this
    · rw [List.getElem?_take] at hu
      by_cases hi : i < l
      · rw [if_pos hi] at hu
        have hc := hcell i (by omega)
        obtain ⟨b, off, spot⟩ := x
        have hspot : spot = none := by simpa [Addr.add] using World.cell?_spot (hcell 0 (by omega))
        subst hspot
        rw [Addr.add_lit, List.getD_eq_getElem?_getD, hu] at hc
        exact ⟨b, off, rfl, hc⟩
      · rw [if_neg hi] at hu; cases hu

end
end Go.Proofs.YtgllcbajgndldaaDoor.GramOpen

namespace Go.Proofs.YtgllcbajgndldaaDoor.GramOpen
open Go.Deep Go.Joins Go.ChangeShapes Go.WideShapes Go.ChangeAt Go.RowKit Go.Proofs.YtgllcbajgndldaaDoor.GramMath Go.Proofs.YtgllcbajgndldaaDoor.GramRow
set_option linter.unusedVariables false

/-- No list of a row of rules has a cap that is less than its length. -/
def Caps (W : World) (ra : Option Addr) (m : Nat) : Prop := ∀ i, i < m → ∀ b off, ra = some ⟨b, off, none⟩ → ∀ qa n qc, W.cell? ⟨b, off + i * 2 + 1, none⟩ = some (.slice qa n qc) → n ≤ qc

section
variable {H : Type} {enc : TypeId × Value → H} {W : World} {sp : Nat → Bool} {hd : Bool}

theorem cap_ints {n : Nat} {v : Value} {y : DataW H × List MemPlace} (h : DataW.trod enc Tryd.prog W 0 sp hd n 24 [v] = some y) : ∀ a l c, v = .slice a l c → l ≤ c := by
  rintro a l c rfl
  rcases open_ints Tryd.underlying24 Tryd.underlying3 (by kernel_rfl) h with ⟨hcs, _⟩ | ⟨x, l', c', ss, hcs, _, hl, _⟩
  · obtain ⟨_, rfl, rfl⟩ : a = none ∧ l = 0 ∧ c = 0 := by simpa using hcs
    exact Nat.le_refl _
  · obtain ⟨_, rfl, rfl⟩ : a = some x ∧ l = l' ∧ c = c' := by simpa using hcs
    exact hl

end
end Go.Proofs.YtgllcbajgndldaaDoor.GramOpen
