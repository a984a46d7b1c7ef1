/-
  What operator form is, told of lists; and how a function with many loops over sequences leaves. No part of the program.
-/
import Derived.Test.YtkjmmoiickambaaDoorOpCheck
import Derived.Test.YtkjmmoiickambaaDoorOpFaults
import Derived.Test.YtkjmmoiickambaaDoorOpTermsUse
namespace Go.Proofs.YtkjmmoiickambaaDoor.OpForm
open Go.RowKit Go.Proofs.YtkjmmoiickambaaDoor.GramMath Go.Proofs.YtkjmmoiickambaaDoor.GramRow Go.Proofs.YtkjmmoiickambaaDoor.OpSkel Go.Proofs.YtkjmmoiickambaaDoor.OpFault Go.Proofs.YtkjmmoiickambaaDoor.OpCheck
set_option linter.unusedVariables false

/-- How many terminals stand in the first k places. -/
def posTo (zs : List Int) : Nat → Nat
  | 0 => 0
  | k + 1 => posTo zs k + if 0 ≤ zs.getD k (-1) then 1 else 0
def pos : List Int → Nat
  | [] => 0
  | x :: l => (if 0 ≤ x then 1 else 0) + pos l
theorem pos_le : ∀ l : List Int, pos l ≤ l.length
  | [] => Nat.le_refl _
  | x :: l => by
    have := pos_le l
    unfold pos
    rw [List.length_cons]
    split <;> omega
theorem posTo_cons (x : Int) (l : List Int) : ∀ k, posTo (x :: l) (k + 1) = (if 0 ≤ x then 1 else 0) + posTo l k
  | 0 => by simp [posTo]
  | k + 1 => by
    show posTo (x :: l) (k + 1) + _ = _ + (posTo l k + _)
    rw [posTo_cons x l k, Nat.add_assoc]
    rfl
theorem posTo_all : ∀ l : List Int, posTo l l.length = pos l
  | [] => rfl
  | x :: l => by rw [List.length_cons, posTo_cons, posTo_all l]; rfl
theorem posTo_le (zs : List Int) : ∀ k, posTo zs k ≤ k
  | 0 => Nat.le_refl _
  | k + 1 => by
    have := posTo_le zs k
    unfold posTo
    split <;> omega
theorem posTo_in {zs : List Int} {k : Nat} {x : Int} (h : zs[k]? = some x) (h0 : 0 ≤ x) : posTo zs (k + 1) = posTo zs k + 1 := by
  show posTo zs k + _ = _
  rw [List.getD_eq_getElem?_getD, h, if_pos (show 0 ≤ (some x).getD (-1) from h0)]
theorem posTo_out {zs : List Int} {k : Nat} {x : Int} (h : zs[k]? = some x) (h0 : x < 0) : posTo zs (k + 1) = posTo zs k := by
  show posTo zs k + _ = _
  rw [List.getD_eq_getElem?_getD, h, if_neg (show ¬ 0 ≤ (some x).getD (-1) by show ¬ 0 ≤ x; omega)]
  rfl

/-- No two nonterminals stand side by side. -/
def NoAdj : List Int → Prop
  | [] => True
  | [_] => True
  | x :: y :: l => ¬ (x < 0 ∧ y < 0) ∧ NoAdj (y :: l)

theorem noAdj_count : ∀ l : List Int, NoAdj l → l.length ≤ 2 * pos l + 1 ∧ (∀ x r, l = x :: r → 0 ≤ x → l.length ≤ 2 * pos l)
  | [], _ => ⟨by simp, fun x r h => by cases h⟩
  | [x], _ => ⟨by unfold pos; simp, fun y r h h0 => by cases h; unfold pos; simp [h0]; omega⟩
  | x :: y :: l, h => by
    obtain ⟨h1, h2⟩ := noAdj_count (y :: l) h.2
    have e : pos (x :: y :: l) = (if 0 ≤ x then 1 else 0) + pos (y :: l) := rfl
    rw [List.length_cons]
    by_cases hx : 0 ≤ x
    · rw [if_pos hx] at e
      exact ⟨by omega, fun z r hz hz0 => by omega⟩
    · rw [if_neg hx] at e
      have hy : 0 ≤ y := by
        have := h.1
        omega
      have := h2 y l rfl hy
      exact ⟨by omega, fun z r hz hz0 => by cases hz; omega⟩

theorem bad_false {zs : List Int} {k : Nat} (h : faultsTo zs k = []) : ∀ j, j < k → bad zs j = false := by
  induction k with
  | zero => intro j hj; omega
  | succ k ih =>
    unfold faultsTo at h
    obtain ⟨h1, h2⟩ := List.append_eq_nil_iff.1 h
    intro j hj
    by_cases hjk : j = k
    · subst hjk
      cases hb : bad zs j with
      | false => rfl
      | true => rw [hb] at h2; cases h2
    · exact ih h1 j (by omega)
theorem noAdj_of : ∀ zs : List Int, (∀ j, j < zs.length → bad zs j = false) → NoAdj zs
  | [], _ => trivial
  | [x], _ => trivial
  | x :: y :: l, h => by
    refine ⟨?_, noAdj_of (y :: l) (fun j hj => ?_)⟩
    · have := h 1 (by simp)
      intro hc
      unfold bad at this
      simp at this
      omega
    · match j with
      | 0 => simp [bad]
      | j + 1 =>
        have := h (j + 2) (by simp at hj ⊢; omega)
        unfold bad at this ⊢
        simpa using this

theorem form_rule {r : R} (h : faults r.right = []) : (pos r.right = 0 ↔ renB r = true) ∧ r.right.length - pos r.right ≤ pos r.right + 1 ∧ r.right.length ≠ 0 := by
  obtain ⟨left, zs⟩ := r
  dsimp only at h ⊢
  have h0 : zs.length ≠ 0 := by
    intro h0
    unfold faults at h
    rw [if_pos h0] at h
    cases h
  have h1 : faultsTo zs zs.length = [] := by
    unfold faults at h
    rw [if_neg h0] at h
    exact h
  have hA := noAdj_of zs (bad_false h1)
  obtain ⟨hc, _⟩ := noAdj_count zs hA
  refine ⟨?_, by omega, h0⟩
  match zs, hA, h0 with
  | [], _, h0 => exact absurd rfl h0
  | [x], _, _ =>
    unfold pos renB
    simp [pos]
  | x :: y :: l, hA, _ =>
    have e : pos (x :: y :: l) = (if 0 ≤ x then 1 else 0) + ((if 0 ≤ y then 1 else 0) + pos l) := rfl
    have hne : pos (x :: y :: l) ≠ 0 := by
      have := hA.1
      rw [e]
      split <;> split <;> omega
    constructor
    · intro h; exact absurd h hne
    · intro h; cases h

/-- The first fault, and the first rule with one. -/
theorem first_fault (rs : List R) : ∀ d k, k + d = rs.length → fTo rs k = [] →
    (opRules (rs.drop k) k = (0, none) ∧ fTo rs rs.length = [] ∧ ∀ j r, k ≤ j → rs[j]? = some r → faults r.right = []) ∨ ∃ (i : Nat) (a : Int) (rest : List (Int × Int)), opRules (rs.drop k) k = (4, some i) ∧ fTo rs rs.length = ((i : Int), a) :: rest
  | 0, k, hk, h => .inl ⟨opRules_end (by omega), by rw [← show k = rs.length by omega]; exact h, fun j r hj hr => by have := (List.getElem?_eq_some_iff.1 hr).1; omega⟩
  | d + 1, k, hk, h => by
    obtain ⟨r, hr⟩ : ∃ r, rs[k]? = some r := ⟨rs[k]'(by omega), List.getElem?_eq_getElem (by omega)⟩
    have hd := opRules_drop hr
    have hs := fTo_succ rs k
    rw [rget_of hr, h, List.nil_append] at hs
    by_cases hf : faults r.right = []
    · rw [if_pos hf] at hd
      rw [hf] at hs
      rcases first_fault rs d (k + 1) (by omega) hs with ⟨h1, h2, h3⟩ | ⟨i, a, rest, h1, h2⟩
      · refine .inl ⟨hd.trans h1, h2, fun j r' hj hr' => ?_⟩
        by_cases hjk : j = k
        · subst hjk
          rw [hr] at hr'
          cases hr'
          exact hf
        · exact h3 j r' (by omega) hr'
      · exact .inr ⟨i, a, rest, hd.trans h1, h2⟩
    · rw [if_neg hf] at hd
      obtain ⟨a, l, ha⟩ : ∃ a l, faults r.right = a :: l := by
        cases hq : faults r.right with
        | nil => exact absurd hq hf
        | cons a l => exact ⟨a, l, rfl⟩
      rw [ha, List.map_cons] at hs
      have hpre : ∀ m, ∃ rest, fTo rs (k + 1 + m) = ((k : Int), a) :: rest := by
        intro m
        induction m with
        | zero => exact ⟨_, hs⟩
        | succ m ih =>
          obtain ⟨rest, e⟩ := ih
          exact ⟨_, (fTo_succ rs (k + 1 + m)).trans (by rw [e, List.cons_append])⟩
      obtain ⟨rest, e⟩ := hpre d
      rw [show k + 1 + d = rs.length by omega] at e
      exact .inr ⟨k, a, rest, hd, e⟩

/-- The marks that loops over sequences leave. -/
def marks (Ds : List Nat) : List Deferred := Ds.map (fun D => { target := .collected D, args := #[] })
def OpenAt (w : World) (B : Nat) (Ds : List Nat) : Prop := Ds.Nodup ∧ ∀ D ∈ Ds, B ≤ D ∧ w.heap[D]? = some (.deferred (some []))

theorem OpenAt.below {w w' : World} {B C : Nat} {Ds : List Nat} (h : OpenAt w B Ds) (hb : Below C w w') (hC : w.heap.size ≤ C) : OpenAt w' B Ds :=
  ⟨h.1, fun D hD => ⟨(h.2 D hD).1, (hb.block D (Nat.lt_of_lt_of_le (Array.getElem?_eq_some_iff.1 (h.2 D hD).2).1 hC)).trans (h.2 D hD).2⟩⟩
theorem OpenAt.add {w : World} {B D : Nat} {Ds : List Nat} (h : OpenAt w B Ds) (hB : B ≤ D) (hD : w.heap[D]? = some (.deferred (some []))) (hn : D ∉ Ds) : OpenAt w B (D :: Ds) :=
  ⟨List.nodup_cons.2 ⟨hn, h.1⟩, fun x hx => by
    rcases List.mem_cons.1 hx with rfl | hx
    · exact ⟨hB, hD⟩
    · exact h.2 x hx⟩

theorem leaves_marks {F : Fence} {n : Nat} {P : Program} {fn : Func} {tmps : Array Value} {R : Ending → World → Prop} {B : Nat} : ∀ (Ds : List Nat) (W : World), OpenAt W B Ds → (∀ W', Below B W W' → LeavesInM F n P fn tmps R [] .returning W') → LeavesInM F n P fn tmps R (marks Ds) .returning W
  | [], W, _, h => h W (Below.refl _ _)
  | D :: Ds, W, ho, h => by
    obtain ⟨hB, hD⟩ := ho.2 D List.mem_cons_self
    have hb : Below B W (W.putObj D (.deferred none)) := (Below.refl B W).grown (grownBy_putObj' W D (.deferred none)) (by have := (Array.getElem?_eq_some_iff.1 hD).1; omega) (fun k e => by cases e; exact hB)
    refine ⟨by simp, .inl ⟨D, _, rfl, run_takeDeferred hD, leaves_marks Ds _ ⟨(List.nodup_cons.1 ho.1).2, fun x hx => ?_⟩ (fun W' hW' => h W' (hb.trans hW'))⟩⟩
    obtain ⟨h1, h2⟩ := ho.2 x (List.mem_cons_of_mem _ hx)
    refine ⟨h1, ?_⟩
    have hne : x ≠ D := fun e => (List.nodup_cons.1 ho.1).1 (by rw [← e]; exact hx)
    exact (World.putObj_heap_other (by first | exact hne | exact hne.symm)).trans h2

end Go.Proofs.YtkjmmoiickambaaDoor.OpForm
