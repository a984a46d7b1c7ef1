/-
  The document's Reach.
-/
import Derived.Test.YtgllcbajgndldaaDoorGraphRef
namespace Go.Proofs.YtgllcbajgndldaaDoor.GraphRef
open Go.RowKit Go.Proofs.YtgllcbajgndldaaDoor.GramMath Go.Proofs.YtgllcbajgndldaaDoor.GramRow Go.Proofs.YtgllcbajgndldaaDoor.GramApart Go.Proofs.YtgllcbajgndldaaDoor.GramLent Go.Proofs.YtgllcbajgndldaaDoor.OpRow Go.Proofs.YtgllcbajgndldaaDoor.GraphNet Go.Proofs.YtgllcbajgndldaaDoor.GraphMath Go.Proofs.YtgllcbajgndldaaDoor.GraphFn Go.Proofs.YtgllcbajgndldaaDoor.GraphSort Go.Proofs.YtgllcbajgndldaaDoor.UsefulRef Go.Proofs.YtgllcbajgndldaaDoor.EndsMath
set_option linter.unusedVariables false
set_option linter.unusedSimpArgs false

theorem made_bools (n : Nat) (hn : n ≤ 256) (w : World) : (Instr.makeSlice 55 (.int .i64 (n : Int)) (.int .i64 (n : Int))).run Tryd.prog w = .ok (.slice (some ⟨w.heap.size, 0, none⟩) n n) (w.alloc (.cells (madeCells #[.bool false] n) 4)) := by
  obtain ⟨i0, hi, hz0, hz1, hz2⟩ := info_parts infoBool
  have h := run_makeSlice (P := Tryd.prog) w 55 4 i0 (.bool false) Tryd.underlying55 hi hz0 .i64 .i64 (n : Int) (n : Int) (by omega) (by omega) (by rw [hz1]; omega) (by rw [hz2]; omega) (by omega)
  rw [hz1] at h
  simpa [Value.cells] using h

def cellB (w : World) (b i : Nat) : Bool := match w.cell? ⟨b, i, none⟩ with
  | some (.bool x) => x
  | _ => false
theorem cnt_row {w : World} {SB n : Nat} {S : Nat → Bool} (h : BRow w SB n S) : cnt n (cellB w SB) = cnt n S := by
  unfold cnt
  congr 1
  apply List.filter_congr
  intro i hi
  unfold cellB
  rw [(h i (List.mem_range.1 hi)).1]
def isT : Value → Nat
  | .bool true => 1
  | _ => 0

/-- Marks of nodes: all of some are marked, and all that are marked are reached. -/
structure Mk (m : Nat) (E : List (Nat × Nat)) (xs : List Nat) (S : Nat → Bool) : Prop where
  from_ : ∀ x ∈ xs, S x = true
  sub : ∀ y, y < m → S y = true → ∃ x ∈ xs, GraphMath.Way E x y

theorem Mk.upd {m : Nat} {E : List (Nat × Nat)} {xs : List Nat} {S : Nat → Bool} (h : Mk m E xs S) {a b : Nat} (ha : a < m) (hS : S a = true) (he : (a, b) ∈ E) : Mk m E xs (updB S b) := by
  refine ⟨fun x hx => ?_, fun y hy hS2 => ?_⟩
  · by_cases e : x = b
    · subst e; exact updB_at ..
    · rw [updB_ne _ e]; exact h.from_ x hx
  · by_cases e : y = b
    · subst e
      obtain ⟨x, hx, hw⟩ := h.sub a ha hS
      exact ⟨x, hx, hw.more he⟩
    · rw [updB_ne _ e] at hS2; exact h.sub y hy hS2

theorem Mk.done {m : Nat} {E : List (Nat × Nat)} {xs : List Nat} {S : Nat → Bool} (h : Mk m E xs S) (hE : ∀ e ∈ E, e.1 < m ∧ e.2 < m) (hx : ∀ x ∈ xs, x < m) (hc : ∀ e ∈ E, S e.1 = true → S e.2 = true) : (List.range m).filter S = reach m E xs := by
  unfold reach
  apply List.filter_congr
  intro y hy
  have hy2 := List.mem_range.1 hy
  have hm := (tour_facts hE xs hx).2 y
  have hall : ∀ x y, GraphMath.Way E x y → S x = true → S y = true := fun x y hw => by
    induction hw with
    | none => exact id
    | more _ he ih => exact fun h => hc _ he (ih h)
  cases hS : S y with
  | true => exact (decide_eq_true (hm.2 (h.sub y hy2 hS))).symm
  | false =>
    refine (decide_eq_false (fun hin => ?_)).symm
    obtain ⟨x, hx, hw⟩ := hm.1 hin
    rw [hall x y hw (h.from_ x hx)] at hS
    cases hS

/-- What is known behind a round over all edges. -/
def In2 (m : Nat) (E : List (Nat × Nat)) (xs : List Nat) (sb : Nat) (b : Bool) (wr : World) : Prop := ∃ S, BRow wr sb m S ∧ Mk m E xs S ∧ (b = false → ∀ e ∈ E, S e.1 = true → S e.2 = true)
/-- What is known within a round. -/
def In3 (m : Nat) (E : List (Nat × Nat)) (xs : List Nat) (sb : Nat) (S0 : Nat → Bool) (k : Nat) (b : Bool) (wr : World) : Prop := ∃ S, BRow wr sb m S ∧ Mk m E xs S ∧ (b = false → ∀ j e, j < k → E[j]? = some e → S e.1 = true → S e.2 = true) ∧ cnt m S0 + isT (.bool b) ≤ cnt m S

theorem filter_snoc (S : Nat → Bool) (k : Nat) : (List.range (k + 1)).filter S = (List.range k).filter S ++ (if S k = true then [k] else []) := by
  rw [List.range_succ, List.filter_append]
  cases h : S k <;> simp [h]

end Go.Proofs.YtgllcbajgndldaaDoor.GraphRef
