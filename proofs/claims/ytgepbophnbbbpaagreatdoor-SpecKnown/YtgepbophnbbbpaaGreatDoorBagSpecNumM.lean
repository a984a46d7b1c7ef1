/-
  Texts that stand together: SpecNumM, SpecPlM.
-/
import Derived.Test.YtgepbophnbbbpaaGreatDoorBSpecTextM
import Derived.Test.YtgepbophnbbbpaaGreatDoorBWordsMath2
namespace Go.Proofs.YtgepbophnbbbpaaGreatDoor.SpecNm
open Go.Proofs.YtgepbophnbbbpaaGreatDoor.GramMath Go.Proofs.YtgepbophnbbbpaaGreatDoor.GramOne Go.Proofs.YtgepbophnbbbpaaGreatDoor.LineRead Go.Proofs.YtgepbophnbbbpaaGreatDoor.LineMath Go.Proofs.YtgepbophnbbbpaaGreatDoor.SpecLn Go.Proofs.YtgepbophnbbbpaaGreatDoor.SpecMd Go.Proofs.YtgepbophnbbbpaaGreatDoor.SpecTx
set_option linter.unusedVariables false
set_option linter.unusedSimpArgs false

/-! What the document asks of a right side's symbols, and of rules, one after another. -/
/-- The terminals after a right side, if they come in order. -/
def termsGo : List Int → Nat → Option Nat
  | [], t => some t
  | x :: r, t => if (t : Int) < x then none else termsGo r (if x = (t : Int) then t + 1 else t)
/-- Nonterminals and terminals after rules, if they come in order. -/
def rulesGo : List R → Nat → Nat → Option (Nat × Nat)
  | [], n, t => some (n, t)
  | r :: l, n, t => if (n : Int) < r.left then none else match termsGo r.right t with
    | none => none
    | some t' => rulesGo l (if r.left = (n : Int) then n + 1 else n) t'
end Go.Proofs.YtgepbophnbbbpaaGreatDoor.SpecNm

namespace Go.Proofs.YtgepbophnbbbpaaGreatDoor.SpecPl
open Go.Proofs.YtgepbophnbbbpaaGreatDoor.GramMath Go.Proofs.YtgepbophnbbbpaaGreatDoor.GramOne Go.Proofs.YtgepbophnbbbpaaGreatDoor.LineRead Go.Proofs.YtgepbophnbbbpaaGreatDoor.LineMath Go.Proofs.YtgepbophnbbbpaaGreatDoor.SpecLn Go.Proofs.YtgepbophnbbbpaaGreatDoor.SpecMd Go.Proofs.YtgepbophnbbbpaaGreatDoor.SpecTx
set_option linter.unusedVariables false
set_option linter.unusedSimpArgs false

/-- Places that rise, none past m. -/
def Rise (out : List Sd) (m : Nat) : Prop := out.Pairwise (fun a b => a.at_ < b.at_) ∧ ∀ s ∈ out, s.at_ ≤ m
theorem Rise.mono {out : List Sd} {m n : Nat} (h : Rise out m) (hn : m ≤ n) : Rise out n := ⟨h.1, fun s hs => Nat.le_trans (h.2 s hs) hn⟩
theorem Rise.snoc {out : List Sd} {m : Nat} (h : Rise out m) (s : Sd) (hs : m < s.at_) : Rise (out ++ [s]) s.at_ := by
  refine ⟨List.pairwise_append.2 ⟨h.1, List.pairwise_singleton _ _, fun a ha b hb => ?_⟩, fun a ha => ?_⟩
  · simp at hb
    rw [hb]
    exact Nat.lt_of_le_of_lt (h.2 a ha) hs
  · rcases List.mem_append.1 ha with ha | ha
    · exact Nat.le_trans (h.2 a ha) (Nat.le_of_lt hs)
    · simp at ha
      rw [ha]
      exact Nat.le_refl _
theorem Rise.push {out : List Sd} {m : Nat} (h : Rise out m) (w : Wd) (hw : m ≤ w.place) : Rise (push 0 out w) w.place := by
  unfold SpecLn.push
  cases hg : out.getLast? with
  | none => exact h.mono hw
  | some s =>
    have hne : out ≠ [] := by intro e; rw [e] at hg; cases hg
    obtain ⟨l, rfl⟩ : ∃ l, out = l ++ [s] := by
      obtain ⟨l, x, rfl⟩ : ∃ l x, out = l ++ [x] := ⟨out.dropLast, out.getLast hne, (List.dropLast_concat_getLast hne).symm⟩
      rw [List.getLast?_append] at hg
      simp at hg
      exact ⟨l, by rw [hg]⟩
    rw [List.dropLast_concat]
    obtain ⟨h1, h2⟩ := h
    rw [List.pairwise_append] at h1
    have hsm := h2 s (by simp)
    refine ⟨List.pairwise_append.2 ⟨h1.1, List.pairwise_singleton _ _, fun a ha b hb => ?_⟩, fun a ha => ?_⟩
    · simp at hb
      have := h1.2.2 a ha s (by simp)
      rw [hb]
      simp only
      split <;> omega
    · rcases List.mem_append.1 ha with ha | ha
      · exact Nat.le_trans (h2 a (List.mem_append.2 (.inl ha))) hw
      · simp at ha
        rw [ha]
        simp only
        split <;> omega
/-- How long lines are, with their ends. -/
def total : List (List UInt8) → Nat
  | [] => 0
  | l :: ls => l.length + 1 + total ls
end Go.Proofs.YtgepbophnbbbpaaGreatDoor.SpecPl
