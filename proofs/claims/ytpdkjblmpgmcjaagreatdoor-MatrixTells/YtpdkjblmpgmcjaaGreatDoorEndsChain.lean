/-
  Chain, whole: for every grammar, every nonterminal, every terminal, both sides.
-/
import Derived.Test.YtpdkjblmpgmcjaaGreatDoorEndsSearch
import Derived.Test.YtpdkjblmpgmcjaaGreatDoorEndsOfs
import Derived.Test.YtpdkjblmpgmcjaaGreatDoorGramErrs
namespace Go.Proofs.YtpdkjblmpgmcjaaGreatDoor.EndsChain
open Go.RowKit Go.Proofs.YtpdkjblmpgmcjaaGreatDoor.GramMath Go.Proofs.YtpdkjblmpgmcjaaGreatDoor.GramRow Go.Proofs.YtpdkjblmpgmcjaaGreatDoor.GramCheck Go.Proofs.YtpdkjblmpgmcjaaGreatDoor.GramErrs Go.Proofs.YtpdkjblmpgmcjaaGreatDoor.EndsMath Go.Proofs.YtpdkjblmpgmcjaaGreatDoor.EndsFn Go.Proofs.YtpdkjblmpgmcjaaGreatDoor.EndsSearch
set_option linter.unusedVariables false

/-- A nonterminal and a terminal of a grammar. -/
def InG (g : G) (n t : Int) : Prop := 0 ≤ n ∧ n < g.ns.length ∧ 0 ≤ t ∧ t < g.ts.length

/-- What Chain finds, and what is wrong. -/
def ChainR (g : G) (n t : Int) (b : Bool) (z : Nat × Option Nat) (o : Option (List Int)) : Prop :=
  ((checkG g).1 ≠ 0 ∧ z = checkG g ∧ o = none) ∨ ((checkG g).1 = 0 ∧ ¬ InG g n t ∧ z = (1, none) ∧ o = none) ∨
  ((checkG g).1 = 0 ∧ InG g n t ∧ FoundE b g.rs n.toNat t.toNat o ∧ z = ((if o.isSome = true then 0 else 15), none))

theorem ChainR.det {g : G} {n t : Int} {b : Bool} {z z' : Nat × Option Nat} {o o' : Option (List Int)} (h : ChainR g n t b z o) (h' : ChainR g n t b z' o') : z = z' ∧ o = o' := by
  rcases h with ⟨a1, rfl, rfl⟩ | ⟨a1, a2, rfl, rfl⟩ | ⟨a1, a2, a3, rfl⟩
  · rcases h' with ⟨b1, rfl, rfl⟩ | ⟨b1, b2, rfl, rfl⟩ | ⟨b1, b2, b3, rfl⟩
    · exact ⟨rfl, rfl⟩
    · exact absurd b1 a1
    · exact absurd b1 a1
  · rcases h' with ⟨b1, rfl, rfl⟩ | ⟨b1, b2, rfl, rfl⟩ | ⟨b1, b2, b3, rfl⟩
    · exact absurd a1 b1
    · exact ⟨rfl, rfl⟩
    · exact absurd b2 a2
  · rcases h' with ⟨b1, rfl, rfl⟩ | ⟨b1, b2, rfl, rfl⟩ | ⟨b1, b2, b3, rfl⟩
    · exact absurd a1 b1
    · exact absurd a2 b2
    · obtain rfl := a3.det b3
      exact ⟨rfl, rfl⟩

theorem chv_len {base : Nat} {w : World} {v : Value} {o : Option (List Int)} (h : ChV base w v o) : ∃ a l c, v = .slice a l c ∧ (∀ x, o = some x → l = x.length) ∧ (o = none → a = none ∧ l = 0 ∧ c = 0) := by
  match o, h with
  | none, h => exact ⟨none, 0, 0, h, fun x hx => (by cases hx), fun _ => ⟨rfl, rfl, rfl⟩⟩
  | some x, ⟨g, cap, h, _⟩ => exact ⟨_, _, _, h, fun y hy => (by cases hy; rfl), fun h => by cases h⟩

/-- A chain has a rule at least. -/
theorem found_pos {b : Bool} {t : Nat} {rs : List R} {ring : List Wy} {S : Nat → Bool} {o : Option (List Int)} (h : Search b t rs ring S o) : ∀ c, o = some c → 0 < c.length := by
  induction h with
  | none S => intro c hc; cases hc
  | hit hh =>
    intro c hc
    cases hc
    rename_i ring S c'
    revert hh
    generalize ring = ys
    induction ys with
    | nil => intro hh; cases hh
    | cons y ys ih =>
      intro hh
      unfold hitW at hh
      cases hy : hitR b t y.rules y.to 0 rs with
      | none => rw [hy] at hh; exact ih hh
      | some d =>
        rw [hy] at hh
        cases hh
        have := EndsWays.hitR_len hy
        omega
  | step _ _ _ ih => exact ih

end Go.Proofs.YtpdkjblmpgmcjaaGreatDoor.EndsChain
