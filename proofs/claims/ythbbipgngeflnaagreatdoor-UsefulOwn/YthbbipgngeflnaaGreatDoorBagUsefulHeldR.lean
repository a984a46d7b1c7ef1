/-
  Texts that stand together: UsefulHeldR, UsefulOpen.
-/
import Derived.Test.YthbbipgngeflnaaGreatDoorBUsefulEach
import Derived.Deep.RegionHeld3
import Derived.Test.YthbbipgngeflnaaGreatDoorBGramBase
import Derived.Test.YthbbipgngeflnaaGreatDoorBagUsefulRMath
namespace Go.Proofs.YthbbipgngeflnaaGreatDoor.UsefulRound
open Go.RowKit
set_option linter.unusedVariables false

variable {n : Nat} {P : Program} {ops : Array Oper} {Q : Exit → Act → World → Prop} {md : Region.Mode} {l : Nat}

theorem upon_wide {o : Oper} {a : Act} {K : Act → World → Prop} {r : Result Next} (h : o.upon P a K Q r) : o.uponIn Fence.wide n P a K Q r := by
  cases r with
  | ok x w' =>
    cases x with
    | enter f args => exact ⟨(fun h => by cases h), callsIn_wide.2 h⟩
    | row s args => exact ⟨(fun h => by cases h), fun c cs _ => let ⟨v, w9, r, s⟩ := h c cs; ⟨v, w9, r, stepsIn_wide.2 s⟩⟩
    | round l f t a b => exact (h : False).elim
    | _ => exact h
  | halt x w' => cases x <;> exact h

theorem op_wide (hQ : ¬ LetsOut Q) {i : Nat} {K : Act → World → Prop} {a : Act} {w : World} (h : wpOp P ops Q i K a w) : wpOpIn Fence.wide n P ops Q i K a w := by
  unfold wpOp at h
  unfold wpOpIn
  cases ho : ops[i]? with
  | none => simp only [ho] at h ⊢; exact h
  | some o =>
    simp only [ho] at h ⊢
    split
    · rename_i hw
      simp only [hw, if_true] at h
      rcases h with h | h
      · exact ⟨fun _ _ => trivial, upon_wide h⟩
      · exact (hQ h.2).elim
    · rename_i hw
      simp only [hw] at h
      exact ⟨fun _ _ => trivial, h⟩

theorem any_wide (hQ : ¬ LetsOut Q) : ∀ (fuel : Nat) (listed : Array Bool) (a : Act) (w : World), wpAny P md ops Q fuel listed a w → wpAnyIn Fence.wide n P md ops Q fuel listed a w
  | 0, _, _, _, h => h
  | fuel + 1, listed, a, w, h => ⟨h.1, fun i hi => wpOpIn_mono (fun a' w' h' => any_wide hQ fuel _ a' w' h') (op_wide hQ (h.2 i hi))⟩

theorem region_held_round {S : World → Prop} {id : Nat} {a : Act} {w : World} {os : List Oper} (hQ : ¬ LetsOut Q) (hm : P.follows .mixedOrders = true) (hd : noDefer os = true) (hS : S w.drew)
    (h : S w.drew → wpAnyH P .any os.toArray Q S os.toArray.size (Array.replicate os.toArray.size false) a w.drew) : (Code.region id os.toArray true).wpIn (Fence.wide.inRound l) n P Q a w := by
  refine wpIn_region_any hm (any_round (fun i o ho => noDefer_spec hd o (by
    have := Array.mem_of_getElem? ho
    simpa using this)) rfl _ _ _ _ (any_wide hQ _ _ _ _ (wpAny_of_held _ _ _ _ (h hS))))

end Go.Proofs.YthbbipgngeflnaaGreatDoor.UsefulRound

namespace Go.Proofs.YthbbipgngeflnaaGreatDoor.UsefulTop
open Go.RowKit Go.Proofs.YthbbipgngeflnaaGreatDoor.GramMath Go.Proofs.YthbbipgngeflnaaGreatDoor.GramRow Go.Proofs.YthbbipgngeflnaaGreatDoor.GramApart

theorem rowNew (w : World) (c : Array Value) (t : TypeId) : RowAt (w.alloc (.cells c t)) w.heap.size t c := heap_new _ _

end Go.Proofs.YthbbipgngeflnaaGreatDoor.UsefulTop
