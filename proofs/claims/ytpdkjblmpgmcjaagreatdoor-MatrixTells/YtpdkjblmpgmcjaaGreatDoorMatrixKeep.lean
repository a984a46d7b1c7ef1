/-
  The search for the first place of a relation.
-/
import Derived.Test.YtpdkjblmpgmcjaaGreatDoorMatrixRelate
import Derived.Deep.RegionHeld3
namespace Go.Proofs.YtpdkjblmpgmcjaaGreatDoor.MatrixKeep
open Go.RowKit Go.Proofs.YtpdkjblmpgmcjaaGreatDoor.GramMath Go.Proofs.YtpdkjblmpgmcjaaGreatDoor.GramRow Go.Proofs.YtpdkjblmpgmcjaaGreatDoor.GramApart Go.Proofs.YtpdkjblmpgmcjaaGreatDoor.MatrixMath Go.Proofs.YtpdkjblmpgmcjaaGreatDoor.MatrixTell
set_option linter.unusedVariables false
set_option linter.unusedSimpArgs false

def hitF (x a b : Int) (f : Fnd) : Bool := f.rel == x && f.a == a && f.b == b
def firstF (x a b : Int) (L : List Fnd) : Option Fnd := L.find? (hitF x a b)
def srchC (x a b : Int) : Option Fnd → Array Value
  | none => #[.int .i64 a, .int .i64 b, .int .i64 x, .bool false, .int .i64 0, .int .i64 0, .int .i64 0]
  | some f => #[.int .i64 a, .int .i64 b, .int .i64 x, .bool true, .int .i64 f.p.rule, .int .i64 f.p.at_, .int .i64 f.p.non]
def KeepJ (x a b : Int) (pre : List Fnd) (cur : Array Value) : Prop := cur = srchC x a b (firstF x a b pre)

theorem first_some {x a b : Int} {pre : List Fnd} {f0 f : Fnd} (h : firstF x a b pre = some f0) : firstF x a b (pre ++ [f]) = some f0 := by
  unfold firstF at *
  rw [List.find?_append, h]
  rfl
theorem first_hit {x a b : Int} {pre : List Fnd} {f : Fnd} (h : firstF x a b pre = none) (hf : hitF x a b f = true) : firstF x a b (pre ++ [f]) = some f := by
  unfold firstF at *
  rw [List.find?_append, h]
  simp [hf]
theorem first_miss {x a b : Int} {pre : List Fnd} {f : Fnd} (h : firstF x a b pre = none) (hf : hitF x a b f = false) : firstF x a b (pre ++ [f]) = none := by
  unfold firstF at *
  rw [List.find?_append, h]
  simp [hf]

end Go.Proofs.YtpdkjblmpgmcjaaGreatDoor.MatrixKeep
