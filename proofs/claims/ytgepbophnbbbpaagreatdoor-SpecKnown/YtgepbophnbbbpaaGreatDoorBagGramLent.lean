/-
  Texts that stand together: GramLent, GramLessMath.
-/
import Derived.Test.YtgepbophnbbbpaaGreatDoorBGramEq
import Derived.Laws.AppendOwnNone
import Derived.WalkSpells
import Derived.Maps.AppendAt
import Derived.RangeFuncBox
import Derived.Test.YtgepbophnbbbpaaGreatDoorBagGramBase
import Derived.Laws.OwnMore
import Derived.Deep.RegionLaw
import Derived.Deep.Slices
import Derived.Deep.RegionHeld3
namespace Go.Proofs.YtgepbophnbbbpaaGreatDoor.GramLent
open Go.RowKit Go.Proofs.YtgepbophnbbbpaaGreatDoor.GramMath Go.Proofs.YtgepbophnbbbpaaGreatDoor.GramRow Go.Proofs.YtgepbophnbbbpaaGreatDoor.GramSame
set_option linter.unusedVariables false

def markS : ByteArray := ByteArray.mk #[109, 97, 114, 107]

theorem infoI : (Tryz.prog.info? 3).map (fun i => (i.zero, i.size, i.bytes)) = some (some (.int .i64 0), 1, 8) := by kernel_rfl

theorem infoS : (Tryz.prog.info? 9).map (fun i => (i.zero, i.size, i.bytes)) = some (some (.string ByteArray.empty), 1, 16) := by kernel_rfl

theorem row_frontI {w : World} {a : Option Addr} {zs ys : List Int} (h : IRow w a (zs ++ ys)) : IRow w a zs := fun i x hx => h i x (by
  have hi : i < zs.length := by
    rcases Nat.lt_or_ge i zs.length with h | h
    · exact h
    · rw [List.getElem?_eq_none h] at hx; cases hx
  rw [List.getElem?_append_left hi]; exact hx)

theorem row_markI {w : World} {g : Nat} {zs : List Int} {x : Int} (h : IRow w (some ⟨g, 0, none⟩) (zs ++ [x])) : w.cell? ⟨g, zs.length, none⟩ = some (.int .i64 x) := by
  obtain ⟨b, off, ha, hc⟩ := h zs.length x (by simp)
  simp only [Option.some.injEq, Addr.mk.injEq] at ha
  obtain ⟨rfl, rfl, _⟩ := ha
  simpa using hc

theorem row_frontS {w : World} {a : Option Addr} {zs ys : List ByteArray} (h : SRow w a (zs ++ ys)) : SRow w a zs := fun i x hx => h i x (by
  have hi : i < zs.length := by
    rcases Nat.lt_or_ge i zs.length with h | h
    · exact h
    · rw [List.getElem?_eq_none h] at hx; cases hx
  rw [List.getElem?_append_left hi]; exact hx)

end Go.Proofs.YtgepbophnbbbpaaGreatDoor.GramLent

namespace Go.Proofs.YtgepbophnbbbpaaGreatDoor.GramLess
open Go.RowKit Go.Proofs.YtgepbophnbbbpaaGreatDoor.GramMath Go.Proofs.YtgepbophnbbbpaaGreatDoor.GramRow
set_option linter.unusedVariables false

def withR (g : G) (rs : List R) : G := ⟨g.ts, g.ns, g.ax, rs⟩

/-- A rule and where its right side lies. -/
structure Q where
  r : R
  a : Option Addr
  c : Nat

def qv (x : Q) : List Value := [.int .i64 x.r.left, .slice x.a x.r.right.length x.c]
def cellsQ (l : List Q) : List Value := l.flatMap qv

theorem cellsQ_app (l m : List Q) : cellsQ (l ++ m) = cellsQ l ++ cellsQ m := by simp [cellsQ]

theorem cellsQ_get : ∀ (l : List Q) (i : Nat) (x : Q), l[i]? = some x → (cellsQ l)[i * 2]? = some (.int .i64 x.r.left) ∧ (cellsQ l)[i * 2 + 1]? = some (.slice x.a x.r.right.length x.c)
  | [], i, x, h => by simp at h
  | y :: r, 0, x, h => by
    obtain rfl : y = x := by simpa using h
    exact ⟨rfl, rfl⟩
  | y :: r, i + 1, x, h => by
    have ih := cellsQ_get r i x (by simpa using h)
    have e : cellsQ (y :: r) = qv y ++ cellsQ r := rfl
    rw [e, show (i + 1) * 2 = (qv y).length + i * 2 from by simp [qv]; omega]
    refine ⟨?_, ?_⟩
    · rw [List.getElem?_append_right (by omega), Nat.add_sub_cancel_left]; exact ih.1
    · rw [Nat.add_assoc, List.getElem?_append_right (by omega), Nat.add_sub_cancel_left]; exact ih.2

/-- Rules in a row, with the places of their right sides. -/
def QRow (w : World) (a : Option Addr) (l : List Q) : Prop := ∀ i x, l[i]? = some x → ∃ b off, a = some ⟨b, off, none⟩ ∧ w.cell? ⟨b, off + i * 2, none⟩ = some (.int .i64 x.r.left) ∧ w.cell? ⟨b, off + i * 2 + 1, none⟩ = some (.slice x.a x.r.right.length x.c)

theorem QRow.below {w w' : World} {a : Option Addr} {l : List Q} {B : Nat} (h : QRow w a l) (hb : Below B w w') (hB : w.heap.size ≤ B) : QRow w' a l := fun i x hx => by
  obtain ⟨b, off, ha, h1, h2⟩ := h i x hx
  exact ⟨b, off, ha, by rw [hb.cell (Nat.lt_of_lt_of_le (cell_lt h1) hB)]; exact h1, by rw [hb.cell (Nat.lt_of_lt_of_le (cell_lt h2) hB)]; exact h2⟩

theorem rrow_of {w : World} {a : Option Addr} {l : List Q} (h : QRow w a l) (hi : ∀ x ∈ l, IRow w x.a x.r.right) : RRow w a (l.map (·.r)) := fun i r hr => by
  rw [List.getElem?_map] at hr
  cases hx : l[i]? with
  | none => rw [hx] at hr; cases hr
  | some x =>
    rw [hx] at hr
    obtain rfl : x.r = r := by simpa using hr
    obtain ⟨b, off, ha, h1, h2⟩ := h i x hx
    exact ⟨b, off, x.a, x.c, ha, h1, h2, hi x (List.mem_of_getElem? hx)⟩

end Go.Proofs.YtgepbophnbbbpaaGreatDoor.GramLess
