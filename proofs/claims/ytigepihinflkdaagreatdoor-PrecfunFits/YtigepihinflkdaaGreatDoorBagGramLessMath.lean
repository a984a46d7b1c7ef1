/-
  Texts that stand together: GramLessMath, GramLentR, GramKept.
-/
import Derived.Test.YtigepihinflkdaaGreatDoorBGramBase
import Derived.Laws.AppendOwnNone
import Derived.Laws.OwnMore
import Derived.Deep.RegionLaw
import Derived.Deep.Slices
import Derived.Deep.RegionHeld3
import Derived.Maps.AppendAt
import Derived.Test.YtigepihinflkdaaGreatDoorBagGramEq
import Derived.Deep.AppendLies
import Derived.Deep.DeepCutAuto
namespace Go.Proofs.YtigepihinflkdaaGreatDoor.GramLess
open Go.RowKit Go.Proofs.YtigepihinflkdaaGreatDoor.GramMath Go.Proofs.YtigepihinflkdaaGreatDoor.GramRow
set_option linter.unusedVariables false

def withR (g : G) (rs : List R) : G := ⟨g.ts, g.ns, g.ax, rs⟩

/-- A rule and where its right side lies. -/
structure Q where
  r : R
  a : Option Addr
  c : Nat

def qv (x : Q) : List Value := [.int .i64 x.r.left, .slice x.a x.r.right.length x.c]
def cellsQ (l : List Q) : List Value := l.flatMap qv

/-- Rules in a row, with the places of their right sides. -/
def QRow (w : World) (a : Option Addr) (l : List Q) : Prop := ∀ i x, l[i]? = some x → ∃ b off, a = some ⟨b, off, none⟩ ∧ w.cell? ⟨b, off + i * 2, none⟩ = some (.int .i64 x.r.left) ∧ w.cell? ⟨b, off + i * 2 + 1, none⟩ = some (.slice x.a x.r.right.length x.c)

theorem QRow.below {w w' : World} {a : Option Addr} {l : List Q} {B : Nat} (h : QRow w a l) (hb : Below B w w') (hB : w.heap.size ≤ B) : QRow w' a l := fun i x hx => by
  obtain ⟨b, off, ha, h1, h2⟩ := h i x hx
  exact ⟨b, off, ha, by rw [hb.cell (Nat.lt_of_lt_of_le (cell_lt h1) hB)]; exact h1, by rw [hb.cell (Nat.lt_of_lt_of_le (cell_lt h2) hB)]; exact h2⟩

theorem rrow_of {w : World} {a : Option Addr} {l : List Q} (h : QRow w a l) (hi : ∀ x ∈ l, IRow w x.a x.r.right) : RRow w a (l.map (·.r)) := fun i r hr => by
  rw [List.getElem?_map] at hr
  cases hx : l[i]? with
  | none => rw [hx] at hr; cases hr
  | some x =>
    rw [hx] at hr
    obtain rfl : x.r = r := by simpa using hr
    obtain ⟨b, off, ha, h1, h2⟩ := h i x hx
    exact ⟨b, off, x.a, x.c, ha, h1, h2, hi x (List.mem_of_getElem? hx)⟩

end Go.Proofs.YtigepihinflkdaaGreatDoor.GramLess

namespace Go.Proofs.YtigepihinflkdaaGreatDoor.GramLent
open Go.RowKit Go.Proofs.YtigepihinflkdaaGreatDoor.GramMath Go.Proofs.YtigepihinflkdaaGreatDoor.GramRow Go.Proofs.YtigepihinflkdaaGreatDoor.GramSame Go.Proofs.YtigepihinflkdaaGreatDoor.GramLess
set_option linter.unusedVariables false

/-- Rules in a row; a right side that is no list has no place behind it. -/
def RRowN (w : World) (a : Option Addr) (rs : List R) : Prop :=
  ∀ i r, rs[i]? = some r → ∃ b off ra rc, a = some ⟨b, off, none⟩ ∧ w.cell? ⟨b, off + i * 2, none⟩ = some (.int .i64 r.left) ∧ w.cell? ⟨b, off + i * 2 + 1, none⟩ = some (.slice ra r.right.length rc) ∧ IRow w ra r.right ∧ (ra = none → r.right.length = 0 ∧ rc = 0)

theorem RRowN.below {w w' : World} {a : Option Addr} {rs : List R} {B : Nat} (h : RRowN w a rs) (hb : Below B w w') (hB : w.heap.size ≤ B) : RRowN w' a rs := fun i x hx => by
  obtain ⟨b, off, ra, rc, ha, h1, h2, h3, h4⟩ := h i x hx
  exact ⟨b, off, ra, rc, ha, by rw [hb.cell (Nat.lt_of_lt_of_le (cell_lt h1) hB)]; exact h1, by rw [hb.cell (Nat.lt_of_lt_of_le (cell_lt h2) hB)]; exact h2, h3.below hb hB, h4⟩

/-- A rule whose right side is a lent list that lies elsewhere than a value. -/
def LentAt (B : Nat) (w : World) (u : Value) (x : Q) : Prop := ∃ b, x.a = some ⟨b, 0, none⟩ ∧ B ≤ b ∧ u.ownBlock ≠ some b ∧ x.r.right.length < x.c ∧ IRow w x.a (x.r.right ++ [-7171])

theorem LentAt.below {w w' : World} {u : Value} {x : Q} {B C : Nat} (h : LentAt C w u x) (hb : Below B w w') (hB : w.heap.size ≤ B) : LentAt C w' u x := by
  obtain ⟨b, h1, h0, h2, h3, h4⟩ := h
  exact ⟨b, h1, h0, h2, h3, h4.below hb hB⟩

theorem cells_new (w : World) (C : Array Value) (t : TypeId) : ∀ j u, C.toList[j]? = some u → (w.alloc (.cells C t)).cell? ((⟨w.heap.size, 0, none⟩ : Addr).add j) = some u := by
  intro j u hj
  have h := World.cell?_alloc_mark w C t (0, 0) j
  rw [Addr.add_lit, Nat.zero_add]
  rw [show (w.alloc (.cells C t)).cell? ⟨w.heap.size, j, none⟩ = C[j]? from h]
  simpa using hj

theorem own_below {w w' : World} {base : Nat} {e : TypeId} {size n : Nat} {v : Value} {xs : List Value} (h : w.ownsRow base e size v n xs) (hb : Below w.heap.size w w') : w'.ownsRow base e size v n xs := by
  obtain ⟨h1, h | ⟨g, cap, cur, hv, hbb, hg, rest⟩⟩ := h
  · exact ⟨h1, .inl h⟩
  · exact ⟨h1, .inr ⟨g, cap, cur, hv, hbb, (hb.block g (Array.getElem?_eq_some_iff.1 hg).1).trans hg, rest⟩⟩

end Go.Proofs.YtigepihinflkdaaGreatDoor.GramLent

namespace Go.Proofs.YtigepihinflkdaaGreatDoor.GramLent
open Go.RowKit Go.Proofs.YtigepihinflkdaaGreatDoor.GramMath Go.Proofs.YtigepihinflkdaaGreatDoor.GramRow Go.Proofs.YtigepihinflkdaaGreatDoor.GramSame Go.Proofs.YtigepihinflkdaaGreatDoor.GramLess
set_option linter.unusedVariables false

end Go.Proofs.YtigepihinflkdaaGreatDoor.GramLent
