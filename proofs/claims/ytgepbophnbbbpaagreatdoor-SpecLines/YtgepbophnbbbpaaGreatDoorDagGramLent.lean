/-
  Texts that stand together: GramLent, GramLessMath, GramLentR, GramKept, GramLentG, GramOpens.
-/
import Derived.Test.YtgepbophnbbbpaaGreatDoorDGramEq
import Derived.Laws.AppendOwnNone
import Derived.WalkSpells
import Derived.Maps.AppendAt
import Derived.RangeFuncBox
import Derived.Test.YtgepbophnbbbpaaGreatDoorDGramBase
import Derived.Laws.OwnMore
import Derived.Deep.RegionLaw
import Derived.Deep.Slices
import Derived.Deep.RegionHeld3
import Derived.Deep.AppendLies
import Derived.Deep.DeepCutAuto
import Derived.Handy
import Derived.SliceStrings
import Derived.Lib.SmallJoins
import Derived.SizedLaws
namespace Go.Proofs.YtgepbophnbbbpaaGreatDoor.GramLent
open Go.RowKit Go.Proofs.YtgepbophnbbbpaaGreatDoor.GramMath Go.Proofs.YtgepbophnbbbpaaGreatDoor.GramRow Go.Proofs.YtgepbophnbbbpaaGreatDoor.GramSame
set_option linter.unusedVariables false

def markS : ByteArray := ByteArray.mk #[109, 97, 114, 107]

theorem infoI : (Tryz.prog.info? 3).map (fun i => (i.zero, i.size, i.bytes)) = some (some (.int .i64 0), 1, 8) := by kernel_rfl

theorem infoS : (Tryz.prog.info? 9).map (fun i => (i.zero, i.size, i.bytes)) = some (some (.string ByteArray.empty), 1, 16) := by kernel_rfl

theorem row_frontI {w : World} {a : Option Addr} {zs ys : List Int} (h : IRow w a (zs ++ ys)) : IRow w a zs := fun i x hx => h i x (by
  have hi : i < zs.length := by
    rcases Nat.lt_or_ge i zs.length with h | h
    · exact h
    · rw [List.getElem?_eq_none h] at hx; cases hx
  rw [List.getElem?_append_left hi]; exact hx)

theorem row_markI {w : World} {g : Nat} {zs : List Int} {x : Int} (h : IRow w (some ⟨g, 0, none⟩) (zs ++ [x])) : w.cell? ⟨g, zs.length, none⟩ = some (.int .i64 x) := by
  obtain ⟨b, off, ha, hc⟩ := h zs.length x (by simp)
  simp only [Option.some.injEq, Addr.mk.injEq] at ha
  obtain ⟨rfl, rfl, _⟩ := ha
  simpa using hc

theorem row_frontS {w : World} {a : Option Addr} {zs ys : List ByteArray} (h : SRow w a (zs ++ ys)) : SRow w a zs := fun i x hx => h i x (by
  have hi : i < zs.length := by
    rcases Nat.lt_or_ge i zs.length with h | h
    · exact h
    · rw [List.getElem?_eq_none h] at hx; cases hx
  rw [List.getElem?_append_left hi]; exact hx)

end Go.Proofs.YtgepbophnbbbpaaGreatDoor.GramLent

namespace Go.Proofs.YtgepbophnbbbpaaGreatDoor.GramLess
open Go.RowKit Go.Proofs.YtgepbophnbbbpaaGreatDoor.GramMath Go.Proofs.YtgepbophnbbbpaaGreatDoor.GramRow
set_option linter.unusedVariables false

def withR (g : G) (rs : List R) : G := ⟨g.ts, g.ns, g.ax, rs⟩

/-- A rule and where its right side lies. -/
structure Q where
  r : R
  a : Option Addr
  c : Nat

def qv (x : Q) : List Value := [.int .i64 x.r.left, .slice x.a x.r.right.length x.c]
def cellsQ (l : List Q) : List Value := l.flatMap qv

theorem cellsQ_app (l m : List Q) : cellsQ (l ++ m) = cellsQ l ++ cellsQ m := by simp [cellsQ]

theorem cellsQ_get : ∀ (l : List Q) (i : Nat) (x : Q), l[i]? = some x → (cellsQ l)[i * 2]? = some (.int .i64 x.r.left) ∧ (cellsQ l)[i * 2 + 1]? = some (.slice x.a x.r.right.length x.c)
  | [], i, x, h => by simp at h
  | y :: r, 0, x, h => by
    obtain rfl : y = x := by simpa using h
    exact ⟨rfl, rfl⟩
  | y :: r, i + 1, x, h => by
    have ih := cellsQ_get r i x (by simpa using h)
    have e : cellsQ (y :: r) = qv y ++ cellsQ r := rfl
    rw [e, show (i + 1) * 2 = (qv y).length + i * 2 from by simp [qv]; omega]
    refine ⟨?_, ?_⟩
    · rw [List.getElem?_append_right (by omega), Nat.add_sub_cancel_left]; exact ih.1
    · rw [Nat.add_assoc, List.getElem?_append_right (by omega), Nat.add_sub_cancel_left]; exact ih.2

/-- Rules in a row, with the places of their right sides. -/
def QRow (w : World) (a : Option Addr) (l : List Q) : Prop := ∀ i x, l[i]? = some x → ∃ b off, a = some ⟨b, off, none⟩ ∧ w.cell? ⟨b, off + i * 2, none⟩ = some (.int .i64 x.r.left) ∧ w.cell? ⟨b, off + i * 2 + 1, none⟩ = some (.slice x.a x.r.right.length x.c)

theorem QRow.below {w w' : World} {a : Option Addr} {l : List Q} {B : Nat} (h : QRow w a l) (hb : Below B w w') (hB : w.heap.size ≤ B) : QRow w' a l := fun i x hx => by
  obtain ⟨b, off, ha, h1, h2⟩ := h i x hx
  exact ⟨b, off, ha, by rw [hb.cell (Nat.lt_of_lt_of_le (cell_lt h1) hB)]; exact h1, by rw [hb.cell (Nat.lt_of_lt_of_le (cell_lt h2) hB)]; exact h2⟩

theorem rrow_of {w : World} {a : Option Addr} {l : List Q} (h : QRow w a l) (hi : ∀ x ∈ l, IRow w x.a x.r.right) : RRow w a (l.map (·.r)) := fun i r hr => by
  rw [List.getElem?_map] at hr
  cases hx : l[i]? with
  | none => rw [hx] at hr; cases hr
  | some x =>
    rw [hx] at hr
    obtain rfl : x.r = r := by simpa using hr
    obtain ⟨b, off, ha, h1, h2⟩ := h i x hx
    exact ⟨b, off, x.a, x.c, ha, h1, h2, hi x (List.mem_of_getElem? hx)⟩

end Go.Proofs.YtgepbophnbbbpaaGreatDoor.GramLess

namespace Go.Proofs.YtgepbophnbbbpaaGreatDoor.GramLent
open Go.RowKit Go.Proofs.YtgepbophnbbbpaaGreatDoor.GramMath Go.Proofs.YtgepbophnbbbpaaGreatDoor.GramRow Go.Proofs.YtgepbophnbbbpaaGreatDoor.GramSame Go.Proofs.YtgepbophnbbbpaaGreatDoor.GramLess
set_option linter.unusedVariables false

theorem infoR : (Tryz.prog.info? 46).map (fun i => (i.zero, i.size, i.bytes)) = some (some (.agg #[.int .i64 0, .slice none 0 0]), 2, 32) := by kernel_rfl

/-- Rules in a row; a right side that is no list has no place behind it. -/
def RRowN (w : World) (a : Option Addr) (rs : List R) : Prop :=
  ∀ i r, rs[i]? = some r → ∃ b off ra rc, a = some ⟨b, off, none⟩ ∧ w.cell? ⟨b, off + i * 2, none⟩ = some (.int .i64 r.left) ∧ w.cell? ⟨b, off + i * 2 + 1, none⟩ = some (.slice ra r.right.length rc) ∧ IRow w ra r.right ∧ (ra = none → r.right.length = 0 ∧ rc = 0)

theorem RRowN.below {w w' : World} {a : Option Addr} {rs : List R} {B : Nat} (h : RRowN w a rs) (hb : Below B w w') (hB : w.heap.size ≤ B) : RRowN w' a rs := fun i x hx => by
  obtain ⟨b, off, ra, rc, ha, h1, h2, h3, h4⟩ := h i x hx
  exact ⟨b, off, ra, rc, ha, by rw [hb.cell (Nat.lt_of_lt_of_le (cell_lt h1) hB)]; exact h1, by rw [hb.cell (Nat.lt_of_lt_of_le (cell_lt h2) hB)]; exact h2, h3.below hb hB, h4⟩

/-- A rule whose right side is a lent list that lies elsewhere than a value. -/
def LentAt (B : Nat) (w : World) (u : Value) (x : Q) : Prop := ∃ b, x.a = some ⟨b, 0, none⟩ ∧ B ≤ b ∧ u.ownBlock ≠ some b ∧ x.r.right.length < x.c ∧ IRow w x.a (x.r.right ++ [-7171])

theorem LentAt.below {w w' : World} {u : Value} {x : Q} {B C : Nat} (h : LentAt C w u x) (hb : Below B w w') (hB : w.heap.size ≤ B) : LentAt C w' u x := by
  obtain ⟨b, h1, h0, h2, h3, h4⟩ := h
  exact ⟨b, h1, h0, h2, h3, h4.below hb hB⟩

theorem LentAt.weak {w : World} {u : Value} {x : Q} {B : Nat} (h : LentAt B w u x) : LentAt 0 w u x := by
  obtain ⟨b, h1, h0, h2, h3, h4⟩ := h
  exact ⟨b, h1, Nat.zero_le _, h2, h3, h4⟩

theorem cells_new (w : World) (C : Array Value) (t : TypeId) : ∀ j u, C.toList[j]? = some u → (w.alloc (.cells C t)).cell? ((⟨w.heap.size, 0, none⟩ : Addr).add j) = some u := by
  intro j u hj
  have h := World.cell?_alloc_mark w C t (0, 0) j
  rw [Addr.add_lit, Nat.zero_add]
  rw [show (w.alloc (.cells C t)).cell? ⟨w.heap.size, j, none⟩ = C[j]? from h]
  simpa using hj

theorem own_below {w w' : World} {base : Nat} {e : TypeId} {size n : Nat} {v : Value} {xs : List Value} (h : w.ownsRow base e size v n xs) (hb : Below w.heap.size w w') : w'.ownsRow base e size v n xs := by
  obtain ⟨h1, h | ⟨g, cap, cur, hv, hbb, hg, rest⟩⟩ := h
  · exact ⟨h1, .inl h⟩
  · exact ⟨h1, .inr ⟨g, cap, cur, hv, hbb, (hb.block g (Array.getElem?_eq_some_iff.1 hg).1).trans hg, rest⟩⟩

theorem grown_cell {w w' : World} {o : Option Nat} {p : Addr} {v : Value} (h : w.grownBy w' o) (hc : w.cell? p = some v) (ho : o ≠ some p.block) : w'.cell? p = some v := by
  rw [World.cell?_of_block (h.block p.block (cell_lt hc) (fun e => ho e.symm))]
  exact hc

theorem grown_row {w w' : World} {o : Option Nat} {b : Nat} {zs : List Int} (h : w.grownBy w' o) (hr : IRow w (some ⟨b, 0, none⟩) zs) (ho : o ≠ some b) : IRow w' (some ⟨b, 0, none⟩) zs := fun i x hx => by
  obtain ⟨b', off, ha, hc⟩ := hr i x hx
  cases ha
  exact ⟨b, 0, rfl, grown_cell h hc ho⟩

theorem row_lt {w : World} {b : Nat} {zs : List Int} {x : Int} (h : IRow w (some ⟨b, 0, none⟩) (zs ++ [x])) : b < w.heap.size := cell_lt (row_markI h)

/-- An append to the row of rules leaves the lent right sides alone. -/
theorem LentAt.step {B : Nat} {w w1 w' : World} {o : Obj} {g' m c' : Nat} {u : Value} {x : Q} (h : LentAt B w u x) (hb : Below w.heap.size w w1) (hg : (w1.alloc o).grownBy w' u.ownBlock) (hat : u.ownBlock = some g' ∨ g' = w1.heap.size + 1) : LentAt B w' (.slice (some ⟨g', 0, none⟩) m c') x := by
  obtain ⟨b, h1, h0, h2, h3, h4⟩ := h
  rw [h1] at h4
  have hl := row_lt h4
  have hs := hb.size
  have h5 := (h4.below hb (Nat.le_refl _)).below ((Below.refl w1.heap.size w1).alloc (Nat.le_refl _) o) (Nat.le_refl _)
  refine ⟨b, h1, h0, ?_, h3, by rw [h1]; exact grown_row hg h5 h2⟩
  simp only [Value.ownBlock, ne_eq, Option.some.injEq]
  rintro rfl
  rcases hat with hat | hat
  · exact h2 hat
  · omega

theorem LentAt.new {B : Nat} {w w1 w' : World} {o : Obj} {base n g g' m c c' : Nat} {e : TypeId} {u : Value} {xs : List Value} {r : R} (hown : w.ownsRow base e 2 u n xs) (hrow : IRow w1 (some ⟨g, 0, none⟩) (r.right ++ [-7171])) (hBg : B ≤ g) (hgs : w.heap.size ≤ g) (hgc : r.right.length < c) (hg : (w1.alloc o).grownBy w' u.ownBlock) (hat : u.ownBlock = some g' ∨ g' = w1.heap.size + 1) : LentAt B w' (.slice (some ⟨g', 0, none⟩) m c') ⟨r, some ⟨g, 0, none⟩, c⟩ := by
  have hl := row_lt hrow
  have h5 := hrow.below ((Below.refl w1.heap.size w1).alloc (Nat.le_refl _) o) (Nat.le_refl _)
  have hne : u.ownBlock ≠ some g := fun e => by
    have := (hown.lt _ e).2
    omega
  refine ⟨g, rfl, hBg, ?_, hgc, grown_row hg h5 hne⟩
  simp only [Value.ownBlock, ne_eq, Option.some.injEq]
  rintro rfl
  rcases hat with hat | hat
  · exact hne hat
  · omega

end Go.Proofs.YtgepbophnbbbpaaGreatDoor.GramLent

namespace Go.Proofs.YtgepbophnbbbpaaGreatDoor.GramLent
open Go.RowKit Go.Proofs.YtgepbophnbbbpaaGreatDoor.GramMath Go.Proofs.YtgepbophnbbbpaaGreatDoor.GramRow Go.Proofs.YtgepbophnbbbpaaGreatDoor.GramSame Go.Proofs.YtgepbophnbbbpaaGreatDoor.GramLess
set_option linter.unusedVariables false

end Go.Proofs.YtgepbophnbbbpaaGreatDoor.GramLent

namespace Go.Proofs.YtgepbophnbbbpaaGreatDoor.GramLent
open Go.RowKit Go.Proofs.YtgepbophnbbbpaaGreatDoor.GramMath Go.Proofs.YtgepbophnbbbpaaGreatDoor.GramRow Go.Proofs.YtgepbophnbbbpaaGreatDoor.GramSame Go.Proofs.YtgepbophnbbbpaaGreatDoor.GramLess
set_option linter.unusedVariables false

/-- A lent grammar: each list of it has a mark behind it. -/
structure LentG (w : World) (g1 c1 g2 c2 g3 c3 : Nat) (lq : List Q) (g : G) : Prop where
  ts : SRow w (some ⟨g1, 0, none⟩) (g.ts ++ [markS])
  tc : g.ts.length < c1
  ns : SRow w (some ⟨g2, 0, none⟩) (g.ns ++ [markS])
  nc : g.ns.length < c2
  rc : g.rs.length < c3
  map : lq.map (·.r) = g.rs
  rs : QRow w (some ⟨g3, 0, none⟩) (lq ++ [⟨⟨-7171, []⟩, none, 0⟩])
  each : ∀ x ∈ lq, LentAt 0 w .nilIface x

theorem LentG.below {w w' : World} {g1 c1 g2 c2 g3 c3 B : Nat} {lq : List Q} {g : G} (h : LentG w g1 c1 g2 c2 g3 c3 lq g) (hb : Below B w w') (hB : w.heap.size ≤ B) : LentG w' g1 c1 g2 c2 g3 c3 lq g :=
  ⟨h.ts.below hb hB, h.tc, h.ns.below hb hB, h.nc, h.rc, h.map, h.rs.below hb hB, fun x hx => (h.each x hx).below hb hB⟩

theorem qrow_front {w : World} {a : Option Addr} {l m : List Q} (h : QRow w a (l ++ m)) : QRow w a l := fun i x hx => h i x (by
  have hi : i < l.length := by
    rcases Nat.lt_or_ge i l.length with h | h
    · exact h
    · rw [List.getElem?_eq_none h] at hx; cases hx
  rw [List.getElem?_append_left hi]; exact hx)

theorem LentG.row {w : World} {g1 c1 g2 c2 g3 c3 : Nat} {lq : List Q} {g : G} (h : LentG w g1 c1 g2 c2 g3 c3 lq g) : GRow w (some ⟨g1, 0, none⟩) (some ⟨g2, 0, none⟩) (some ⟨g3, 0, none⟩) g := by
  refine ⟨row_frontS h.ts, row_frontS h.ns, ?_⟩
  rw [← h.map]
  refine rrow_of (qrow_front h.rs) (fun x hx => ?_)
  obtain ⟨b, h1, _, _, _, h4⟩ := h.each x hx
  exact row_frontI h4

/-- What is asked of a grammar that is lent. -/
structure Lendable (w : World) (ta na ra : Option Addr) (tc nc : Nat) (g : G) : Prop where
  ts : SRow w ta g.ts
  ns : SRow w na g.ns
  rs : RRowN w ra g.rs
  tn : ta = none → g.ts.length = 0 ∧ tc = 0
  nn : na = none → g.ns.length = 0 ∧ nc = 0
  tm : g.ts.length * 16 ≤ 140737488351232
  nm : g.ns.length * 16 ≤ 140737488351232
  rm : g.rs.length * 32 ≤ 140737488351232
  each : ∀ r ∈ g.rs, okR r ∧ r.right.length * 8 ≤ 140737488351232

/-- All but one block lies as it did. -/
def Cut (b : Nat) (w w' : World) : Prop := ∀ p : Addr, p.block ≠ b → w'.cell? p = w.cell? p
theorem Cut.trans {b : Nat} {w w' w'' : World} (h : Cut b w w') (h2 : Cut b w' w'') : Cut b w w'' := fun p hp => (h2 p hp).trans (h p hp)
theorem Cut.set (w : World) (b o : Nat) (v : Value) : Cut b w (w.setCell ⟨b, o, none⟩ v) := fun p hp => World.cell?_setCell_far _ _ _ _ (fun e => hp e.symm)

theorem Cut.s {b g : Nat} {w w' : World} {l : List ByteArray} (h : Cut b w w') (hr : SRow w (some ⟨g, 0, none⟩) l) (hg : b < g) : SRow w' (some ⟨g, 0, none⟩) l := fun i x hx => by
  obtain ⟨b', off, ha, hc⟩ := hr i x hx
  cases ha
  exact ⟨g, 0, rfl, (h _ (by simp; omega)).trans hc⟩
theorem Cut.i {b g : Nat} {w w' : World} {l : List Int} (h : Cut b w w') (hr : IRow w (some ⟨g, 0, none⟩) l) (hg : b < g) : IRow w' (some ⟨g, 0, none⟩) l := fun i x hx => by
  obtain ⟨b', off, ha, hc⟩ := hr i x hx
  cases ha
  exact ⟨g, 0, rfl, (h _ (by simp; omega)).trans hc⟩
theorem Cut.q {b g : Nat} {w w' : World} {l : List Q} (h : Cut b w w') (hr : QRow w (some ⟨g, 0, none⟩) l) (hg : b < g) : QRow w' (some ⟨g, 0, none⟩) l := fun i x hx => by
  obtain ⟨b', off, ha, hc, hd⟩ := hr i x hx
  cases ha
  exact ⟨g, 0, rfl, (h _ (by simp; omega)).trans hc, (h _ (by simp; omega)).trans hd⟩
theorem Cut.l {b B : Nat} {w w' : World} {u : Value} {x : Q} (h : Cut b w w') (hl : LentAt B w u x) (hg : b < B) : LentAt 0 w' u x := by
  obtain ⟨b', h1, h0, h2, h3, h4⟩ := hl
  rw [h1] at h4
  exact ⟨b', h1, Nat.zero_le _, h2, h3, by rw [h1]; exact h.i h4 (by omega)⟩

end Go.Proofs.YtgepbophnbbbpaaGreatDoor.GramLent

namespace Go.Proofs.YtgepbophnbbbpaaGreatDoor.GramOpen
open Go.Deep Go.Joins Go.ChangeShapes Go.WideShapes Go.ChangeAt Go.RowKit Go.Proofs.YtgepbophnbbbpaaGreatDoor.GramMath Go.Proofs.YtgepbophnbbbpaaGreatDoor.GramRow
set_option linter.unusedVariables false

theorem cellsR : Tryz.prog.cellsOf 46 = 2 := by kernel_rfl
section
variable {H : Type} {enc : TypeId × Value → H} {W : World} {sp : Nat → Bool} {hd : Bool}

end
end Go.Proofs.YtgepbophnbbbpaaGreatDoor.GramOpen

namespace Go.Proofs.YtgepbophnbbbpaaGreatDoor.GramOpen
open Go.Deep Go.Joins Go.ChangeShapes Go.WideShapes Go.ChangeAt Go.RowKit Go.Proofs.YtgepbophnbbbpaaGreatDoor.GramMath Go.Proofs.YtgepbophnbbbpaaGreatDoor.GramRow
set_option linter.unusedVariables false

section
variable {H : Type} {enc : TypeId × Value → H} {W : World} {sp : Nat → Bool} {hd : Bool}

end
end Go.Proofs.YtgepbophnbbbpaaGreatDoor.GramOpen

namespace Go.Proofs.YtgepbophnbbbpaaGreatDoor.GramOpen
open Go.Deep Go.Joins Go.ChangeShapes Go.WideShapes Go.ChangeAt Go.RowKit Go.Proofs.YtgepbophnbbbpaaGreatDoor.GramMath Go.Proofs.YtgepbophnbbbpaaGreatDoor.GramRow
set_option linter.unusedVariables false

/-- No list of a row of rules has a cap that is less than its length. -/
def Caps (W : World) (ra : Option Addr) (m : Nat) : Prop := ∀ i, i < m → ∀ b off, ra = some ⟨b, off, none⟩ → ∀ qa n qc, W.cell? ⟨b, off + i * 2 + 1, none⟩ = some (.slice qa n qc) → n ≤ qc

section
variable {H : Type} {enc : TypeId × Value → H} {W : World} {sp : Nat → Bool} {hd : Bool}

end
end Go.Proofs.YtgepbophnbbbpaaGreatDoor.GramOpen
