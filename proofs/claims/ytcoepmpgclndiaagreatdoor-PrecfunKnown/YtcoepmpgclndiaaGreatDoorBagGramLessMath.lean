/-
  Texts that stand together: GramLessMath, GramLentR, GramKept, GramLentG, OpRow.
-/
import Derived.Test.YtcoepmpgclndiaaGreatDoorBGramBase
import Derived.Laws.AppendOwnNone
import Derived.Laws.OwnMore
import Derived.Deep.RegionLaw
import Derived.Deep.Slices
import Derived.Deep.RegionHeld3
import Derived.Maps.AppendAt
import Derived.Test.YtcoepmpgclndiaaGreatDoorBagGramEq
import Derived.Deep.AppendLies
import Derived.Deep.DeepCutAuto
import Derived.Handy
import Derived.Laws.CopyOwn
namespace Go.Proofs.YtcoepmpgclndiaaGreatDoor.GramLess
open Go.RowKit Go.Proofs.YtcoepmpgclndiaaGreatDoor.GramMath Go.Proofs.YtcoepmpgclndiaaGreatDoor.GramRow
set_option linter.unusedVariables false

def withR (g : G) (rs : List R) : G := ⟨g.ts, g.ns, g.ax, rs⟩

/-- A rule and where its right side lies. -/
structure Q where
  r : R
  a : Option Addr
  c : Nat

def qv (x : Q) : List Value := [.int .i64 x.r.left, .slice x.a x.r.right.length x.c]
def cellsQ (l : List Q) : List Value := l.flatMap qv

/-- Rules in a row, with the places of their right sides. -/
def QRow (w : World) (a : Option Addr) (l : List Q) : Prop := ∀ i x, l[i]? = some x → ∃ b off, a = some ⟨b, off, none⟩ ∧ w.cell? ⟨b, off + i * 2, none⟩ = some (.int .i64 x.r.left) ∧ w.cell? ⟨b, off + i * 2 + 1, none⟩ = some (.slice x.a x.r.right.length x.c)

theorem QRow.below {w w' : World} {a : Option Addr} {l : List Q} {B : Nat} (h : QRow w a l) (hb : Below B w w') (hB : w.heap.size ≤ B) : QRow w' a l := fun i x hx => by
  obtain ⟨b, off, ha, h1, h2⟩ := h i x hx
  exact ⟨b, off, ha, by rw [hb.cell (Nat.lt_of_lt_of_le (cell_lt h1) hB)]; exact h1, by rw [hb.cell (Nat.lt_of_lt_of_le (cell_lt h2) hB)]; exact h2⟩

theorem rrow_of {w : World} {a : Option Addr} {l : List Q} (h : QRow w a l) (hi : ∀ x ∈ l, IRow w x.a x.r.right) : RRow w a (l.map (·.r)) := fun i r hr => by
  rw [List.getElem?_map] at hr
  cases hx : l[i]? with
  | none => rw [hx] at hr; cases hr
  | some x =>
    rw [hx] at hr
    obtain rfl : x.r = r := by simpa using hr
    obtain ⟨b, off, ha, h1, h2⟩ := h i x hx
    exact ⟨b, off, x.a, x.c, ha, h1, h2, hi x (List.mem_of_getElem? hx)⟩

end Go.Proofs.YtcoepmpgclndiaaGreatDoor.GramLess

namespace Go.Proofs.YtcoepmpgclndiaaGreatDoor.GramLent
open Go.RowKit Go.Proofs.YtcoepmpgclndiaaGreatDoor.GramMath Go.Proofs.YtcoepmpgclndiaaGreatDoor.GramRow Go.Proofs.YtcoepmpgclndiaaGreatDoor.GramSame Go.Proofs.YtcoepmpgclndiaaGreatDoor.GramLess
set_option linter.unusedVariables false

theorem infoR : (Tryz.prog.info? 46).map (fun i => (i.zero, i.size, i.bytes)) = some (some (.agg #[.int .i64 0, .slice none 0 0]), 2, 32) := by kernel_rfl

/-- Rules in a row; a right side that is no list has no place behind it. -/
def RRowN (w : World) (a : Option Addr) (rs : List R) : Prop :=
  ∀ i r, rs[i]? = some r → ∃ b off ra rc, a = some ⟨b, off, none⟩ ∧ w.cell? ⟨b, off + i * 2, none⟩ = some (.int .i64 r.left) ∧ w.cell? ⟨b, off + i * 2 + 1, none⟩ = some (.slice ra r.right.length rc) ∧ IRow w ra r.right ∧ (ra = none → r.right.length = 0 ∧ rc = 0)

theorem RRowN.below {w w' : World} {a : Option Addr} {rs : List R} {B : Nat} (h : RRowN w a rs) (hb : Below B w w') (hB : w.heap.size ≤ B) : RRowN w' a rs := fun i x hx => by
  obtain ⟨b, off, ra, rc, ha, h1, h2, h3, h4⟩ := h i x hx
  exact ⟨b, off, ra, rc, ha, by rw [hb.cell (Nat.lt_of_lt_of_le (cell_lt h1) hB)]; exact h1, by rw [hb.cell (Nat.lt_of_lt_of_le (cell_lt h2) hB)]; exact h2, h3.below hb hB, h4⟩

/-- A rule whose right side is a lent list that lies elsewhere than a value. -/
def LentAt (B : Nat) (w : World) (u : Value) (x : Q) : Prop := ∃ b, x.a = some ⟨b, 0, none⟩ ∧ B ≤ b ∧ u.ownBlock ≠ some b ∧ x.r.right.length < x.c ∧ IRow w x.a (x.r.right ++ [-7171])

theorem LentAt.below {w w' : World} {u : Value} {x : Q} {B C : Nat} (h : LentAt C w u x) (hb : Below B w w') (hB : w.heap.size ≤ B) : LentAt C w' u x := by
  obtain ⟨b, h1, h0, h2, h3, h4⟩ := h
  exact ⟨b, h1, h0, h2, h3, h4.below hb hB⟩

theorem cells_new (w : World) (C : Array Value) (t : TypeId) : ∀ j u, C.toList[j]? = some u → (w.alloc (.cells C t)).cell? ((⟨w.heap.size, 0, none⟩ : Addr).add j) = some u := by
  intro j u hj
  have h := World.cell?_alloc_mark w C t (0, 0) j
  rw [Addr.add_lit, Nat.zero_add]
  rw [show (w.alloc (.cells C t)).cell? ⟨w.heap.size, j, none⟩ = C[j]? from h]
  simpa using hj

theorem own_below {w w' : World} {base : Nat} {e : TypeId} {size n : Nat} {v : Value} {xs : List Value} (h : w.ownsRow base e size v n xs) (hb : Below w.heap.size w w') : w'.ownsRow base e size v n xs := by
  obtain ⟨h1, h | ⟨g, cap, cur, hv, hbb, hg, rest⟩⟩ := h
  · exact ⟨h1, .inl h⟩
  · exact ⟨h1, .inr ⟨g, cap, cur, hv, hbb, (hb.block g (Array.getElem?_eq_some_iff.1 hg).1).trans hg, rest⟩⟩

end Go.Proofs.YtcoepmpgclndiaaGreatDoor.GramLent

namespace Go.Proofs.YtcoepmpgclndiaaGreatDoor.GramLent
open Go.RowKit Go.Proofs.YtcoepmpgclndiaaGreatDoor.GramMath Go.Proofs.YtcoepmpgclndiaaGreatDoor.GramRow Go.Proofs.YtcoepmpgclndiaaGreatDoor.GramSame Go.Proofs.YtcoepmpgclndiaaGreatDoor.GramLess
set_option linter.unusedVariables false

end Go.Proofs.YtcoepmpgclndiaaGreatDoor.GramLent

namespace Go.Proofs.YtcoepmpgclndiaaGreatDoor.GramLent
open Go.RowKit Go.Proofs.YtcoepmpgclndiaaGreatDoor.GramMath Go.Proofs.YtcoepmpgclndiaaGreatDoor.GramRow Go.Proofs.YtcoepmpgclndiaaGreatDoor.GramSame Go.Proofs.YtcoepmpgclndiaaGreatDoor.GramLess
set_option linter.unusedVariables false

/-- A lent grammar: each list of it has a mark behind it. -/
structure LentG (w : World) (g1 c1 g2 c2 g3 c3 : Nat) (lq : List Q) (g : G) : Prop where
  ts : SRow w (some ⟨g1, 0, none⟩) (g.ts ++ [markS])
  tc : g.ts.length < c1
  ns : SRow w (some ⟨g2, 0, none⟩) (g.ns ++ [markS])
  nc : g.ns.length < c2
  rc : g.rs.length < c3
  map : lq.map (·.r) = g.rs
  rs : QRow w (some ⟨g3, 0, none⟩) (lq ++ [⟨⟨-7171, []⟩, none, 0⟩])
  each : ∀ x ∈ lq, LentAt 0 w .nilIface x

theorem LentG.below {w w' : World} {g1 c1 g2 c2 g3 c3 B : Nat} {lq : List Q} {g : G} (h : LentG w g1 c1 g2 c2 g3 c3 lq g) (hb : Below B w w') (hB : w.heap.size ≤ B) : LentG w' g1 c1 g2 c2 g3 c3 lq g :=
  ⟨h.ts.below hb hB, h.tc, h.ns.below hb hB, h.nc, h.rc, h.map, h.rs.below hb hB, fun x hx => (h.each x hx).below hb hB⟩

theorem qrow_front {w : World} {a : Option Addr} {l m : List Q} (h : QRow w a (l ++ m)) : QRow w a l := fun i x hx => h i x (by
  have hi : i < l.length := by
    rcases Nat.lt_or_ge i l.length with h | h
    · exact h
    · rw [List.getElem?_eq_none h] at hx; cases hx
  rw [List.getElem?_append_left hi]; exact hx)

theorem LentG.row {w : World} {g1 c1 g2 c2 g3 c3 : Nat} {lq : List Q} {g : G} (h : LentG w g1 c1 g2 c2 g3 c3 lq g) : GRow w (some ⟨g1, 0, none⟩) (some ⟨g2, 0, none⟩) (some ⟨g3, 0, none⟩) g := by
  refine ⟨row_frontS h.ts, row_frontS h.ns, ?_⟩
  rw [← h.map]
  refine rrow_of (qrow_front h.rs) (fun x hx => ?_)
  obtain ⟨b, h1, _, _, _, h4⟩ := h.each x hx
  exact row_frontI h4

/-- What is asked of a grammar that is lent. -/
structure Lendable (w : World) (ta na ra : Option Addr) (tc nc : Nat) (g : G) : Prop where
  ts : SRow w ta g.ts
  ns : SRow w na g.ns
  rs : RRowN w ra g.rs
  tn : ta = none → g.ts.length = 0 ∧ tc = 0
  nn : na = none → g.ns.length = 0 ∧ nc = 0
  tm : g.ts.length * 16 ≤ 140737488351232
  nm : g.ns.length * 16 ≤ 140737488351232
  rm : g.rs.length * 32 ≤ 140737488351232
  each : ∀ r ∈ g.rs, okR r ∧ r.right.length * 8 ≤ 140737488351232

/-- All but one block lies as it did. -/
def Cut (b : Nat) (w w' : World) : Prop := ∀ p : Addr, p.block ≠ b → w'.cell? p = w.cell? p
theorem Cut.trans {b : Nat} {w w' w'' : World} (h : Cut b w w') (h2 : Cut b w' w'') : Cut b w w'' := fun p hp => (h2 p hp).trans (h p hp)
theorem Cut.set (w : World) (b o : Nat) (v : Value) : Cut b w (w.setCell ⟨b, o, none⟩ v) := fun p hp => World.cell?_setCell_far _ _ _ _ (fun e => hp e.symm)

theorem Cut.s {b g : Nat} {w w' : World} {l : List ByteArray} (h : Cut b w w') (hr : SRow w (some ⟨g, 0, none⟩) l) (hg : b < g) : SRow w' (some ⟨g, 0, none⟩) l := fun i x hx => by
  obtain ⟨b', off, ha, hc⟩ := hr i x hx
  cases ha
  exact ⟨g, 0, rfl, (h _ (by simp; omega)).trans hc⟩
theorem Cut.i {b g : Nat} {w w' : World} {l : List Int} (h : Cut b w w') (hr : IRow w (some ⟨g, 0, none⟩) l) (hg : b < g) : IRow w' (some ⟨g, 0, none⟩) l := fun i x hx => by
  obtain ⟨b', off, ha, hc⟩ := hr i x hx
  cases ha
  exact ⟨g, 0, rfl, (h _ (by simp; omega)).trans hc⟩
theorem Cut.q {b g : Nat} {w w' : World} {l : List Q} (h : Cut b w w') (hr : QRow w (some ⟨g, 0, none⟩) l) (hg : b < g) : QRow w' (some ⟨g, 0, none⟩) l := fun i x hx => by
  obtain ⟨b', off, ha, hc, hd⟩ := hr i x hx
  cases ha
  exact ⟨g, 0, rfl, (h _ (by simp; omega)).trans hc, (h _ (by simp; omega)).trans hd⟩
theorem Cut.l {b B : Nat} {w w' : World} {u : Value} {x : Q} (h : Cut b w w') (hl : LentAt B w u x) (hg : b < B) : LentAt 0 w' u x := by
  obtain ⟨b', h1, h0, h2, h3, h4⟩ := hl
  rw [h1] at h4
  exact ⟨b', h1, Nat.zero_le _, h2, h3, by rw [h1]; exact h.i h4 (by omega)⟩

end Go.Proofs.YtcoepmpgclndiaaGreatDoor.GramLent

namespace Go.Proofs.YtcoepmpgclndiaaGreatDoor.OpRow
open Go.RowKit Go.Proofs.YtcoepmpgclndiaaGreatDoor.GramMath Go.Proofs.YtcoepmpgclndiaaGreatDoor.GramRow Go.Proofs.YtcoepmpgclndiaaGreatDoor.GramApart Go.Proofs.YtcoepmpgclndiaaGreatDoor.GramLent
set_option linter.unusedVariables false

def intsA (zs : List Int) : Array Value := (zs.map (Value.int .i64)).toArray

theorem intsA_size (zs : List Int) : (intsA zs).size = zs.length := by simp [intsA]
theorem intsA_get {zs : List Int} {k : Nat} {x : Int} (h : zs[k]? = some x) : (intsA zs)[k]? = some (.int .i64 x) := by
  unfold intsA
  rw [List.getElem?_toArray, List.getElem?_map, h]
  rfl
theorem intsA_row {w : World} {b : Nat} {t : TypeId} {zs : List Int} (h : RowAt w b t (intsA zs)) : IRow w (some ⟨b, 0, none⟩) zs := fun i x hx => ⟨b, 0, rfl, by
  rw [Nat.zero_add]
  exact h.cell (intsA_get hx)⟩
theorem intsA_set {zs : List Int} (k : Nat) (x : Int) : (intsA zs).setIfInBounds k (.int .i64 x) = intsA (zs.set k x) := by
  unfold intsA
  rw [List.setIfInBounds_toArray, List.map_set]

theorem madeI_any (n : Nat) (hn : n * 8 ≤ 140737488351232) (w : World) : (Instr.makeSlice 32 (.int .i64 (n : Int)) (.int .i64 (n : Int))).run Tryz.prog w = .ok (.slice (some ⟨w.heap.size, 0, none⟩) n n) (w.alloc (.cells (madeCells #[.int .i64 0] n) 3)) := by
  obtain ⟨i0, hi, hz0, hz1, hz2⟩ := info_parts infoI
  have h := run_make (P := Tryz.prog) w 32 3 i0 (.int .i64 0) Tryz.underlying32 hi hz0 .i64 .i64 (n : Int) (n : Int) (by omega) (by omega) (by rw [hz2]; omega) (by omega)
  rw [hz1] at h
  simpa [Value.cells] using h

theorem made_row (w : World) (n : Nat) (t : TypeId) : RowAt (w.alloc (.cells (madeCells #[.int .i64 0] n) t)) w.heap.size t (intsA (List.replicate n 0)) := by
  show (w.alloc _).heap[w.heap.size]? = _
  rw [heap_new]
  congr 2
  unfold intsA
  rw [List.map_replicate, ← toList_madeCells_one]

theorem infoI1 : (Tryz.prog.info? 3).map (·.size) = some 1 := by kernel_rfl

end Go.Proofs.YtcoepmpgclndiaaGreatDoor.OpRow
