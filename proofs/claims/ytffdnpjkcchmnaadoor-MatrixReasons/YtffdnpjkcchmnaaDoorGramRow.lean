/-
  Lists of texts, of numbers and of rules as they lie in memory. No part of the program.
-/
import Derived.Test.YtffdnpjkcchmnaaDoorBaseMath
import Derived.Test.YtffdnpjkcchmnaaDoorProg
import Derived.WalkKit
import Derived.WalkSpells
import Derived.Below
import Derived.Deep.QuietTactic
import Derived.BigQuiet
namespace Go.Proofs.YtffdnpjkcchmnaaDoor.GramRow
open Go.RowKit Go.Proofs.YtffdnpjkcchmnaaDoor.GramMath

theorem ret_bool {a b : Bool} (h : a = b) : Ending.returned (.bool a) = .returned (.bool b) := by rw [h]
theorem ret_num {k : IntKind} {a b : Int} (h : a = b) : Ending.returned (.int k a) = .returned (.int k b) := by rw [h]
theorem ret_str {a b : ByteArray} (h : a = b) : Ending.returned (.string a) = .returned (.string b) := by rw [h]

theorem ret_two {k : IntKind} {a a' : Int} {b b' : Bool} (h : a = a') (h2 : b = b') : Ending.returned (.tuple #[.int k a, .bool b]) = .returned (.tuple #[.int k a', .bool b']) := by rw [h, h2]
theorem ret_sb {a a' : ByteArray} {b b' : Bool} (h : a = a') (h2 : b = b') : Ending.returned (.tuple #[.string a, .bool b]) = .returned (.tuple #[.string a', .bool b']) := by rw [h, h2]

theorem str_ne {a b : ByteArray} (h : a ≠ b) : (a.toList == b.toList) = false := by
  rw [ByteArray.toList_eq, ByteArray.toList_eq, beq_eq_false_iff_ne]
  intro e
  apply h
  cases a
  cases b
  congr 1
  exact Array.toList_inj.1 e
theorem str_eq (a : ByteArray) : (a.toList == a.toList) = true := by simp

theorem cell_lt {w : World} {p : Addr} {v : Value} (h : w.cell? p = some v) : p.block < w.heap.size := by
  unfold World.cell? at h
  by_cases hb : p.block < w.heap.size
  · exact hb
  · rw [Array.getElem?_eq_none (by omega)] at h
    simp at h

/-- Texts in a row. -/
def SRow (w : World) (a : Option Addr) (ss : List ByteArray) : Prop :=
  ∀ i x, ss[i]? = some x → ∃ b off, a = some ⟨b, off, none⟩ ∧ w.cell? ⟨b, off + i, none⟩ = some (.string x)
/-- Numbers in a row. -/
def IRow (w : World) (a : Option Addr) (zs : List Int) : Prop :=
  ∀ i x, zs[i]? = some x → ∃ b off, a = some ⟨b, off, none⟩ ∧ w.cell? ⟨b, off + i, none⟩ = some (.int .i64 x)
/-- Rules in a row. -/
def RRow (w : World) (a : Option Addr) (rs : List R) : Prop :=
  ∀ i r, rs[i]? = some r → ∃ b off ra rc, a = some ⟨b, off, none⟩ ∧ w.cell? ⟨b, off + i * 2, none⟩ = some (.int .i64 r.left) ∧ w.cell? ⟨b, off + i * 2 + 1, none⟩ = some (.slice ra r.right.length rc) ∧ IRow w ra r.right

def GRow (w : World) (ta na ra : Option Addr) (g : G) : Prop := SRow w ta g.ts ∧ SRow w na g.ns ∧ RRow w ra g.rs

theorem SRow.below {w w' : World} {a : Option Addr} {ss : List ByteArray} {B : Nat} (h : SRow w a ss) (hb : Below B w w') (hB : w.heap.size ≤ B) : SRow w' a ss := fun i x hx => by
  obtain ⟨b, off, ha, hc⟩ := h i x hx
  exact ⟨b, off, ha, by rw [hb.cell (Nat.lt_of_lt_of_le (cell_lt hc) hB)]; exact hc⟩
theorem IRow.below {w w' : World} {a : Option Addr} {zs : List Int} {B : Nat} (h : IRow w a zs) (hb : Below B w w') (hB : w.heap.size ≤ B) : IRow w' a zs := fun i x hx => by
  obtain ⟨b, off, ha, hc⟩ := h i x hx
  exact ⟨b, off, ha, by rw [hb.cell (Nat.lt_of_lt_of_le (cell_lt hc) hB)]; exact hc⟩
theorem RRow.below {w w' : World} {a : Option Addr} {rs : List R} {B : Nat} (h : RRow w a rs) (hb : Below B w w') (hB : w.heap.size ≤ B) : RRow w' a rs := fun i x hx => by
  obtain ⟨b, off, ra, rc, ha, h1, h2, h3⟩ := h i x hx
  exact ⟨b, off, ra, rc, ha, by rw [hb.cell (Nat.lt_of_lt_of_le (cell_lt h1) hB)]; exact h1, by rw [hb.cell (Nat.lt_of_lt_of_le (cell_lt h2) hB)]; exact h2, h3.below hb hB⟩
theorem GRow.below {w w' : World} {ta na ra : Option Addr} {g : G} {B : Nat} (h : GRow w ta na ra g) (hb : Below B w w') (hB : w.heap.size ≤ B) : GRow w' ta na ra g :=
  ⟨h.1.below hb hB, h.2.1.below hb hB, h.2.2.below hb hB⟩

theorem SRow.take {w : World} {a : Option Addr} {ss : List ByteArray} (h : SRow w a ss) (n : Nat) : SRow w a (ss.take n) := fun i x hi => by
  rw [List.getElem?_take] at hi
  by_cases hn : i < n
  · rw [if_pos hn] at hi; exact h i x hi
  · rw [if_neg hn] at hi; cases hi

theorem drew_below {B : Nat} (w : World) (q : Nat) : Below B w (w.drewN q) := (show Below B (w.drewN q) (w.drewN q) from Below.refl _ _) |> fun h => ⟨h.os, h.tape, h.output, h.size, h.block⟩

theorem bdrew {B : Nat} {w w' : World} (h : Below B w w') (q : Nat) : Below B w (w'.drewN q) := ⟨h.os, h.tape, h.output, h.size, h.block⟩

/-- A world in which all that lay in another one still lies as it did. -/
structure In (W : World) where
  w : World
  h : Below W.heap.size W w

theorem In.cell {W : World} {p : Addr} {v : Value} (h : W.cell? p = some v) (u : In W) : u.w.cell? p = some v := (u.h.cell (cell_lt h)).trans h

/-- A region that draws its order, whose operations only read what was there, and whose calls only make memory. -/
theorem wp_region_in {P : Program} {id : Nat} {Q : Exit → Act → World → Prop} {a : Act} {W : World} {l : List Oper} (hm : P.follows .mixedOrders = true) (hB : Region.lexB .any l.toArray = true)
    (h : wpQuiet P l.toArray (fun w' => ∃ u : In W, w' = u.w) (fun a' => ∀ w', (∃ u : In W, w' = u.w) → Q .normal a' w') l a) : (Code.region id l.toArray true).wp P Q a W :=
  wp_region_quiet (C := fun w' => ∃ u : In W, w' = u.w) hm hB ⟨⟨{ W with drawn := W.drawn + 1 }, ⟨rfl, rfl, rfl, Nat.le_refl W.heap.size, fun _ _ => rfl⟩⟩, rfl⟩ (by simpa using h)

/-- A sentinel error in its variable. -/
def Sent (w : World) (g : Nat) (a : Addr) : Prop := w.cell? ⟨g, 0, none⟩ = some (.iface 189 (.pointer (some a)))

theorem Sent.below {w w' : World} {g B : Nat} {a : Addr} (h : Sent w g a) (hb : Below B w w') (hB : w.heap.size ≤ B) : Sent w' g a :=
  (hb.cell (Nat.lt_of_lt_of_le (cell_lt h) hB)).trans h

/-- Nothing, or an error. -/
def ckN (a : Addr) (b : Bool) : Value := if b = true then .nilIface else .iface 189 (.pointer (some a))
theorem ckN_true (a : Addr) : ckN a true = .nilIface := rfl
theorem ckN_false (a : Addr) : ckN a false = .iface 189 (.pointer (some a)) := rfl
theorem ret_ckN_true {a : Addr} {b : Bool} (h : b = true) : Ending.returned .nilIface = .returned (ckN a b) := by rw [h]; rfl
theorem ret_ckN_false {a : Addr} {b : Bool} (h : b = false) : Ending.returned (.iface 189 (.pointer (some a))) = .returned (ckN a b) := by rw [h]; rfl

def ckK (p : Nat → Addr) (k : Nat) : Value := if k = 0 then .nilIface else .iface 189 (.pointer (some (p k)))
theorem ret_ckK_zero {p : Nat → Addr} {k : Nat} (h : k = 0) : Ending.returned .nilIface = .returned (ckK p k) := by rw [h]; rfl
theorem ret_ckK {p : Nat → Addr} {k m : Nat} (h : k = m + 1) : Ending.returned (.iface 189 (.pointer (some (p (m + 1))))) = .returned (ckK p k) := by rw [h]; rfl

/-- The three errors that this layer answers. -/
def Sents (w : World) (p : Nat → Addr) : Prop := Sent w 0 (p 1) ∧ Sent w 3 (p 3) ∧ Sent w 10 (p 10)

theorem Sents.below {w w' : World} {p : Nat → Addr} {B : Nat} (h : Sents w p) (hb : Below B w w') (hB : w.heap.size ≤ B) : Sents w' p := ⟨h.1.below hb hB, h.2.1.below hb hB, h.2.2.below hb hB⟩

/-- What Check answers. -/
def CkV (base : Nat) (p : Nat → Addr) (r : Nat × Option Nat) (w : World) (v : Value) : Prop :=
  match r with
  | (0, _) => v = .nilIface
  | (k + 1, none) => v = .iface 189 (.pointer (some (p (k + 1))))
  | (k + 1, some i) => ∃ b, base ≤ b ∧ v = .iface 88 (.pointer (some ⟨b, 0, none⟩)) ∧ w.heap[b]? = some (.cells #[.int .i64 (i : Int), .iface 189 (.pointer (some (p (k + 1))))] 92 (0, 0))

theorem CkV.below {base : Nat} {p : Nat → Addr} {r : Nat × Option Nat} {w w' : World} {v : Value} {B : Nat} (h : CkV base p r w v) (hb : Below B w w') (hB : w.heap.size ≤ B) : CkV base p r w' v := by
  match r, h with
  | (0, _), h => exact h
  | (k + 1, none), h => exact h
  | (k + 1, some i), ⟨b, h1, h2, h3⟩ => exact ⟨b, h1, h2, (hb.block b (Nat.lt_of_lt_of_le (Array.getElem?_eq_some_iff.1 h3).1 hB)).trans h3⟩

theorem CkV.mono {base base' : Nat} {p : Nat → Addr} {r : Nat × Option Nat} {w : World} {v : Value} (h : CkV base p r w v) (hB : base' ≤ base) : CkV base' p r w v := by
  match r, h with
  | (0, _), h => exact h
  | (k + 1, none), h => exact h
  | (k + 1, some i), ⟨b, h1, h2, h3⟩ => exact ⟨b, Nat.le_trans hB h1, h2, h3⟩

theorem neq_nil (t : TypeId) (v : Value) (w : World) : (binOp .neq 31 (.iface t v) .nilIface).run Tryd.prog w = .ok (.bool true) w := by kernel_rfl
theorem eql_nil (t : TypeId) (v : Value) (w : World) : (binOp .eql 31 (.iface t v) .nilIface).run Tryd.prog w = .ok (.bool false) w := by kernel_rfl

theorem heap_new (w : World) (o : Obj) : (w.alloc o).heap[w.heap.size]? = some o := heap_alloc_new w o

end Go.Proofs.YtffdnpjkcchmnaaDoor.GramRow
