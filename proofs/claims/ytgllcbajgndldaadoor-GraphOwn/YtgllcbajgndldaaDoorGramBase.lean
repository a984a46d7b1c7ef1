/-
  Rows of a grammar in memory, and Check of the program.
-/
import Derived.Test.YtgllcbajgndldaaDoorBaseMath
import Derived.Test.YtgllcbajgndldaaDoorProg
import Derived.WalkKit
import Derived.WalkSpells
import Derived.Below
import Derived.Deep.QuietTactic
import Derived.BigQuiet
import Derived.WalkMore
namespace Go.Proofs.YtgllcbajgndldaaDoor.GramRow
open Go.RowKit Go.Proofs.YtgllcbajgndldaaDoor.GramMath

theorem ret_bool {a b : Bool} (h : a = b) : Ending.returned (.bool a) = .returned (.bool b) := by rw [h]
theorem ret_num {k : IntKind} {a b : Int} (h : a = b) : Ending.returned (.int k a) = .returned (.int k b) := by rw [h]
theorem ret_str {a b : ByteArray} (h : a = b) : Ending.returned (.string a) = .returned (.string b) := by rw [h]

theorem ret_two {k : IntKind} {a a' : Int} {b b' : Bool} (h : a = a') (h2 : b = b') : Ending.returned (.tuple #[.int k a, .bool b]) = .returned (.tuple #[.int k a', .bool b']) := by rw [h, h2]
theorem ret_sb {a a' : ByteArray} {b b' : Bool} (h : a = a') (h2 : b = b') : Ending.returned (.tuple #[.string a, .bool b]) = .returned (.tuple #[.string a', .bool b']) := by rw [h, h2]

theorem str_ne {a b : ByteArray} (h : a ≠ b) : (a.toList == b.toList) = false := by
  rw [ByteArray.toList_eq, ByteArray.toList_eq, beq_eq_false_iff_ne]
  intro e
  apply h
  cases a
  cases b
  congr 1
  exact Array.toList_inj.1 e
theorem str_eq (a : ByteArray) : (a.toList == a.toList) = true := by simp

theorem cell_lt {w : World} {p : Addr} {v : Value} (h : w.cell? p = some v) : p.block < w.heap.size := by
  unfold World.cell? at h
  by_cases hb : p.block < w.heap.size
  · exact hb
  · rw [Array.getElem?_eq_none (by omega)] at h
    simp at h

/-- Texts in a row. -/
def SRow (w : World) (a : Option Addr) (ss : List ByteArray) : Prop :=
  ∀ i x, ss[i]? = some x → ∃ b off, a = some ⟨b, off, none⟩ ∧ w.cell? ⟨b, off + i, none⟩ = some (.string x)
/-- Numbers in a row. -/
def IRow (w : World) (a : Option Addr) (zs : List Int) : Prop :=
  ∀ i x, zs[i]? = some x → ∃ b off, a = some ⟨b, off, none⟩ ∧ w.cell? ⟨b, off + i, none⟩ = some (.int .i64 x)
/-- Rules in a row. -/
def RRow (w : World) (a : Option Addr) (rs : List R) : Prop :=
  ∀ i r, rs[i]? = some r → ∃ b off ra rc, a = some ⟨b, off, none⟩ ∧ w.cell? ⟨b, off + i * 2, none⟩ = some (.int .i64 r.left) ∧ w.cell? ⟨b, off + i * 2 + 1, none⟩ = some (.slice ra r.right.length rc) ∧ IRow w ra r.right

def GRow (w : World) (ta na ra : Option Addr) (g : G) : Prop := SRow w ta g.ts ∧ SRow w na g.ns ∧ RRow w ra g.rs

theorem SRow.below {w w' : World} {a : Option Addr} {ss : List ByteArray} {B : Nat} (h : SRow w a ss) (hb : Below B w w') (hB : w.heap.size ≤ B) : SRow w' a ss := fun i x hx => by
  obtain ⟨b, off, ha, hc⟩ := h i x hx
  exact ⟨b, off, ha, by rw [hb.cell (Nat.lt_of_lt_of_le (cell_lt hc) hB)]; exact hc⟩
theorem IRow.below {w w' : World} {a : Option Addr} {zs : List Int} {B : Nat} (h : IRow w a zs) (hb : Below B w w') (hB : w.heap.size ≤ B) : IRow w' a zs := fun i x hx => by
  obtain ⟨b, off, ha, hc⟩ := h i x hx
  exact ⟨b, off, ha, by rw [hb.cell (Nat.lt_of_lt_of_le (cell_lt hc) hB)]; exact hc⟩
theorem RRow.below {w w' : World} {a : Option Addr} {rs : List R} {B : Nat} (h : RRow w a rs) (hb : Below B w w') (hB : w.heap.size ≤ B) : RRow w' a rs := fun i x hx => by
  obtain ⟨b, off, ra, rc, ha, h1, h2, h3⟩ := h i x hx
  exact ⟨b, off, ra, rc, ha, by rw [hb.cell (Nat.lt_of_lt_of_le (cell_lt h1) hB)]; exact h1, by rw [hb.cell (Nat.lt_of_lt_of_le (cell_lt h2) hB)]; exact h2, h3.below hb hB⟩
theorem GRow.below {w w' : World} {ta na ra : Option Addr} {g : G} {B : Nat} (h : GRow w ta na ra g) (hb : Below B w w') (hB : w.heap.size ≤ B) : GRow w' ta na ra g :=
  ⟨h.1.below hb hB, h.2.1.below hb hB, h.2.2.below hb hB⟩

theorem SRow.take {w : World} {a : Option Addr} {ss : List ByteArray} (h : SRow w a ss) (n : Nat) : SRow w a (ss.take n) := fun i x hi => by
  rw [List.getElem?_take] at hi
  by_cases hn : i < n
  · rw [if_pos hn] at hi; exact h i x hi
  · rw [if_neg hn] at hi; cases hi

theorem drew_below {B : Nat} (w : World) (q : Nat) : Below B w (w.drewN q) := (show Below B (w.drewN q) (w.drewN q) from Below.refl _ _) |> fun h => ⟨h.os, h.tape, h.output, h.size, h.block⟩

theorem bdrew {B : Nat} {w w' : World} (h : Below B w w') (q : Nat) : Below B w (w'.drewN q) := ⟨h.os, h.tape, h.output, h.size, h.block⟩

/-- A world in which all that lay in another one still lies as it did. -/
structure In (W : World) where
  w : World
  h : Below W.heap.size W w

theorem In.cell {W : World} {p : Addr} {v : Value} (h : W.cell? p = some v) (u : In W) : u.w.cell? p = some v := (u.h.cell (cell_lt h)).trans h

/-- A region that draws its order, whose operations only read what was there, and whose calls only make memory. -/
theorem wp_region_in {P : Program} {id : Nat} {Q : Exit → Act → World → Prop} {a : Act} {W : World} {l : List Oper} (hm : P.follows .mixedOrders = true) (hB : Region.lexB .any l.toArray = true)
    (h : wpQuiet P l.toArray (fun w' => ∃ u : In W, w' = u.w) (fun a' => ∀ w', (∃ u : In W, w' = u.w) → Q .normal a' w') l a) : (Code.region id l.toArray true).wp P Q a W :=
  wp_region_quiet (C := fun w' => ∃ u : In W, w' = u.w) hm hB ⟨⟨{ W with drawn := W.drawn + 1 }, ⟨rfl, rfl, rfl, Nat.le_refl W.heap.size, fun _ _ => rfl⟩⟩, rfl⟩ (by simpa using h)

/-- A sentinel error in its variable. -/
def Sent (w : World) (g : Nat) (a : Addr) : Prop := w.cell? ⟨g, 0, none⟩ = some (.iface 122 (.pointer (some a)))

theorem Sent.below {w w' : World} {g B : Nat} {a : Addr} (h : Sent w g a) (hb : Below B w w') (hB : w.heap.size ≤ B) : Sent w' g a :=
  (hb.cell (Nat.lt_of_lt_of_le (cell_lt h) hB)).trans h

/-- Nothing, or an error. -/
def ckN (a : Addr) (b : Bool) : Value := if b = true then .nilIface else .iface 122 (.pointer (some a))
theorem ckN_true (a : Addr) : ckN a true = .nilIface := rfl
theorem ckN_false (a : Addr) : ckN a false = .iface 122 (.pointer (some a)) := rfl
theorem ret_ckN_true {a : Addr} {b : Bool} (h : b = true) : Ending.returned .nilIface = .returned (ckN a b) := by rw [h]; rfl
theorem ret_ckN_false {a : Addr} {b : Bool} (h : b = false) : Ending.returned (.iface 122 (.pointer (some a))) = .returned (ckN a b) := by rw [h]; rfl

def ckK (p : Nat → Addr) (k : Nat) : Value := if k = 0 then .nilIface else .iface 122 (.pointer (some (p k)))
theorem ret_ckK_zero {p : Nat → Addr} {k : Nat} (h : k = 0) : Ending.returned .nilIface = .returned (ckK p k) := by rw [h]; rfl
theorem ret_ckK {p : Nat → Addr} {k m : Nat} (h : k = m + 1) : Ending.returned (.iface 122 (.pointer (some (p (m + 1))))) = .returned (ckK p k) := by rw [h]; rfl

/-- The three errors that this layer answers. -/
def Sents (w : World) (p : Nat → Addr) : Prop := Sent w 1 (p 1) ∧ Sent w 3 (p 3) ∧ Sent w 10 (p 10)

theorem Sents.below {w w' : World} {p : Nat → Addr} {B : Nat} (h : Sents w p) (hb : Below B w w') (hB : w.heap.size ≤ B) : Sents w' p := ⟨h.1.below hb hB, h.2.1.below hb hB, h.2.2.below hb hB⟩

theorem neq_nil (t : TypeId) (v : Value) (w : World) : (binOp .neq 26 (.iface t v) .nilIface).run Tryd.prog w = .ok (.bool true) w := by kernel_rfl
theorem eql_nil (t : TypeId) (v : Value) (w : World) : (binOp .eql 26 (.iface t v) .nilIface).run Tryd.prog w = .ok (.bool false) w := by kernel_rfl

theorem heap_new (w : World) (o : Obj) : (w.alloc o).heap[w.heap.size]? = some o := heap_alloc_new w o

end Go.Proofs.YtgllcbajgndldaaDoor.GramRow

namespace Go.Proofs.YtgllcbajgndldaaDoor.GramOne
open Go.RowKit Go.Proofs.YtgllcbajgndldaaDoor.GramMath Go.Proofs.YtgllcbajgndldaaDoor.GramRow
set_option linter.unusedVariables false

def idx (ss : List ByteArray) (s : ByteArray) : Int :=
  match ss.findIdx? (fun x => eqB x s) with
  | some k => (k : Int)
  | none => -1

theorem idx_hit {ss : List ByteArray} {s : ByteArray} {k : Nat} (hk : ss[k]? = some s) (hno : ∀ j, j < k → ss[j]? ≠ some s) : idx ss s = (k : Int) := by
  have h : ss.findIdx? (fun x => eqB x s) = some k := by
    rw [List.findIdx?_eq_some_iff_getElem]
    obtain ⟨h1, h2⟩ := List.getElem?_eq_some_iff.1 hk
    refine ⟨h1, (eqB_iff _ _).2 h2, fun j hj => ?_⟩
    have := hno j hj
    rw [List.getElem?_eq_getElem (by omega)] at this
    rw [eqB_iff]
    exact fun e => this (by rw [e])
  unfold idx
  rw [h]

theorem idx_miss {ss : List ByteArray} {s : ByteArray} (hno : ∀ j, j < ss.length → ss[j]? ≠ some s) : idx ss s = -1 := by
  have h : ss.findIdx? (fun x => eqB x s) = none := by
    rw [List.findIdx?_eq_none_iff]
    intro x hx
    obtain ⟨j, hj, rfl⟩ := List.getElem_of_mem hx
    have := hno j hj
    rw [List.getElem?_eq_getElem hj] at this
    rw [Bool.eq_false_iff]
    intro e
    rw [eqB_iff] at e
    exact this (by rw [e])
  unfold idx
  rw [h]

theorem idx_cases (ss : List ByteArray) (s : ByteArray) : (idx ss s = -1 ∧ memB s ss = false) ∨ ∃ k : Nat, idx ss s = (k : Int) ∧ ss[k]? = some s ∧ (∀ j, j < k → ss[j]? ≠ some s) ∧ memB s ss = true := by
  unfold idx
  cases h : ss.findIdx? (fun x => eqB x s) with
  | none =>
    refine .inl ⟨rfl, ?_⟩
    rw [List.findIdx?_eq_none_iff] at h
    rw [Bool.eq_false_iff]
    intro hc
    have := h s ((memB_iff _ _).1 hc)
    rw [(eqB_iff _ _).2 rfl] at this
    cases this
  | some k =>
    rw [List.findIdx?_eq_some_iff_getElem] at h
    obtain ⟨h1, h2, h3⟩ := h
    have e : ss[k] = s := (eqB_iff _ _).1 h2
    refine .inr ⟨k, rfl, by rw [List.getElem?_eq_getElem h1, e], fun j hj hc => ?_, ?_⟩
    · obtain ⟨h4, h5⟩ := List.getElem?_eq_some_iff.1 hc
      exact h3 j hj ((eqB_iff _ _).2 h5)
    · rw [memB_iff, ← e]
      exact List.getElem_mem h1

def idxN (ss : List ByteArray) (s : ByteArray) : Int := if idx ss s < 0 then 0 else idx ss s
def idxB (ss : List ByteArray) (s : ByteArray) : Bool := decide (0 ≤ idx ss s)

end Go.Proofs.YtgllcbajgndldaaDoor.GramOne

namespace Go.Proofs.YtgllcbajgndldaaDoor.GramCheck
open Go.RowKit Go.Proofs.YtgllcbajgndldaaDoor.GramMath Go.Proofs.YtgllcbajgndldaaDoor.GramRow Go.Proofs.YtgllcbajgndldaaDoor.GramOne
set_option linter.unusedVariables false

theorem size_zero {x : ByteArray} (h : x.size = 0) : x = ⟨#[]⟩ := by
  cases x with
  | mk d =>
    congr 1
    exact Array.eq_empty_of_size_eq_zero h

theorem ne_empty {x : ByteArray} (h : 0 < x.size) : (x.toList == []) = false := by
  rw [ByteArray.toList_eq, beq_eq_false_iff_ne]
  intro e
  have : x.data.toList.length = 0 := by rw [e]; rfl
  have h2 : x.data.toList.length = x.size := by cases x; simp [ByteArray.size]
  omega

end Go.Proofs.YtgllcbajgndldaaDoor.GramCheck

namespace Go.Proofs.YtgllcbajgndldaaDoor.GramCheck
open Go.RowKit Go.Proofs.YtgllcbajgndldaaDoor.GramMath Go.Proofs.YtgllcbajgndldaaDoor.GramRow Go.Proofs.YtgllcbajgndldaaDoor.GramOne
set_option linter.unusedVariables false

theorem checkG_bounds {g : G} (h : 60 < g.ts.length + g.ns.length ∨ 120 < g.rs.length) : checkG g = (3, none) := by unfold checkG; rw [if_pos h]
theorem checkG_name {g : G} (h : ¬ (60 < g.ts.length + g.ns.length ∨ 120 < g.rs.length)) (h2 : named g.ts = false ∨ named g.ns = false) : checkG g = (10, none) := by unfold checkG; rw [if_neg h, if_pos h2]
theorem checkG_arg {g : G} (h : ¬ (60 < g.ts.length + g.ns.length ∨ 120 < g.rs.length)) (h2 : named g.ts = true) (h3 : named g.ns = true) (h4 : leftB g.ns.length g.ax = false) : checkG g = (1, none) := by
  unfold checkG; rw [if_neg h, if_neg (by rw [h2, h3]; decide), if_pos h4]
theorem checkG_rules {g : G} (h : ¬ (60 < g.ts.length + g.ns.length ∨ 120 < g.rs.length)) (h2 : named g.ts = true) (h3 : named g.ns = true) (h4 : leftB g.ns.length g.ax = true) : checkG g = rulesK g.ts.length g.ns.length g.rs 0 := by
  unfold checkG; rw [if_neg h, if_neg (by rw [h2, h3]; decide), if_neg (by rw [h4]; decide)]

end Go.Proofs.YtgllcbajgndldaaDoor.GramCheck
