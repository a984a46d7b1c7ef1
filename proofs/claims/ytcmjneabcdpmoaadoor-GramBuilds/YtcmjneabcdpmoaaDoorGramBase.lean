/-
  Rows of a grammar in memory, and Check of the program.
-/
import Derived.Test.YtcmjneabcdpmoaaDoorBaseMath
import Derived.Test.YtcmjneabcdpmoaaDoorProg
import Derived.WalkKit
import Derived.WalkSpells
import Derived.Below
import Derived.Deep.QuietTactic
import Derived.BigQuiet
import Derived.WalkMore
namespace Go.Proofs.YtcmjneabcdpmoaaDoor.GramRow
open Go.RowKit Go.Proofs.YtcmjneabcdpmoaaDoor.GramMath

theorem ret_bool {a b : Bool} (h : a = b) : Ending.returned (.bool a) = .returned (.bool b) := by rw [h]
theorem ret_num {k : IntKind} {a b : Int} (h : a = b) : Ending.returned (.int k a) = .returned (.int k b) := by rw [h]
theorem ret_str {a b : ByteArray} (h : a = b) : Ending.returned (.string a) = .returned (.string b) := by rw [h]

theorem ret_two {k : IntKind} {a a' : Int} {b b' : Bool} (h : a = a') (h2 : b = b') : Ending.returned (.tuple #[.int k a, .bool b]) = .returned (.tuple #[.int k a', .bool b']) := by rw [h, h2]
theorem ret_sb {a a' : ByteArray} {b b' : Bool} (h : a = a') (h2 : b = b') : Ending.returned (.tuple #[.string a, .bool b]) = .returned (.tuple #[.string a', .bool b']) := by rw [h, h2]

theorem str_ne {a b : ByteArray} (h : a ≠ b) : (a.toList == b.toList) = false := by
  rw [ByteArray.toList_eq, ByteArray.toList_eq, beq_eq_false_iff_ne]
  intro e
  apply h
  cases a
  cases b
  congr 1
  exact Array.toList_inj.1 e
theorem str_eq (a : ByteArray) : (a.toList == a.toList) = true := by simp

theorem cell_lt {w : World} {p : Addr} {v : Value} (h : w.cell? p = some v) : p.block < w.heap.size := by
  unfold World.cell? at h
  by_cases hb : p.block < w.heap.size
  · exact hb
  · rw [Array.getElem?_eq_none (by omega)] at h
    simp at h

/-- Texts in a row. -/
def SRow (w : World) (a : Option Addr) (ss : List ByteArray) : Prop :=
  ∀ i x, ss[i]? = some x → ∃ b off, a = some ⟨b, off, none⟩ ∧ w.cell? ⟨b, off + i, none⟩ = some (.string x)
/-- Numbers in a row. -/
def IRow (w : World) (a : Option Addr) (zs : List Int) : Prop :=
  ∀ i x, zs[i]? = some x → ∃ b off, a = some ⟨b, off, none⟩ ∧ w.cell? ⟨b, off + i, none⟩ = some (.int .i64 x)
/-- Rules in a row. -/
def RRow (w : World) (a : Option Addr) (rs : List R) : Prop :=
  ∀ i r, rs[i]? = some r → ∃ b off ra rc, a = some ⟨b, off, none⟩ ∧ w.cell? ⟨b, off + i * 2, none⟩ = some (.int .i64 r.left) ∧ w.cell? ⟨b, off + i * 2 + 1, none⟩ = some (.slice ra r.right.length rc) ∧ IRow w ra r.right

def GRow (w : World) (ta na ra : Option Addr) (g : G) : Prop := SRow w ta g.ts ∧ SRow w na g.ns ∧ RRow w ra g.rs

theorem SRow.below {w w' : World} {a : Option Addr} {ss : List ByteArray} {B : Nat} (h : SRow w a ss) (hb : Below B w w') (hB : w.heap.size ≤ B) : SRow w' a ss := fun i x hx => by
  obtain ⟨b, off, ha, hc⟩ := h i x hx
  exact ⟨b, off, ha, by rw [hb.cell (Nat.lt_of_lt_of_le (cell_lt hc) hB)]; exact hc⟩
theorem IRow.below {w w' : World} {a : Option Addr} {zs : List Int} {B : Nat} (h : IRow w a zs) (hb : Below B w w') (hB : w.heap.size ≤ B) : IRow w' a zs := fun i x hx => by
  obtain ⟨b, off, ha, hc⟩ := h i x hx
  exact ⟨b, off, ha, by rw [hb.cell (Nat.lt_of_lt_of_le (cell_lt hc) hB)]; exact hc⟩
theorem RRow.below {w w' : World} {a : Option Addr} {rs : List R} {B : Nat} (h : RRow w a rs) (hb : Below B w w') (hB : w.heap.size ≤ B) : RRow w' a rs := fun i x hx => by
  obtain ⟨b, off, ra, rc, ha, h1, h2, h3⟩ := h i x hx
  exact ⟨b, off, ra, rc, ha, by rw [hb.cell (Nat.lt_of_lt_of_le (cell_lt h1) hB)]; exact h1, by rw [hb.cell (Nat.lt_of_lt_of_le (cell_lt h2) hB)]; exact h2, h3.below hb hB⟩
theorem GRow.below {w w' : World} {ta na ra : Option Addr} {g : G} {B : Nat} (h : GRow w ta na ra g) (hb : Below B w w') (hB : w.heap.size ≤ B) : GRow w' ta na ra g :=
  ⟨h.1.below hb hB, h.2.1.below hb hB, h.2.2.below hb hB⟩

theorem SRow.take {w : World} {a : Option Addr} {ss : List ByteArray} (h : SRow w a ss) (n : Nat) : SRow w a (ss.take n) := fun i x hi => by
  rw [List.getElem?_take] at hi
  by_cases hn : i < n
  · rw [if_pos hn] at hi; exact h i x hi
  · rw [if_neg hn] at hi; cases hi

theorem drew_below {B : Nat} (w : World) (q : Nat) : Below B w (w.drewN q) := (show Below B (w.drewN q) (w.drewN q) from Below.refl _ _) |> fun h => ⟨h.os, h.tape, h.output, h.size, h.block⟩

theorem bdrew {B : Nat} {w w' : World} (h : Below B w w') (q : Nat) : Below B w (w'.drewN q) := ⟨h.os, h.tape, h.output, h.size, h.block⟩

/-- A world in which all that lay in another one still lies as it did. -/
structure In (W : World) where
  w : World
  h : Below W.heap.size W w

theorem In.cell {W : World} {p : Addr} {v : Value} (h : W.cell? p = some v) (u : In W) : u.w.cell? p = some v := (u.h.cell (cell_lt h)).trans h

/-- A region that draws its order, whose operations only read what was there, and whose calls only make memory. -/
theorem wp_region_in {P : Program} {id : Nat} {Q : Exit → Act → World → Prop} {a : Act} {W : World} {l : List Oper} (hm : P.follows .mixedOrders = true) (hB : Region.lexB .any l.toArray = true)
    (h : wpQuiet P l.toArray (fun w' => ∃ u : In W, w' = u.w) (fun a' => ∀ w', (∃ u : In W, w' = u.w) → Q .normal a' w') l a) : (Code.region id l.toArray true).wp P Q a W :=
  wp_region_quiet (C := fun w' => ∃ u : In W, w' = u.w) hm hB ⟨⟨{ W with drawn := W.drawn + 1 }, ⟨rfl, rfl, rfl, Nat.le_refl W.heap.size, fun _ _ => rfl⟩⟩, rfl⟩ (by simpa using h)

/-- A sentinel error in its variable. -/
def Sent (w : World) (g : Nat) (a : Addr) : Prop := w.cell? ⟨g, 0, none⟩ = some (.iface 129 (.pointer (some a)))

theorem Sent.below {w w' : World} {g B : Nat} {a : Addr} (h : Sent w g a) (hb : Below B w w') (hB : w.heap.size ≤ B) : Sent w' g a :=
  (hb.cell (Nat.lt_of_lt_of_le (cell_lt h) hB)).trans h

/-- Nothing, or an error. -/
def ckN (a : Addr) (b : Bool) : Value := if b = true then .nilIface else .iface 129 (.pointer (some a))
theorem ckN_true (a : Addr) : ckN a true = .nilIface := rfl
theorem ckN_false (a : Addr) : ckN a false = .iface 129 (.pointer (some a)) := rfl
theorem ret_ckN_true {a : Addr} {b : Bool} (h : b = true) : Ending.returned .nilIface = .returned (ckN a b) := by rw [h]; rfl
theorem ret_ckN_false {a : Addr} {b : Bool} (h : b = false) : Ending.returned (.iface 129 (.pointer (some a))) = .returned (ckN a b) := by rw [h]; rfl

def ckK (p : Nat → Addr) (k : Nat) : Value := if k = 0 then .nilIface else .iface 129 (.pointer (some (p k)))
theorem ret_ckK_zero {p : Nat → Addr} {k : Nat} (h : k = 0) : Ending.returned .nilIface = .returned (ckK p k) := by rw [h]; rfl
theorem ret_ckK {p : Nat → Addr} {k m : Nat} (h : k = m + 1) : Ending.returned (.iface 129 (.pointer (some (p (m + 1))))) = .returned (ckK p k) := by rw [h]; rfl

/-- The three errors that this layer answers. -/
def Sents (w : World) (p : Nat → Addr) : Prop := Sent w 0 (p 1) ∧ Sent w 2 (p 3) ∧ Sent w 9 (p 10)

theorem Sents.below {w w' : World} {p : Nat → Addr} {B : Nat} (h : Sents w p) (hb : Below B w w') (hB : w.heap.size ≤ B) : Sents w' p := ⟨h.1.below hb hB, h.2.1.below hb hB, h.2.2.below hb hB⟩

/-- What Check answers. -/
def CkV (base : Nat) (p : Nat → Addr) (r : Nat × Option Nat) (w : World) (v : Value) : Prop :=
  match r with
  | (0, _) => v = .nilIface
  | (k + 1, none) => v = .iface 129 (.pointer (some (p (k + 1))))
  | (k + 1, some i) => ∃ b, base ≤ b ∧ v = .iface 73 (.pointer (some ⟨b, 0, none⟩)) ∧ w.heap[b]? = some (.cells #[.int .i64 (i : Int), .iface 129 (.pointer (some (p (k + 1))))] 77 (0, 0))

theorem CkV.below {base : Nat} {p : Nat → Addr} {r : Nat × Option Nat} {w w' : World} {v : Value} {B : Nat} (h : CkV base p r w v) (hb : Below B w w') (hB : w.heap.size ≤ B) : CkV base p r w' v := by
  match r, h with
  | (0, _), h => exact h
  | (k + 1, none), h => exact h
  | (k + 1, some i), ⟨b, h1, h2, h3⟩ => exact ⟨b, h1, h2, (hb.block b (Nat.lt_of_lt_of_le (Array.getElem?_eq_some_iff.1 h3).1 hB)).trans h3⟩

theorem CkV.mono {base base' : Nat} {p : Nat → Addr} {r : Nat × Option Nat} {w : World} {v : Value} (h : CkV base p r w v) (hB : base' ≤ base) : CkV base' p r w v := by
  match r, h with
  | (0, _), h => exact h
  | (k + 1, none), h => exact h
  | (k + 1, some i), ⟨b, h1, h2, h3⟩ => exact ⟨b, Nat.le_trans hB h1, h2, h3⟩

theorem neq_nil (t : TypeId) (v : Value) (w : World) : (binOp .neq 58 (.iface t v) .nilIface).run Tryd.prog w = .ok (.bool true) w := by kernel_rfl
theorem eql_nil (t : TypeId) (v : Value) (w : World) : (binOp .eql 58 (.iface t v) .nilIface).run Tryd.prog w = .ok (.bool false) w := by kernel_rfl

theorem heap_new (w : World) (o : Obj) : (w.alloc o).heap[w.heap.size]? = some o := heap_alloc_new w o

end Go.Proofs.YtcmjneabcdpmoaaDoor.GramRow

namespace Go.Proofs.YtcmjneabcdpmoaaDoor.GramOne
open Go.RowKit Go.Proofs.YtcmjneabcdpmoaaDoor.GramMath Go.Proofs.YtcmjneabcdpmoaaDoor.GramRow
set_option linter.unusedVariables false

set_option maxHeartbeats 400000 in
theorem has_any (a : Option Addr) (n c : Nat) (x : Int) (w : World) (hn : n ≤ 1125899906842624) :
    Calls Tryd.prog 40 #[.slice a n c, .int .i64 x] w fun e w' => e = .returned (.bool (leftB n x)) ∧ w' = w := by
  by_cases h1 : 0 ≤ x
  · by_cases h2 : x < (n : Int)
    · have E : Hid (leftB n x = true) := by show _ = _; simp [leftB, h1, h2]
      go_enter Tryd.func40, Tryd.ntmps40
      go_wp2
      go_ret
      exact ⟨ret_bool E.out.symm, rfl⟩
    · have E : Hid (leftB n x = false) := by show _ = _; simp [leftB, h1, h2]
      go_enter Tryd.func40, Tryd.ntmps40
      go_wp2
      go_ret
      exact ⟨ret_bool E.out.symm, rfl⟩
  · have E : Hid (leftB n x = false) := by show _ = _; simp [leftB, h1]
    go_enter Tryd.func40, Tryd.ntmps40
    go_wp2
    go_ret
    exact ⟨ret_bool E.out.symm, rfl⟩

set_option maxHeartbeats 400000 in
theorem nonterm_any (x : Int) (w : World) (hx : I64 x) : Calls Tryd.prog 52 #[.int .i64 x] w fun e w' => e = .returned (.int .i64 (-1 - x)) ∧ w' = w := by
  obtain ⟨h1, h2⟩ := hx
  go_enter Tryd.func52, Tryd.ntmps52
  go_wp2
  go_ret
  exact ⟨rfl, rfl⟩

def idx (ss : List ByteArray) (s : ByteArray) : Int :=
  match ss.findIdx? (fun x => eqB x s) with
  | some k => (k : Int)
  | none => -1

theorem idx_hit {ss : List ByteArray} {s : ByteArray} {k : Nat} (hk : ss[k]? = some s) (hno : ∀ j, j < k → ss[j]? ≠ some s) : idx ss s = (k : Int) := by
  have h : ss.findIdx? (fun x => eqB x s) = some k := by
    rw [List.findIdx?_eq_some_iff_getElem]
    obtain ⟨h1, h2⟩ := List.getElem?_eq_some_iff.1 hk
    refine ⟨h1, (eqB_iff _ _).2 h2, fun j hj => ?_⟩
    have := hno j hj
    rw [List.getElem?_eq_getElem (by omega)] at this
    rw [eqB_iff]
    exact fun e => this (by rw [e])
  unfold idx
  rw [h]

theorem idx_miss {ss : List ByteArray} {s : ByteArray} (hno : ∀ j, j < ss.length → ss[j]? ≠ some s) : idx ss s = -1 := by
  have h : ss.findIdx? (fun x => eqB x s) = none := by
    rw [List.findIdx?_eq_none_iff]
    intro x hx
    obtain ⟨j, hj, rfl⟩ := List.getElem_of_mem hx
    have := hno j hj
    rw [List.getElem?_eq_getElem hj] at this
    rw [Bool.eq_false_iff]
    intro e
    rw [eqB_iff] at e
    exact this (by rw [e])
  unfold idx
  rw [h]

theorem idx_cases (ss : List ByteArray) (s : ByteArray) : (idx ss s = -1 ∧ memB s ss = false) ∨ ∃ k : Nat, idx ss s = (k : Int) ∧ ss[k]? = some s ∧ (∀ j, j < k → ss[j]? ≠ some s) ∧ memB s ss = true := by
  unfold idx
  cases h : ss.findIdx? (fun x => eqB x s) with
  | none =>
    refine .inl ⟨rfl, ?_⟩
    rw [List.findIdx?_eq_none_iff] at h
    rw [Bool.eq_false_iff]
    intro hc
    have := h s ((memB_iff _ _).1 hc)
    rw [(eqB_iff _ _).2 rfl] at this
    cases this
  | some k =>
    rw [List.findIdx?_eq_some_iff_getElem] at h
    obtain ⟨h1, h2, h3⟩ := h
    have e : ss[k] = s := (eqB_iff _ _).1 h2
    refine .inr ⟨k, rfl, by rw [List.getElem?_eq_getElem h1, e], fun j hj hc => ?_, ?_⟩
    · obtain ⟨h4, h5⟩ := List.getElem?_eq_some_iff.1 hc
      exact h3 j hj ((eqB_iff _ _).2 h5)
    · rw [memB_iff, ← e]
      exact List.getElem_mem h1

set_option maxRecDepth 100000 in
set_option maxHeartbeats 1000000 in
theorem index_any (a : Option Addr) (c : Nat) (ss : List ByteArray) (s : ByteArray) (w : World) (hr : SRow w a ss) (hm : ss.length ≤ 1125899906842624) :
    Calls Tryd.prog 56 #[.slice a ss.length c, .string s] w fun e w' => e = .returned (.int .i64 (idx ss s)) ∧ w' = w := by
  go_enter Tryd.func56, Tryd.ntmps56
  go_wp2
  go_loop [8] (fun i => ∃ k : Nat, k ≤ ss.length ∧ i = .int .i64 k ∧ ∀ j, j < k → ss[j]? ≠ some s) (fun i => ss.length - (intOf i).toNat)
  case atStart => exact ⟨0, by omega, rfl, fun j hj => by omega⟩
  case round =>
    obtain ⟨k, hk, rfl, hno⟩ := hrel
    by_cases hlt : k < ss.length
    · obtain ⟨x, hx⟩ : ∃ x, ss[k]? = some x := ⟨ss[k], List.getElem?_eq_getElem hlt⟩
      obtain ⟨b, off, rfl, hc⟩ := hr k x hx
      have hlt2 : (k : Int) < (ss.length : Int) := by omega
      by_cases hs : s = x
      · subst hs
        have E : Hid (idx ss s = (k : Int)) := idx_hit hx hno
        clear hr hno hx
        go_wp2
        go_ret
        exact ⟨ret_num E.out.symm, rfl⟩
      · have hs1 := str_ne hs
        have hno2 : Hid (∀ j, j < k + 1 → ss[j]? ≠ some s) := fun j hj => by
          by_cases hjk : j = k
          · subst hjk; rw [hx]; intro e; exact hs (Option.some.inj e).symm
          · exact hno j (by omega)
        clear hr hno hx
        go_wp2
        go_round
        case rel => exact ⟨k + 1, by omega, by go_num, hno2.out⟩
        case measure => simp [intOf]; omega
    · have E : Hid (idx ss s = -1) := idx_miss (fun j hj => hno j (by omega))
      clear hr hno
      go_wp2
      go_ret
      exact ⟨ret_num E.out.symm, rfl⟩

set_option maxHeartbeats 400000 in
theorem contains_any (a : Option Addr) (c : Nat) (ss : List ByteArray) (s : ByteArray) (w : World) (hr : SRow w a ss) (hm : ss.length ≤ 1125899906842624) :
    Calls Tryd.prog 55 #[.slice a ss.length c, .string s] w fun e w' => e = .returned (.bool (memB s ss)) ∧ w' = w := by
  have hi := index_any a c ss s w hr hm
  rcases idx_cases ss s with ⟨h1, h2⟩ | ⟨k, h1, _, _, h2⟩
  · rw [h1] at hi
    have E : Hid (memB s ss = false) := h2
    clear h1 h2
    go_enter Tryd.func55, Tryd.ntmps55
    go_wp2_with fail
    refine hi.mono ?_
    rintro e w1 ⟨rfl, hw1⟩
    obtain rfl := hw1.symm
    go_wp2
    go_ret
    exact ⟨ret_bool E.out.symm, rfl⟩
  · rw [h1] at hi
    have E : Hid (memB s ss = true) := h2
    have hk : (0 : Int) ≤ (k : Int) := by omega
    clear h1 h2
    go_enter Tryd.func55, Tryd.ntmps55
    go_wp2_with fail
    refine hi.mono ?_
    rintro e w1 ⟨rfl, hw1⟩
    obtain rfl := hw1.symm
    go_wp2
    go_ret
    exact ⟨ret_bool E.out.symm, rfl⟩

def idxN (ss : List ByteArray) (s : ByteArray) : Int := if idx ss s < 0 then 0 else idx ss s
def idxB (ss : List ByteArray) (s : ByteArray) : Bool := decide (0 ≤ idx ss s)

end Go.Proofs.YtcmjneabcdpmoaaDoor.GramOne

namespace Go.Proofs.YtcmjneabcdpmoaaDoor.GramCheck
open Go.RowKit Go.Proofs.YtcmjneabcdpmoaaDoor.GramMath Go.Proofs.YtcmjneabcdpmoaaDoor.GramRow Go.Proofs.YtcmjneabcdpmoaaDoor.GramOne
set_option linter.unusedVariables false

theorem size_zero {x : ByteArray} (h : x.size = 0) : x = ⟨#[]⟩ := by
  cases x with
  | mk d =>
    congr 1
    exact Array.eq_empty_of_size_eq_zero h

theorem ne_empty {x : ByteArray} (h : 0 < x.size) : (x.toList == []) = false := by
  rw [ByteArray.toList_eq, beq_eq_false_iff_ne]
  intro e
  have : x.data.toList.length = 0 := by rw [e]; rfl
  have h2 : x.data.toList.length = x.size := by cases x; simp [ByteArray.size]
  omega

set_option maxRecDepth 100000 in
set_option maxHeartbeats 1000000 in
theorem checkName_any (a : Option Addr) (c : Nat) (ss : List ByteArray) (k : Nat) (aN : Addr) (w : World) (hr : SRow w a ss) (hk : k < ss.length) (hc : ss.length ≤ c) (hm : ss.length ≤ 1125899906842624) (hS : Sent w 9 aN) :
    Calls Tryd.prog 51 #[.slice a ss.length c, .int .i64 (k : Int)] w fun e w' => e = .returned (ckN aN (nameAt ss k)) ∧ w' = w := by
  obtain ⟨x, hx⟩ : ∃ x, ss[k]? = some x := ⟨ss[k], List.getElem?_eq_getElem hk⟩
  obtain ⟨b, off, rfl, hcell⟩ := hr k x hx
  have hs : w.cell? ⟨9, 0, none⟩ = some (.iface 129 (.pointer (some aN))) := hS
  have hlt2 : (k : Int) < (ss.length : Int) := by omega
  have hkc : (k : Int) ≤ (c : Int) := by omega
  have hE : Hid (nameAt ss k = (decide (0 < x.size) && decide (x.size ≤ 32) && !memB x (ss.take k))) := by show _ = _; unfold nameAt; rw [hx]
  have hct := contains_any (some ⟨b, off, none⟩) c (ss.take k) x w (hr.take k) (by rw [List.length_take]; omega)
  rw [List.length_take, Nat.min_eq_left (Nat.le_of_lt hk)] at hct
  clear hr hx
  by_cases h0 : x.size = 0
  · obtain rfl := size_zero h0
    have E : Hid (nameAt ss k = false) := by show _ = _; rw [hE.out]; rfl
    clear hE hct
    go_enter Tryd.func51, Tryd.ntmps51
    go_wp2
    go_ret
    exact ⟨ret_ckN_false E.out, rfl⟩
  · have h1 := ne_empty (x := x) (by omega)
    by_cases h2 : 32 < x.size
    · have E : Hid (nameAt ss k = false) := by show _ = _; rw [hE.out, decide_eq_false (show ¬ x.size ≤ 32 by omega)]; simp
      have h3 : (32 : Int) < (x.size : Int) := by omega
      clear hE hct
      go_enter Tryd.func51, Tryd.ntmps51
      go_wp2
      go_ret
      exact ⟨ret_ckN_false E.out, rfl⟩
    · have h3 : ¬ (32 : Int) < (x.size : Int) := by omega
      have E : Hid (nameAt ss k = !memB x (ss.take k)) := by show _ = _; rw [hE.out, decide_eq_true (show 0 < x.size by omega), decide_eq_true (show x.size ≤ 32 by omega)]; simp
      clear hE
      cases hB : memB x (ss.take k) with
      | true =>
        rw [hB] at E hct
        go_enter Tryd.func51, Tryd.ntmps51
        go_wp2_with fail
        refine hct.mono ?_
        rintro e w1 ⟨rfl, hw1⟩
        obtain rfl := hw1.symm
        go_wp2
        go_ret
        exact ⟨ret_ckN_false E.out, rfl⟩
      | false =>
        rw [hB] at E hct
        go_enter Tryd.func51, Tryd.ntmps51
        go_wp2_with fail
        refine hct.mono ?_
        rintro e w1 ⟨rfl, hw1⟩
        obtain rfl := hw1.symm
        go_wp2
        go_ret
        exact ⟨ret_ckN_true E.out, rfl⟩

set_option maxRecDepth 100000 in
set_option maxHeartbeats 1000000 in
theorem checkNames_any (a : Option Addr) (c : Nat) (ss : List ByteArray) (aN : Addr) (w : World) (hr : SRow w a ss) (hc : ss.length ≤ c) (hm : ss.length ≤ 1125899906842624) (hS : Sent w 9 aN) :
    Calls Tryd.prog 39 #[.slice a ss.length c] w fun e w' => e = .returned (ckN aN (named ss)) ∧ w' = w := by
  have hneq := neq_nil
  go_enter Tryd.func39, Tryd.ntmps39
  go_wp2
  go_loop [7] (fun i => ∃ k : Nat, k ≤ ss.length ∧ i = .int .i64 k ∧ Hid (namedTo ss k = true)) (fun i => ss.length - (intOf i).toNat)
  case atStart => exact ⟨0, by omega, rfl, namedTo_zero ss⟩
  case round =>
    obtain ⟨k, hk, rfl, hno⟩ := hrel
    by_cases hlt : k < ss.length
    · have hcn := checkName_any a c ss k aN w hr hlt hc hm hS
      have hlt2 : (k : Int) < (ss.length : Int) := by omega
      cases hB : nameAt ss k with
      | true =>
        rw [hB, ckN_true] at hcn
        have hno2 : Hid (namedTo ss (k + 1) = true) := by show _ = _; rw [namedTo_succ, hno.out, hB]; rfl
        clear hB hno
        go_wp2_with fail
        refine hcn.mono ?_
        rintro e w1 ⟨rfl, hw1⟩
        obtain rfl := hw1.symm
        go_wp2
        go_round
        case rel => exact ⟨k + 1, by omega, by go_num, hno2⟩
        case measure => simp [intOf]; omega
      | false =>
        rw [hB, ckN_false] at hcn
        have E : Hid (named ss = false) := named_false hlt hB
        clear hB hno
        go_wp2_with fail
        refine hcn.mono ?_
        rintro e w1 ⟨rfl, hw1⟩
        obtain rfl := hw1.symm
        go_wp2
        go_ret
        exact ⟨ret_ckN_false E.out, rfl⟩
    · obtain rfl : k = ss.length := by omega
      have E : Hid (named ss = true) := hno
      clear hno
      go_wp2
      go_ret
      exact ⟨ret_ckN_true E.out, rfl⟩

set_option maxRecDepth 100000 in
set_option maxHeartbeats 1000000 in
theorem checkRule_any (ta na ra qa : Option Addr) (tc nc rc qc : Nat) (g : G) (r : R) (p : Nat → Addr) (w : World) (hr : IRow w qa r.right) (ho : okR r) (hg : okG g) (hS : Sents w p) :
    Calls Tryd.prog 41 #[.agg #[.slice ta g.ts.length tc, .slice na g.ns.length nc, .int .i64 g.ax, .slice ra g.rs.length rc], .agg #[.int .i64 r.left, .slice qa r.right.length qc]] w fun e w' => e = .returned (ckK p (ruleK g.ts.length g.ns.length r)) ∧ Below w.heap.size w w' := by
  obtain ⟨g1, g2, _⟩ := hg
  obtain ⟨_, o2, o3⟩ := ho
  obtain ⟨s1, s3, _⟩ := hS
  have e1 : w.cell? ⟨0, 0, none⟩ = some (.iface 129 (.pointer (some (p 1)))) := s1
  have e3 : w.cell? ⟨2, 0, none⟩ = some (.iface 129 (.pointer (some (p 3)))) := s3
  have l1 := cell_lt e1
  have l3 := cell_lt e3
  dsimp only at l1 l3
  have l0 : 0 < w.heap.size := by omega
  have hB2 : ∀ o1 o2, Below w.heap.size w ((w.alloc o1).alloc o2) := fun o1 o2 => ((Below.refl _ _).alloc (Nat.le_refl _) _).alloc (by simp) _
  by_cases h1 : 32 < r.right.length
  · have E : Hid (ruleK g.ts.length g.ns.length r = 3) := ruleK_long h1
    have h2 : (32 : Int) < (r.right.length : Int) := by omega
    go_enter Tryd.func41, Tryd.ntmps41
    go_wp2
    go_ret
    exact ⟨ret_ckK E.out, hB2 _ _⟩
  · have h2 : ¬ (32 : Int) < (r.right.length : Int) := by omega
    cases hL : leftB g.ns.length r.left with
    | false =>
      have E : Hid (ruleK g.ts.length g.ns.length r = 1) := ruleK_left h1 hL
      have hh := fun W => has_any na g.ns.length nc r.left W g2
      rw [hL] at hh
      go_enter Tryd.func41, Tryd.ntmps41
      go_wp2_with fail
      refine (hh _).mono ?_
      rintro e w1 ⟨rfl, hw1⟩
      obtain rfl := hw1.symm
      go_wp2
      go_ret
      exact ⟨ret_ckK E.out, hB2 _ _⟩
    | true =>
      have hh := fun W => has_any na g.ns.length nc r.left W g2
      rw [hL] at hh
      have hr2 : IRow ((w.alloc (.cells #[.slice ta g.ts.length tc, .slice na g.ns.length nc, .int .i64 g.ax, .slice ra g.rs.length rc] 35)).alloc (.cells #[.int .i64 r.left, .slice qa r.right.length qc] 53)) qa r.right := hr.below (hB2 _ _) (Nat.le_refl _)
      have hBW := hB2 (.cells #[.slice ta g.ts.length tc, .slice na g.ns.length nc, .int .i64 g.ax, .slice ra g.rs.length rc] 35) (.cells #[.int .i64 r.left, .slice qa r.right.length qc] 53)
      clear hB2 hr
      go_enter Tryd.func41, Tryd.ntmps41
      go_wp2_with fail
      refine (hh _).mono ?_
      rintro e w1 ⟨rfl, hw1⟩
      obtain rfl := hw1.symm
      clear hh
      go_wp2
      go_loopw [22] (fun i wr => ∃ k q : Nat, k ≤ r.right.length ∧ i = .int .i64 k ∧ wr = World.drewN ((w.alloc (.cells #[.slice ta g.ts.length tc, .slice na g.ns.length nc, .int .i64 g.ax, .slice ra g.rs.length rc] 35)).alloc (.cells #[.int .i64 r.left, .slice qa r.right.length qc] 53)) q ∧ Hid ((r.right.take k).all (symB g.ts.length g.ns.length) = true)) (fun i _ => r.right.length - (intOf i).toNat)
      case atStart => exact ⟨0, 0, by omega, rfl, rfl, rfl⟩
      case round =>
        obtain ⟨k, q, hk, rfl, rfl, hal⟩ := hrel
        by_cases hlt : k < r.right.length
        · obtain ⟨x, hx⟩ : ∃ x, r.right[k]? = some x := ⟨r.right[k], List.getElem?_eq_getElem hlt⟩
          obtain ⟨b, off, rfl, hc⟩ := hr2 k x hx
          have hlt2 : (k : Int) < (r.right.length : Int) := by omega
          have hx64 := o2 x (List.mem_of_getElem? hx)
          have ht := fun W => has_any ta g.ts.length tc x W g1
          have hn := fun W => has_any na g.ns.length nc (-1 - x) W g2
          have hnt := fun W => nonterm_any x W hx64
          have hor := symB_or g.ts.length g.ns.length x
          cases hT : leftB g.ts.length x with
          | true =>
            rw [hT] at ht hor
            have hal2 : Hid ((r.right.take (k + 1)).all (symB g.ts.length g.ns.length) = true) := all_take_succ hx hal.out (by rw [hor]; rfl)
            clear hor hal hr2 hx hL hT h1
            go_wp2
            go_quiet ((go_at_call 40; exact (ht _).mono (fun _ _ h => ⟨h.1, _, h.2⟩)))
            go_wp2
            go_roundw
            case rel => exact ⟨k + 1, _, by omega, by go_num, rfl, hal2⟩
            case measure => simp [intOf]; omega
          | false =>
            rw [hT] at ht hor
            cases hN : leftB g.ns.length (-1 - x) with
            | true =>
              rw [hN] at hn hor
              have hal2 : Hid ((r.right.take (k + 1)).all (symB g.ts.length g.ns.length) = true) := all_take_succ hx hal.out (by rw [hor]; rfl)
              clear hor hal hr2 hx hL h1 ht hn hnt
              go_wp2
              go_quiet ((first | (go_at_call 40; refine (has_any _ _ _ _ _ (by omega)).mono (fun _ _ h => ⟨h.1, _, h.2⟩)) | (go_at_call 52; refine (nonterm_any _ _ hx64).mono (fun _ _ h => ⟨h.1, _, h.2⟩))))
              go_wp2
              go_roundw
              case rel => exact ⟨k + 1, _, by omega, by go_num, rfl, hal2⟩
              case measure => simp [intOf]; omega
            | false =>
              rw [hN] at hn hor
              have E : Hid (ruleK g.ts.length g.ns.length r = 1) := ruleK_sym h1 hL hx (by rw [hor]; rfl)
              clear hor hal hr2 hx hL h1 ht hn hnt
              go_wp2
              go_quiet ((first | (go_at_call 40; refine (has_any _ _ _ _ _ (by omega)).mono (fun _ _ h => ⟨h.1, _, h.2⟩)) | (go_at_call 52; refine (nonterm_any _ _ hx64).mono (fun _ _ h => ⟨h.1, _, h.2⟩))))
              go_wp2
              go_ret
              exact ⟨ret_ckK E.out, hBW.os, hBW.tape, hBW.output, hBW.size, hBW.block⟩
        · obtain rfl : k = r.right.length := by omega
          have E : Hid (ruleK g.ts.length g.ns.length r = 0) := ruleK_good h1 hL hal.out
          clear hal hr2 hL h1
          go_wp2
          go_ret
          exact ⟨ret_ckK_zero E.out, hBW.os, hBW.tape, hBW.output, hBW.size, hBW.block⟩

end Go.Proofs.YtcmjneabcdpmoaaDoor.GramCheck

namespace Go.Proofs.YtcmjneabcdpmoaaDoor.GramCheck
open Go.RowKit Go.Proofs.YtcmjneabcdpmoaaDoor.GramMath Go.Proofs.YtcmjneabcdpmoaaDoor.GramRow Go.Proofs.YtcmjneabcdpmoaaDoor.GramOne
set_option linter.unusedVariables false

theorem checkG_bounds {g : G} (h : 60 < g.ts.length + g.ns.length ∨ 120 < g.rs.length) : checkG g = (3, none) := by unfold checkG; rw [if_pos h]
theorem checkG_name {g : G} (h : ¬ (60 < g.ts.length + g.ns.length ∨ 120 < g.rs.length)) (h2 : named g.ts = false ∨ named g.ns = false) : checkG g = (10, none) := by unfold checkG; rw [if_neg h, if_pos h2]
theorem checkG_arg {g : G} (h : ¬ (60 < g.ts.length + g.ns.length ∨ 120 < g.rs.length)) (h2 : named g.ts = true) (h3 : named g.ns = true) (h4 : leftB g.ns.length g.ax = false) : checkG g = (1, none) := by
  unfold checkG; rw [if_neg h, if_neg (by rw [h2, h3]; decide), if_pos h4]
theorem checkG_rules {g : G} (h : ¬ (60 < g.ts.length + g.ns.length ∨ 120 < g.rs.length)) (h2 : named g.ts = true) (h3 : named g.ns = true) (h4 : leftB g.ns.length g.ax = true) : checkG g = rulesK g.ts.length g.ns.length g.rs 0 := by
  unfold checkG; rw [if_neg h, if_neg (by rw [h2, h3]; decide), if_neg (by rw [h4]; decide)]

set_option maxRecDepth 100000 in
set_option maxHeartbeats 8000000 in
theorem check_any (ta na ra : Option Addr) (tc nc rc : Nat) (g : G) (p : Nat → Addr) (w : World) (hG : GRow w ta na ra g) (hg : okG g) (htc : g.ts.length ≤ tc) (hnc : g.ns.length ≤ nc) (hS : Sents w p) :
    Calls Tryd.prog 28 #[.agg #[.slice ta g.ts.length tc, .slice na g.ns.length nc, .int .i64 g.ax, .slice ra g.rs.length rc]] w fun e w' => (∃ v, e = .returned v ∧ CkV w.heap.size p (checkG g) w' v) ∧ Below w.heap.size w w' := by
  have hneq := neq_nil
  obtain ⟨g1, g2, g3, _, g5, _⟩ := id hg
  obtain ⟨s1, s3, s10⟩ := id hS
  have e1 : w.cell? ⟨0, 0, none⟩ = some (.iface 129 (.pointer (some (p 1)))) := s1
  have e3 : w.cell? ⟨2, 0, none⟩ = some (.iface 129 (.pointer (some (p 3)))) := s3
  have l1 := cell_lt e1
  have l3 := cell_lt e3
  dsimp only at l1 l3
  have hB1 : Below w.heap.size w (w.alloc (.cells #[.slice ta g.ts.length tc, .slice na g.ns.length nc, .int .i64 g.ax, .slice ra g.rs.length rc] 35)) := (Below.refl _ _).alloc (Nat.le_refl _) _
  by_cases h1 : 60 < g.ts.length + g.ns.length
  · have E : Hid (checkG g = (3, none)) := checkG_bounds (.inl h1)
    have h2 : (60 : Int) < (g.ts.length : Int) + (g.ns.length : Int) := by omega
    go_enter Tryd.func28, Tryd.ntmps28
    go_wp2
    go_ret
    exact ⟨⟨_, rfl, by rw [E.out]; rfl⟩, hB1⟩
  · have h1' : ¬ (60 : Int) < (g.ts.length : Int) + (g.ns.length : Int) := by omega
    by_cases h2 : 120 < g.rs.length
    · have E : Hid (checkG g = (3, none)) := checkG_bounds (.inr h2)
      have h2' : (120 : Int) < (g.rs.length : Int) := by omega
      go_enter Tryd.func28, Tryd.ntmps28
      go_wp2
      go_ret
      exact ⟨⟨_, rfl, by rw [E.out]; rfl⟩, hB1⟩
    · have h2' : ¬ (120 : Int) < (g.rs.length : Int) := by omega
      have hbd : ¬ (60 < g.ts.length + g.ns.length ∨ 120 < g.rs.length) := by omega
      have hct := checkNames_any ta tc g.ts (p 10) _ (hG.1.below hB1 (Nat.le_refl _)) htc g1 (s10.below hB1 (Nat.le_refl _))
      have hcn := checkNames_any na nc g.ns (p 10) _ (hG.2.1.below hB1 (Nat.le_refl _)) hnc g2 (s10.below hB1 (Nat.le_refl _))
      have hR := hG.2.2.below hB1 (Nat.le_refl _)
      have hS1 := hS.below hB1 (Nat.le_refl _)
      clear hG
      cases ht : named g.ts with
      | false =>
        have E : Hid (checkG g = (10, none)) := checkG_name hbd (.inl ht)
        rw [ht, ckN_false] at hct
        clear hcn hR
        go_enter Tryd.func28, Tryd.ntmps28
        go_wp2_with fail
        refine hct.mono ?_
        rintro e w1 ⟨rfl, hw1⟩
        obtain rfl := hw1.symm
        go_wp2
        go_ret
        exact ⟨⟨_, rfl, by rw [E.out]; rfl⟩, hB1⟩
      | true =>
        rw [ht, ckN_true] at hct
        cases hn : named g.ns with
        | false =>
          have E : Hid (checkG g = (10, none)) := checkG_name hbd (.inr hn)
          rw [hn, ckN_false] at hcn
          clear hR
          go_enter Tryd.func28, Tryd.ntmps28
          go_wp2_with fail
          refine hct.mono ?_
          rintro e w1 ⟨rfl, hw1⟩
          obtain rfl := hw1.symm
          go_wp2_with fail
          refine hcn.mono ?_
          rintro e w1 ⟨rfl, hw1⟩
          obtain rfl := hw1.symm
          go_wp2
          go_ret
          exact ⟨⟨_, rfl, by rw [E.out]; rfl⟩, hB1⟩
        | true =>
          rw [hn, ckN_true] at hcn
          have hh := fun W => has_any na g.ns.length nc g.ax W g2
          cases hA : leftB g.ns.length g.ax with
          | false =>
            have E : Hid (checkG g = (1, none)) := checkG_arg hbd ht hn hA
            rw [hA] at hh
            clear hR
            go_enter Tryd.func28, Tryd.ntmps28
            go_wp2_with fail
            refine hct.mono ?_
            rintro e w1 ⟨rfl, hw1⟩
            obtain rfl := hw1.symm
            go_wp2_with fail
            refine hcn.mono ?_
            rintro e w1 ⟨rfl, hw1⟩
            obtain rfl := hw1.symm
            go_wp2_with fail
            refine (hh _).mono ?_
            rintro e w1 ⟨rfl, hw1⟩
            obtain rfl := hw1.symm
            go_wp2
            go_ret
            exact ⟨⟨_, rfl, by rw [E.out]; rfl⟩, hB1⟩
          | true =>
            rw [hA] at hh
            have E : Hid (checkG g = rulesK g.ts.length g.ns.length g.rs 0) := checkG_rules hbd ht hn hA
            clear ht hn hA hbd h1 h2
            go_enter Tryd.func28, Tryd.ntmps28
            go_wp2_with fail
            refine hct.mono ?_
            rintro e w1 ⟨rfl, hw1⟩
            obtain rfl := hw1.symm
            go_wp2_with fail
            refine hcn.mono ?_
            rintro e w1 ⟨rfl, hw1⟩
            obtain rfl := hw1.symm
            go_wp2_with fail
            refine (hh _).mono ?_
            rintro e w1 ⟨rfl, hw1⟩
            obtain rfl := hw1.symm
            clear hct hcn hh
            have hsz : (w.alloc (.cells #[.slice ta g.ts.length tc, .slice na g.ns.length nc, .int .i64 g.ax, .slice ra g.rs.length rc] 35)).heap.size = w.heap.size + 1 := by simp
            have b0 : (w.alloc (.cells #[.slice ta g.ts.length tc, .slice na g.ns.length nc, .int .i64 g.ax, .slice ra g.rs.length rc] 35)).cell? ⟨w.heap.size, 0, none⟩ = some (.slice ta g.ts.length tc) := by simp
            have b1 : (w.alloc (.cells #[.slice ta g.ts.length tc, .slice na g.ns.length nc, .int .i64 g.ax, .slice ra g.rs.length rc] 35)).cell? ⟨w.heap.size, 1, none⟩ = some (.slice na g.ns.length nc) := by simp
            have b2 : (w.alloc (.cells #[.slice ta g.ts.length tc, .slice na g.ns.length nc, .int .i64 g.ax, .slice ra g.rs.length rc] 35)).cell? ⟨w.heap.size, 2, none⟩ = some (.int .i64 g.ax) := by simp
            have b3 : (w.alloc (.cells #[.slice ta g.ts.length tc, .slice na g.ns.length nc, .int .i64 g.ax, .slice ra g.rs.length rc] 35)).cell? ⟨w.heap.size, 3, none⟩ = some (.slice ra g.rs.length rc) := by simp
            generalize w.alloc (.cells #[.slice ta g.ts.length tc, .slice na g.ns.length nc, .int .i64 g.ax, .slice ra g.rs.length rc] 35) = W1 at *
            go_wp2
            go_loopw [45] (fun i wr => ∃ k : Nat, k ≤ g.rs.length ∧ i = .int .i64 k ∧ Hid (checkG g = rulesK g.ts.length g.ns.length (g.rs.drop k) k) ∧ Below (w.heap.size + 1) W1 wr) (fun i _ => g.rs.length - (intOf i).toNat)
            case atStart => exact ⟨0, by omega, rfl, E, Below.refl _ _⟩
            case round =>
              clear E
              obtain ⟨k, hk, rfl, E, hB⟩ := hrel
              have c0 := (hB.cell (p := ⟨w.heap.size, 0, none⟩) (by simp)).trans b0
              have c1 := (hB.cell (p := ⟨w.heap.size, 1, none⟩) (by simp)).trans b1
              have c2 := (hB.cell (p := ⟨w.heap.size, 2, none⟩) (by simp)).trans b2
              have c3 := (hB.cell (p := ⟨w.heap.size, 3, none⟩) (by simp)).trans b3
              have hRk := hR.below hB (by omega)
              have hSk := hS1.below hB (by omega)
              have hsk := hB.size
              have hBw : Below w.heap.size w wr := hB1.trans (hB.mono (by omega))
              have hlt3 : w.heap.size < wr.heap.size := by omega
              by_cases hlt : k < g.rs.length
              · obtain ⟨r, hr⟩ : ∃ r, g.rs[k]? = some r := ⟨g.rs[k], List.getElem?_eq_getElem hlt⟩
                obtain ⟨b, off, qa, qc, hra, d0, d1, hI⟩ := hRk k r hr
                subst hra
                have hlt2 : (k : Int) < (g.rs.length : Int) := by omega
                have ho := g5 r (List.mem_of_getElem? hr)
                rw [rulesK_drop hr] at E
                have hBa : Below wr.heap.size wr (wr.alloc (.cells #[.int .i64 r.left, .slice qa r.right.length qc] 53)) := (Below.refl _ _).alloc (Nat.le_refl _) _
                have hI2 := hI.below hBa (Nat.le_refl _)
                have hS2 := hSk.below hBa (Nat.le_refl _)
                have hcr := checkRule_any ta na (some ⟨b, off, none⟩) qa tc nc rc qc g r p _ hI2 ho hg hS2
                clear b0 b1 b2 b3 hR hS1 hRk hr hI hI2 hS2
                rcases ruleK_cases g.ts.length g.ns.length r with h0 | h0 | h0
                · have E2 : Hid (checkG g = rulesK g.ts.length g.ns.length (g.rs.drop (k + 1)) (k + 1)) := by show _ = _; rw [E.out, if_pos h0]
                  rw [h0, show ckK p 0 = .nilIface from rfl] at hcr
                  clear E
                  go_wp2_with fail
                  refine hcr.mono ?_
                  rintro e w2 ⟨rfl, hb2⟩
                  have hB3 : Below (w.heap.size + 1) W1 w2 := (hB.alloc (by omega) _).trans (hb2.mono (by simp; omega))
                  go_wp2
                  go_roundw
                  case rel => exact ⟨k + 1, by omega, by go_num, E2, hB3⟩
                  case measure => simp [intOf]; omega
                all_goals
                  have E2 : Hid (checkG g = (ruleK g.ts.length g.ns.length r, some k)) := by show _ = _; rw [E.out, if_neg (by omega)]
                  rw [h0] at E2
                  rw [h0, show ckK p _ = .iface 129 (.pointer (some (p _))) from rfl] at hcr
                  clear E
                  go_wp2_with fail
                  refine hcr.mono ?_
                  rintro e w2 ⟨rfl, hb2⟩
                  have hB3 : Below (w.heap.size + 1) W1 w2 := (hB.alloc (by omega) _).trans (hb2.mono (by simp; omega))
                  have hB4 : Below w.heap.size w w2 := hB1.trans (hB3.mono (by omega))
                  go_wp2
                  go_ret
                  refine ⟨⟨_, rfl, ?_⟩, hB4.alloc hB4.size _⟩
                  rw [E2.out]
                  exact ⟨w2.heap.size, hB4.size, rfl, heap_new _ _⟩
              · have E2 : Hid (checkG g = (0, none)) := by show _ = _; rw [E.out, rulesK_end (by omega)]
                clear E b0 b1 b2 b3 hR hS1 hRk
                go_wp2
                go_ret
                exact ⟨⟨_, rfl, by rw [E2.out]; rfl⟩, hBw⟩

end Go.Proofs.YtcmjneabcdpmoaaDoor.GramCheck
