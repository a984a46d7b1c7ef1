/-
  Texts that stand together: GramKinds.
-/
import Derived.Test.YthbbipgngeflnaaGreatDoorBGramErrs
import Derived.LaidEql
import Derived.Stop.Asserts
import Derived.RowKitTokens
namespace Go.Proofs.YthbbipgngeflnaaGreatDoor.GramErrs
open Go.RowKit Go.Extern.Stop Go.Stop Go.Extern Go.Proofs.YthbbipgngeflnaaGreatDoor.GramMath Go.Proofs.YthbbipgngeflnaaGreatDoor.GramRow

theorem isTypeOf (v : Value) (w : World) : (ReflectliteType.typeOf #[.iface 140 v]).run Tryz.prog w = .ok (.iface 123 (.agg #[.pointer (some ⟨16, 140, none⟩)])) w := by kernel_rfl
theorem isComparable (w : World) : (callFunc 109 #[.agg #[.pointer (some ⟨16, 140, none⟩)]]).run Tryz.prog w = .ok (.value (.bool true)) w := by
  rw [@run_callFunc_extern Tryz.prog 109 _ (ReflectliteType.method fun t => do Rtype.noPackHeld "Comparable" t; pure (.bool (← typeInfo t).comparable)) Tryz.func109 (by kernel_rfl) (by kernel_rfl) (by kernel_rfl) (by kernel_rfl)]
  kernel_rfl
theorem isMethodComparable (n : Nat) (v : Value) (w : World) : (Go.method (n + 1) 123 v "Comparable").run Tryz.prog w = .ok (109, v) w := by kernel_rfl
theorem isComp : (Tryz.prog.info? 140).map (·.comparable) = some true := by kernel_rfl
theorem isSize : (Tryz.prog.info? 165).map (·.size) = some 1 := by kernel_rfl

theorem noIsE (v : Value) (xT : TypeId) (w : World) : (Instr.typeAssert (.iface 140 v) xT 125 true).run Tryz.prog w = .ok (.tuple #[.nilIface, .bool false]) w := run_typeAssert_lacksB Tryz.underlying125 (by kernel_rfl) (by kernel_rfl) v xT w
theorem noUnwrapE (v : Value) (xT : TypeId) (w : World) : (Instr.typeAssert (.iface 140 v) xT 128 true).run Tryz.prog w = .ok (.tuple #[.nilIface, .bool false]) w := run_typeAssert_lacksB Tryz.underlying128 (by kernel_rfl) (by kernel_rfl) v xT w
theorem noUnwrapsE (v : Value) (xT : TypeId) (w : World) : (Instr.typeAssert (.iface 140 v) xT 130 true).run Tryz.prog w = .ok (.tuple #[.nilIface, .bool false]) w := run_typeAssert_lacksB Tryz.underlying130 (by kernel_rfl) (by kernel_rfl) v xT w

theorem noIsP (v : Value) (xT : TypeId) (w : World) : (Instr.typeAssert (.iface 75 v) xT 125 true).run Tryz.prog w = .ok (.tuple #[.nilIface, .bool false]) w := run_typeAssert_lacksB Tryz.underlying125 (by kernel_rfl) (by kernel_rfl) v xT w
theorem hasUnwrapP (v : Value) (xT : TypeId) (w : World) : (Instr.typeAssert (.iface 75 v) xT 128 true).run Tryz.prog w = .ok (.tuple #[.iface 75 v, .bool true]) w := run_typeAssert_hasB Tryz.underlying128 (by kernel_rfl) v xT w
theorem methodUnwrap (n : Nat) (v : Value) (w : World) : (Go.method (n + 1) 75 v "Unwrap").run Tryz.prog w = .ok (105, v) w := by kernel_rfl

set_option maxRecDepth 100000 in
set_option maxHeartbeats 2000000 in
theorem is_same (a : Addr) (w : World) :
    Calls Tryz.prog 34 #[.iface 140 (.pointer (some a)), .iface 140 (.pointer (some a))] w fun e w' => e = .returned (.bool true) ∧ w' = w := by
  obtain ⟨i, hi, hcmp⟩ := Option.map_eq_some_iff.1 isComp
  obtain ⟨j, hj, hjs⟩ := Option.map_eq_some_iff.1 isSize
  have h8 := @run_callFunc_extern Tryz.prog 68 _ ReflectliteType.typeOf Tryz.func68 (by kernel_rfl) (by kernel_rfl) (by kernel_rfl) (by kernel_rfl)
  have tT := isTypeOf
  have cT := isComparable
  have mR := isMethodComparable
  have heq := run_eql_iface_ptr_same (P := Tryz.prog) w a Tryz.underlying30 Tryz.underlying140 hi hcmp hj
  go_enter Tryz.func34, Tryz.ntmps34
  go_wp2
  refine wp_loop_rounds 1 ?_
  rw [rounds_succ]
  go_wp2
  go_ret
  exact ⟨rfl, rfl⟩

set_option maxRecDepth 100000 in
set_option maxHeartbeats 2000000 in
theorem is_other (a b : Addr) (w : World) (hne : a ≠ b) (ha : Row0 w a) (hb : Row0 w b) :
    Calls Tryz.prog 34 #[.iface 140 (.pointer (some a)), .iface 140 (.pointer (some b))] w fun e w' => e = .returned (.bool false) ∧ w' = w := by
  obtain ⟨i, hi, hcmp⟩ := Option.map_eq_some_iff.1 isComp
  obtain ⟨j, hj, hjs⟩ := Option.map_eq_some_iff.1 isSize
  have h8 := @run_callFunc_extern Tryz.prog 68 _ ReflectliteType.typeOf Tryz.func68 (by kernel_rfl) (by kernel_rfl) (by kernel_rfl) (by kernel_rfl)
  have tT := isTypeOf
  have cT := isComparable
  have mR := isMethodComparable
  have nE := noIsE
  have uE := noUnwrapE
  have vE := noUnwrapsE
  obtain ⟨ca, ta, ha⟩ := ha
  obtain ⟨cb, tb, hb⟩ := hb
  have heq := run_eql_iface_ptr_other (P := Tryz.prog) w Tryz.underlying30 Tryz.underlying140 hi hcmp hj (by rw [hjs]; decide) hne ha hb
  go_enter Tryz.func34, Tryz.ntmps34
  go_wp2
  refine wp_loop_rounds 1 ?_
  rw [rounds_succ]
  go_wp2
  go_ret
  exact ⟨rfl, rfl⟩

set_option maxRecDepth 100000 in
set_option maxHeartbeats 2000000 in
theorem is_place_same (blk : Nat) (p : Int) (a : Addr) (w : World) (hblk : w.heap[blk]? = some (.cells #[.int .i64 p, .iface 140 (.pointer (some a))] 77 (0, 0))) :
    Calls Tryz.prog 34 #[.iface 75 (.pointer (some ⟨blk, 0, none⟩)), .iface 140 (.pointer (some a))] w fun e w' => e = .returned (.bool true) ∧ w' = w := by
  obtain ⟨i, hi, hcmp⟩ := Option.map_eq_some_iff.1 isComp
  obtain ⟨j, hj, hjs⟩ := Option.map_eq_some_iff.1 isSize
  have h8 := @run_callFunc_extern Tryz.prog 68 _ ReflectliteType.typeOf Tryz.func68 (by kernel_rfl) (by kernel_rfl) (by kernel_rfl) (by kernel_rfl)
  have tT := isTypeOf
  have cT := isComparable
  have mR := isMethodComparable
  have nE := noIsE
  have uE := noUnwrapE
  have vE := noUnwrapsE
  have nP := noIsP
  have uP := hasUnwrapP
  have mU := methodUnwrap
  have hety := fun (u v : Value) (W : World) => run_eql_iface_types (P := Tryz.prog) 75 140 u v Tryz.underlying30 (by decide) W
  have c1 : w.cell? ⟨blk, 1, none⟩ = some (.iface 140 (.pointer (some a))) := by
    unfold World.cell?
    rw [hblk]
    rfl
  have heq := run_eql_iface_ptr_same (P := Tryz.prog) w a Tryz.underlying30 Tryz.underlying140 hi hcmp hj
  go_enter Tryz.func34, Tryz.ntmps34
  go_wp2
  refine wp_loop_rounds 2 ?_
  rw [rounds_succ]
  go_wp2
  rw [rounds_succ]
  go_wp2
  go_ret
  exact ⟨rfl, rfl⟩

set_option maxRecDepth 100000 in
set_option maxHeartbeats 2000000 in
theorem is_place_other (blk : Nat) (p : Int) (a b : Addr) (w : World) (hblk : w.heap[blk]? = some (.cells #[.int .i64 p, .iface 140 (.pointer (some a))] 77 (0, 0))) (hne : a ≠ b) (ha : Row0 w a) (hb : Row0 w b) :
    Calls Tryz.prog 34 #[.iface 75 (.pointer (some ⟨blk, 0, none⟩)), .iface 140 (.pointer (some b))] w fun e w' => e = .returned (.bool false) ∧ w' = w := by
  obtain ⟨i, hi, hcmp⟩ := Option.map_eq_some_iff.1 isComp
  obtain ⟨j, hj, hjs⟩ := Option.map_eq_some_iff.1 isSize
  have h8 := @run_callFunc_extern Tryz.prog 68 _ ReflectliteType.typeOf Tryz.func68 (by kernel_rfl) (by kernel_rfl) (by kernel_rfl) (by kernel_rfl)
  have tT := isTypeOf
  have cT := isComparable
  have mR := isMethodComparable
  have nE := noIsE
  have uE := noUnwrapE
  have vE := noUnwrapsE
  have nP := noIsP
  have uP := hasUnwrapP
  have mU := methodUnwrap
  have hety := fun (u v : Value) (W : World) => run_eql_iface_types (P := Tryz.prog) 75 140 u v Tryz.underlying30 (by decide) W
  have c1 : w.cell? ⟨blk, 1, none⟩ = some (.iface 140 (.pointer (some a))) := by
    unfold World.cell?
    rw [hblk]
    rfl
  obtain ⟨ca, ta, ha⟩ := ha
  obtain ⟨cb, tb, hb⟩ := hb
  have heq := run_eql_iface_ptr_other (P := Tryz.prog) w Tryz.underlying30 Tryz.underlying140 hi hcmp hj (by rw [hjs]; decide) hne ha hb
  go_enter Tryz.func34, Tryz.ntmps34
  go_wp2
  refine wp_loop_rounds 2 ?_
  rw [rounds_succ]
  go_wp2
  rw [rounds_succ]
  go_wp2
  go_ret
  exact ⟨rfl, rfl⟩

end Go.Proofs.YthbbipgngeflnaaGreatDoor.GramErrs

namespace Go.Proofs.YthbbipgngeflnaaGreatDoor.GramErrs
open Go.RowKit Go.Extern.Stop Go.Stop Go.Extern Go.Proofs.YthbbipgngeflnaaGreatDoor.GramMath Go.Proofs.YthbbipgngeflnaaGreatDoor.GramRow

end Go.Proofs.YthbbipgngeflnaaGreatDoor.GramErrs

namespace Go.Proofs.YthbbipgngeflnaaGreatDoor.GramErrs
open Go.RowKit Go.Proofs.YthbbipgngeflnaaGreatDoor.GramMath Go.Proofs.YthbbipgngeflnaaGreatDoor.GramRow

def ErrsO (w : World) (p : Nat → Addr) : Prop := (∀ k, k < 15 → Sent w (globN.getD k 0) (p k) ∧ Row0 w (p k)) ∧ ∀ i j, i < 15 → j < 15 → p i = p j → i = j
theorem Errs.old {w : World} {p : Nat → Addr} (h : Errs w p) : ErrsO w (fun k => p (k + 1)) := h

/-- The list that Kind goes over. -/
def errL (p : Nat → Addr) : Array Value := #[.iface 140 (.pointer (some (p 0))), .iface 140 (.pointer (some (p 1))), .iface 140 (.pointer (some (p 2))), .iface 140 (.pointer (some (p 3))), .iface 140 (.pointer (some (p 4))), .iface 140 (.pointer (some (p 5))), .iface 140 (.pointer (some (p 6))), .iface 140 (.pointer (some (p 7))), .iface 140 (.pointer (some (p 8))), .iface 140 (.pointer (some (p 9))), .iface 140 (.pointer (some (p 10))), .iface 140 (.pointer (some (p 11))), .iface 140 (.pointer (some (p 12))), .iface 140 (.pointer (some (p 13))), .iface 140 (.pointer (some (p 14)))]

theorem errL_at (p : Nat → Addr) (i : Nat) (hi : i < 15) : (errL p)[i]? = some (.iface 140 (.pointer (some (p i)))) := by
  match i, hi with
  | 0, _ => rfl
  | 1, _ => rfl
  | 2, _ => rfl
  | 3, _ => rfl
  | 4, _ => rfl
  | 5, _ => rfl
  | 6, _ => rfl
  | 7, _ => rfl
  | 8, _ => rfl
  | 9, _ => rfl
  | 10, _ => rfl
  | 11, _ => rfl
  | 12, _ => rfl
  | 13, _ => rfl
  | 14, _ => rfl
  | n + 15, h => exact absurd h (by omega)

set_option maxHeartbeats 400000 in
theorem kind_nil (w : World) : Calls Tryz.prog 15 #[.nilIface] w fun e w' => e = .returned (.int .i64 0) ∧ w' = w := by
  go_enter Tryz.func15, Tryz.ntmps15
  go_wp2
  go_ret
  exact ⟨rfl, rfl⟩



set_option maxRecDepth 100000 in
set_option maxHeartbeats 8000000 in
theorem kind_of (t : TypeId) (u : Value) (k0 : Nat) (p : Nat → Addr) (w : World) (hk0 : k0 < 15) (hE : ErrsO w p)
    (hIs : ∀ (W : World) (b : Addr), Below w.heap.size w W → Row0 W b → Calls Tryz.prog 34 #[.iface t u, .iface 140 (.pointer (some b))] W fun e w' => e = .returned (.bool (decide (p k0 = b))) ∧ w' = W) :
    Calls Tryz.prog 15 #[.iface t u] w fun e w' => e = .returned (.int .i64 ((k0 : Int) + 1)) ∧ Below w.heap.size w w' := by
  have hnil := eql_nil
  have e0 : w.cell? ⟨0, 0, none⟩ = some (.iface 140 (.pointer (some (p 0)))) := (hE.1 0 (by omega)).1
  have e1 : w.cell? ⟨3, 0, none⟩ = some (.iface 140 (.pointer (some (p 1)))) := (hE.1 1 (by omega)).1
  have e2 : w.cell? ⟨4, 0, none⟩ = some (.iface 140 (.pointer (some (p 2)))) := (hE.1 2 (by omega)).1
  have e3 : w.cell? ⟨5, 0, none⟩ = some (.iface 140 (.pointer (some (p 3)))) := (hE.1 3 (by omega)).1
  have e4 : w.cell? ⟨6, 0, none⟩ = some (.iface 140 (.pointer (some (p 4)))) := (hE.1 4 (by omega)).1
  have e5 : w.cell? ⟨7, 0, none⟩ = some (.iface 140 (.pointer (some (p 5)))) := (hE.1 5 (by omega)).1
  have e6 : w.cell? ⟨8, 0, none⟩ = some (.iface 140 (.pointer (some (p 6)))) := (hE.1 6 (by omega)).1
  have e7 : w.cell? ⟨9, 0, none⟩ = some (.iface 140 (.pointer (some (p 7)))) := (hE.1 7 (by omega)).1
  have e8 : w.cell? ⟨10, 0, none⟩ = some (.iface 140 (.pointer (some (p 8)))) := (hE.1 8 (by omega)).1
  have e9 : w.cell? ⟨11, 0, none⟩ = some (.iface 140 (.pointer (some (p 9)))) := (hE.1 9 (by omega)).1
  have e10 : w.cell? ⟨12, 0, none⟩ = some (.iface 140 (.pointer (some (p 10)))) := (hE.1 10 (by omega)).1
  have e11 : w.cell? ⟨2, 0, none⟩ = some (.iface 140 (.pointer (some (p 11)))) := (hE.1 11 (by omega)).1
  have e12 : w.cell? ⟨13, 0, none⟩ = some (.iface 140 (.pointer (some (p 12)))) := (hE.1 12 (by omega)).1
  have e13 : w.cell? ⟨14, 0, none⟩ = some (.iface 140 (.pointer (some (p 13)))) := (hE.1 13 (by omega)).1
  have e14 : w.cell? ⟨1, 0, none⟩ = some (.iface 140 (.pointer (some (p 14)))) := (hE.1 14 (by omega)).1
  have hB : Below w.heap.size w (w.alloc (.cells (errL p) 30)) := (Below.refl _ _).alloc (Nat.le_refl _) _
  have hcell : ∀ i, i < 15 → (w.alloc (.cells (errL p) 30)).cell? ⟨w.heap.size, i, none⟩ = some (.iface 140 (.pointer (some (p i)))) := fun i hi => by
    rw [← errL_at p i hi]
    exact World.cell?_alloc_mark w (errL p) 30 (0, 0) i
  have hrow : ∀ i, i < 15 → Row0 (w.alloc (.cells (errL p) 30)) (p i) := fun i hi => (hE.1 i hi).2.below hB (Nat.le_refl _)
  have hinj := hE.2
  clear hE
  go_enter Tryz.func15, Tryz.ntmps15
  go_wp2
  have hw1 : w.alloc (.cells #[.iface 140 (.pointer (some (p 0))), .iface 140 (.pointer (some (p 1))), .iface 140 (.pointer (some (p 2))), .iface 140 (.pointer (some (p 3))), .iface 140 (.pointer (some (p 4))), .iface 140 (.pointer (some (p 5))), .iface 140 (.pointer (some (p 6))), .iface 140 (.pointer (some (p 7))), .iface 140 (.pointer (some (p 8))), .iface 140 (.pointer (some (p 9))), .iface 140 (.pointer (some (p 10))), .iface 140 (.pointer (some (p 11))), .iface 140 (.pointer (some (p 12))), .iface 140 (.pointer (some (p 13))), .iface 140 (.pointer (some (p 14)))] 30) = w.alloc (.cells (errL p) 30) := rfl
  rw [hw1]
  clear hw1
  generalize w.alloc (.cells (errL p) 30) = W1 at *
  go_loop [4, 5] (fun h i => ∃ k : Nat, k ≤ 15 ∧ i = .int .i64 k ∧ h = .int .i64 (if k ≤ k0 then 99 else (k0 : Int) + 1)) (fun _ i => 15 - (intOf i).toNat)
  case atStart => exact ⟨0, by omega, rfl, by simp⟩
  case round =>
    obtain ⟨k, hk, rfl, rfl⟩ := hrel
    by_cases hlt : k < 15
    · have hc := hcell k hlt
      have hr := hrow k hlt
      have hlt2 : (k : Int) < 15 := by omega
      by_cases he : k0 = k
      · have hd : decide (p k0 = p k) = true := by simp [he]
        have h1 : (if k ≤ k0 then (99 : Int) else (k0 : Int) + 1) = 99 := if_pos (by omega)
        have h2 : Hid ((if k + 1 ≤ k0 then (99 : Int) else (k0 : Int) + 1) = (k : Int) + 1) := by show _ = _; rw [if_neg (by omega), he]
        rw [h1]
        clear h1 hcell hrow hnil
        go_wp2_with fail
        refine (hIs _ (p k) hB hr).mono ?_
        rintro e w2 ⟨rfl, hw2⟩
        obtain rfl := hw2.symm
        rw [hd]
        go_wp2
        go_round
        case rel => exact ⟨k + 1, by omega, by go_num, by rw [h2.out]⟩
        case measure => simp [intOf]; omega
      · have hd : decide (p k0 = p k) = false := by
          simp only [decide_eq_false_iff_not]
          exact fun e => he (hinj _ _ hk0 hlt e)
        have h2 : Hid ((if k + 1 ≤ k0 then (99 : Int) else (k0 : Int) + 1) = (if k ≤ k0 then (99 : Int) else (k0 : Int) + 1)) := by
          show _ = _
          by_cases h : k ≤ k0
          · rw [if_pos h, if_pos (by omega)]
          · rw [if_neg h, if_neg (by omega)]
        generalize (if k ≤ k0 then (99 : Int) else (k0 : Int) + 1) = z at *
        clear hcell hrow hnil
        go_wp2_with fail
        refine (hIs _ (p k) hB hr).mono ?_
        rintro e w2 ⟨rfl, hw2⟩
        obtain rfl := hw2.symm
        rw [hd]
        go_wp2
        go_round
        case rel => exact ⟨k + 1, by omega, by go_num, by rw [h2.out]⟩
        case measure => simp [intOf]; omega
    · have h1 : (if k ≤ k0 then (99 : Int) else (k0 : Int) + 1) = (k0 : Int) + 1 := if_neg (by omega)
      rw [h1]
      clear h1 hcell hrow hnil
      go_wp2
      go_ret
      exact ⟨rfl, hB⟩

end Go.Proofs.YthbbipgngeflnaaGreatDoor.GramErrs

namespace Go.Proofs.YthbbipgngeflnaaGreatDoor.GramErrs
open Go.RowKit Go.Extern.Stop Go.Stop Go.Extern Go.Proofs.YthbbipgngeflnaaGreatDoor.GramMath Go.Proofs.YthbbipgngeflnaaGreatDoor.GramRow
set_option linter.unusedVariables false

/-- The rule that a finding names; -1: none. -/
def ruleZ (z : Nat × Option Nat) : Int :=
  match z with
  | (_ + 1, some i) => (i : Int)
  | _ => -1

set_option maxRecDepth 100000 in
theorem kind_ck (base : Nat) (p : Nat → Addr) (z : Nat × Option Nat) (w : World) (v : Value) (hE : Errs w p) (hz : z.1 ≤ 15) (hv : CkV base p z w v) : Calls Tryz.prog 15 #[v] w fun e w' => e = .returned (.int .i64 (z.1 : Int)) ∧ Below w.heap.size w w' := by
  match z, hz, hv with
  | (0, x), _, hv =>
    obtain rfl : v = .nilIface := hv
    refine (kind_nil w).mono ?_
    rintro e w1 ⟨rfl, hw1⟩
    obtain rfl := hw1.symm
    exact ⟨rfl, Below.refl _ _⟩
  | (k + 1, none), hz, hv =>
    obtain rfl : v = .iface 140 (.pointer (some (p (k + 1)))) := hv
    refine (kind_of 140 (.pointer (some (p (k + 1)))) k (fun k => p (k + 1)) w (by omega) hE.old ?_).mono ?_
    · intro W b hB hb
      by_cases he : p (k + 1) = b
      · subst he
        simpa using is_same (p (k + 1)) W
      · simpa [he] using is_other (p (k + 1)) b W he ((hE.1 k (by omega)).2.below hB (Nat.le_refl _)) hb
    · rintro e w1 ⟨rfl, hb1⟩
      exact ⟨ret_num (by simp), hb1⟩
  | (k + 1, some i), hz, ⟨blk, _, hv, hblk⟩ =>
    subst hv
    refine (kind_of 75 (.pointer (some ⟨blk, 0, none⟩)) k (fun k => p (k + 1)) w (by omega) hE.old ?_).mono ?_
    · intro W b hB hb
      have hblk2 := (hB.block blk (Array.getElem?_eq_some_iff.1 hblk).1).trans hblk
      by_cases he : p (k + 1) = b
      · subst he
        simpa using is_place_same blk _ (p (k + 1)) W hblk2
      · simpa [he] using is_place_other blk _ (p (k + 1)) b W hblk2 he ((hE.1 k (by omega)).2.below hB (Nat.le_refl _)) hb
    · rintro e w1 ⟨rfl, hb1⟩
      exact ⟨ret_num (by simp), hb1⟩

end Go.Proofs.YthbbipgngeflnaaGreatDoor.GramErrs
