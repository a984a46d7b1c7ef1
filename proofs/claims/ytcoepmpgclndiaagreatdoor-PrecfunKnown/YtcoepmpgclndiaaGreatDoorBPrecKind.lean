/-
  Texts that stand together: PrecKind.
-/
import Derived.Test.YtcoepmpgclndiaaGreatDoorBGramKinds
namespace Go.Proofs.YtcoepmpgclndiaaGreatDoor.PrecKind
open Go.RowKit Go.Extern.Stop Go.Stop Go.Extern Go.Proofs.YtcoepmpgclndiaaGreatDoor.GramMath Go.Proofs.YtcoepmpgclndiaaGreatDoor.GramRow Go.Proofs.YtcoepmpgclndiaaGreatDoor.GramErrs
set_option linter.unusedVariables false

theorem noIsQ (v : Value) (xT : TypeId) (w : World) : (Instr.typeAssert (.iface 66 v) xT 165 true).run Tryz.prog w = .ok (.tuple #[.nilIface, .bool false]) w := run_typeAssert_lacksB Tryz.underlying165 (by kernel_rfl) (by kernel_rfl) v xT w
theorem hasUnwrapQ (v : Value) (xT : TypeId) (w : World) : (Instr.typeAssert (.iface 66 v) xT 161 true).run Tryz.prog w = .ok (.tuple #[.iface 66 v, .bool true]) w := run_typeAssert_hasB Tryz.underlying161 (by kernel_rfl) v xT w
theorem methodUnwrapQ (n : Nat) (v : Value) (w : World) : (Go.method (n + 1) 66 v "Unwrap").run Tryz.prog w = .ok (131, v) w := by kernel_rfl

set_option maxRecDepth 100000 in
set_option maxHeartbeats 2000000 in
theorem is_pair_same (blk : Nat) (x0 x1 x2 x3 : Int) (a : Addr) (w : World) (hblk : w.heap[blk]? = some (.cells #[.int .i64 x0, .int .i64 x1, .int .i64 x2, .int .i64 x3, .iface 206 (.pointer (some a))] 68 (0, 0))) :
    Calls Tryz.prog 30 #[.iface 66 (.pointer (some ⟨blk, 0, none⟩)), .iface 206 (.pointer (some a))] w fun e w' => e = .returned (.bool true) ∧ w' = w := by
  obtain ⟨i, hi, hcmp⟩ := Option.map_eq_some_iff.1 isComp
  obtain ⟨j, hj, hjs⟩ := Option.map_eq_some_iff.1 isSize
  have h8 := @run_callFunc_extern Tryz.prog 53 _ ReflectliteType.typeOf Tryz.func53 (by kernel_rfl) (by kernel_rfl) (by kernel_rfl) (by kernel_rfl)
  have tT := isTypeOf
  have cT := isComparable
  have mR := isMethodComparable
  have nE := noIsE
  have uE := noUnwrapE
  have vE := noUnwrapsE
  have nP := noIsQ
  have uP := hasUnwrapQ
  have mU := methodUnwrapQ
  have hety := fun (u v : Value) (W : World) => run_eql_iface_types (P := Tryz.prog) 66 206 u v Tryz.underlying24 (by decide) W
  have c1 : w.cell? ⟨blk, 4, none⟩ = some (.iface 206 (.pointer (some a))) := by
    unfold World.cell?
    rw [hblk]
    rfl
  have heq := run_eql_iface_ptr_same (P := Tryz.prog) w a Tryz.underlying24 Tryz.underlying206 hi hcmp hj
  go_enter Tryz.func30, Tryz.ntmps30
  go_wp2
  refine wp_loop_rounds 2 ?_
  rw [rounds_succ]
  go_wp2
  rw [rounds_succ]
  go_wp2
  go_ret
  exact ⟨rfl, rfl⟩

set_option maxRecDepth 100000 in
set_option maxHeartbeats 2000000 in
theorem is_pair_other (blk : Nat) (x0 x1 x2 x3 : Int) (a b : Addr) (w : World) (hblk : w.heap[blk]? = some (.cells #[.int .i64 x0, .int .i64 x1, .int .i64 x2, .int .i64 x3, .iface 206 (.pointer (some a))] 68 (0, 0))) (hne : a ≠ b) (ha : Row0 w a) (hb : Row0 w b) :
    Calls Tryz.prog 30 #[.iface 66 (.pointer (some ⟨blk, 0, none⟩)), .iface 206 (.pointer (some b))] w fun e w' => e = .returned (.bool false) ∧ w' = w := by
  obtain ⟨i, hi, hcmp⟩ := Option.map_eq_some_iff.1 isComp
  obtain ⟨j, hj, hjs⟩ := Option.map_eq_some_iff.1 isSize
  have h8 := @run_callFunc_extern Tryz.prog 53 _ ReflectliteType.typeOf Tryz.func53 (by kernel_rfl) (by kernel_rfl) (by kernel_rfl) (by kernel_rfl)
  have tT := isTypeOf
  have cT := isComparable
  have mR := isMethodComparable
  have nE := noIsE
  have uE := noUnwrapE
  have vE := noUnwrapsE
  have nP := noIsQ
  have uP := hasUnwrapQ
  have mU := methodUnwrapQ
  have hety := fun (u v : Value) (W : World) => run_eql_iface_types (P := Tryz.prog) 66 206 u v Tryz.underlying24 (by decide) W
  have c1 : w.cell? ⟨blk, 4, none⟩ = some (.iface 206 (.pointer (some a))) := by
    unfold World.cell?
    rw [hblk]
    rfl
  obtain ⟨ca, ta, ha⟩ := ha
  obtain ⟨cb, tb, hb⟩ := hb
  have heq := run_eql_iface_ptr_other (P := Tryz.prog) w Tryz.underlying24 Tryz.underlying206 hi hcmp hj (by rw [hjs]; decide) hne ha hb
  go_enter Tryz.func30, Tryz.ntmps30
  go_wp2
  refine wp_loop_rounds 2 ?_
  rw [rounds_succ]
  go_wp2
  rw [rounds_succ]
  go_wp2
  go_ret
  exact ⟨rfl, rfl⟩

theorem kind_pair (p : Nat → Addr) (blk : Nat) (x0 x1 x2 x3 : Int) (w : World) (hE : Errs w p) (hblk : w.heap[blk]? = some (.cells #[.int .i64 x0, .int .i64 x1, .int .i64 x2, .int .i64 x3, .iface 206 (.pointer (some (p 5)))] 68 (0, 0))) :
    Calls Tryz.prog 15 #[.iface 66 (.pointer (some ⟨blk, 0, none⟩))] w fun e w' => e = .returned (.int .i64 5) ∧ Below w.heap.size w w' := by
  refine (kind_of 66 (.pointer (some ⟨blk, 0, none⟩)) 4 (fun k => p (k + 1)) w (by omega) hE.old ?_).mono ?_
  · intro W b hB hb
    have hblk2 := (hB.block blk (Array.getElem?_eq_some_iff.1 hblk).1).trans hblk
    by_cases he : p 5 = b
    · subst he
      simpa using is_pair_same blk _ _ _ _ (p 5) W hblk2
    · simpa [he] using is_pair_other blk _ _ _ _ (p 5) b W hblk2 he ((hE.1 4 (by omega)).2.below hB (Nat.le_refl _)) hb
  · rintro e w1 ⟨rfl, hb1⟩
    exact ⟨ret_num (by simp), hb1⟩

end Go.Proofs.YtcoepmpgclndiaaGreatDoor.PrecKind
