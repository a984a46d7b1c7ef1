/-
  Is, As, Kind and Rule of what is answered.
-/
import Derived.Test.YtcmjneabcdpmoaaDoorGramErrs
import Derived.LaidEql
import Derived.Stop.Asserts
import Derived.RowKitTokens
namespace Go.Proofs.YtcmjneabcdpmoaaDoor.GramErrs
open Go.RowKit Go.Extern.Stop Go.Stop Go.Extern Go.Proofs.YtcmjneabcdpmoaaDoor.GramMath Go.Proofs.YtcmjneabcdpmoaaDoor.GramRow

theorem isTypeOf (v : Value) (w : World) : (ReflectliteType.typeOf #[.iface 129 v]).run Tryd.prog w = .ok (.iface 112 (.agg #[.pointer (some ⟨16, 129, none⟩)])) w := by kernel_rfl
theorem isComparable (w : World) : (callFunc 81 #[.agg #[.pointer (some ⟨16, 129, none⟩)]]).run Tryd.prog w = .ok (.value (.bool true)) w := by
  rw [@run_callFunc_extern Tryd.prog 81 _ (ReflectliteType.method fun t => do Rtype.noPackHeld "Comparable" t; pure (.bool (← typeInfo t).comparable)) Tryd.func81 (by kernel_rfl) (by kernel_rfl) (by kernel_rfl) (by kernel_rfl)]
  kernel_rfl
theorem isMethodComparable (n : Nat) (v : Value) (w : World) : (Go.method (n + 1) 112 v "Comparable").run Tryd.prog w = .ok (81, v) w := by kernel_rfl
theorem isComp : (Tryd.prog.info? 129).map (·.comparable) = some true := by kernel_rfl
theorem isSize : (Tryd.prog.info? 150).map (·.size) = some 1 := by kernel_rfl

theorem noIsE (v : Value) (xT : TypeId) (w : World) : (Instr.typeAssert (.iface 129 v) xT 114 true).run Tryd.prog w = .ok (.tuple #[.nilIface, .bool false]) w := run_typeAssert_lacksB Tryd.underlying114 (by kernel_rfl) (by kernel_rfl) v xT w
theorem noUnwrapE (v : Value) (xT : TypeId) (w : World) : (Instr.typeAssert (.iface 129 v) xT 117 true).run Tryd.prog w = .ok (.tuple #[.nilIface, .bool false]) w := run_typeAssert_lacksB Tryd.underlying117 (by kernel_rfl) (by kernel_rfl) v xT w
theorem noUnwrapsE (v : Value) (xT : TypeId) (w : World) : (Instr.typeAssert (.iface 129 v) xT 119 true).run Tryd.prog w = .ok (.tuple #[.nilIface, .bool false]) w := run_typeAssert_lacksB Tryd.underlying119 (by kernel_rfl) (by kernel_rfl) v xT w

theorem noIsP (v : Value) (xT : TypeId) (w : World) : (Instr.typeAssert (.iface 73 v) xT 114 true).run Tryd.prog w = .ok (.tuple #[.nilIface, .bool false]) w := run_typeAssert_lacksB Tryd.underlying114 (by kernel_rfl) (by kernel_rfl) v xT w
theorem hasUnwrapP (v : Value) (xT : TypeId) (w : World) : (Instr.typeAssert (.iface 73 v) xT 117 true).run Tryd.prog w = .ok (.tuple #[.iface 73 v, .bool true]) w := run_typeAssert_hasB Tryd.underlying117 (by kernel_rfl) v xT w
theorem methodUnwrap (n : Nat) (v : Value) (w : World) : (Go.method (n + 1) 73 v "Unwrap").run Tryd.prog w = .ok (75, v) w := by kernel_rfl

set_option maxRecDepth 100000 in
set_option maxHeartbeats 2000000 in
theorem is_same (a : Addr) (w : World) :
    Calls Tryd.prog 30 #[.iface 129 (.pointer (some a)), .iface 129 (.pointer (some a))] w fun e w' => e = .returned (.bool true) ∧ w' = w := by
  obtain ⟨i, hi, hcmp⟩ := Option.map_eq_some_iff.1 isComp
  obtain ⟨j, hj, hjs⟩ := Option.map_eq_some_iff.1 isSize
  have h8 := @run_callFunc_extern Tryd.prog 43 _ ReflectliteType.typeOf Tryd.func43 (by kernel_rfl) (by kernel_rfl) (by kernel_rfl) (by kernel_rfl)
  have tT := isTypeOf
  have cT := isComparable
  have mR := isMethodComparable
  have heq := run_eql_iface_ptr_same (P := Tryd.prog) w a Tryd.underlying58 Tryd.underlying129 hi hcmp hj
  go_enter Tryd.func30, Tryd.ntmps30
  go_wp2
  refine wp_loop_rounds 1 ?_
  rw [rounds_succ]
  go_wp2
  go_ret
  exact ⟨rfl, rfl⟩

set_option maxRecDepth 100000 in
set_option maxHeartbeats 2000000 in
theorem is_other (a b : Addr) (w : World) (hne : a ≠ b) (ha : Row0 w a) (hb : Row0 w b) :
    Calls Tryd.prog 30 #[.iface 129 (.pointer (some a)), .iface 129 (.pointer (some b))] w fun e w' => e = .returned (.bool false) ∧ w' = w := by
  obtain ⟨i, hi, hcmp⟩ := Option.map_eq_some_iff.1 isComp
  obtain ⟨j, hj, hjs⟩ := Option.map_eq_some_iff.1 isSize
  have h8 := @run_callFunc_extern Tryd.prog 43 _ ReflectliteType.typeOf Tryd.func43 (by kernel_rfl) (by kernel_rfl) (by kernel_rfl) (by kernel_rfl)
  have tT := isTypeOf
  have cT := isComparable
  have mR := isMethodComparable
  have nE := noIsE
  have uE := noUnwrapE
  have vE := noUnwrapsE
  obtain ⟨ca, ta, ha⟩ := ha
  obtain ⟨cb, tb, hb⟩ := hb
  have heq := run_eql_iface_ptr_other (P := Tryd.prog) w Tryd.underlying58 Tryd.underlying129 hi hcmp hj (by rw [hjs]; decide) hne ha hb
  go_enter Tryd.func30, Tryd.ntmps30
  go_wp2
  refine wp_loop_rounds 1 ?_
  rw [rounds_succ]
  go_wp2
  go_ret
  exact ⟨rfl, rfl⟩

set_option maxRecDepth 100000 in
set_option maxHeartbeats 2000000 in
theorem is_place_same (blk : Nat) (p : Int) (a : Addr) (w : World) (hblk : w.heap[blk]? = some (.cells #[.int .i64 p, .iface 129 (.pointer (some a))] 77 (0, 0))) :
    Calls Tryd.prog 30 #[.iface 73 (.pointer (some ⟨blk, 0, none⟩)), .iface 129 (.pointer (some a))] w fun e w' => e = .returned (.bool true) ∧ w' = w := by
  obtain ⟨i, hi, hcmp⟩ := Option.map_eq_some_iff.1 isComp
  obtain ⟨j, hj, hjs⟩ := Option.map_eq_some_iff.1 isSize
  have h8 := @run_callFunc_extern Tryd.prog 43 _ ReflectliteType.typeOf Tryd.func43 (by kernel_rfl) (by kernel_rfl) (by kernel_rfl) (by kernel_rfl)
  have tT := isTypeOf
  have cT := isComparable
  have mR := isMethodComparable
  have nE := noIsE
  have uE := noUnwrapE
  have vE := noUnwrapsE
  have nP := noIsP
  have uP := hasUnwrapP
  have mU := methodUnwrap
  have hety := fun (u v : Value) (W : World) => run_eql_iface_types (P := Tryd.prog) 73 129 u v Tryd.underlying58 (by decide) W
  have c1 : w.cell? ⟨blk, 1, none⟩ = some (.iface 129 (.pointer (some a))) := by
    unfold World.cell?
    rw [hblk]
    rfl
  have heq := run_eql_iface_ptr_same (P := Tryd.prog) w a Tryd.underlying58 Tryd.underlying129 hi hcmp hj
  go_enter Tryd.func30, Tryd.ntmps30
  go_wp2
  refine wp_loop_rounds 2 ?_
  rw [rounds_succ]
  go_wp2
  rw [rounds_succ]
  go_wp2
  go_ret
  exact ⟨rfl, rfl⟩

set_option maxRecDepth 100000 in
set_option maxHeartbeats 2000000 in
theorem is_place_other (blk : Nat) (p : Int) (a b : Addr) (w : World) (hblk : w.heap[blk]? = some (.cells #[.int .i64 p, .iface 129 (.pointer (some a))] 77 (0, 0))) (hne : a ≠ b) (ha : Row0 w a) (hb : Row0 w b) :
    Calls Tryd.prog 30 #[.iface 73 (.pointer (some ⟨blk, 0, none⟩)), .iface 129 (.pointer (some b))] w fun e w' => e = .returned (.bool false) ∧ w' = w := by
  obtain ⟨i, hi, hcmp⟩ := Option.map_eq_some_iff.1 isComp
  obtain ⟨j, hj, hjs⟩ := Option.map_eq_some_iff.1 isSize
  have h8 := @run_callFunc_extern Tryd.prog 43 _ ReflectliteType.typeOf Tryd.func43 (by kernel_rfl) (by kernel_rfl) (by kernel_rfl) (by kernel_rfl)
  have tT := isTypeOf
  have cT := isComparable
  have mR := isMethodComparable
  have nE := noIsE
  have uE := noUnwrapE
  have vE := noUnwrapsE
  have nP := noIsP
  have uP := hasUnwrapP
  have mU := methodUnwrap
  have hety := fun (u v : Value) (W : World) => run_eql_iface_types (P := Tryd.prog) 73 129 u v Tryd.underlying58 (by decide) W
  have c1 : w.cell? ⟨blk, 1, none⟩ = some (.iface 129 (.pointer (some a))) := by
    unfold World.cell?
    rw [hblk]
    rfl
  obtain ⟨ca, ta, ha⟩ := ha
  obtain ⟨cb, tb, hb⟩ := hb
  have heq := run_eql_iface_ptr_other (P := Tryd.prog) w Tryd.underlying58 Tryd.underlying129 hi hcmp hj (by rw [hjs]; decide) hne ha hb
  go_enter Tryd.func30, Tryd.ntmps30
  go_wp2
  refine wp_loop_rounds 2 ?_
  rw [rounds_succ]
  go_wp2
  rw [rounds_succ]
  go_wp2
  go_ret
  exact ⟨rfl, rfl⟩

end Go.Proofs.YtcmjneabcdpmoaaDoor.GramErrs

namespace Go.Proofs.YtcmjneabcdpmoaaDoor.GramErrs
open Go.RowKit Go.Extern.Stop Go.Stop Go.Extern Go.Proofs.YtcmjneabcdpmoaaDoor.GramMath Go.Proofs.YtcmjneabcdpmoaaDoor.GramRow

theorem as_valueOfPP (t : Addr) (w : World) : (ReflectliteValue.unpack (.iface 75 (.pointer (some t)))).run Tryd.prog w
    = .ok (.agg #[.pointer (some ⟨16, 75, none⟩), .pointer (some ⟨w.heap.size, 0, none⟩), .int .u64 150]) (w.alloc (.cells #[.pointer (some t)] 75)) := by kernel_rfl
theorem as_typePP (a : Addr) (w : World) : (ReflectliteValue.methodAny (ReflectliteValue.valueError "reflectlite.Value.Type" 0) (fun t _ _ _ => ReflectliteType.toType t) #[.agg #[.pointer (some ⟨16, 75, none⟩), .pointer (some a), .int .u64 150]]).run Tryd.prog w
    = .ok (.iface 112 (.agg #[.pointer (some ⟨16, 75, none⟩)])) w := by kernel_rfl
theorem as_methodKind (n : Nat) (h : Value) (w : World) : (Go.method (n + 1) 112 (.agg #[h]) "Kind").run Tryd.prog w = .ok (71, h) w := by kernel_rfl
theorem as_kindPP (w : World) : ((ReflectliteType.abiMethod fun t => (fun a : Nat => Value.int IntKind.u8 (a : Int)) <$> Rtype.kind t) #[.pointer (some ⟨16, 75, none⟩)]).run Tryd.prog w = .ok (.int .u8 22) w := by kernel_rfl
theorem as_kindP (w : World) : ((ReflectliteType.abiMethod fun t => (fun a : Nat => Value.int IntKind.u8 (a : Int)) <$> Rtype.kind t) #[.pointer (some ⟨16, 73, none⟩)]).run Tryd.prog w = .ok (.int .u8 22) w := by kernel_rfl

theorem rlm (z : Sem Value) (f : TypeId → Addr → Nat → Nat → Sem Value) (v : Value) :
    ReflectliteValue.method z f #[v] = (do match ← ReflectliteValue.parts v with | none => z | some (t, a, fl) => f t a fl (fl % 32)) := rfl
theorem as_partsPP (a : Addr) (w : World) : (ReflectliteValue.parts (.agg #[.pointer (some ⟨16, 75, none⟩), .pointer (some a), .int .u64 150])).run Tryd.prog w = .ok (some (75, a, 150)) w := by kernel_rfl
theorem as_isNilPP (a p : Addr) (W : World) (ha : W.cell? a = some (.pointer (some p))) :
    (ReflectliteValue.method (ReflectliteValue.valueError "reflectlite.Value.IsNil" 0) ReflectliteValue.isNil #[.agg #[.pointer (some ⟨16, 75, none⟩), .pointer (some a), .int .u64 150]]).run Tryd.prog W = .ok (.bool false) W := by
  rw [rlm]
  simp only [Sem.run_bind, as_partsPP, Result.andThen]
  simp [ReflectliteValue.isNil, loadVar, isAgg, underlying, Tryd.underlying75, ha, Result.andThen]

theorem as_methodElem (n : Nat) (h : Value) (w : World) : (Go.method (n + 1) 112 (.agg #[h]) "Elem").run Tryd.prog w = .ok (82, .agg #[h]) w := by kernel_rfl
theorem as_methodImplements (n : Nat) (h : Value) (w : World) : (Go.method (n + 1) 112 (.agg #[h]) "Implements").run Tryd.prog w = .ok (83, .agg #[h]) w := by kernel_rfl
theorem as_methodAssignableTo (n : Nat) (h : Value) (w : World) : (Go.method (n + 1) 112 (.agg #[h]) "AssignableTo").run Tryd.prog w = .ok (80, .agg #[h]) w := by kernel_rfl
theorem as_elemPP (w : World) : (ReflectliteType.method ReflectliteType.elem #[.agg #[.pointer (some ⟨16, 75, none⟩)]]).run Tryd.prog w = .ok (.iface 112 (.agg #[.pointer (some ⟨16, 73, none⟩)])) w := by kernel_rfl
theorem as_implementsP (w : World) : (ReflectliteType.relation "Implements" ReflectliteType.implements_ #[.agg #[.pointer (some ⟨16, 73, none⟩)], .iface 112 (.agg #[.pointer (some ⟨16, 58, none⟩)])]).run Tryd.prog w = .ok (.bool true) w := by kernel_rfl
theorem as_typeOfP (v : Value) (w : World) : (ReflectliteType.typeOf #[.iface 73 v]).run Tryd.prog w = .ok (.iface 112 (.agg #[.pointer (some ⟨16, 73, none⟩)])) w := by kernel_rfl
theorem as_assignableP (w : World) : (ReflectliteType.relation "AssignableTo" ReflectliteType.assignableTo #[.agg #[.pointer (some ⟨16, 73, none⟩)], .iface 112 (.agg #[.pointer (some ⟨16, 73, none⟩)])]).run Tryd.prog w = .ok (.bool true) w := by kernel_rfl
theorem as_valueOfP (e : Addr) (w : World) : (ReflectliteValue.unpack (.iface 73 (.pointer (some e)))).run Tryd.prog w
    = .ok (.agg #[.pointer (some ⟨16, 73, none⟩), .pointer (some ⟨w.heap.size, 0, none⟩), .int .u64 150]) (w.alloc (.cells #[.pointer (some e)] 73)) := by kernel_rfl

theorem as_elemOfPP (w : World) : (Rtype.elem? 75).run Tryd.prog w = .ok (some 73) w := by kernel_rfl
theorem as_mkP (p : Addr) (w : World) : (ReflectliteValue.mk 73 p ReflectliteValue.flagAddr).run Tryd.prog w = .ok (.agg #[.pointer (some ⟨16, 73, none⟩), .pointer (some p), .int .u64 406]) w := by kernel_rfl
theorem as_elemVPP (a p : Addr) (W : World) (ha : W.cell? a = some (.pointer (some p))) :
    (ReflectliteValue.method (ReflectliteValue.valueError "reflectlite.Value.Elem" 0) ReflectliteValue.elem #[.agg #[.pointer (some ⟨16, 75, none⟩), .pointer (some a), .int .u64 150]]).run Tryd.prog W
      = .ok (.agg #[.pointer (some ⟨16, 73, none⟩), .pointer (some p), .int .u64 406]) W := by
  rw [rlm]
  simp only [Sem.run_bind, as_partsPP, Result.andThen]
  simp [ReflectliteValue.elem, loadVar, isAgg, underlying, Tryd.underlying75, ha, Result.andThen, as_elemOfPP, as_mkP]
theorem rls (v x : Value) : ReflectliteValue.set #[v, x] = (do
    let (some (dst, a, fl), some (src, b, _)) := (← ReflectliteValue.parts v, ← ReflectliteValue.parts x)
      | unsupported (.noEntry "extern/(internal/reflectlite.Value).Set.zeroValue")
    if fl / ReflectliteValue.flagAddr % 2 == 0 then unsupported (.noEntry "extern/(internal/reflectlite.Value).Set.unaddressable")
    let val ← loadVar src b
    if ← Rtype.directlyAssignable dst src then storeVar dst a val
    else if ← Rtype.implements dst src then
      if (← Rtype.kind src) == 20 then
        match val with
        | .nilIface => unsupported (.noEntry "extern/reflectlite: a nil value of one interface type handed on as a value of another")
        | _ => storeVar dst a val
      else storeVar dst a (.iface src val)
    else panicString ("reflectlite.Set: value of type " ++ (← Rtype.spelt src) ++ " is not assignable to type " ++ (← Rtype.spelt dst))
    pure (.tuple #[])) := rfl
theorem as_partsPa (a : Addr) (w : World) : (ReflectliteValue.parts (.agg #[.pointer (some ⟨16, 73, none⟩), .pointer (some a), .int .u64 406])).run Tryd.prog w = .ok (some (73, a, 406)) w := by kernel_rfl
theorem as_partsP (a : Addr) (w : World) : (ReflectliteValue.parts (.agg #[.pointer (some ⟨16, 73, none⟩), .pointer (some a), .int .u64 150])).run Tryd.prog w = .ok (some (73, a, 150)) w := by kernel_rfl
theorem as_directP (w : World) : (Rtype.directlyAssignable 73 73).run Tryd.prog w = .ok true w := by kernel_rfl
theorem as_sizeP (w : World) : (sizeOf 73).run Tryd.prog w = .ok 1 w := by kernel_rfl
theorem as_setP (ta b e : Addr) (old : Value) (W : World) (hb : W.cell? b = some (.pointer (some e))) (ht : W.cell? ta = some old) (hf : W.frozen? ta = false) :
    (ReflectliteValue.set #[.agg #[.pointer (some ⟨16, 73, none⟩), .pointer (some ta), .int .u64 406], .agg #[.pointer (some ⟨16, 73, none⟩), .pointer (some b), .int .u64 150]]).run Tryd.prog W
      = .ok (.tuple #[]) (W.setCell ta (.pointer (some e))) := by
  rw [rls]
  simp only [Sem.run_bind, as_partsPa, as_partsP, Result.andThen]
  simp [ReflectliteValue.flagAddr, loadVar, isAgg, underlying, Tryd.underlying73, hb, Result.andThen, as_directP, storeVar, Value.cells, storeCells, Addr.add]
  rw [run_store Tryd.prog W ta _ _ (by rfl)]
  simp [ht, hf]

set_option maxHeartbeats 4000000 in
theorem as_hit (e t : Addr) (old : Value) (w : World) (hg : w.cell? ⟨15, 0, none⟩ = some (.iface 112 (.agg #[.pointer (some ⟨16, 58, none⟩)]))) (ht0 : w.cell? t = some old) (hf0 : w.frozen? t = false) :
    Calls Tryd.prog 31 #[.iface 73 (.pointer (some e)), .iface 75 (.pointer (some t))] w fun ev w' => ev = .returned (.bool true) ∧ w' = ((((w.alloc (.cells #[.pointer (some t)] 75)).alloc (.cells #[.pointer (some ⟨16, 75, none⟩), .pointer (some ⟨w.heap.size, 0, none⟩), .int .u64 150] 99)).alloc (.cells #[.pointer (some ⟨16, 75, none⟩), .pointer (some ⟨w.heap.size, 0, none⟩), .int .u64 150] 99)).alloc (.cells #[.pointer (some e)] 73)).setCell t (.pointer (some e)) := by
  have hx6 := @run_callFunc_extern Tryd.prog 45 _ (fun args => ReflectliteValue.unpack (args.getD 0 (.tuple #[]))) Tryd.func45 (by kernel_rfl) (by kernel_rfl) (by kernel_rfl) (by kernel_rfl)
  have hx7 := @run_callFunc_extern Tryd.prog 46 _ (ReflectliteValue.methodAny (ReflectliteValue.valueError "reflectlite.Value.Type" 0) (fun t _ _ _ => ReflectliteType.toType t)) Tryd.func46 (by kernel_rfl) (by kernel_rfl) (by kernel_rfl) (by kernel_rfl)
  have hx8 := @run_callFunc_extern Tryd.prog 47 _ (ReflectliteValue.method (ReflectliteValue.valueError "reflectlite.Value.IsNil" 0) ReflectliteValue.isNil) Tryd.func47 (by kernel_rfl) (by kernel_rfl) (by kernel_rfl) (by kernel_rfl)
  have hx27 := @run_callFunc_extern Tryd.prog 71 _ (ReflectliteType.abiMethod fun t => do pure (.int .u8 (← Rtype.kind t))) Tryd.func71 (by kernel_rfl) (by kernel_rfl) (by kernel_rfl) (by kernel_rfl)
  have hx37 := @run_callFunc_extern Tryd.prog 82 _ (ReflectliteType.method ReflectliteType.elem) Tryd.func82 (by kernel_rfl) (by kernel_rfl) (by kernel_rfl) (by kernel_rfl)
  have hx38 := @run_callFunc_extern Tryd.prog 83 _ (ReflectliteType.relation "Implements" ReflectliteType.implements_) Tryd.func83 (by kernel_rfl) (by kernel_rfl) (by kernel_rfl) (by kernel_rfl)
  have hx10 := @run_callFunc_extern Tryd.prog 43 _ ReflectliteType.typeOf Tryd.func43 (by kernel_rfl) (by kernel_rfl) (by kernel_rfl) (by kernel_rfl)
  have hx35 := @run_callFunc_extern Tryd.prog 80 _ (ReflectliteType.relation "AssignableTo" ReflectliteType.assignableTo) Tryd.func80 (by kernel_rfl) (by kernel_rfl) (by kernel_rfl) (by kernel_rfl)
  have hx11 := @run_callFunc_extern Tryd.prog 53 _ (ReflectliteValue.method (ReflectliteValue.valueError "reflectlite.Value.Elem" 0) ReflectliteValue.elem) Tryd.func53 (by kernel_rfl) (by kernel_rfl) (by kernel_rfl) (by kernel_rfl)
  have hx12 := @run_callFunc_extern Tryd.prog 54 _ ReflectliteValue.set Tryd.func54 (by kernel_rfl) (by kernel_rfl) (by kernel_rfl) (by kernel_rfl)
  have tO := as_typeOfP
  have mA := as_methodAssignableTo
  have a25 := as_assignableP
  have v25 := as_valueOfP
  have f6 := as_valueOfPP
  have f7 := as_typePP
  have mK := as_methodKind
  have mE := as_methodElem
  have mI := as_methodImplements
  have k27 := as_kindPP
  have k25 := as_kindP
  have e27 := as_elemPP
  have i25 := as_implementsP
  have n8 := as_isNilPP ⟨w.heap.size, 0, none⟩ t ((w.alloc (.cells #[.pointer (some t)] 75)).alloc (.cells #[.pointer (some ⟨16, 75, none⟩), .pointer (some ⟨w.heap.size, 0, none⟩), .int .u64 150] 99)) (by simp)
  have hlt : 15 < w.heap.size := cell_lt hg
  have hg2 : ((w.alloc (.cells #[.pointer (some t)] 75)).alloc (.cells #[.pointer (some ⟨16, 75, none⟩), .pointer (some ⟨w.heap.size, 0, none⟩), .int .u64 150] 99)).cell? ⟨15, 0, none⟩ = some (.iface 112 (.agg #[.pointer (some ⟨16, 58, none⟩)])) := by
    rw [World.cell?_alloc_lt _ _ ⟨15, 0, none⟩ (by simp; omega), World.cell?_alloc_lt _ _ ⟨15, 0, none⟩ hlt]; exact hg
  have htl : t.block < w.heap.size := by
    rcases Nat.lt_or_ge t.block w.heap.size with h | h
    · exact h
    · simp [World.cell?, Array.getElem?_eq_none h] at ht0
  have el := as_elemVPP ⟨w.heap.size, 0, none⟩ t (((w.alloc (.cells #[.pointer (some t)] 75)).alloc (.cells #[.pointer (some ⟨16, 75, none⟩), .pointer (some ⟨w.heap.size, 0, none⟩), .int .u64 150] 99)).alloc (.cells #[.pointer (some ⟨16, 75, none⟩), .pointer (some ⟨w.heap.size, 0, none⟩), .int .u64 150] 99)) (by rw [World.cell?_alloc_lt _ _ ⟨w.heap.size, 0, none⟩ (by simp; omega)]; simp)
  have st := as_setP t ⟨w.heap.size + 1 + 1 + 1, 0, none⟩ e old ((((w.alloc (.cells #[.pointer (some t)] 75)).alloc (.cells #[.pointer (some ⟨16, 75, none⟩), .pointer (some ⟨w.heap.size, 0, none⟩), .int .u64 150] 99)).alloc (.cells #[.pointer (some ⟨16, 75, none⟩), .pointer (some ⟨w.heap.size, 0, none⟩), .int .u64 150] 99)).alloc (.cells #[.pointer (some e)] 73))
    (by rw [World.cell?_alloc_at _ _ _ _ (by simp)]; rfl)
    (by rw [World.cell?_alloc_lt _ _ t (by simp; omega), World.cell?_alloc_lt _ _ t (by simp; omega), World.cell?_alloc_lt _ _ t (by simp; omega), World.cell?_alloc_lt _ _ t htl]; exact ht0)
    (by rw [World.frozen?_alloc_old _ _ t (by simp; omega), World.frozen?_alloc_old _ _ t (by simp; omega), World.frozen?_alloc_old _ _ t (by simp; omega), World.frozen?_alloc_old _ _ t (Nat.ne_of_lt htl)]; exact hf0)
  go_enter Tryd.func31, Tryd.ntmps31
  go_wp2
  refine wp_loop_rounds 1 ?_
  rw [rounds_succ]
  go_wp2
  go_ret
  exact ⟨rfl, rfl⟩

end Go.Proofs.YtcmjneabcdpmoaaDoor.GramErrs

namespace Go.Proofs.YtcmjneabcdpmoaaDoor.GramErrs
open Go.RowKit Go.Proofs.YtcmjneabcdpmoaaDoor.GramMath Go.Proofs.YtcmjneabcdpmoaaDoor.GramRow

def ErrsO (w : World) (p : Nat → Addr) : Prop := (∀ k, k < 15 → Sent w (globN.getD k 0) (p k) ∧ Row0 w (p k)) ∧ ∀ i j, i < 15 → j < 15 → p i = p j → i = j
theorem Errs.old {w : World} {p : Nat → Addr} (h : Errs w p) : ErrsO w (fun k => p (k + 1)) := h

/-- The list that Kind goes over. -/
def errL (p : Nat → Addr) : Array Value := #[.iface 129 (.pointer (some (p 0))), .iface 129 (.pointer (some (p 1))), .iface 129 (.pointer (some (p 2))), .iface 129 (.pointer (some (p 3))), .iface 129 (.pointer (some (p 4))), .iface 129 (.pointer (some (p 5))), .iface 129 (.pointer (some (p 6))), .iface 129 (.pointer (some (p 7))), .iface 129 (.pointer (some (p 8))), .iface 129 (.pointer (some (p 9))), .iface 129 (.pointer (some (p 10))), .iface 129 (.pointer (some (p 11))), .iface 129 (.pointer (some (p 12))), .iface 129 (.pointer (some (p 13))), .iface 129 (.pointer (some (p 14)))]

theorem errL_at (p : Nat → Addr) (i : Nat) (hi : i < 15) : (errL p)[i]? = some (.iface 129 (.pointer (some (p i)))) := by
  match i, hi with
  | 0, _ => rfl
  | 1, _ => rfl
  | 2, _ => rfl
  | 3, _ => rfl
  | 4, _ => rfl
  | 5, _ => rfl
  | 6, _ => rfl
  | 7, _ => rfl
  | 8, _ => rfl
  | 9, _ => rfl
  | 10, _ => rfl
  | 11, _ => rfl
  | 12, _ => rfl
  | 13, _ => rfl
  | 14, _ => rfl
  | n + 15, h => exact absurd h (by omega)

set_option maxHeartbeats 400000 in
theorem kind_nil (w : World) : Calls Tryd.prog 22 #[.nilIface] w fun e w' => e = .returned (.int .i64 0) ∧ w' = w := by
  go_enter Tryd.func22, Tryd.ntmps22
  go_wp2
  go_ret
  exact ⟨rfl, rfl⟩



set_option maxRecDepth 100000 in
set_option maxHeartbeats 8000000 in
theorem kind_of (t : TypeId) (u : Value) (k0 : Nat) (p : Nat → Addr) (w : World) (hk0 : k0 < 15) (hE : ErrsO w p)
    (hIs : ∀ (W : World) (b : Addr), Below w.heap.size w W → Row0 W b → Calls Tryd.prog 30 #[.iface t u, .iface 129 (.pointer (some b))] W fun e w' => e = .returned (.bool (decide (p k0 = b))) ∧ w' = W) :
    Calls Tryd.prog 22 #[.iface t u] w fun e w' => e = .returned (.int .i64 ((k0 : Int) + 1)) ∧ Below w.heap.size w w' := by
  have hnil := eql_nil
  have e0 : w.cell? ⟨0, 0, none⟩ = some (.iface 129 (.pointer (some (p 0)))) := (hE.1 0 (by omega)).1
  have e1 : w.cell? ⟨1, 0, none⟩ = some (.iface 129 (.pointer (some (p 1)))) := (hE.1 1 (by omega)).1
  have e2 : w.cell? ⟨2, 0, none⟩ = some (.iface 129 (.pointer (some (p 2)))) := (hE.1 2 (by omega)).1
  have e3 : w.cell? ⟨3, 0, none⟩ = some (.iface 129 (.pointer (some (p 3)))) := (hE.1 3 (by omega)).1
  have e4 : w.cell? ⟨4, 0, none⟩ = some (.iface 129 (.pointer (some (p 4)))) := (hE.1 4 (by omega)).1
  have e5 : w.cell? ⟨5, 0, none⟩ = some (.iface 129 (.pointer (some (p 5)))) := (hE.1 5 (by omega)).1
  have e6 : w.cell? ⟨6, 0, none⟩ = some (.iface 129 (.pointer (some (p 6)))) := (hE.1 6 (by omega)).1
  have e7 : w.cell? ⟨7, 0, none⟩ = some (.iface 129 (.pointer (some (p 7)))) := (hE.1 7 (by omega)).1
  have e8 : w.cell? ⟨8, 0, none⟩ = some (.iface 129 (.pointer (some (p 8)))) := (hE.1 8 (by omega)).1
  have e9 : w.cell? ⟨9, 0, none⟩ = some (.iface 129 (.pointer (some (p 9)))) := (hE.1 9 (by omega)).1
  have e10 : w.cell? ⟨10, 0, none⟩ = some (.iface 129 (.pointer (some (p 10)))) := (hE.1 10 (by omega)).1
  have e11 : w.cell? ⟨11, 0, none⟩ = some (.iface 129 (.pointer (some (p 11)))) := (hE.1 11 (by omega)).1
  have e12 : w.cell? ⟨12, 0, none⟩ = some (.iface 129 (.pointer (some (p 12)))) := (hE.1 12 (by omega)).1
  have e13 : w.cell? ⟨13, 0, none⟩ = some (.iface 129 (.pointer (some (p 13)))) := (hE.1 13 (by omega)).1
  have e14 : w.cell? ⟨14, 0, none⟩ = some (.iface 129 (.pointer (some (p 14)))) := (hE.1 14 (by omega)).1
  have hB : Below w.heap.size w (w.alloc (.cells (errL p) 58)) := (Below.refl _ _).alloc (Nat.le_refl _) _
  have hcell : ∀ i, i < 15 → (w.alloc (.cells (errL p) 58)).cell? ⟨w.heap.size, i, none⟩ = some (.iface 129 (.pointer (some (p i)))) := fun i hi => by
    rw [← errL_at p i hi]
    exact World.cell?_alloc_mark w (errL p) 58 (0, 0) i
  have hrow : ∀ i, i < 15 → Row0 (w.alloc (.cells (errL p) 58)) (p i) := fun i hi => (hE.1 i hi).2.below hB (Nat.le_refl _)
  have hinj := hE.2
  clear hE
  go_enter Tryd.func22, Tryd.ntmps22
  go_wp2
  have hw1 : w.alloc (.cells #[.iface 129 (.pointer (some (p 0))), .iface 129 (.pointer (some (p 1))), .iface 129 (.pointer (some (p 2))), .iface 129 (.pointer (some (p 3))), .iface 129 (.pointer (some (p 4))), .iface 129 (.pointer (some (p 5))), .iface 129 (.pointer (some (p 6))), .iface 129 (.pointer (some (p 7))), .iface 129 (.pointer (some (p 8))), .iface 129 (.pointer (some (p 9))), .iface 129 (.pointer (some (p 10))), .iface 129 (.pointer (some (p 11))), .iface 129 (.pointer (some (p 12))), .iface 129 (.pointer (some (p 13))), .iface 129 (.pointer (some (p 14)))] 58) = w.alloc (.cells (errL p) 58) := rfl
  rw [hw1]
  clear hw1
  generalize w.alloc (.cells (errL p) 58) = W1 at *
  go_loop [4, 5] (fun h i => ∃ k : Nat, k ≤ 15 ∧ i = .int .i64 k ∧ h = .int .i64 (if k ≤ k0 then 99 else (k0 : Int) + 1)) (fun _ i => 15 - (intOf i).toNat)
  case atStart => exact ⟨0, by omega, rfl, by simp⟩
  case round =>
    obtain ⟨k, hk, rfl, rfl⟩ := hrel
    by_cases hlt : k < 15
    · have hc := hcell k hlt
      have hr := hrow k hlt
      have hlt2 : (k : Int) < 15 := by omega
      by_cases he : k0 = k
      · have hd : decide (p k0 = p k) = true := by simp [he]
        have h1 : (if k ≤ k0 then (99 : Int) else (k0 : Int) + 1) = 99 := if_pos (by omega)
        have h2 : Hid ((if k + 1 ≤ k0 then (99 : Int) else (k0 : Int) + 1) = (k : Int) + 1) := by show _ = _; rw [if_neg (by omega), he]
        rw [h1]
        clear h1 hcell hrow hnil
        go_wp2_with fail
        refine (hIs _ (p k) hB hr).mono ?_
        rintro e w2 ⟨rfl, hw2⟩
        obtain rfl := hw2.symm
        rw [hd]
        go_wp2
        go_round
        case rel => exact ⟨k + 1, by omega, by go_num, by rw [h2.out]⟩
        case measure => simp [intOf]; omega
      · have hd : decide (p k0 = p k) = false := by
          simp only [decide_eq_false_iff_not]
          exact fun e => he (hinj _ _ hk0 hlt e)
        have h2 : Hid ((if k + 1 ≤ k0 then (99 : Int) else (k0 : Int) + 1) = (if k ≤ k0 then (99 : Int) else (k0 : Int) + 1)) := by
          show _ = _
          by_cases h : k ≤ k0
          · rw [if_pos h, if_pos (by omega)]
          · rw [if_neg h, if_neg (by omega)]
        generalize (if k ≤ k0 then (99 : Int) else (k0 : Int) + 1) = z at *
        clear hcell hrow hnil
        go_wp2_with fail
        refine (hIs _ (p k) hB hr).mono ?_
        rintro e w2 ⟨rfl, hw2⟩
        obtain rfl := hw2.symm
        rw [hd]
        go_wp2
        go_round
        case rel => exact ⟨k + 1, by omega, by go_num, by rw [h2.out]⟩
        case measure => simp [intOf]; omega
    · have h1 : (if k ≤ k0 then (99 : Int) else (k0 : Int) + 1) = (k0 : Int) + 1 := if_neg (by omega)
      rw [h1]
      clear h1 hcell hrow hnil
      go_wp2
      go_ret
      exact ⟨rfl, hB⟩

theorem as_at (e t : Addr) (old : Value) (w : World) (hg : w.cell? ⟨15, 0, none⟩ = some (.iface 112 (.agg #[.pointer (some ⟨16, 58, none⟩)]))) (ht0 : w.cell? t = some old) (hf0 : w.frozen? t = false) :
    Calls Tryd.prog 31 #[.iface 73 (.pointer (some e)), .iface 75 (.pointer (some t))] w fun ev w' => ev = .returned (.bool true) ∧ w'.cell? t = some (.pointer (some e)) ∧ Below t.block w w' := by
  have hlt := cell_lt ht0
  refine (as_hit e t old w hg ht0 hf0).mono ?_
  rintro ev w' ⟨rfl, rfl⟩
  refine ⟨rfl, ?_, ?_⟩
  · rw [World.cell?_setCell_same']
    rw [World.cell?_alloc_lt _ _ t (by simp; omega), World.cell?_alloc_lt _ _ t (by simp; omega), World.cell?_alloc_lt _ _ t (by simp; omega), World.cell?_alloc_lt _ _ t hlt, ht0]
    rfl
  · exact (((((Below.refl _ _).alloc (by omega) _).alloc (by simp; omega) _).alloc (by simp; omega) _).alloc (by simp; omega) _).setCell (p := t) (Nat.le_refl _) _

end Go.Proofs.YtcmjneabcdpmoaaDoor.GramErrs

namespace Go.Proofs.YtcmjneabcdpmoaaDoor.GramErrs
open Go.RowKit Go.Extern.Stop Go.Stop Go.Extern Go.Proofs.YtcmjneabcdpmoaaDoor.GramMath Go.Proofs.YtcmjneabcdpmoaaDoor.GramRow
set_option linter.unusedVariables false

theorem as_typeOfE (v : Value) (w : World) : (ReflectliteType.typeOf #[.iface 129 v]).run Tryd.prog w = .ok (.iface 112 (.agg #[.pointer (some ⟨16, 129, none⟩)])) w := by kernel_rfl
theorem as_assignableE (w : World) : (ReflectliteType.relation "AssignableTo" ReflectliteType.assignableTo #[.agg #[.pointer (some ⟨16, 129, none⟩)], .iface 112 (.agg #[.pointer (some ⟨16, 73, none⟩)])]).run Tryd.prog w = .ok (.bool false) w := by kernel_rfl
theorem noAsE (v : Value) (xT : TypeId) (w : World) : (Instr.typeAssert (.iface 129 v) xT 123 true).run Tryd.prog w = .ok (.tuple #[.nilIface, .bool false]) w := run_typeAssert_lacksB Tryd.underlying123 (by kernel_rfl) (by kernel_rfl) v xT w

set_option maxHeartbeats 4000000 in
theorem as_miss (e t : Addr) (old : Value) (w : World) (hg : w.cell? ⟨15, 0, none⟩ = some (.iface 112 (.agg #[.pointer (some ⟨16, 58, none⟩)]))) (ht0 : w.cell? t = some old) (hf0 : w.frozen? t = false) :
    Calls Tryd.prog 31 #[.iface 129 (.pointer (some e)), .iface 75 (.pointer (some t))] w fun ev w' => ev = .returned (.bool false) ∧ w'.cell? t = some old ∧ Below w.heap.size w w' := by
  have hx6 := @run_callFunc_extern Tryd.prog 45 _ (fun args => ReflectliteValue.unpack (args.getD 0 (.tuple #[]))) Tryd.func45 (by kernel_rfl) (by kernel_rfl) (by kernel_rfl) (by kernel_rfl)
  have hx7 := @run_callFunc_extern Tryd.prog 46 _ (ReflectliteValue.methodAny (ReflectliteValue.valueError "reflectlite.Value.Type" 0) (fun t _ _ _ => ReflectliteType.toType t)) Tryd.func46 (by kernel_rfl) (by kernel_rfl) (by kernel_rfl) (by kernel_rfl)
  have hx8 := @run_callFunc_extern Tryd.prog 47 _ (ReflectliteValue.method (ReflectliteValue.valueError "reflectlite.Value.IsNil" 0) ReflectliteValue.isNil) Tryd.func47 (by kernel_rfl) (by kernel_rfl) (by kernel_rfl) (by kernel_rfl)
  have hx27 := @run_callFunc_extern Tryd.prog 71 _ (ReflectliteType.abiMethod fun t => do pure (.int .u8 (← Rtype.kind t))) Tryd.func71 (by kernel_rfl) (by kernel_rfl) (by kernel_rfl) (by kernel_rfl)
  have hx37 := @run_callFunc_extern Tryd.prog 82 _ (ReflectliteType.method ReflectliteType.elem) Tryd.func82 (by kernel_rfl) (by kernel_rfl) (by kernel_rfl) (by kernel_rfl)
  have hx38 := @run_callFunc_extern Tryd.prog 83 _ (ReflectliteType.relation "Implements" ReflectliteType.implements_) Tryd.func83 (by kernel_rfl) (by kernel_rfl) (by kernel_rfl) (by kernel_rfl)
  have hx10 := @run_callFunc_extern Tryd.prog 43 _ ReflectliteType.typeOf Tryd.func43 (by kernel_rfl) (by kernel_rfl) (by kernel_rfl) (by kernel_rfl)
  have hx35 := @run_callFunc_extern Tryd.prog 80 _ (ReflectliteType.relation "AssignableTo" ReflectliteType.assignableTo) Tryd.func80 (by kernel_rfl) (by kernel_rfl) (by kernel_rfl) (by kernel_rfl)
  have hx11 := @run_callFunc_extern Tryd.prog 53 _ (ReflectliteValue.method (ReflectliteValue.valueError "reflectlite.Value.Elem" 0) ReflectliteValue.elem) Tryd.func53 (by kernel_rfl) (by kernel_rfl) (by kernel_rfl) (by kernel_rfl)
  have hx12 := @run_callFunc_extern Tryd.prog 54 _ ReflectliteValue.set Tryd.func54 (by kernel_rfl) (by kernel_rfl) (by kernel_rfl) (by kernel_rfl)
  have tO := as_typeOfE
  have mA := as_methodAssignableTo
  have a25 := as_assignableE
  have f6 := as_valueOfPP
  have f7 := as_typePP
  have mK := as_methodKind
  have mE := as_methodElem
  have mI := as_methodImplements
  have k27 := as_kindPP
  have k25 := as_kindP
  have e27 := as_elemPP
  have i25 := as_implementsP
  have n8 := as_isNilPP ⟨w.heap.size, 0, none⟩ t ((w.alloc (.cells #[.pointer (some t)] 75)).alloc (.cells #[.pointer (some ⟨16, 75, none⟩), .pointer (some ⟨w.heap.size, 0, none⟩), .int .u64 150] 99)) (by simp)
  have hlt : 15 < w.heap.size := cell_lt hg
  have hg2 : ((w.alloc (.cells #[.pointer (some t)] 75)).alloc (.cells #[.pointer (some ⟨16, 75, none⟩), .pointer (some ⟨w.heap.size, 0, none⟩), .int .u64 150] 99)).cell? ⟨15, 0, none⟩ = some (.iface 112 (.agg #[.pointer (some ⟨16, 58, none⟩)])) := by
    rw [World.cell?_alloc_lt _ _ ⟨15, 0, none⟩ (by simp; omega), World.cell?_alloc_lt _ _ ⟨15, 0, none⟩ hlt]; exact hg
  have htl : t.block < w.heap.size := by
    rcases Nat.lt_or_ge t.block w.heap.size with h | h
    · exact h
    · simp [World.cell?, Array.getElem?_eq_none h] at ht0
  have nE := noIsE
  have nA := noAsE
  have uE := noUnwrapE
  have vE := noUnwrapsE
  go_enter Tryd.func31, Tryd.ntmps31
  go_wp2
  refine wp_loop_rounds 1 ?_
  rw [rounds_succ]
  go_wp2
  go_ret
  refine ⟨rfl, ?_, (((Below.refl _ _).alloc (Nat.le_refl _) _).alloc (by simp) _).alloc (by simp; omega) _⟩
  rw [World.cell?_alloc_lt _ _ t (by simp; omega), World.cell?_alloc_lt _ _ t (by simp; omega), World.cell?_alloc_lt _ _ t htl]
  exact ht0


set_option maxHeartbeats 400000 in
theorem as_nil (u : Value) (w : World) : Calls Tryd.prog 31 #[.nilIface, u] w fun ev w' => ev = .returned (.bool false) ∧ w' = w := by
  go_enter Tryd.func31, Tryd.ntmps31
  go_wp2
  go_ret
  exact ⟨rfl, rfl⟩

/-- The rule that a finding names; -1: none. -/
def ruleZ (z : Nat × Option Nat) : Int :=
  match z with
  | (_ + 1, some i) => (i : Int)
  | _ => -1

theorem neq_ptr (a : Addr) (w : World) : (binOp .neq 73 (.pointer (some a)) (.pointer none)).run Tryd.prog w = .ok (.bool true) w := by kernel_rfl

set_option maxRecDepth 100000 in
set_option maxHeartbeats 1000000 in
theorem rule_ck (base : Nat) (p : Nat → Addr) (z : Nat × Option Nat) (w : World) (v : Value) (hg : ErrType w) (hv : CkV base p z w v) : Calls Tryd.prog 23 #[v] w fun e w' => e = .returned (.int .i64 (ruleZ z)) ∧ Below w.heap.size w w' := by
  have hneq := neq_ptr
  have hB0 : Below w.heap.size w (w.alloc (.cells #[.pointer none] 73)) := (Below.refl _ _).alloc (Nat.le_refl _) _
  have hg0 := hg.below hB0 (Nat.le_refl _)
  have hf0 : (w.alloc (.cells #[.pointer none] 73)).frozen? ⟨w.heap.size, 0, none⟩ = false := by simp
  have ht0 : (w.alloc (.cells #[.pointer none] 73)).cell? ⟨w.heap.size, 0, none⟩ = some (.pointer none) := by simp
  match z, hv with
  | (0, x), hv =>
    obtain rfl : v = .nilIface := hv
    have E : Hid (ruleZ (0, x) = -1) := by cases x <;> rfl
    go_enter Tryd.func23, Tryd.ntmps23
    go_wp2_with fail
    refine (as_nil _ _).mono ?_
    rintro e w1 ⟨rfl, hw1⟩
    obtain rfl := hw1.symm
    go_wp2
    go_ret
    exact ⟨ret_num E.out.symm, hB0⟩
  | (k + 1, none), hv =>
    obtain rfl : v = .iface 129 (.pointer (some (p (k + 1)))) := hv
    have E : Hid (ruleZ (k + 1, none) = -1) := rfl
    go_enter Tryd.func23, Tryd.ntmps23
    go_wp2_with fail
    refine (as_miss (p (k + 1)) ⟨w.heap.size, 0, none⟩ _ _ hg0 ht0 hf0).mono ?_
    rintro e w1 ⟨rfl, hc1, hb1⟩
    go_wp2
    go_ret
    exact ⟨ret_num E.out.symm, hB0.trans (hb1.mono hB0.size)⟩
  | (k + 1, some i), ⟨blk, _, hv, hblk⟩ =>
    subst hv
    have E : Hid (ruleZ (k + 1, some i) = (i : Int)) := rfl
    have hlt := (Array.getElem?_eq_some_iff.1 hblk).1
    go_enter Tryd.func23, Tryd.ntmps23
    go_wp2_with fail
    refine (as_at ⟨blk, 0, none⟩ ⟨w.heap.size, 0, none⟩ _ _ hg0 ht0 hf0).mono ?_
    rintro e w1 ⟨rfl, hc1, hb1⟩
    have hB1 := hB0.trans hb1
    have hblk1 := (hB1.block blk hlt).trans hblk
    have hc2 : w1.cell? ⟨blk, 0, none⟩ = some (.int .i64 (i : Int)) := by
      unfold World.cell?
      rw [hblk1]
      rfl
    go_wp2
    go_ret
    exact ⟨ret_num E.out.symm, hB1⟩

set_option maxRecDepth 100000 in
theorem kind_ck (base : Nat) (p : Nat → Addr) (z : Nat × Option Nat) (w : World) (v : Value) (hE : Errs w p) (hz : z.1 ≤ 15) (hv : CkV base p z w v) : Calls Tryd.prog 22 #[v] w fun e w' => e = .returned (.int .i64 (z.1 : Int)) ∧ Below w.heap.size w w' := by
  match z, hz, hv with
  | (0, x), _, hv =>
    obtain rfl : v = .nilIface := hv
    refine (kind_nil w).mono ?_
    rintro e w1 ⟨rfl, hw1⟩
    obtain rfl := hw1.symm
    exact ⟨rfl, Below.refl _ _⟩
  | (k + 1, none), hz, hv =>
    obtain rfl : v = .iface 129 (.pointer (some (p (k + 1)))) := hv
    refine (kind_of 129 (.pointer (some (p (k + 1)))) k (fun k => p (k + 1)) w (by omega) hE.old ?_).mono ?_
    · intro W b hB hb
      by_cases he : p (k + 1) = b
      · subst he
        simpa using is_same (p (k + 1)) W
      · simpa [he] using is_other (p (k + 1)) b W he ((hE.1 k (by omega)).2.below hB (Nat.le_refl _)) hb
    · rintro e w1 ⟨rfl, hb1⟩
      exact ⟨ret_num (by simp), hb1⟩
  | (k + 1, some i), hz, ⟨blk, _, hv, hblk⟩ =>
    subst hv
    refine (kind_of 73 (.pointer (some ⟨blk, 0, none⟩)) k (fun k => p (k + 1)) w (by omega) hE.old ?_).mono ?_
    · intro W b hB hb
      have hblk2 := (hB.block blk (Array.getElem?_eq_some_iff.1 hblk).1).trans hblk
      by_cases he : p (k + 1) = b
      · subst he
        simpa using is_place_same blk _ (p (k + 1)) W hblk2
      · simpa [he] using is_place_other blk _ (p (k + 1)) b W hblk2 he ((hE.1 k (by omega)).2.below hB (Nat.le_refl _)) hb
    · rintro e w1 ⟨rfl, hb1⟩
      exact ⟨ret_num (by simp), hb1⟩

end Go.Proofs.YtcmjneabcdpmoaaDoor.GramErrs
