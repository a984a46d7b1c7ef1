/-
  SetsOwn answers true for every two sets, and what was handed in reads as before; the tables that it reads are tied to the text of the program.
-/
import Derived.Test.YtkjjdmdlkdoedaaDoorCards
import Derived.Test.YtkjjdmdlkdoedaaDoorTie
import Derived.Test.YtkjjdmdlkdoedaaDoorSetsOwnWalk
import Derived.WalkKit
import Derived.ProofKit
import Derived.OpenShut
import Derived.ShutString
import Derived.ChangeOld
import Derived.Below
import Derived.SizedLaws
import Derived.LaidSub
import Derived.Deep.DeepHandedRow
import Derived.Lib.LaidTab
namespace Go.Proofs.YtkjjdmdlkdoedaaDoor.setsOwn
open Go.ChangeShapes Go.WideShapes Go.ChangeAt Go.RowKit
open Go.ChangeMaps (open_string shut_string)
open Go.Proofs.YtkjjdmdlkdoedaaDoor.SetsMath
open Go.Proofs.YtkjjdmdlkdoedaaDoor.SetsOne
open Go.Proofs.YtkjjdmdlkdoedaaDoor.SetsMany
open Go.Proofs.YtkjjdmdlkdoedaaDoor.SetsAlg
open Go.Proofs.YtkjjdmdlkdoedaaDoor.SetsOwnW
set_option linter.unusedVariables false

theorem own : ownKnob Tryd.prog.godebug = none := by kernel_rfl
theorem laidOut : laidOutB Tryd.prog = true := by kernel_rfl

theorem gTy : Tryd.prog.globalNamed "math/bits.deBruijn32tab" = some 3 := by kernel_rfl
theorem gtTy : (Tryd.prog.globals[3]?).map (·.type) = some 86 := by kernel_rfl
theorem gcTy : Tryd.prog.cellsOf 86 = 32 := by kernel_rfl
def valsTy : List Int := [0, 1, 28, 2, 29, 14, 24, 3, 30, 22, 20, 15, 25, 17, 4, 8, 31, 27, 13, 23, 21, 19, 16, 7, 26, 12, 18, 6, 11, 5, 10, 9]

theorem tableTy {W : World} (h : laidMetH Tryd.prog Rows.setsOwnRow.laid W) : Lib.TabIs Tryd.prog W "math/bits.deBruijn32tab" .u8 valsTy := by
  have h2 := laidMetH.filter (fun x => decide (x.1 = "math/bits.deBruijn32tab")) h
  have e : Rows.setsOwnRow.laid.filter (fun x => decide (x.1 = "math/bits.deBruijn32tab")) = [("math/bits.deBruijn32tab", Lib.tabData .u8 valsTy)] := by kernel_rfl
  rw [e] at h2
  exact Lib.tabIs_of_head (rest := []) gTy gtTy Tryd.underlying86 Tryd.underlying5 (by kernel_rfl) gcTy h2

theorem gTz : Tryd.prog.globalNamed "math/bits.deBruijn64tab" = some 0 := by kernel_rfl
theorem gtTz : (Tryd.prog.globals[0]?).map (·.type) = some 69 := by kernel_rfl
theorem gcTz : Tryd.prog.cellsOf 69 = 64 := by kernel_rfl
def valsTz : List Int := [0, 1, 56, 2, 57, 49, 28, 3, 61, 58, 42, 50, 38, 29, 17, 4, 62, 47, 59, 36, 45, 43, 51, 22, 53, 39, 33, 30, 24, 18, 12, 5, 63, 55, 48, 27, 60, 41, 37, 16, 46, 35, 44, 21, 52, 32, 23, 11, 54, 26, 40, 15, 34, 20, 31, 10, 25, 14, 19, 9, 13, 8, 7, 6]

theorem tableTz {W : World} (h : laidMetH Tryd.prog Rows.setsOwnRow.laid W) : Lib.TabIs Tryd.prog W "math/bits.deBruijn64tab" .u8 valsTz := by
  have h2 := laidMetH.filter (fun x => decide (x.1 = "math/bits.deBruijn64tab")) h
  have e : Rows.setsOwnRow.laid.filter (fun x => decide (x.1 = "math/bits.deBruijn64tab")) = [("math/bits.deBruijn64tab", Lib.tabData .u8 valsTz)] := by kernel_rfl
  rw [e] at h2
  exact Lib.tabIs_of_head (rest := []) gTz gtTz Tryd.underlying69 Tryd.underlying5 (by kernel_rfl) gcTz h2

theorem gTp : Tryd.prog.globalNamed "internal/strconv.uint64pow10" = some 1 := by kernel_rfl
theorem gtTp : (Tryd.prog.globals[1]?).map (·.type) = some 81 := by kernel_rfl
theorem gcTp : Tryd.prog.cellsOf 81 = 20 := by kernel_rfl
def valsTp : List Int := [1, 10, 100, 1000, 10000, 100000, 1000000, 10000000, 100000000, 1000000000, 10000000000, 100000000000, 1000000000000, 10000000000000, 100000000000000, 1000000000000000, 10000000000000000, 100000000000000000, 1000000000000000000, 10000000000000000000]

theorem tableTp {W : World} (h : laidMetH Tryd.prog Rows.setsOwnRow.laid W) : Lib.TabIs Tryd.prog W "internal/strconv.uint64pow10" .u64 valsTp := by
  have h2 := laidMetH.filter (fun x => decide (x.1 = "internal/strconv.uint64pow10")) h
  have e : Rows.setsOwnRow.laid.filter (fun x => decide (x.1 = "internal/strconv.uint64pow10")) = [("internal/strconv.uint64pow10", Lib.tabData .u64 valsTp)] := by kernel_rfl
  rw [e] at h2
  exact Lib.tabIs_of_head (rest := []) gTp gtTp Tryd.underlying81 Tryd.underlying23 (by kernel_rfl) gcTp h2

theorem isSet_of_wf {s : Int} (h : (Lit.int .u64 s).wf = true) : IsSet s := by
  have := bounds_u64 h
  unfold IsSet top
  omega

theorem tab_of {w : World} (h : ∀ i, i < valsTz.length → w.cell? ⟨0, i, none⟩ = some (.int .u8 (valsTz.getD i 0))) : Tab w := by
  intro j hj
  have e : ∀ j, j < 64 → valsTz.getD j 0 = ((Lib.deBruijn64tab.getD j 0 : Nat) : Int) := by decide +kernel
  rw [h j hj, e j hj]

theorem tab_lt {w : World} (h : Tab w) : 0 < w.heap.size := cell_lt (h 0 (by decide))

set_option maxRecDepth 100000 in
theorem contract (H : Type) (enc : TypeId × Value → H) (W : World) (base : Nat) (args : Array Value) (ds gs : List (DataW H)) (before : List MemPlace)
    (hval : ∀ (j : Nat) t v, Tryd.f7.params[j]? = some t → args[j]? = some v → Value.okWide Tryd.prog W .any base t v)
    (hW : DataW.Whole enc Tryd.prog Tryd.f7.params.toList Rows.setsOwnSpec.vars false W args.toList ds gs before)
    (hsz : (DataW.weightsEach Tryd.prog (Tryd.f7.params.toList ++ Rows.setsOwnSpec.plain.varTypes Tryd.prog) (ds ++ gs)).all (· ≤ reachBytes) = true)
    (hL : laidMetH Tryd.prog Rows.setsOwnRow.laid W) (hsh : W.ShapedOpen Tryd.prog) :
    Calls Tryd.prog 7 args W fun e W' => ∃ v, e = .returned v ∧ Rows.setsOwnSpec.post enc Tryd.prog Tryd.f7 false true false false W args v W' := by
  have hW' := hW
  obtain ⟨p, q, hA0, hV, rfl, hfz, hnd⟩ := hW
  have hA : DataW.TrodAll enc Tryd.prog W 0 (fun _ => true) true Tryd.f7.params.toList args.toList ds p := hA0
  rw [Tryd.params7] at hA hval hsz
  obtain ⟨v0, vs0, d0, ds0, p0, q0, hargs, rfl, rfl, h0, r0⟩ := trodAll_cons hA
  obtain ⟨v1, vs1, d1, ds1, p1, q1, rfl, rfl, rfl, h1, r1⟩ := trodAll_cons r0
  obtain ⟨rfl, rfl, rfl⟩ := trodAll_nil r1
  obtain rfl : args = #[v0, v1] := by cases args; simp_all
  obtain ⟨rfl, rfl⟩ := trodVars_none hV
  obtain ⟨a0, rfl, rfl, rfl, w0⟩ := open_int Tryd.underlying24 (hval 0 24 v0 rfl rfl) h0
  obtain ⟨a1, rfl, rfl, rfl, w1⟩ := open_int Tryd.underlying24 (hval 1 24 v1 rfl rfl) h1
  clear hA0
  have tabTy : ∀ i, i < valsTy.length → W.cell? ⟨3, i, none⟩ = some (.int .u8 (valsTy.getD i 0)) := fun i hi => (tableTy hL).cell gTy i hi
  have tabTz : ∀ i, i < valsTz.length → W.cell? ⟨0, i, none⟩ = some (.int .u8 (valsTz.getD i 0)) := fun i hi => (tableTz hL).cell gTz i hi
  have tabTp : ∀ i, i < valsTp.length → W.cell? ⟨1, i, none⟩ = some (.int .u64 (valsTp.getD i 0)) := fun i hi => (tableTp hL).cell gTp i hi
  refine (walk a0 a1 W (isSet_of_wf w0) (isSet_of_wf w1) (tab_of tabTz) (tab_lt (tab_of tabTz))).mono fun e W' ⟨he, bel⟩ => ?_
  subst he
  exact ⟨_, rfl, _, _, _, [], _, [], hW', trodAll_mk1 (shut_bool Tryd.underlying4 _), (trodAll_cons_mk (shut_int Tryd.underlying24 w0) (trodAll_cons_mk (shut_int Tryd.underlying24 w1) trodAll_mk0)), rfl, bel.frame _, fun h => by cases h⟩

def layTy : Obj → Obj
  | .cells _ t frozen => .cells (valsTy.map (fun z => Value.int .u8 z)).toArray t frozen
  | o => o
def layTz : Obj → Obj
  | .cells _ t frozen => .cells (valsTz.map (fun z => Value.int .u8 z)).toArray t frozen
  | o => o
def layTp : Obj → Obj
  | .cells _ t frozen => .cells (valsTp.map (fun z => Value.int .u64 z)).toArray t frozen
  | o => o
/-- A world for the witness: the settled one, each listed variable holding what its initialiser lays. -/
noncomputable def laidWorld (os : Os) : World :=
  { World.holding Tryd.prog os ⟨#[], #[], []⟩ with heap := ((((World.holding Tryd.prog os ⟨#[], #[], []⟩).heap.modify 3 layTy).modify 0 layTz).modify 1 layTp) }

theorem laid_met (os : Os) : laidMet Tryd.prog Rows.setsOwnRow.laid ((laidWorld os).forCall (fun _ _ => 0) ⟨#[], #[.int .u64 0, .int .u64 0], []⟩).memory :=
  laidMet_of_run' 8 (by kernel_rfl) (by kernel_rfl)
theorem reads (os : Os) {H : Type} (enc : TypeId × Value → H) : ∃ places, DataW.whole enc Tryd.prog ((laidWorld os).forCall (fun _ _ => 0) ⟨#[], #[.int .u64 0, .int .u64 0], []⟩).memory Tryd.f7.params.toList Rows.setsOwnSpec.vars false #[Value.int .u64 0, .int .u64 0].toList 8 = some ([.lit (.int .u64 0), .lit (.int .u64 0)], [], places) :=
  ⟨[], by kernel_rfl⟩

set_option maxRecDepth 100000 in
theorem lifted (os : Os) (started : os.Started) (H : Type) (enc : TypeId × Value → H) (F : Stop.Interp) :
    ReturnsInHanded {} Tryd.checked os 7 .any ((OpenSpec.ofChange Rows.setsOwnSpec).preRow enc Tryd.prog Tryd.f7 Rows.setsOwnRow.domain false Rows.setsOwnRow.laid) (((OpenSpec.ofChange Rows.setsOwnSpec).at F).post enc Tryd.prog Tryd.f7 false true false false) := by
  obtain ⟨places, hx⟩ := reads os enc
  refine returnsInHanded_of_row (C := Tryd.checked) (s := OpenSpec.ofChange Rows.setsOwnSpec) own started (by kernel_rfl) Tryd.func7
    (witness_row_at (enc := enc) (C := Tryd.checked) false (laidWorld os) #[.int .u64 0, .int .u64 0] rfl (by kernel_rfl) (by kernel_rfl) (by kernel_rfl)
      (OpenSpec.preRow_of_cond 8 hx (by kernel_rfl) (fun k hk => by cases hk) (by kernel_rfl) (laid_met os))) ?_
  intro W base args ds gs before hval hW _ _ hsz hL hsh _
  exact contract H enc W base args ds gs before hval hW hsz hL hsh

theorem said : Rows.SetsOwnSaid :=
  OpenClaim.holds_of_cond 7 Tryd.f7 rfl rfl rfl rfl rfl rfl rfl ⟨rfl, rfl, rfl, rfl, rfl⟩ rfl rfl rfl rfl rfl (by kernel_rfl) Tryd.func7 (by kernel_rfl)
    (of_decide_eq_true (by kernel_rfl)) (by unfold Func.isWrapper; first | (rw [if_pos (by decide +kernel)]; kernel_rfl) | (rw [if_neg (by decide +kernel)]; exact ⟨rfl, rfl⟩))
    (fun os started H enc _ F => by rw [OpenClaim.pre_eq_preRow]; exact lifted os started H enc F)

theorem plain (f : FuncId) (fn : Func) (hf : Tryd.pinned.checked.prog.funcNamed "dovetail/dovetaillaw01.SetsOwn" = some f) (hfn : Tryd.pinned.checked.prog.funcs[f]? = some fn) :
    false = Tryd.pinned.checked.prog.looks [] ∧ ∀ (j : Nat) t, fn.params[j]? = some t → Tryd.pinned.checked.prog.wantsStandIn t = false := by
  obtain rfl : f = 7 := Option.some.inj ((show Tryd.prog.funcNamed "dovetail/dovetaillaw01.SetsOwn" = some 7 by kernel_rfl).symm.trans hf) |>.symm
  obtain rfl : fn = Tryd.f7 := (Option.some.inj (Tryd.func7.symm.trans hfn)).symm
  refine ⟨by kernel_rfl, fun j t ht => ?_⟩
  rw [Tryd.params7] at ht
  have hm := Array.mem_of_getElem? ht
  simp only [List.mem_toArray, List.mem_cons, List.not_mem_nil, or_false] at hm
  rcases hm with rfl | rfl
  · exact (show Tryd.prog.wantsStandIn 24 = false by kernel_rfl)
  · exact (show Tryd.prog.wantsStandIn 24 = false by kernel_rfl)

theorem card : Rows.SetsOwnCardSaid :=
  Claim7.holds_tied_plain_at .later [] _ _ _ _ said (fun _ h => by cases h) (by kernel_rfl) (fun _ h => by cases h) setsOwn_row_tie rfl ⟨rfl, rfl⟩ (by kernel_rfl) rfl plain (by kernel_rfl)

end Go.Proofs.YtkjjdmdlkdoedaaDoor.setsOwn
