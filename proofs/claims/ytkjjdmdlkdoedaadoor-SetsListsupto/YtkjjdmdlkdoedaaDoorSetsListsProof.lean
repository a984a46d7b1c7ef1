/-
  SetsLists answers true for every set, every list of names and every number, where what is read is of bulk at most 1048576, and what was handed in reads as before; the tables that it reads are tied to the text of the program.
-/
import Derived.Test.YtkjjdmdlkdoedaaDoorCards
import Derived.Test.YtkjjdmdlkdoedaaDoorTie
import Derived.Test.YtkjjdmdlkdoedaaDoorSetsListsWalk
import Derived.WalkKit
import Derived.ProofKit
import Derived.OpenShut
import Derived.ShutString
import Derived.ChangeOld
import Derived.Below
import Derived.SizedLaws
import Derived.LaidSub
import Derived.Deep.DeepHandedRow
import Derived.Lib.LaidTab
import Derived.SliceStrings
namespace Go.Proofs.YtkjjdmdlkdoedaaDoor.setsLists
open Go.ChangeShapes Go.WideShapes Go.ChangeAt Go.RowKit
open Go.ChangeMaps (open_string shut_string)
open Go.Proofs.YtkjjdmdlkdoedaaDoor.SetsMath
open Go.Proofs.YtkjjdmdlkdoedaaDoor.SetsOne
open Go.Proofs.YtkjjdmdlkdoedaaDoor.SetsMany
open Go.Proofs.YtkjjdmdlkdoedaaDoor.SetsAlg
open Go.Proofs.YtkjjdmdlkdoedaaDoor.SetsListsW
set_option linter.unusedVariables false

theorem own : ownKnob Tryd.prog.godebug = none := by kernel_rfl
theorem laidOut : laidOutB Tryd.prog = true := by kernel_rfl

theorem gTy : Tryd.prog.globalNamed "math/bits.deBruijn32tab" = some 3 := by kernel_rfl
theorem gtTy : (Tryd.prog.globals[3]?).map (·.type) = some 86 := by kernel_rfl
theorem gcTy : Tryd.prog.cellsOf 86 = 32 := by kernel_rfl
def valsTy : List Int := [0, 1, 28, 2, 29, 14, 24, 3, 30, 22, 20, 15, 25, 17, 4, 8, 31, 27, 13, 23, 21, 19, 16, 7, 26, 12, 18, 6, 11, 5, 10, 9]

theorem tableTy {W : World} (h : laidMetH Tryd.prog Rows.setsListsRow.laid W) : Lib.TabIs Tryd.prog W "math/bits.deBruijn32tab" .u8 valsTy := by
  have h2 := laidMetH.filter (fun x => decide (x.1 = "math/bits.deBruijn32tab")) h
  have e : Rows.setsListsRow.laid.filter (fun x => decide (x.1 = "math/bits.deBruijn32tab")) = [("math/bits.deBruijn32tab", Lib.tabData .u8 valsTy)] := by kernel_rfl
  rw [e] at h2
  exact Lib.tabIs_of_head (rest := []) gTy gtTy Tryd.underlying86 Tryd.underlying5 (by kernel_rfl) gcTy h2

theorem gTz : Tryd.prog.globalNamed "math/bits.deBruijn64tab" = some 0 := by kernel_rfl
theorem gtTz : (Tryd.prog.globals[0]?).map (·.type) = some 69 := by kernel_rfl
theorem gcTz : Tryd.prog.cellsOf 69 = 64 := by kernel_rfl
def valsTz : List Int := [0, 1, 56, 2, 57, 49, 28, 3, 61, 58, 42, 50, 38, 29, 17, 4, 62, 47, 59, 36, 45, 43, 51, 22, 53, 39, 33, 30, 24, 18, 12, 5, 63, 55, 48, 27, 60, 41, 37, 16, 46, 35, 44, 21, 52, 32, 23, 11, 54, 26, 40, 15, 34, 20, 31, 10, 25, 14, 19, 9, 13, 8, 7, 6]

theorem tableTz {W : World} (h : laidMetH Tryd.prog Rows.setsListsRow.laid W) : Lib.TabIs Tryd.prog W "math/bits.deBruijn64tab" .u8 valsTz := by
  have h2 := laidMetH.filter (fun x => decide (x.1 = "math/bits.deBruijn64tab")) h
  have e : Rows.setsListsRow.laid.filter (fun x => decide (x.1 = "math/bits.deBruijn64tab")) = [("math/bits.deBruijn64tab", Lib.tabData .u8 valsTz)] := by kernel_rfl
  rw [e] at h2
  exact Lib.tabIs_of_head (rest := []) gTz gtTz Tryd.underlying69 Tryd.underlying5 (by kernel_rfl) gcTz h2

theorem gTp : Tryd.prog.globalNamed "internal/strconv.uint64pow10" = some 1 := by kernel_rfl
theorem gtTp : (Tryd.prog.globals[1]?).map (·.type) = some 81 := by kernel_rfl
theorem gcTp : Tryd.prog.cellsOf 81 = 20 := by kernel_rfl
def valsTp : List Int := [1, 10, 100, 1000, 10000, 100000, 1000000, 10000000, 100000000, 1000000000, 10000000000, 100000000000, 1000000000000, 10000000000000, 100000000000000, 1000000000000000, 10000000000000000, 100000000000000000, 1000000000000000000, 10000000000000000000]

theorem tableTp {W : World} (h : laidMetH Tryd.prog Rows.setsListsRow.laid W) : Lib.TabIs Tryd.prog W "internal/strconv.uint64pow10" .u64 valsTp := by
  have h2 := laidMetH.filter (fun x => decide (x.1 = "internal/strconv.uint64pow10")) h
  have e : Rows.setsListsRow.laid.filter (fun x => decide (x.1 = "internal/strconv.uint64pow10")) = [("internal/strconv.uint64pow10", Lib.tabData .u64 valsTp)] := by kernel_rfl
  rw [e] at h2
  exact Lib.tabIs_of_head (rest := []) gTp gtTp Tryd.underlying81 Tryd.underlying23 (by kernel_rfl) gcTp h2

theorem isSet_of_wf {s : Int} (h : (Lit.int .u64 s).wf = true) : IsSet s := by
  have := bounds_u64 h
  unfold IsSet top
  omega

theorem tab_of {w : World} (h : ∀ i, i < valsTz.length → w.cell? ⟨0, i, none⟩ = some (.int .u8 (valsTz.getD i 0))) : Tab w := by
  intro j hj
  have e : ∀ j, j < 64 → valsTz.getD j 0 = ((Lib.deBruijn64tab.getD j 0 : Nat) : Int) := by decide +kernel
  rw [h j hj, e j hj]

theorem tab_lt {w : World} (h : Tab w) : 0 < w.heap.size := cell_lt (h 0 (by decide))

theorem bulk_strs {H : Type} : ∀ l : List ByteArray, l.length ≤ Rows.uptoBulkAll (strs (H := H) l) ∧ ∀ s ∈ l, s.size ≤ Rows.uptoBulkAll (strs (H := H) l)
  | [] => ⟨Nat.zero_le _, fun _ h => by cases h⟩
  | x :: r => by
    obtain ⟨h1, h2⟩ := bulk_strs (H := H) r
    have e : Rows.uptoBulkAll (strs (H := H) (x :: r)) = x.data.toList.length + 1 + Rows.uptoBulkAll (strs (H := H) r) := rfl
    have e2 : x.size = x.data.toList.length := by cases x; simp [ByteArray.size]
    refine ⟨by rw [e]; simp only [List.length_cons]; omega, fun s hs => ?_⟩
    rcases List.mem_cons.1 hs with rfl | hs
    · omega
    · have := h2 s hs
      omega

set_option maxRecDepth 100000 in
theorem contract (H : Type) (enc : TypeId × Value → H) (W : World) (base : Nat) (args : Array Value) (ds gs : List (DataW H)) (before : List MemPlace)
    (hval : ∀ (j : Nat) t v, Tryd.f4.params[j]? = some t → args[j]? = some v → Value.okWide Tryd.prog W .any base t v)
    (hW : DataW.Whole enc Tryd.prog Tryd.f4.params.toList Rows.setsListsSpec.vars false W args.toList ds gs before)
    (hbulk : Rows.uptoBulkAll (ds ++ gs) ≤ 1048576)
    (hsz : (DataW.weightsEach Tryd.prog (Tryd.f4.params.toList ++ Rows.setsListsSpec.plain.varTypes Tryd.prog) (ds ++ gs)).all (· ≤ reachBytes) = true)
    (hL : laidMetH Tryd.prog Rows.setsListsRow.laid W) (hsh : W.ShapedOpen Tryd.prog) :
    Calls Tryd.prog 4 args W fun e W' => ∃ v, e = .returned v ∧ Rows.setsListsSpec.post enc Tryd.prog Tryd.f4 false true false false W args v W' := by
  have hW' := hW
  obtain ⟨p, q, hA0, hV, rfl, hfz, hnd⟩ := hW
  have hA : DataW.TrodAll enc Tryd.prog W 0 (fun _ => true) true Tryd.f4.params.toList args.toList ds p := hA0
  rw [Tryd.params4] at hA hval hsz
  obtain ⟨v0, vs0, d0, ds0, p0, q0, hargs, rfl, rfl, h0, r0⟩ := trodAll_cons hA
  obtain ⟨v1, vs1, d1, ds1, p1, q1, rfl, rfl, rfl, h1, r1⟩ := trodAll_cons r0
  obtain ⟨v2, vs2, d2, ds2, p2, q2, rfl, rfl, rfl, h2, r2⟩ := trodAll_cons r1
  obtain ⟨rfl, rfl, rfl⟩ := trodAll_nil r2
  obtain rfl : args = #[v0, v1, v2] := by cases args; simp_all
  obtain ⟨rfl, rfl⟩ := trodVars_none hV
  obtain ⟨a0, rfl, rfl, rfl, w0⟩ := open_int Tryd.underlying24 (hval 0 24 v0 rfl rfl) h0
  obtain ⟨a1, len1, cap1, rfl⟩ := okWide_slice Tryd.underlying37 (hval 1 37 v1 rfl rfl)
  have k1 := h1
  have lt1 : ∀ x ∈ p1, x.block < W.heap.size := by obtain ⟨m, hm⟩ := k1; exact DataW.trod_lt m _ _ _ hm
  obtain ⟨z1, w1, hz1, hl1⟩ : ∃ ss, SRow W a1 len1 ss ∧ (∀ i, i < len1 → (ss.getD i ByteArray.empty).size ≤ 1048576) ∧ len1 ≤ 1048576 := by
    obtain ⟨fuel, hf⟩ := h1
    rcases open_strings Tryd.underlying37 Tryd.underlying9 (by kernel_rfl) hf with ⟨hcs, _⟩ | ⟨x, l, c, ss, hcs, _, hl, hm, hz, hx, hcell, hwz⟩
    · simp [Value.cells] at hcs
      obtain ⟨rfl, rfl, rfl⟩ := hcs
      exact ⟨[], fun i hi => absurd hi (by omega), fun i hi => absurd hi (by omega), by omega⟩
    · simp [Value.cells] at hcs
      obtain ⟨rfl, rfl, rfl⟩ := hcs
      simp only [Prod.mk.injEq] at hx
      obtain ⟨rfl, _⟩ := hx
      have hz' : ss.length = cap1 := by simpa using hz
      obtain ⟨b1, b2⟩ := bulk_strs (H := H) (ss.take len1)
      rw [List.length_take] at b1
      have hb : Rows.uptoBulkAll (strs (H := H) (ss.take len1)) ≤ 1048576 := by
        simp only [List.cons_append, List.nil_append, Rows.uptoBulkAll, Rows.uptoBulk] at hbulk
        omega
      refine ⟨ss, fun i hi => ?_, fun i hi => ?_, by omega⟩
      · have hc := hcell i (by omega)
        obtain ⟨b, off, spot⟩ := x
        have hspot : spot = none := by simpa [Addr.add] using World.cell?_spot (hcell 0 (by omega))
        subst hspot
        rw [Addr.add_lit] at hc
        exact ⟨b, off, rfl, hc⟩
      · have hm2 : ss.getD i ByteArray.empty ∈ ss.take len1 := by
          rw [List.getD_eq_getElem?_getD, List.getElem?_eq_getElem (by omega), Option.getD_some]
          exact List.mem_take_iff_getElem.2 ⟨i, by omega, rfl⟩
        exact Nat.le_trans (b2 _ hm2) hb
  obtain ⟨a2, rfl, rfl, rfl, w2⟩ := open_int Tryd.underlying3 (hval 2 3 v2 rfl rfl) h2
  clear hA0
  have tabTy : ∀ i, i < valsTy.length → W.cell? ⟨3, i, none⟩ = some (.int .u8 (valsTy.getD i 0)) := fun i hi => (tableTy hL).cell gTy i hi
  have tabTz : ∀ i, i < valsTz.length → W.cell? ⟨0, i, none⟩ = some (.int .u8 (valsTz.getD i 0)) := fun i hi => (tableTz hL).cell gTz i hi
  have tabTp : ∀ i, i < valsTp.length → W.cell? ⟨1, i, none⟩ = some (.int .u64 (valsTp.getD i 0)) := fun i hi => (tableTp hL).cell gTp i hi
  refine (walk a0 a2 a1 len1 cap1 z1 W (isSet_of_wf w0) (tab_of tabTz) (tab_lt (tab_of tabTz)) w1 hz1 hl1).mono fun e W' ⟨he, bel⟩ => ?_
  subst he
  exact ⟨_, rfl, _, _, _, [], _, [], hW', trodAll_mk1 (shut_bool Tryd.underlying4 _), (trodAll_cons_mk (shut_int Tryd.underlying24 w0) (trodAll_cons_mk (Below.trod laidOut (by kernel_rfl) (of_decide_eq_true (by kernel_rfl)) k1 bel lt1) (trodAll_cons_mk (shut_int Tryd.underlying3 w2) trodAll_mk0))), rfl, bel.frame _, fun h => by cases h⟩

def layTy : Obj → Obj
  | .cells _ t frozen => .cells (valsTy.map (fun z => Value.int .u8 z)).toArray t frozen
  | o => o
def layTz : Obj → Obj
  | .cells _ t frozen => .cells (valsTz.map (fun z => Value.int .u8 z)).toArray t frozen
  | o => o
def layTp : Obj → Obj
  | .cells _ t frozen => .cells (valsTp.map (fun z => Value.int .u64 z)).toArray t frozen
  | o => o
/-- A world for the witness: the settled one, each listed variable holding what its initialiser lays. -/
noncomputable def laidWorld (os : Os) : World :=
  { World.holding Tryd.prog os ⟨#[], #[], []⟩ with heap := ((((World.holding Tryd.prog os ⟨#[], #[], []⟩).heap.modify 3 layTy).modify 0 layTz).modify 1 layTp) }

theorem laid_met (os : Os) : laidMet Tryd.prog Rows.setsListsRow.laid ((laidWorld os).forCall (fun _ _ => 0) ⟨#[], #[.int .u64 0, .slice none 0 0, .int .i64 0], []⟩).memory :=
  laidMet_of_run' 8 (by kernel_rfl) (by kernel_rfl)
theorem reads (os : Os) {H : Type} (enc : TypeId × Value → H) : ∃ places, DataW.whole enc Tryd.prog ((laidWorld os).forCall (fun _ _ => 0) ⟨#[], #[.int .u64 0, .slice none 0 0, .int .i64 0], []⟩).memory Tryd.f4.params.toList Rows.setsListsSpec.vars false #[Value.int .u64 0, .slice none 0 0, .int .i64 0].toList 8 = some ([.lit (.int .u64 0), .nil, .lit (.int .i64 0)], [], places) :=
  ⟨[], by kernel_rfl⟩

set_option maxRecDepth 100000 in
theorem lifted (os : Os) (started : os.Started) (H : Type) (enc : TypeId × Value → H) (F : Stop.Interp) :
    ReturnsInHanded {} Tryd.checked os 4 .any ((Rows.OpenSpec.upto Rows.setsListsSpec).preRow enc Tryd.prog Tryd.f4 Rows.setsListsUptoRow.domain false Rows.setsListsUptoRow.laid) (((Rows.OpenSpec.upto Rows.setsListsSpec).at F).post enc Tryd.prog Tryd.f4 false true false false) := by
  obtain ⟨places, hx⟩ := reads os enc
  refine returnsInHanded_of_row (C := Tryd.checked) (s := Rows.OpenSpec.upto Rows.setsListsSpec) own started (by kernel_rfl) Tryd.func4
    (witness_row_at (enc := enc) (C := Tryd.checked) false (laidWorld os) #[.int .u64 0, .slice none 0 0, .int .i64 0] rfl (by kernel_rfl) (by kernel_rfl) (by kernel_rfl)
      (OpenSpec.preRow_of_cond 8 hx (by kernel_rfl) (fun k hk => by cases hk; kernel_rfl) (by kernel_rfl) (laid_met os))) ?_
  intro W base args ds gs before hval hW _ hcond hsz hL hsh _
  exact contract H enc W base args ds gs before hval hW (of_decide_eq_true (hcond _ rfl)) hsz hL hsh

theorem said : Rows.SetsListsUptoSaid :=
  OpenClaim.holds_of_cond 4 Tryd.f4 rfl rfl rfl rfl rfl rfl rfl ⟨rfl, rfl, rfl, rfl, rfl⟩ rfl rfl rfl rfl rfl (by kernel_rfl) Tryd.func4 (by kernel_rfl)
    (of_decide_eq_true (by kernel_rfl)) (by unfold Func.isWrapper; first | (rw [if_pos (by decide +kernel)]; kernel_rfl) | (rw [if_neg (by decide +kernel)]; exact ⟨rfl, rfl⟩))
    (fun os started H enc _ F => by rw [OpenClaim.pre_eq_preRow]; exact lifted os started H enc F)

theorem plain (f : FuncId) (fn : Func) (hf : Tryd.pinned.checked.prog.funcNamed "dovetail/dovetaillaw01.SetsLists" = some f) (hfn : Tryd.pinned.checked.prog.funcs[f]? = some fn) :
    false = Tryd.pinned.checked.prog.looks [] ∧ ∀ (j : Nat) t, fn.params[j]? = some t → Tryd.pinned.checked.prog.wantsStandIn t = false := by
  obtain rfl : f = 4 := Option.some.inj ((show Tryd.prog.funcNamed "dovetail/dovetaillaw01.SetsLists" = some 4 by kernel_rfl).symm.trans hf) |>.symm
  obtain rfl : fn = Tryd.f4 := (Option.some.inj (Tryd.func4.symm.trans hfn)).symm
  refine ⟨by kernel_rfl, fun j t ht => ?_⟩
  rw [Tryd.params4] at ht
  have hm := Array.mem_of_getElem? ht
  simp only [List.mem_toArray, List.mem_cons, List.not_mem_nil, or_false] at hm
  rcases hm with rfl | rfl | rfl
  · exact (show Tryd.prog.wantsStandIn 24 = false by kernel_rfl)
  · exact (show Tryd.prog.wantsStandIn 37 = false by kernel_rfl)
  · exact (show Tryd.prog.wantsStandIn 3 = false by kernel_rfl)

theorem card : Rows.SetsListsUptoCardSaid :=
  Claim7.holds_tied_plain_at .later [] _ _ _ _ said (fun _ h => by cases h) (by kernel_rfl) (fun _ h => by cases h) setsListsUpto_row_tie rfl ⟨rfl, rfl⟩ (by kernel_rfl) rfl plain (by kernel_rfl)

end Go.Proofs.YtkjjdmdlkdoedaaDoor.setsLists
