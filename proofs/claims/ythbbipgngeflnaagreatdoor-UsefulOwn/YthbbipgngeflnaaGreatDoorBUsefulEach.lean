/-
  Texts that stand together: UsefulEach.
-/
import Derived.Test.YthbbipgngeflnaaGreatDoorBSetsEach
import Derived.Test.YthbbipgngeflnaaGreatDoorBBaseMath
import Derived.Test.YthbbipgngeflnaaGreatDoorBagUsefulRMath
import Derived.Sort.QuietTacIn
import Derived.RangeFuncCalls
namespace Go.Proofs.YthbbipgngeflnaaGreatDoor.UsefulEach
open Go.RowKit Go.Shelf Go.Proofs.YthbbipgngeflnaaGreatDoor.SetsMath Go.Proofs.YthbbipgngeflnaaGreatDoor.SetsOne Go.Proofs.YthbbipgngeflnaaGreatDoor.SetsMany Go.Proofs.YthbbipgngeflnaaGreatDoor.SetsAlg Go.Proofs.YthbbipgngeflnaaGreatDoor.SetsEach Go.Proofs.YthbbipgngeflnaaGreatDoor.UsefulMath Go.Proofs.YthbbipgngeflnaaGreatDoor.GramApart
attribute [local go_sem] Oper.semAt_some
set_option linter.unusedVariables false

theorem numsI_has {s z : Int} (h : z ∈ numsI s 64) : hasB s z = true := by
  have h1 := numsI_all h
  rcases numsI_bound h with h2 | h2
  · exact h2.2.2
  · omega
theorem has_numsI {s z : Int} (h : hasB s z = true) : z ∈ numsI s 64 := by
  have hr := hasB_range h
  unfold numsI numsN
  refine List.mem_map.2 ⟨z.toNat, List.mem_filter.2 ⟨List.mem_range.2 (by omega), ?_⟩, by omega⟩
  rw [hasB_in hr.1 hr.2] at h
  exact h

/-- A number of a set. -/
abbrev NumT (s : Int) := { x : Int // hasB s x = true }
def numsT (s : Int) : List (NumT s) := (numsI s 64).pmap (fun x h => ⟨x, h⟩) (fun _ h => numsI_has h)
theorem numsT_val (s : Int) : (numsT s).map (·.1) = numsI s 64 := by
  unfold numsT
  rw [List.map_pmap]
  simp
theorem numT_inj {s : Int} : ∀ {a b : List (NumT s)}, a.map (·.1) = b.map (·.1) → a = b
  | [], [], _ => rfl
  | [], _ :: _, h => by simp at h
  | _ :: _, [], h => by simp at h
  | x :: a, y :: b, h => by
    simp only [List.map_cons, List.cons.injEq] at h
    rw [Subtype.ext h.1, numT_inj h.2]
theorem numsT_len (s : Int) : (numsT s).length = (numsI s 64).length := by rw [← numsT_val, List.length_map]
theorem numsT_mem {s : Int} {z : Int} (h : hasB s z = true) : (⟨z, h⟩ : NumT s) ∈ numsT s := by
  have h1 : z ∈ (numsT s).map (·.1) := by rw [numsT_val]; exact has_numsI h
  obtain ⟨⟨y, hy⟩, h2, rfl⟩ := List.mem_map.1 h1
  exact h2

set_option maxRecDepth 100000 in
set_option maxHeartbeats 2000000 in
theorem each1_t (n : Nat) (hn : 1 ≤ n) (l Bn n₀ : Nat) (hn₀ : 15 < n₀) (s : Int) (hs : IsSet s) (J Jx : List (NumT s) → World → Prop)
    (hY : ∀ pre x W, J pre W → pre.length < (numsT s).length → YieldAt Fence.wide (n - 1) Tryz.prog l #[.int .i64 x.1] W fun e W' =>
      (e = .returned (.bool true) ∧ J (pre ++ [x]) W' ∧ Below n₀ W W') ∨ (e = .returned (.bool false) ∧ Jx (pre ++ [x]) W'))
    (W : World) (hBn : W.cell? ⟨Bn, 0, none⟩ = some (.int .u64 s)) (hT : Tab W) (h0 : J [] W) :
    CallsIn Fence.wide n Tryz.prog 77 #[.func (.yield l) #[] #[], .pointer (some ⟨Bn, 0, none⟩)] W fun e W' => (∃ v, e = .returned v) ∧
      ((∃ ys, ys = numsT s ∧ J ys W') ∨ (∃ pre, pre <+: numsT s ∧ Jx pre W')) := by
  refine callsIn_of_wp Tryz.func77 rfl trivial ?_ rfl
  simp only [Tryz.ntmps77, List.size_toArray, List.length_cons, List.length_nil, Nat.reduceAdd, Nat.reduceSub, Array.replicate_succ, Array.replicate_zero, List.push_toArray, List.append_toArray, List.nil_append, List.cons_append]
  gi_wp2
  gi_loopw [3] (fun p wr => ∃ (pre : List (NumT s)) (r : Int), p = .int .u64 r ∧ IsSet r ∧ numsI s 64 = pre.map (·.1) ++ numsI r 64 ∧ Tab wr ∧ J pre wr)
    (fun p _ => (numsI (intOf p) 64).length)
  case atStart =>
    exact ⟨[], s, rfl, hs, rfl, hT, h0⟩
  case round =>
    obtain ⟨pre, r, rfl, hr, hx, hTr, hJs⟩ := hrel
    by_cases hz : r = 0
    · subst hz
      have E : Hid (pre = numsT s) := numT_inj (by rw [numsT_val, hx, numsI_empty, List.append_nil])
      clear hx
      gi_wp2
      go_end0
      exact ⟨⟨_, rfl⟩, .inl ⟨pre, E.out, hJs⟩⟩
    · obtain ⟨c', hc, hc64, _, hnum⟩ := low_facts hr hz
      obtain ⟨c, hcc⟩ : ∃ c : Int, c = (c' : Int) := ⟨_, rfl⟩
      rw [← hcc] at hc hnum
      clear hc64
      have hcs : hasB s c = true := numsI_has (by rw [hx, hnum]; simp)
      have hplen : pre.length < (numsT s).length := by rw [numsT_len, hx, hnum]; simp
      have hpre : Hid (pre ++ [⟨c, hcs⟩] <+: numsT s) := by
        refine ⟨(numsT s).drop (pre.length + 1), numT_inj ?_⟩
        have e1 : (pre.map (·.1) ++ c :: numsI (withoutI r c) 64).drop (pre.length + 1) = numsI (withoutI r c) 64 := by
          rw [List.drop_append, List.drop_of_length_le (by simp), List.length_map, show pre.length + 1 - pre.length = 1 by omega]
          rfl
        rw [List.map_append, List.map_drop, numsT_val, hx, hnum, e1]
        simp
      obtain ⟨fn, tmps, assign, body, hy, hR⟩ := hY pre ⟨c, hcs⟩ wr hJs hplen
      dsimp only at hy hR
      have hz' : (r != 0) = true := by simpa using hz
      have E : Hid (_) := hx
      have E2 : Hid (_) := hnum
      clear hx hnum hcc
      have hlow : ∀ w, Tab w → Calls Tryz.prog 76 #[.int .u64 r] w fun e w' => e = .returned (.int .i64 c) ∧ w' = w := fun w ht => by
        have := lowest_any r w hr hz ht
        rwa [hc] at this
      have HL : Hid (_) := hlow
      clear hlow hc
      gi_wp2_with (refine ⟨trivial, ?_⟩; gi_at_call 76; refine (callsIn_wide.2 (HL.out _ hTr)).mono ?_; rintro e w' ⟨rfl, rfl⟩)
      refine hR.mono ?_
      rintro e W3 (⟨rfl, hJ3, hk3⟩ | ⟨rfl, hJx3⟩)
      · have hT3 : Tab W3 := Tab.from hTr hk3 hn₀
        have hset := withoutI_isSet c hr
        clear hk3 hTr hy hR hJs
        gi_wp2_with (first | (refine ⟨trivial, ?_⟩; gi_at_call 76; refine (callsIn_wide.2 (HL.out _ hT3)).mono ?_; rintro e w' ⟨rfl, rfl⟩) | (refine ⟨trivial, ?_⟩; gi_at_call 78; refine (callsIn_wide.2 (without_any _ _ _ hr)).mono ?_; rintro e w' ⟨rfl, rfl⟩))
        go_roundw
        case rel => exact ⟨pre ++ [⟨c, hcs⟩], _, rfl, hset, by rw [E.out, E2.out]; simp, hT3, hJ3⟩
        case measure => simp only [intOf]; rw [E2.out]; simp
      · gi_wp2
        refine bodyPost_ret (results_none rfl _ _ _) rfl ?_
        exact ⟨⟨_, rfl⟩, .inr ⟨pre ++ [⟨c, hcs⟩], hpre.out, hJx3⟩⟩

theorem each_t (n : Nat) (hn : 1 ≤ n) (Bn n₀ : Nat) (hn₀ : 15 < n₀) (s : Int) (hs : IsSet s) (w : World) (hBn : Bn < w.heap.size) (hw : n₀ ≤ w.heap.size)
    (hc : w.cell? ⟨Bn, 0, none⟩ = some (.int .u64 s)) (hT : Tab w) :
    SeqStopsK Fence.wide n Tryz.prog 77 #[.pointer (some ⟨Bn, 0, none⟩)] (fun x : NumT s => #[Value.int .i64 x.1]) (Below n₀) (fun ys => ys = numsT s) (fun pre => pre <+: numsT s) (numsT s).length w := fun l J Jx W hW _ _ hY h0 =>
  each1_t n hn l Bn n₀ hn₀ s hs J Jx hY W ((hW.cell (p := ⟨Bn, 0, none⟩) hBn).trans hc) (Tab.from hT (hW.mono hw) hn₀) h0

/-- The marks that loops over sequences leave. -/
def marks (Ds : List Nat) : List Deferred := Ds.map (fun D => { target := .collected D, args := #[] })
def OpenAt (w : World) (B : Nat) (Ds : List Nat) : Prop := Ds.Nodup ∧ ∀ D ∈ Ds, B ≤ D ∧ w.heap[D]? = some (.deferred (some []))

theorem OpenAt.nil (w : World) (B : Nat) : OpenAt w B [] := ⟨List.nodup_nil, fun D hD => by cases hD⟩
theorem OpenAt.below {w w' : World} {B C : Nat} {Ds : List Nat} (h : OpenAt w B Ds) (hb : Below C w w') (hC : w.heap.size ≤ C) : OpenAt w' B Ds :=
  ⟨h.1, fun D hD => ⟨(h.2 D hD).1, (hb.block D (Nat.lt_of_lt_of_le (Array.getElem?_eq_some_iff.1 (h.2 D hD).2).1 hC)).trans (h.2 D hD).2⟩⟩
theorem OpenAt.set {w : World} {B b o : Nat} {v : Value} {Ds : List Nat} (h : OpenAt w B Ds) {cur : Array Value} {t : TypeId} (hr : RowAt w b t cur) : OpenAt (w.setCell ⟨b, o, none⟩ v) B Ds :=
  ⟨h.1, fun D hD => ⟨(h.2 D hD).1, by
    have hne : D ≠ b := fun e => by
      have h1 := (h.2 D hD).2
      rw [e, show w.heap[b]? = some (.cells cur t (0, 0)) from hr] at h1
      cases h1
    rw [Below.heap_setCell _ _ _ _ hne]
    exact (h.2 D hD).2⟩⟩
theorem OpenAt.add {w : World} {B D : Nat} {Ds : List Nat} (h : OpenAt w B Ds) (hB : B ≤ D) (hD : w.heap[D]? = some (.deferred (some []))) (hn : D ∉ Ds) : OpenAt w B (D :: Ds) :=
  ⟨List.nodup_cons.2 ⟨hn, h.1⟩, fun x hx => by
    rcases List.mem_cons.1 hx with rfl | hx
    · exact ⟨hB, hD⟩
    · exact h.2 x hx⟩

theorem leaves_marks {F : Fence} {n : Nat} {P : Program} {fn : Func} {tmps : Array Value} {R : Ending → World → Prop} {B : Nat} : ∀ (Ds : List Nat) (W : World), OpenAt W B Ds → (∀ W', Below B W W' → (∀ k, k < W.heap.size → k ∉ Ds → W'.heap[k]? = W.heap[k]?) → LeavesInM F n P fn tmps R [] .returning W') → LeavesInM F n P fn tmps R (marks Ds) .returning W
  | [], W, _, h => h W (Below.refl _ _) (fun _ _ _ => rfl)
  | D :: Ds, W, ho, h => by
    obtain ⟨hB, hD⟩ := ho.2 D List.mem_cons_self
    have hb : Below B W (W.putObj D (.deferred none)) := (Below.refl B W).grown (grownBy_putObj' W D (.deferred none)) (by have := (Array.getElem?_eq_some_iff.1 hD).1; omega) (fun k e => by cases e; exact hB)
    refine ⟨by simp, .inl ⟨D, _, rfl, run_takeDeferred hD, leaves_marks Ds _ ⟨(List.nodup_cons.1 ho.1).2, fun x hx => ?_⟩ (fun W' hW' hk => h W' (hb.trans hW') (fun k hkl hkn => ?_))⟩⟩
    · obtain ⟨h1, h2⟩ := ho.2 x (List.mem_cons_of_mem _ hx)
      refine ⟨h1, ?_⟩
      have hne : x ≠ D := fun e => (List.nodup_cons.1 ho.1).1 (by rw [← e]; exact hx)
      exact (World.putObj_heap_other (by first | exact hne | exact hne.symm)).trans h2
    · have hne : k ≠ D := fun e => hkn (by rw [e]; exact List.mem_cons_self)
      rw [hk k (Nat.lt_of_lt_of_le hkl (grownBy_putObj' W D (.deferred none)).size) (fun hm => hkn (List.mem_cons_of_mem _ hm))]
      exact World.putObj_heap_other (by first | exact hne | exact hne.symm)

theorem RowAt.own {w w' : World} {b : Nat} {t : TypeId} {cur : Array Value} {row : Option Nat} (h : RowAt w b t cur) (hg : w.grownBy w' row) (hr : ∀ r, row = some r → ∃ o : Obj, w.heap[r]? = some o ∧ o.isCells = false) : RowAt w' b t cur :=
  h.grown hg (fun e => by
    obtain ⟨o, ho, hc⟩ := hr b e.symm
    rw [show w.heap[b]? = some (.cells cur t (0, 0)) from h] at ho
    cases ho
    cases hc)

end Go.Proofs.YthbbipgngeflnaaGreatDoor.UsefulEach

namespace Go.Proofs.YthbbipgngeflnaaGreatDoor.UsefulRound
open Go.RowKit
set_option linter.unusedVariables false

variable {F : Fence} {n : Nat} {P : Program} {ops : Array Oper} {Q : Exit → Act → World → Prop} {md : Region.Mode} {l : Nat}

theorem oper_round {o : Oper} (hd : ∀ c, o.op ≠ .defer c) (hro : F.round = none) {a : Act} {w : World} {K : Act → World → Prop} (h : o.wpIn F n P a w K Q) : o.wpIn (F.inRound l) n P a w K Q := by
  unfold Oper.wpIn at *
  refine ⟨h.1, ?_⟩
  have h2 := h.2
  rw [hro, Oper.semAt_none] at h2
  rw [show (F.inRound l).round = some l from rfl, Oper.semAt_some l a.eval o hd]
  generalize (execOp a.eval o).run P w = r at *
  cases r with
  | ok x w' => cases x <;> exact h2
  | halt x w' => cases x <;> exact h2

theorem op_round (hd : ∀ (i : Nat) (o : Oper), ops[i]? = some o → ∀ c, o.op ≠ .defer c) (hro : F.round = none) {i : Nat} {K K' : Act → World → Prop} (hK : ∀ a w, K a w → K' a w) {a : Act} {w : World} (h : wpOpIn F n P ops Q i K a w) : wpOpIn (F.inRound l) n P ops Q i K' a w := by
  have h := wpOpIn_mono hK h
  unfold wpOpIn at *
  cases ho : ops[i]? with
  | none => simp only [ho] at h ⊢; exact h
  | some o =>
    simp only [ho] at h ⊢
    split
    · rename_i hw
      simp only [hw, if_true] at h
      exact oper_round (hd i o ho) hro h
    · rename_i hw
      simp only [hw] at h
      exact h

theorem any_round (hd : ∀ (i : Nat) (o : Oper), ops[i]? = some o → ∀ c, o.op ≠ .defer c) (hro : F.round = none) : ∀ (fuel : Nat) (listed : Array Bool) (a : Act) (w : World), wpAnyIn F n P md ops Q fuel listed a w → wpAnyIn (F.inRound l) n P md ops Q fuel listed a w
  | 0, _, _, _, h => h
  | fuel + 1, listed, a, w, h => ⟨h.1, fun i hi => op_round hd hro (fun a' w' => any_round hd hro fuel _ a' w') (h.2 i hi)⟩

/-- No operation of a region defers a call. -/
def noDefer : List Oper → Bool
  | [] => true
  | o :: r => (match o.op with | .defer _ => false | _ => true) && noDefer r
theorem noDefer_spec : ∀ {l : List Oper}, noDefer l = true → ∀ o ∈ l, ∀ c, o.op ≠ .defer c
  | [], _, o, ho, c => by cases ho
  | x :: r, h, o, ho, c => by
    unfold noDefer at h
    rw [Bool.and_eq_true] at h
    rcases List.mem_cons.1 ho with rfl | ho
    · intro e
      rw [e] at h
      cases h.1
    · exact noDefer_spec h.2 o ho c

theorem region_quiet_round {id : Nat} {a : Act} {w : World} {os : List Oper} (hro : F.round = none) (hm : P.follows .mixedOrders = true) (hB : Region.lexB .any os.toArray = true) (hd : noDefer os = true)
    (h : wpQuietIn F n P os.toArray (fun w' => ∃ n, w' = w.drewN n) (fun a' => ∀ w', (∃ n, w' = w.drewN n) → Q .normal a' w') os a) : (Code.region id os.toArray true).wpIn (F.inRound l) n P Q a w := by
  simp only [Region.lexB, Bool.and_eq_true] at hB
  refine wpIn_region_any hm (any_round (fun i o ho => noDefer_spec hd o (by
    have := Array.mem_of_getElem? ho
    simpa using this)) hro _ _ _ _ (wpAnyIn_of_quiet (C := fun w' => ∃ n, w' = w.drewN n) (Q := fun a' => ∀ w', (∃ n, w' = w.drewN n) → Q .normal a' w') hro (fun _ w' hw' h => h w' hw') _ _ _ _ ⟨1, rfl⟩ ?_))
  have := wpAnyQIn_lex (F := F) (n := n) (C := fun w' => ∃ n, w' = w.drewN n) (md := .any) hB.1 os 0 (Array.replicate os.toArray.size false) a (by simp) (by simpa using hB.2) h
  simpa using this

end Go.Proofs.YthbbipgngeflnaaGreatDoor.UsefulRound
