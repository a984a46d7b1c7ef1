/-
  The sequence of a set's numbers: whatever loop goes over it, the numbers come in order, or a part of them where the loop is left.
-/
import Derived.Test.YtcoepmpgclndiaaGreatDoorSetsFns
import Derived.RangeFuncNested
import Derived.RangeFuncBound
import Derived.RangeFuncCalls
import Derived.RangeFuncLeaves
import Derived.RangeFuncBox
import Derived.Shelf.Abstract
import Derived.Shelf.RegionOpen
import Derived.OwnWalkIn
import Derived.TacticsInMore
import Derived.LoopNIn
import Derived.LoopIn
import Derived.Maps.AppendAt
namespace Go.Proofs.YtcoepmpgclndiaaGreatDoor.SetsEach
open Go.RowKit Go.Shelf Go.Proofs.YtcoepmpgclndiaaGreatDoor.SetsMath Go.Proofs.YtcoepmpgclndiaaGreatDoor.SetsOne Go.Proofs.YtcoepmpgclndiaaGreatDoor.SetsMany Go.Proofs.YtcoepmpgclndiaaGreatDoor.SetsAlg
attribute [local go_sem] Oper.semAt_some

theorem Tab.from {n : Nat} {w w' : World} (h : Tab w) (hb : Below n w w') (hn : 16 < n) : Tab w' := fun j hj =>
  (hb.cell (p := ⟨16, j, none⟩) hn).trans (h j hj)

/-- A number that a set can hold. -/
abbrev Num := { x : Int // 0 ≤ x ∧ x < 64 }

theorem numsI_all {s z : Int} (h : z ∈ numsI s 64) : 0 ≤ z ∧ z < 64 := by
  unfold numsI numsN at h
  obtain ⟨n, hn, rfl⟩ := List.mem_map.1 h
  have h1 := List.mem_range.1 (List.mem_filter.1 hn).1
  omega

/-- A set's numbers, each with its bounds. -/
def numsS (s : Int) : List Num := (numsI s 64).pmap (fun x h => ⟨x, h⟩) (fun _ h => numsI_all h)

theorem numsS_val (s : Int) : (numsS s).map (·.1) = numsI s 64 := by
  unfold numsS
  rw [List.map_pmap]
  simp

theorem num_inj : ∀ {a b : List Num}, a.map (·.1) = b.map (·.1) → a = b
  | [], [], _ => rfl
  | [], _ :: _, h => by simp at h
  | _ :: _, [], h => by simp at h
  | x :: a, y :: b, h => by
    simp only [List.map_cons, List.cons.injEq] at h
    rw [Subtype.ext h.1, num_inj h.2]

theorem numsS_len (s : Int) : (numsS s).length = (numsI s 64).length := by rw [← numsS_val, List.length_map]

theorem numsS_zero : numsS 0 = [] := num_inj (by rw [numsS_val, numsI_empty]; rfl)

theorem low_num {s : Int} (hs : IsSet s) (h0 : ¬ s = 0) : ∃ c : Num, lowI s = c.1 ∧ numsS s = c :: numsS (withoutI s c.1) := by
  obtain ⟨c, h1, h2, _, h3⟩ := low_facts hs h0
  refine ⟨⟨(c : Int), by omega, by omega⟩, h1, num_inj ?_⟩
  rw [numsS_val, h3, List.map_cons, numsS_val]

set_option maxRecDepth 100000 in
set_option maxHeartbeats 2000000 in
theorem each1_in (n : Nat) (hn : 1 ≤ n) (l Bn n₀ : Nat) (hn₀ : 16 < n₀) (s : Int) (hs : IsSet s) (J Jx : List Num → World → Prop)
    (hY : ∀ pre x W, J pre W → pre.length < (numsS s).length → YieldAt Fence.wide (n - 1) Tryz.prog l #[.int .i64 x.1] W fun e W' =>
      (e = .returned (.bool true) ∧ J (pre ++ [x]) W' ∧ Below n₀ W W') ∨ (e = .returned (.bool false) ∧ Jx (pre ++ [x]) W'))
    (W : World) (hBn : W.cell? ⟨Bn, 0, none⟩ = some (.int .u64 s)) (hT : Tab W) (h0 : J [] W) :
    CallsIn Fence.wide n Tryz.prog 63 #[.func (.yield l) #[] #[], .pointer (some ⟨Bn, 0, none⟩)] W fun e W' => (∃ v, e = .returned v) ∧
      ((∃ ys, ys = numsS s ∧ J ys W') ∨ (∃ pre, pre <+: numsS s ∧ Jx pre W')) := by
  refine callsIn_of_wp Tryz.func63 rfl trivial ?_ rfl
  simp only [Tryz.ntmps63, List.size_toArray, List.length_cons, List.length_nil, Nat.reduceAdd, Nat.reduceSub, Array.replicate_succ, Array.replicate_zero, List.push_toArray, List.append_toArray, List.nil_append, List.cons_append]
  gi_wp2
  gi_loopw [3] (fun p wr => ∃ (pre : List Num) (r : Int), p = .int .u64 r ∧ IsSet r ∧ numsS s = pre ++ numsS r ∧ Tab wr ∧ J pre wr)
    (fun p _ => (numsS (intOf p)).length)
  case atStart =>
    exact ⟨[], s, rfl, hs, rfl, hT, h0⟩
  case round =>
    obtain ⟨pre, r, rfl, hr, hx, hTr, hJs⟩ := hrel
    by_cases hz : r = 0
    · subst hz
      have E : Hid (_) := hx
      clear hx
      gi_wp2
      go_end0
      exact ⟨⟨_, rfl⟩, .inl ⟨pre, by rw [E.out, numsS_zero]; simp, hJs⟩⟩
    · obtain ⟨⟨c, hc64⟩, hc, hnum⟩ := low_num hr hz
      dsimp only at hc hnum
      obtain ⟨fn, tmps, assign, body, hy, hR⟩ := hY pre ⟨c, hc64⟩ wr hJs (by rw [hx, hnum]; simp)
      dsimp only at hy hR
      have hz' : (r != 0) = true := by simpa using hz
      have E : Hid (_) := hx
      have E2 : Hid (_) := hnum
      clear hx hnum
      have hlow : ∀ w, Tab w → Calls Tryz.prog 64 #[.int .u64 r] w fun e w' => e = .returned (.int .i64 c) ∧ w' = w := fun w ht => by
        have := lowest_any r w hr hz ht
        rwa [hc] at this
      have HL : Hid (_) := hlow
      clear hlow hc
      gi_wp2_with (refine ⟨trivial, ?_⟩; gi_at_call 64; refine (callsIn_wide.2 (HL.out _ hTr)).mono ?_; rintro e w' ⟨rfl, rfl⟩)
      refine hR.mono ?_
      rintro e W3 (⟨rfl, hJ3, hk3⟩ | ⟨rfl, hJx3⟩)
      · have hT3 : Tab W3 := Tab.from hTr hk3 hn₀
        have hset := withoutI_isSet c hr
        clear hk3 hTr hy hR hJs
        gi_wp2_with (first | (refine ⟨trivial, ?_⟩; gi_at_call 64; refine (callsIn_wide.2 (HL.out _ hT3)).mono ?_; rintro e w' ⟨rfl, rfl⟩) | (refine ⟨trivial, ?_⟩; gi_at_call 39; refine (callsIn_wide.2 (without_any _ _ _ hr)).mono ?_; rintro e w' ⟨rfl, rfl⟩))
        go_roundw
        case rel => exact ⟨pre ++ [⟨c, hc64⟩], _, rfl, hset, by rw [E.out, E2.out]; simp, hT3, hJ3⟩
        case measure => simp only [intOf]; rw [E2.out]; simp
      · gi_wp2
        refine bodyPost_ret (results_none rfl _ _ _) rfl ?_
        exact ⟨⟨_, rfl⟩, .inr ⟨pre ++ [⟨c, hc64⟩], ⟨numsS (withoutI r c), by rw [E.out, E2.out]; simp⟩, hJx3⟩⟩

set_option maxHeartbeats 1000000 in
theorem each_any (s : Int) (w : World) :
    Calls Tryz.prog 36 #[.int .u64 s] w fun e w' => e = .returned (.func (.func 63) #[] #[.pointer (some ⟨w.heap.size, 0, none⟩)]) ∧ w' = w.alloc (.cells #[.int .u64 s] 83) := by
  go_enter Tryz.func36, Tryz.ntmps36
  go_wp2
  go_ret
  exact ⟨rfl, rfl⟩

theorem each_stops (n : Nat) (hn : 1 ≤ n) (Bn n₀ : Nat) (hn₀ : 16 < n₀) (s : Int) (hs : IsSet s) (w : World) (hBn : Bn < w.heap.size) (hw : n₀ ≤ w.heap.size)
    (hc : w.cell? ⟨Bn, 0, none⟩ = some (.int .u64 s)) (hT : Tab w) :
    SeqStopsK Fence.wide n Tryz.prog 63 #[.pointer (some ⟨Bn, 0, none⟩)] (fun x : Num => #[Value.int .i64 x.1]) (Below n₀) (fun ys => ys = numsS s) (fun pre => pre <+: numsS s) (numsS s).length w := fun l J Jx W hW _ _ hY h0 =>
  each1_in n hn l Bn n₀ hn₀ s hs J Jx hY W ((hW.cell (p := ⟨Bn, 0, none⟩) hBn).trans hc) (Tab.from hT (hW.mono hw) hn₀) h0

end Go.Proofs.YtcoepmpgclndiaaGreatDoor.SetsEach
