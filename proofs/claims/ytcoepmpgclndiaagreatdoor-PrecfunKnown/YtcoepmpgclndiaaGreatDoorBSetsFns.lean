/-
  Texts that stand together: SetsFns.
-/
import Derived.Test.YtcoepmpgclndiaaGreatDoorChecked
import Derived.Test.YtcoepmpgclndiaaGreatDoorBBaseMath
import Derived.WalkKit
import Derived.Below
import Derived.BigQuiet
import Derived.Laws.AppendOwnNone
import Derived.WalkSpells
import Derived.RangeFuncBox
import Derived.Laws.Bits128
namespace Go.Proofs.YtcoepmpgclndiaaGreatDoor.SetsOne
open Go.RowKit Go.Proofs.YtcoepmpgclndiaaGreatDoor.SetsMath

theorem ret_int {k : IntKind} {a b : Int} (h : a = b) : Ending.returned (.int k a) = .returned (.int k b) := by rw [h]
theorem ret_bool {a b : Bool} (h : a = b) : Ending.returned (.bool a) = .returned (.bool b) := by rw [h]

set_option maxHeartbeats 400000 in
theorem only_any (k : Int) (w : World) : Calls Tryz.prog 65 #[.int .i64 k] w fun e w' => e = .returned (.int .u64 (oneI k)) ∧ w' = w := by
  by_cases h0 : k < 0
  · have E : Hid (oneI k = 0) := oneI_out (by omega)
    go_enter Tryz.func65, Tryz.ntmps65
    go_wp2
    go_ret
    exact ⟨ret_int E.out.symm, rfl⟩
  · by_cases h1 : 64 ≤ k
    · have E : Hid (oneI k = 0) := oneI_out (by omega)
      go_enter Tryz.func65, Tryz.ntmps65
      go_wp2
      go_ret
      exact ⟨ret_int E.out.symm, rfl⟩
    · have E : Hid (IntKind.u64.wrap (2 ^ k.toNat) = oneI k) := wrap_pow (by omega) (by omega)
      go_enter Tryz.func65, Tryz.ntmps65
      go_wp2
      go_ret
      exact ⟨ret_int E.out, rfl⟩

set_option maxHeartbeats 400000 in
theorem has_any (s k : Int) (w : World) (hs : IsSet s) : Calls Tryz.prog 66 #[.int .u64 s, .int .i64 k] w fun e w' => e = .returned (.bool (hasB s k)) ∧ w' = w := by
  have E : Hid (_) := bits_and_ne k hs
  go_enter Tryz.func66, Tryz.ntmps66
  go_wp2_with (go_at_call 65; refine (only_any _ _).mono ?_; rintro e w' ⟨rfl, rfl⟩)
  go_ret
  exact ⟨ret_bool E.out, rfl⟩

set_option maxHeartbeats 400000 in
theorem with_any (s k : Int) (w : World) (hs : IsSet s) : Calls Tryz.prog 38 #[.int .u64 s, .int .i64 k] w fun e w' => e = .returned (.int .u64 (withI s k)) ∧ w' = w := by
  have E : Hid (_) := bits_or k hs
  go_enter Tryz.func38, Tryz.ntmps38
  go_wp2_with (go_at_call 65; refine (only_any _ _).mono ?_; rintro e w' ⟨rfl, rfl⟩)
  go_ret
  exact ⟨ret_int E.out, rfl⟩

set_option maxHeartbeats 400000 in
theorem without_any (s k : Int) (w : World) (hs : IsSet s) : Calls Tryz.prog 39 #[.int .u64 s, .int .i64 k] w fun e w' => e = .returned (.int .u64 (withoutI s k)) ∧ w' = w := by
  have E : Hid (_) := bits_andNot k hs
  go_enter Tryz.func39, Tryz.ntmps39
  go_wp2_with (go_at_call 65; refine (only_any _ _).mono ?_; rintro e w' ⟨rfl, rfl⟩)
  go_ret
  exact ⟨ret_int E.out, rfl⟩

end Go.Proofs.YtcoepmpgclndiaaGreatDoor.SetsOne

namespace Go.Proofs.YtcoepmpgclndiaaGreatDoor.SetsMany
open Go.RowKit Go.Proofs.YtcoepmpgclndiaaGreatDoor.SetsMath Go.Proofs.YtcoepmpgclndiaaGreatDoor.SetsOne

/-- The first 'len' cells of a slice are the numbers 'zs'. -/
def Row (k : IntKind) (w : World) (a : Option Addr) (len : Nat) (zs : List Int) : Prop :=
  ∀ i, i < len → ∃ b off, a = some ⟨b, off, none⟩ ∧ w.cell? ⟨b, off + i, none⟩ = some (.int k (zs.getD i 0))

set_option maxHeartbeats 400000 in
theorem full_any (n : Int) (w : World) : Calls Tryz.prog 35 #[.int .i64 n] w fun e w' => e = .returned (.int .u64 (fullI n)) ∧ w' = w := by
  by_cases h0 : n < 1
  · have E : Hid (0 = fullI n) := by show 0 = fullI n; unfold fullI; rw [if_pos h0]
    go_enter Tryz.func35, Tryz.ntmps35
    go_wp2
    go_ret
    exact ⟨ret_int E.out, rfl⟩
  · by_cases h1 : 64 ≤ n
    · have E : Hid (18446744073709551615 = fullI n) := by show _ = fullI n; unfold fullI; rw [if_neg h0, if_pos h1]
      go_enter Tryz.func35, Tryz.ntmps35
      go_wp2
      go_ret
      exact ⟨ret_int E.out, rfl⟩
    · have E : Hid (_) := fullI_wrap (n := n) (by omega) (by omega)
      go_enter Tryz.func35, Tryz.ntmps35
      go_wp2
      go_ret
      exact ⟨ret_int E.out, rfl⟩

theorem Row.drewN {k : IntKind} {w : World} {a : Option Addr} {n : Nat} {zs : List Int} (h : Row k w a n zs) (q : Nat) : Row k (w.drewN q) a n zs := h

theorem cell_lt {w : World} {p : Addr} {v : Value} (h : w.cell? p = some v) : p.block < w.heap.size := by
  unfold World.cell? at h
  by_cases hb : p.block < w.heap.size
  · exact hb
  · rw [Array.getElem?_eq_none (by omega)] at h
    simp at h

theorem Row.below {k : IntKind} {w w' : World} {a : Option Addr} {n : Nat} {zs : List Int} (h : Row k w a n zs) (hb : Below w.heap.size w w') : Row k w' a n zs := by
  intro i hi
  obtain ⟨b, off, ha, hc⟩ := h i hi
  exact ⟨b, off, ha, by rw [hb.cell (cell_lt hc)]; exact hc⟩

theorem own_cap {w : World} {base : Nat} {e : TypeId} {g n c : Nat} {xs : List Value} (h : w.ownsRow base e 1 (.slice (some ⟨g, 0, none⟩) n c) n xs) : n ≤ c ∧ c ≤ maxLen ∧ base ≤ g := by
  obtain ⟨_, h | ⟨g', cap, cur, hv, hb, _, hn, hm, _⟩⟩ := h
  · exact absurd h.1 (by simp)
  · simp at hv
    obtain ⟨rfl, rfl⟩ := hv
    exact ⟨hn, hm, hb⟩

end Go.Proofs.YtcoepmpgclndiaaGreatDoor.SetsMany

namespace Go.Proofs.YtcoepmpgclndiaaGreatDoor.SetsAlg
open Go.RowKit Go.Proofs.YtcoepmpgclndiaaGreatDoor.SetsMath Go.Proofs.YtcoepmpgclndiaaGreatDoor.SetsOne Go.Proofs.YtcoepmpgclndiaaGreatDoor.SetsMany

/-- The library's table of lowest bits lies in its variable. -/
def Tab (w : World) : Prop := ∀ j, j < Lib.deBruijn64tab.length → w.cell? ⟨16, j, none⟩ = some (.int .u8 (Lib.deBruijn64tab.getD j 0))

theorem Tab.below {w w' : World} (h : Tab w) (hb : Below w.heap.size w w') : Tab w' := fun j hj => by
  have hc := h j hj
  rw [hb.cell (cell_lt hc)]
  exact hc

theorem tz_key (x a : Nat) (hx : x < 18446744073709551616) (hx0 : x ≠ 0) (hlow : x &&& (18446744073709551616 - x) = a) :
    IntKind.u64.wrap (bits BinOp.and IntKind.u64 (x : Int) (IntKind.u64.wrap (-(x : Int))) * 285870213051353865) / 288230376151711744 = ((a * 285870213051353865 % 18446744073709551616 / 288230376151711744 : Nat) : Int) := by
  have e1 : IntKind.u64.wrap (-(x : Int)) = ((18446744073709551616 - x : Nat) : Int) := by rw [IntKind.wrap_u64]; omega
  rw [e1, u64_and_nat x _ hx (by omega), hlow, IntKind.wrap_u64]
  omega

set_option maxHeartbeats 1000000 in
theorem tz_core (x k idx : Nat) (w : World) (hx0 : ((x : Int) == 0) = false)
    (key : IntKind.u64.wrap (bits BinOp.and IntKind.u64 (x : Int) (IntKind.u64.wrap (-(x : Int))) * 285870213051353865) / 288230376151711744 = (idx : Int))
    (hi : idx < 64) (hk : k < 64) (hcell : w.cell? ⟨16, idx, none⟩ = some (.int .u8 k)) :
    Calls Tryz.prog 81 #[.int .u64 x] w fun e w' => e = .returned (.int .i64 k) ∧ w' = w := by
  go_enter Tryz.func81, Tryz.ntmps81
  go_wp2_with (simp only [key])
  go_ret
  exact ⟨rfl, rfl⟩

theorem tz_any (s : Int) (w : World) (hs : IsSet s) (h0 : ¬ s = 0) (hT : Tab w) :
    Calls Tryz.prog 81 #[.int .u64 s] w fun e w' => e = .returned (.int .i64 (lowI s)) ∧ w' = w := by
  have hlt := toNat_lt hs
  have e : s = (s.toNat : Int) := by unfold IsSet at hs; omega
  have hn0 : s.toNat ≠ 0 := by omega
  obtain ⟨hlow, hk⟩ := Lib.lowest_bit 64 s.toNat hn0 (by rw [two64]; exact hlt)
  rw [two64] at hlow
  obtain ⟨hi, htab⟩ := Lib.deBruijn64_at _ hk
  have hcell := hT _ hi
  rw [htab] at hcell
  have key := tz_core s.toNat _ _ w (by simp; omega) (tz_key s.toNat _ hlt hn0 hlow) hi hk hcell
  rw [← e] at key
  exact key

set_option maxHeartbeats 400000 in
theorem lowest_any (s : Int) (w : World) (hs : IsSet s) (h0 : ¬ s = 0) (hT : Tab w) :
    Calls Tryz.prog 64 #[.int .u64 s] w fun e w' => e = .returned (.int .i64 (lowI s)) ∧ w' = w := by
  go_enter Tryz.func64, Tryz.ntmps64
  go_wp2_with (go_at_call 81; refine (tz_any _ _ hs h0 hT).mono ?_; rintro e w' ⟨rfl, rfl⟩)
  go_ret
  exact ⟨rfl, rfl⟩

def cmpI (s t : Int) : Int := if s < t then -1 else if t < s then 1 else 0

end Go.Proofs.YtcoepmpgclndiaaGreatDoor.SetsAlg
