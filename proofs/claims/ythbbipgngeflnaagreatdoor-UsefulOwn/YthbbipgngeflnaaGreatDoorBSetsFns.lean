/-
  Texts that stand together: SetsFns.
-/
import Derived.Test.YthbbipgngeflnaaGreatDoorChecked
import Derived.Test.YthbbipgngeflnaaGreatDoorBBaseMath
import Derived.WalkKit
import Derived.Below
import Derived.BigQuiet
import Derived.Laws.AppendOwnNone
import Derived.WalkSpells
import Derived.RangeFuncBox
import Derived.Laws.Bits128
namespace Go.Proofs.YthbbipgngeflnaaGreatDoor.SetsOne
open Go.RowKit Go.Proofs.YthbbipgngeflnaaGreatDoor.SetsMath

theorem ret_int {k : IntKind} {a b : Int} (h : a = b) : Ending.returned (.int k a) = .returned (.int k b) := by rw [h]
theorem ret_bool {a b : Bool} (h : a = b) : Ending.returned (.bool a) = .returned (.bool b) := by rw [h]

set_option maxHeartbeats 400000 in
theorem only_any (k : Int) (w : World) : Calls Tryz.prog 43 #[.int .i64 k] w fun e w' => e = .returned (.int .u64 (oneI k)) ∧ w' = w := by
  by_cases h0 : k < 0
  · have E : Hid (oneI k = 0) := oneI_out (by omega)
    go_enter Tryz.func43, Tryz.ntmps43
    go_wp2
    go_ret
    exact ⟨ret_int E.out.symm, rfl⟩
  · by_cases h1 : 64 ≤ k
    · have E : Hid (oneI k = 0) := oneI_out (by omega)
      go_enter Tryz.func43, Tryz.ntmps43
      go_wp2
      go_ret
      exact ⟨ret_int E.out.symm, rfl⟩
    · have E : Hid (IntKind.u64.wrap (2 ^ k.toNat) = oneI k) := wrap_pow (by omega) (by omega)
      go_enter Tryz.func43, Tryz.ntmps43
      go_wp2
      go_ret
      exact ⟨ret_int E.out, rfl⟩

set_option maxHeartbeats 400000 in
theorem has_any (s k : Int) (w : World) (hs : IsSet s) : Calls Tryz.prog 20 #[.int .u64 s, .int .i64 k] w fun e w' => e = .returned (.bool (hasB s k)) ∧ w' = w := by
  have E : Hid (_) := bits_and_ne k hs
  go_enter Tryz.func20, Tryz.ntmps20
  go_wp2_with (go_at_call 43; refine (only_any _ _).mono ?_; rintro e w' ⟨rfl, rfl⟩)
  go_ret
  exact ⟨ret_bool E.out, rfl⟩

set_option maxHeartbeats 400000 in
theorem with_any (s k : Int) (w : World) (hs : IsSet s) : Calls Tryz.prog 47 #[.int .u64 s, .int .i64 k] w fun e w' => e = .returned (.int .u64 (withI s k)) ∧ w' = w := by
  have E : Hid (_) := bits_or k hs
  go_enter Tryz.func47, Tryz.ntmps47
  go_wp2_with (go_at_call 43; refine (only_any _ _).mono ?_; rintro e w' ⟨rfl, rfl⟩)
  go_ret
  exact ⟨ret_int E.out, rfl⟩

set_option maxHeartbeats 400000 in
theorem without_any (s k : Int) (w : World) (hs : IsSet s) : Calls Tryz.prog 78 #[.int .u64 s, .int .i64 k] w fun e w' => e = .returned (.int .u64 (withoutI s k)) ∧ w' = w := by
  have E : Hid (_) := bits_andNot k hs
  go_enter Tryz.func78, Tryz.ntmps78
  go_wp2_with (go_at_call 43; refine (only_any _ _).mono ?_; rintro e w' ⟨rfl, rfl⟩)
  go_ret
  exact ⟨ret_int E.out, rfl⟩

end Go.Proofs.YthbbipgngeflnaaGreatDoor.SetsOne

namespace Go.Proofs.YthbbipgngeflnaaGreatDoor.SetsMany
open Go.RowKit Go.Proofs.YthbbipgngeflnaaGreatDoor.SetsMath Go.Proofs.YthbbipgngeflnaaGreatDoor.SetsOne

/-- The first 'len' cells of a slice are the numbers 'zs'. -/
def Row (k : IntKind) (w : World) (a : Option Addr) (len : Nat) (zs : List Int) : Prop :=
  ∀ i, i < len → ∃ b off, a = some ⟨b, off, none⟩ ∧ w.cell? ⟨b, off + i, none⟩ = some (.int k (zs.getD i 0))

set_option maxHeartbeats 400000 in
theorem of_any (a : Option Addr) (len cap : Nat) (zs : List Int) (w : World) (hr : Row .i64 w a len zs) (hl : len ≤ zs.length) (hm : len ≤ 4611686018427387904) :
    Calls Tryz.prog 25 #[.slice a len cap] w fun e w' => e = .returned (.int .u64 (ofI (zs.take len))) ∧ w' = w := by
  go_enter Tryz.func25, Tryz.ntmps25
  go_wp2
  go_loop [3, 8] (fun s i => ∃ k : Nat, k ≤ len ∧ i = .int .i64 k ∧ s = .int .u64 (ofI (zs.take k))) (fun _ i => len - (intOf i).toNat)
  case atStart => exact ⟨0, by omega, rfl, rfl⟩
  case round =>
    obtain ⟨k, hk, rfl, rfl⟩ := hrel
    by_cases hlt : k < len
    · obtain ⟨b, off, rfl, hcell⟩ := hr k hlt
      obtain ⟨z, hz⟩ : ∃ z, zs.getD k 0 = z := ⟨_, rfl⟩
      have E : Hid (bits .or .u64 (ofI (zs.take k)) (oneI z) = ofI (zs.take (k + 1))) := by
        have := ofI_take (l := zs) (k := k) (by omega)
        rw [hz] at this
        rw [bits_or _ (ofI_take_isSet zs k)]; exact this.symm
      rw [hz] at hcell
      clear hz
      go_wp2_with (go_at_call 43; refine (only_any _ _).mono ?_; rintro e w' ⟨rfl, rfl⟩)
      go_round
      case rel => exact ⟨k + 1, by omega, by go_num, by rw [E.out]⟩
      case measure => simp [intOf]; omega
    · go_wp2
      go_ret
      exact ⟨ret_int (by rw [show k = len by omega]), rfl⟩

set_option maxHeartbeats 400000 in
theorem ints_same (a b : Option Addr) (n ca cb : Nat) (zs : List Int) (w : World) (ha : Row .i64 w a n zs) (hb : Row .i64 w b n zs) (hm : n ≤ 4611686018427387904) :
    Calls Tryz.prog 14 #[.slice a n ca, .slice b n cb] w fun e w' => e = .returned (.bool true) ∧ ∃ q, w' = w.drewN q := by
  go_enter Tryz.func14, Tryz.ntmps14
  go_wp2
  go_loopw [5] (fun i wr => ∃ k q : Nat, k ≤ n ∧ i = .int .i64 k ∧ wr = w.drewN q) (fun i _ => n - (intOf i).toNat)
  case atStart => exact ⟨0, 0, by omega, rfl, rfl⟩
  case round =>
    obtain ⟨k, q, hk, rfl, rfl⟩ := hrel
    by_cases hlt : k < n
    · obtain ⟨b1, off1, rfl, hc1⟩ := ha k hlt
      obtain ⟨b2, off2, rfl, hc2⟩ := hb k hlt
      obtain ⟨z, hz⟩ : ∃ z, zs.getD k 0 = z := ⟨_, rfl⟩
      rw [hz] at hc1 hc2
      clear hz
      go_wp2
      go_quiet (fail)
      go_wp2
      go_roundw
      case rel => exact ⟨k + 1, _, by omega, by go_num, rfl⟩
      case measure => simp [intOf]; omega
    · go_wp2
      go_ret
      exact ⟨rfl, _, rfl⟩

theorem Row.drewN {k : IntKind} {w : World} {a : Option Addr} {n : Nat} {zs : List Int} (h : Row k w a n zs) (q : Nat) : Row k (w.drewN q) a n zs := h

theorem cell_lt {w : World} {p : Addr} {v : Value} (h : w.cell? p = some v) : p.block < w.heap.size := by
  unfold World.cell? at h
  by_cases hb : p.block < w.heap.size
  · exact hb
  · rw [Array.getElem?_eq_none (by omega)] at h
    simp at h

theorem Row.below {k : IntKind} {w w' : World} {a : Option Addr} {n : Nat} {zs : List Int} (h : Row k w a n zs) (hb : Below w.heap.size w w') : Row k w' a n zs := by
  intro i hi
  obtain ⟨b, off, ha, hc⟩ := h i hi
  exact ⟨b, off, ha, by rw [hb.cell (cell_lt hc)]; exact hc⟩

theorem own_cap {w : World} {base : Nat} {e : TypeId} {g n c : Nat} {xs : List Value} (h : w.ownsRow base e 1 (.slice (some ⟨g, 0, none⟩) n c) n xs) : n ≤ c ∧ c ≤ maxLen ∧ base ≤ g := by
  obtain ⟨_, h | ⟨g', cap, cur, hv, hb, _, hn, hm, _⟩⟩ := h
  · exact absurd h.1 (by simp)
  · simp at hv
    obtain ⟨rfl, rfl⟩ := hv
    exact ⟨hn, hm, hb⟩

end Go.Proofs.YthbbipgngeflnaaGreatDoor.SetsMany

namespace Go.Proofs.YthbbipgngeflnaaGreatDoor.SetsAlg
open Go.RowKit Go.Proofs.YthbbipgngeflnaaGreatDoor.SetsMath Go.Proofs.YthbbipgngeflnaaGreatDoor.SetsOne Go.Proofs.YthbbipgngeflnaaGreatDoor.SetsMany

/-- The library's table of lowest bits lies in its variable. -/
def Tab (w : World) : Prop := ∀ j, j < Lib.deBruijn64tab.length → w.cell? ⟨15, j, none⟩ = some (.int .u8 (Lib.deBruijn64tab.getD j 0))

theorem Tab.below {w w' : World} (h : Tab w) (hb : Below w.heap.size w w') : Tab w' := fun j hj => by
  have hc := h j hj
  rw [hb.cell (cell_lt hc)]
  exact hc

theorem tz_key (x a : Nat) (hx : x < 18446744073709551616) (hx0 : x ≠ 0) (hlow : x &&& (18446744073709551616 - x) = a) :
    IntKind.u64.wrap (bits BinOp.and IntKind.u64 (x : Int) (IntKind.u64.wrap (-(x : Int))) * 285870213051353865) / 288230376151711744 = ((a * 285870213051353865 % 18446744073709551616 / 288230376151711744 : Nat) : Int) := by
  have e1 : IntKind.u64.wrap (-(x : Int)) = ((18446744073709551616 - x : Nat) : Int) := by rw [IntKind.wrap_u64]; omega
  rw [e1, u64_and_nat x _ hx (by omega), hlow, IntKind.wrap_u64]
  omega

set_option maxHeartbeats 1000000 in
theorem tz_core (x k idx : Nat) (w : World) (hx0 : ((x : Int) == 0) = false)
    (key : IntKind.u64.wrap (bits BinOp.and IntKind.u64 (x : Int) (IntKind.u64.wrap (-(x : Int))) * 285870213051353865) / 288230376151711744 = (idx : Int))
    (hi : idx < 64) (hk : k < 64) (hcell : w.cell? ⟨15, idx, none⟩ = some (.int .u8 k)) :
    Calls Tryz.prog 84 #[.int .u64 x] w fun e w' => e = .returned (.int .i64 k) ∧ w' = w := by
  go_enter Tryz.func84, Tryz.ntmps84
  go_wp2_with (simp only [key])
  go_ret
  exact ⟨rfl, rfl⟩

theorem tz_any (s : Int) (w : World) (hs : IsSet s) (h0 : ¬ s = 0) (hT : Tab w) :
    Calls Tryz.prog 84 #[.int .u64 s] w fun e w' => e = .returned (.int .i64 (lowI s)) ∧ w' = w := by
  have hlt := toNat_lt hs
  have e : s = (s.toNat : Int) := by unfold IsSet at hs; omega
  have hn0 : s.toNat ≠ 0 := by omega
  obtain ⟨hlow, hk⟩ := Lib.lowest_bit 64 s.toNat hn0 (by rw [two64]; exact hlt)
  rw [two64] at hlow
  obtain ⟨hi, htab⟩ := Lib.deBruijn64_at _ hk
  have hcell := hT _ hi
  rw [htab] at hcell
  have key := tz_core s.toNat _ _ w (by simp; omega) (tz_key s.toNat _ hlt hn0 hlow) hi hk hcell
  rw [← e] at key
  exact key

set_option maxHeartbeats 400000 in
theorem lowest_any (s : Int) (w : World) (hs : IsSet s) (h0 : ¬ s = 0) (hT : Tab w) :
    Calls Tryz.prog 76 #[.int .u64 s] w fun e w' => e = .returned (.int .i64 (lowI s)) ∧ w' = w := by
  go_enter Tryz.func76, Tryz.ntmps76
  go_wp2_with (go_at_call 84; refine (tz_any _ _ hs h0 hT).mono ?_; rintro e w' ⟨rfl, rfl⟩)
  go_ret
  exact ⟨rfl, rfl⟩

set_option maxHeartbeats 400000 in
theorem least_none (w : World) :
    Calls Tryz.prog 56 #[.int .u64 0] w fun e w' => e = .returned (.tuple #[.int .i64 0, .bool false]) ∧ w' = w := by
  go_enter Tryz.func56, Tryz.ntmps56
  go_wp2
  go_ret2
  exact ⟨rfl, rfl⟩

set_option maxHeartbeats 400000 in
theorem least_some (s : Int) (w : World) (hs : IsSet s) (h0 : ¬ s = 0) (hT : Tab w) :
    Calls Tryz.prog 56 #[.int .u64 s] w fun e w' => e = .returned (.tuple #[.int .i64 (lowI s), .bool true]) ∧ w' = w := by
  have hb : (s == 0) = false := by simpa using h0
  go_enter Tryz.func56, Tryz.ntmps56
  go_wp2_with (go_at_call 76; refine (lowest_any _ _ hs h0 hT).mono ?_; rintro e w' ⟨rfl, rfl⟩)
  go_ret2
  exact ⟨rfl, rfl⟩

set_option maxHeartbeats 400000 in
theorem meet_any (s t : Int) (w : World) (hs : IsSet s) (ht : IsSet t) : Calls Tryz.prog 33 #[.int .u64 s, .int .u64 t] w fun e w' => e = .returned (.int .u64 (meetI s t)) ∧ w' = w := by
  have E : Hid (_) := bits_and2 hs ht
  go_enter Tryz.func33, Tryz.ntmps33
  go_wp2
  go_ret
  exact ⟨ret_int E.out, rfl⟩

set_option maxHeartbeats 400000 in
theorem minus_any (s t : Int) (w : World) (hs : IsSet s) (ht : IsSet t) : Calls Tryz.prog 55 #[.int .u64 s, .int .u64 t] w fun e w' => e = .returned (.int .u64 (minusI s t)) ∧ w' = w := by
  have E : Hid (_) := bits_andNot2 hs ht
  go_enter Tryz.func55, Tryz.ntmps55
  go_wp2
  go_ret
  exact ⟨ret_int E.out, rfl⟩

set_option maxHeartbeats 400000 in
theorem within_any (s t : Int) (w : World) (hs : IsSet s) (ht : IsSet t) : Calls Tryz.prog 41 #[.int .u64 s, .int .u64 t] w fun e w' => e = .returned (.bool (minusI s t == 0)) ∧ w' = w := by
  go_enter Tryz.func41, Tryz.ntmps41
  go_wp2_with (go_at_call 55; refine (minus_any _ _ _ hs ht).mono ?_; rintro e w' ⟨rfl, rfl⟩)
  go_ret
  exact ⟨rfl, rfl⟩

def cmpI (s t : Int) : Int := if s < t then -1 else if t < s then 1 else 0

end Go.Proofs.YthbbipgngeflnaaGreatDoor.SetsAlg
