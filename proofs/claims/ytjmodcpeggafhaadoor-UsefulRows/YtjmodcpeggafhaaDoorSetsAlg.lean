/-
  What the program's calls on whole sets (Meet, Minus, Union, Len, Least, Within, Compare) and the document's own answers come to.
-/
import Derived.Test.YtjmodcpeggafhaaDoorSetsMany
import Derived.Test.YtjmodcpeggafhaaDoorSetsMath3
import Derived.Laws.Bits128
namespace Go.Proofs.YtjmodcpeggafhaaDoor.SetsAlg
open Go.RowKit Go.Proofs.YtjmodcpeggafhaaDoor.SetsMath Go.Proofs.YtjmodcpeggafhaaDoor.SetsOne Go.Proofs.YtjmodcpeggafhaaDoor.SetsMany

/-- The library's table of lowest bits lies in its variable. -/
def Tab (w : World) : Prop := ∀ j, j < Lib.deBruijn64tab.length → w.cell? ⟨15, j, none⟩ = some (.int .u8 (Lib.deBruijn64tab.getD j 0))

theorem Tab.below {w w' : World} (h : Tab w) (hb : Below w.heap.size w w') : Tab w' := fun j hj => by
  have hc := h j hj
  rw [hb.cell (cell_lt hc)]
  exact hc

theorem tz_key (x a : Nat) (hx : x < 18446744073709551616) (hx0 : x ≠ 0) (hlow : x &&& (18446744073709551616 - x) = a) :
    IntKind.u64.wrap (bits BinOp.and IntKind.u64 (x : Int) (IntKind.u64.wrap (-(x : Int))) * 285870213051353865) / 288230376151711744 = ((a * 285870213051353865 % 18446744073709551616 / 288230376151711744 : Nat) : Int) := by
  have e1 : IntKind.u64.wrap (-(x : Int)) = ((18446744073709551616 - x : Nat) : Int) := by rw [IntKind.wrap_u64]; omega
  rw [e1, u64_and_nat x _ hx (by omega), hlow, IntKind.wrap_u64]
  omega

set_option maxHeartbeats 1000000 in
theorem tz_core (x k idx : Nat) (w : World) (hx0 : ((x : Int) == 0) = false)
    (key : IntKind.u64.wrap (bits BinOp.and IntKind.u64 (x : Int) (IntKind.u64.wrap (-(x : Int))) * 285870213051353865) / 288230376151711744 = (idx : Int))
    (hi : idx < 64) (hk : k < 64) (hcell : w.cell? ⟨15, idx, none⟩ = some (.int .u8 k)) :
    Calls Tryd.prog 103 #[.int .u64 x] w fun e w' => e = .returned (.int .i64 k) ∧ w' = w := by
  go_enter Tryd.func103, Tryd.ntmps103
  go_wp2_with (simp only [key])
  go_ret
  exact ⟨rfl, rfl⟩

theorem tz_any (s : Int) (w : World) (hs : IsSet s) (h0 : ¬ s = 0) (hT : Tab w) :
    Calls Tryd.prog 103 #[.int .u64 s] w fun e w' => e = .returned (.int .i64 (lowI s)) ∧ w' = w := by
  have hlt := toNat_lt hs
  have e : s = (s.toNat : Int) := by unfold IsSet at hs; omega
  have hn0 : s.toNat ≠ 0 := by omega
  obtain ⟨hlow, hk⟩ := Lib.lowest_bit 64 s.toNat hn0 (by rw [two64]; exact hlt)
  rw [two64] at hlow
  obtain ⟨hi, htab⟩ := Lib.deBruijn64_at _ hk
  have hcell := hT _ hi
  rw [htab] at hcell
  have key := tz_core s.toNat _ _ w (by simp; omega) (tz_key s.toNat _ hlt hn0 hlow) hi hk hcell
  rw [← e] at key
  exact key

set_option maxHeartbeats 400000 in
theorem lowest_any (s : Int) (w : World) (hs : IsSet s) (h0 : ¬ s = 0) (hT : Tab w) :
    Calls Tryd.prog 97 #[.int .u64 s] w fun e w' => e = .returned (.int .i64 (lowI s)) ∧ w' = w := by
  go_enter Tryd.func97, Tryd.ntmps97
  go_wp2_with (go_at_call 103; refine (tz_any _ _ hs h0 hT).mono ?_; rintro e w' ⟨rfl, rfl⟩)
  go_ret
  exact ⟨rfl, rfl⟩

set_option maxHeartbeats 400000 in
theorem least_none (w : World) :
    Calls Tryd.prog 89 #[.int .u64 0] w fun e w' => e = .returned (.tuple #[.int .i64 0, .bool false]) ∧ w' = w := by
  go_enter Tryd.func89, Tryd.ntmps89
  go_wp2
  go_ret2
  exact ⟨rfl, rfl⟩

set_option maxHeartbeats 400000 in
theorem least_some (s : Int) (w : World) (hs : IsSet s) (h0 : ¬ s = 0) (hT : Tab w) :
    Calls Tryd.prog 89 #[.int .u64 s] w fun e w' => e = .returned (.tuple #[.int .i64 (lowI s), .bool true]) ∧ w' = w := by
  have hb : (s == 0) = false := by simpa using h0
  go_enter Tryd.func89, Tryd.ntmps89
  go_wp2_with (go_at_call 97; refine (lowest_any _ _ hs h0 hT).mono ?_; rintro e w' ⟨rfl, rfl⟩)
  go_ret2
  exact ⟨rfl, rfl⟩

set_option maxHeartbeats 400000 in
theorem meet_any (s t : Int) (w : World) (hs : IsSet s) (ht : IsSet t) : Calls Tryd.prog 35 #[.int .u64 s, .int .u64 t] w fun e w' => e = .returned (.int .u64 (meetI s t)) ∧ w' = w := by
  have E : Hid (_) := bits_and2 hs ht
  go_enter Tryd.func35, Tryd.ntmps35
  go_wp2
  go_ret
  exact ⟨ret_int E.out, rfl⟩

set_option maxHeartbeats 400000 in
theorem minus_any (s t : Int) (w : World) (hs : IsSet s) (ht : IsSet t) : Calls Tryd.prog 88 #[.int .u64 s, .int .u64 t] w fun e w' => e = .returned (.int .u64 (minusI s t)) ∧ w' = w := by
  have E : Hid (_) := bits_andNot2 hs ht
  go_enter Tryd.func88, Tryd.ntmps88
  go_wp2
  go_ret
  exact ⟨ret_int E.out, rfl⟩

set_option maxHeartbeats 400000 in
theorem within_any (s t : Int) (w : World) (hs : IsSet s) (ht : IsSet t) : Calls Tryd.prog 61 #[.int .u64 s, .int .u64 t] w fun e w' => e = .returned (.bool (minusI s t == 0)) ∧ w' = w := by
  go_enter Tryd.func61, Tryd.ntmps61
  go_wp2_with (go_at_call 88; refine (minus_any _ _ _ hs ht).mono ?_; rintro e w' ⟨rfl, rfl⟩)
  go_ret
  exact ⟨rfl, rfl⟩

def cmpI (s t : Int) : Int := if s < t then -1 else if t < s then 1 else 0

end Go.Proofs.YtjmodcpeggafhaaDoor.SetsAlg
