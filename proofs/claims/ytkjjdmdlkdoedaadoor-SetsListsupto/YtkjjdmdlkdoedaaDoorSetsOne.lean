/-
  One number in a set: what the program's Has, With, Without and the document's own answers come to; both are the plain functions of the text before this one.
-/
import Derived.Test.YtkjjdmdlkdoedaaDoorChecked
import Derived.Test.YtkjjdmdlkdoedaaDoorSetsMath
import Derived.WalkKit
import Derived.Below
import Derived.BigQuiet
namespace Go.Proofs.YtkjjdmdlkdoedaaDoor.SetsOne
open Go.RowKit Go.Proofs.YtkjjdmdlkdoedaaDoor.SetsMath

theorem ret_int {k : IntKind} {a b : Int} (h : a = b) : Ending.returned (.int k a) = .returned (.int k b) := by rw [h]
theorem ret_bool {a b : Bool} (h : a = b) : Ending.returned (.bool a) = .returned (.bool b) := by rw [h]

set_option maxHeartbeats 400000 in
theorem only_any (k : Int) (w : World) : Calls Tryd.prog 42 #[.int .i64 k] w fun e w' => e = .returned (.int .u64 (oneI k)) ∧ w' = w := by
  by_cases h0 : k < 0
  · have E : Hid (oneI k = 0) := oneI_out (by omega)
    go_enter Tryd.func42, Tryd.ntmps42
    go_wp2
    go_ret
    exact ⟨ret_int E.out.symm, rfl⟩
  · by_cases h1 : 64 ≤ k
    · have E : Hid (oneI k = 0) := oneI_out (by omega)
      go_enter Tryd.func42, Tryd.ntmps42
      go_wp2
      go_ret
      exact ⟨ret_int E.out.symm, rfl⟩
    · have E : Hid (IntKind.u64.wrap (2 ^ k.toNat) = oneI k) := wrap_pow (by omega) (by omega)
      go_enter Tryd.func42, Tryd.ntmps42
      go_wp2
      go_ret
      exact ⟨ret_int E.out, rfl⟩

set_option maxHeartbeats 400000 in
theorem has_any (s k : Int) (w : World) (hs : IsSet s) : Calls Tryd.prog 28 #[.int .u64 s, .int .i64 k] w fun e w' => e = .returned (.bool (hasB s k)) ∧ w' = w := by
  have E : Hid (_) := bits_and_ne k hs
  go_enter Tryd.func28, Tryd.ntmps28
  go_wp2_with (go_at_call 42; refine (only_any _ _).mono ?_; rintro e w' ⟨rfl, rfl⟩)
  go_ret
  exact ⟨ret_bool E.out, rfl⟩

set_option maxHeartbeats 400000 in
theorem with_any (s k : Int) (w : World) (hs : IsSet s) : Calls Tryd.prog 30 #[.int .u64 s, .int .i64 k] w fun e w' => e = .returned (.int .u64 (withI s k)) ∧ w' = w := by
  have E : Hid (_) := bits_or k hs
  go_enter Tryd.func30, Tryd.ntmps30
  go_wp2_with (go_at_call 42; refine (only_any _ _).mono ?_; rintro e w' ⟨rfl, rfl⟩)
  go_ret
  exact ⟨ret_int E.out, rfl⟩

set_option maxHeartbeats 400000 in
theorem without_any (s k : Int) (w : World) (hs : IsSet s) : Calls Tryd.prog 29 #[.int .u64 s, .int .i64 k] w fun e w' => e = .returned (.int .u64 (withoutI s k)) ∧ w' = w := by
  have E : Hid (_) := bits_andNot k hs
  go_enter Tryd.func29, Tryd.ntmps29
  go_wp2_with (go_at_call 42; refine (only_any _ _).mono ?_; rintro e w' ⟨rfl, rfl⟩)
  go_ret
  exact ⟨ret_int E.out, rfl⟩

set_option maxHeartbeats 400000 in
theorem rone_any (k : Int) (w : World) (a : 0 ≤ k) (b : k < 64) : Calls Tryd.prog 43 #[.int .i64 k] w fun e w' => e = .returned (.int .u64 (oneI k)) ∧ w' = w := by
  go_enter Tryd.func43, Tryd.ntmps43
  go_wp2
  go_loop [3, 4] (fun s i => ∃ j : Nat, (j : Int) ≤ k ∧ i = .int .i64 j ∧ s = .int .u64 (oneI j)) (fun _ i => (k - intOf i).toNat)
  case atStart => exact ⟨0, by omega, rfl, rfl⟩
  case round =>
    obtain ⟨j, hj, rfl, rfl⟩ := hrel
    by_cases hlt : (j : Int) < k
    · have E : Hid (_) := wrap_dbl (j := j) (by omega)
      go_wp2
      go_round
      case rel => exact ⟨j + 1, by omega, by go_num, by rw [E.out]⟩
      case measure => simp [intOf]; omega
    · have E : Hid (oneI (j : Int) = oneI k) := by rw [show k = (j : Int) by omega]; rfl
      go_wp2
      go_ret
      exact ⟨ret_int E.out, rfl⟩

set_option maxHeartbeats 400000 in
theorem rhas_any (s k : Int) (w : World) (hs : IsSet s) : Calls Tryd.prog 32 #[.int .u64 s, .int .i64 k] w fun e w' => e = .returned (.bool (hasB s k)) ∧ w' = w := by
  by_cases h0 : k < 0
  · have E : Hid (hasB s k = false) := hasB_out (by omega)
    go_enter Tryd.func32, Tryd.ntmps32
    go_wp2
    go_ret
    exact ⟨ret_bool E.out.symm, rfl⟩
  · by_cases h1 : 63 < k
    · have E : Hid (hasB s k = false) := hasB_out (by omega)
      go_enter Tryd.func32, Tryd.ntmps32
      go_wp2
      go_ret
      exact ⟨ret_bool E.out.symm, rfl⟩
    · go_enter Tryd.func32, Tryd.ntmps32
      go_wp2
      go_loop [0, 5] (fun t i => ∃ j : Nat, (j : Int) ≤ k ∧ i = .int .i64 j ∧ t = .int .u64 (s / 2 ^ j)) (fun _ i => (k - intOf i).toNat)
      case atStart => exact ⟨0, by omega, rfl, by simp⟩
      case round =>
        obtain ⟨j, hj, rfl, rfl⟩ := hrel
        by_cases hlt : (j : Int) < k
        · have E : Hid (_) := wrap_half hs j
          go_wp2
          go_round
          case rel => exact ⟨j + 1, by omega, by go_num, by rw [E.out]⟩
          case measure => simp [intOf]; omega
        · have E : Hid (_) := hasB_end hs (k := k) (by omega) (by omega) (j := j) (by omega)
          go_wp2
          go_ret
          exact ⟨ret_bool E.out, rfl⟩

set_option maxHeartbeats 400000 in
theorem rwith_any (s k : Int) (w : World) (hs : IsSet s) : Calls Tryd.prog 33 #[.int .u64 s, .int .i64 k] w fun e w' => e = .returned (.int .u64 (withI s k)) ∧ w' = w := by
  by_cases h0 : k < 0
  · have E : Hid (withI s k = s) := withI_out hs (by omega)
    go_enter Tryd.func33, Tryd.ntmps33
    go_wp2
    go_ret
    exact ⟨ret_int E.out.symm, rfl⟩
  · by_cases h1 : 63 < k
    · have E : Hid (withI s k = s) := withI_out hs (by omega)
      go_enter Tryd.func33, Tryd.ntmps33
      go_wp2
      go_ret
      exact ⟨ret_int E.out.symm, rfl⟩
    · cases hb : hasB s k
      · have E : Hid (_) := wrap_with hs (k := k) (by omega) (by omega) hb
        go_enter Tryd.func33, Tryd.ntmps33
        go_wp2_with (first | (go_at_call 32; refine (rhas_any _ _ _ hs).mono ?_; rintro e w' ⟨rfl, rfl⟩) | (go_at_call 43; refine (rone_any _ _ (by omega) (by omega)).mono ?_; rintro e w' ⟨rfl, rfl⟩))
        go_ret
        exact ⟨ret_int E.out, rfl⟩
      · have E : Hid (_) := withI_same hs hb
        go_enter Tryd.func33, Tryd.ntmps33
        go_wp2_with (first | (go_at_call 32; refine (rhas_any _ _ _ hs).mono ?_; rintro e w' ⟨rfl, rfl⟩) | (go_at_call 43; refine (rone_any _ _ (by omega) (by omega)).mono ?_; rintro e w' ⟨rfl, rfl⟩))
        go_ret
        exact ⟨ret_int E.out.symm, rfl⟩

end Go.Proofs.YtkjjdmdlkdoedaaDoor.SetsOne
