/-
  One number in a set: what the program's Has, With, Without and the document's own answers come to; both are the plain functions of the text before this one.
-/
import Derived.Test.YtjmodcpeggafhaaDoorChecked
import Derived.Test.YtjmodcpeggafhaaDoorSetsMath
import Derived.WalkKit
import Derived.Below
import Derived.BigQuiet
namespace Go.Proofs.YtjmodcpeggafhaaDoor.SetsOne
open Go.RowKit Go.Proofs.YtjmodcpeggafhaaDoor.SetsMath

theorem ret_int {k : IntKind} {a b : Int} (h : a = b) : Ending.returned (.int k a) = .returned (.int k b) := by rw [h]
theorem ret_bool {a b : Bool} (h : a = b) : Ending.returned (.bool a) = .returned (.bool b) := by rw [h]

set_option maxHeartbeats 400000 in
theorem only_any (k : Int) (w : World) : Calls Tryd.prog 64 #[.int .i64 k] w fun e w' => e = .returned (.int .u64 (oneI k)) ∧ w' = w := by
  by_cases h0 : k < 0
  · have E : Hid (oneI k = 0) := oneI_out (by omega)
    go_enter Tryd.func64, Tryd.ntmps64
    go_wp2
    go_ret
    exact ⟨ret_int E.out.symm, rfl⟩
  · by_cases h1 : 64 ≤ k
    · have E : Hid (oneI k = 0) := oneI_out (by omega)
      go_enter Tryd.func64, Tryd.ntmps64
      go_wp2
      go_ret
      exact ⟨ret_int E.out.symm, rfl⟩
    · have E : Hid (IntKind.u64.wrap (2 ^ k.toNat) = oneI k) := wrap_pow (by omega) (by omega)
      go_enter Tryd.func64, Tryd.ntmps64
      go_wp2
      go_ret
      exact ⟨ret_int E.out, rfl⟩

set_option maxHeartbeats 400000 in
theorem has_any (s k : Int) (w : World) (hs : IsSet s) : Calls Tryd.prog 45 #[.int .u64 s, .int .i64 k] w fun e w' => e = .returned (.bool (hasB s k)) ∧ w' = w := by
  have E : Hid (_) := bits_and_ne k hs
  go_enter Tryd.func45, Tryd.ntmps45
  go_wp2_with (go_at_call 64; refine (only_any _ _).mono ?_; rintro e w' ⟨rfl, rfl⟩)
  go_ret
  exact ⟨ret_bool E.out, rfl⟩

set_option maxHeartbeats 400000 in
theorem with_any (s k : Int) (w : World) (hs : IsSet s) : Calls Tryd.prog 68 #[.int .u64 s, .int .i64 k] w fun e w' => e = .returned (.int .u64 (withI s k)) ∧ w' = w := by
  have E : Hid (_) := bits_or k hs
  go_enter Tryd.func68, Tryd.ntmps68
  go_wp2_with (go_at_call 64; refine (only_any _ _).mono ?_; rintro e w' ⟨rfl, rfl⟩)
  go_ret
  exact ⟨ret_int E.out, rfl⟩

set_option maxHeartbeats 400000 in
theorem without_any (s k : Int) (w : World) (hs : IsSet s) : Calls Tryd.prog 96 #[.int .u64 s, .int .i64 k] w fun e w' => e = .returned (.int .u64 (withoutI s k)) ∧ w' = w := by
  have E : Hid (_) := bits_andNot k hs
  go_enter Tryd.func96, Tryd.ntmps96
  go_wp2_with (go_at_call 64; refine (only_any _ _).mono ?_; rintro e w' ⟨rfl, rfl⟩)
  go_ret
  exact ⟨ret_int E.out, rfl⟩

end Go.Proofs.YtjmodcpeggafhaaDoor.SetsOne
