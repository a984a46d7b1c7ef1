/-
  The document's own productive, reached and useful marks, and its sets, for every grammar that may be.
-/
import Derived.Test.YtnlaffhhbabjaaaDoorUsefulRMath
import Derived.Test.YtnlaffhhbabjaaaDoorUsefulBRow
import Derived.Test.YtnlaffhhbabjaaaDoorUsefulTop
namespace Go.Proofs.YtnlaffhhbabjaaaDoor.UsefulRef
open Go.RowKit Go.Proofs.YtnlaffhhbabjaaaDoor.GramMath Go.Proofs.YtnlaffhhbabjaaaDoor.GramRow Go.Proofs.YtnlaffhhbabjaaaDoor.SetsMath Go.Proofs.YtnlaffhhbabjaaaDoor.UsefulMath Go.Proofs.YtnlaffhhbabjaaaDoor.UsefulFn Go.Proofs.YtnlaffhhbabjaaaDoor.UsefulTop
set_option linter.unusedVariables false

theorem allS_step {S : Nat → Bool} {zs : List Int} {k : Nat} {x : Int} (h : zs[k]? = some x) : allS S (zs.take (k + 1)) = (allS S (zs.take k) && (!decide (x < 0) || S (-1 - x).toNat)) := by
  unfold allS
  rw [List.take_add_one, h, List.all_append]
  simp
theorem allS_false {S : Nat → Bool} {zs : List Int} {k : Nat} {x : Int} (h : zs[k]? = some x) (h0 : x < 0) (hs : S (-1 - x).toNat = false) : allS S zs = false := by
  cases ha : allS S zs with
  | false => rfl
  | true => rw [allS_iff.1 ha x (List.mem_of_getElem? h) h0] at hs; cases hs

set_option maxRecDepth 100000 in
set_option maxHeartbeats 1000000 in
theorem rall_any (ra : Option Addr) (rc b n c : Nat) (zs : List Int) (S : Nat → Bool) (w : World) (hI : IRow w ra zs) (hl : zs.length ≤ 1125899906842624) (hx : ∀ x ∈ zs, I64 x ∧ -1 - x < n) (hn : n ≤ 60) (hb : BRow w b n S) :
    Calls Tryd.prog 21 #[.slice ra zs.length rc, .slice (some ⟨b, 0, none⟩) n c] w fun e w' => e = .returned (.bool (allS S zs)) ∧ w' = w := by
  go_enter Tryd.func21, Tryd.ntmps21
  go_wp2
  go_loop [5] (fun i => ∃ k : Nat, k ≤ zs.length ∧ i = .int .i64 k ∧ Hid (allS S (zs.take k) = true)) (fun i => zs.length - (intOf i).toNat)
  case atStart => exact ⟨0, by omega, rfl, rfl⟩
  case round =>
    obtain ⟨k, hk, rfl, hal⟩ := hrel
    by_cases hlt : k < zs.length
    · obtain ⟨x, hx1⟩ : ∃ x, zs[k]? = some x := ⟨zs[k], List.getElem?_eq_getElem hlt⟩
      obtain ⟨b', off, rfl, hc⟩ := hI k x hx1
      have hlt2 : (k : Int) < (zs.length : Int) := by omega
      obtain ⟨⟨x1, x2⟩, x3⟩ := hx x (List.mem_of_getElem? hx1)
      by_cases h0 : x < 0
      · obtain ⟨m, hm⟩ : ∃ m : Nat, -1 - x = (m : Int) := ⟨(-1 - x).toNat, by omega⟩
        have hmn : m < n := by omega
        have hmn2 : (m : Int) < (n : Int) := by omega
        have hcm := (hb m hmn).1
        have hmt : (-1 - x).toNat = m := by omega
        have hd : decide (x < 0) = true := by simpa using h0
        have E0 : Hid (-1 - x = (m : Int)) := hm
        cases hs : S m with
        | true =>
          rw [hs] at hcm
          have E : Hid (allS S (zs.take (k + 1)) = true) := by show _ = _; rw [allS_step hx1, hal.out, hmt, hs]; simp
          clear hx1 hI hx hb hal hmt
          go_wp2
          go_round
          case rel => exact ⟨k + 1, by omega, by go_num, E⟩
          case measure => simp [intOf]; omega
        | false =>
          rw [hs] at hcm
          have E : Hid (allS S zs = false) := allS_false hx1 h0 (by rw [hmt]; exact hs)
          clear hx1 hI hx hb hal hmt
          go_wp2
          go_ret
          exact ⟨ret_bool E.out.symm, rfl⟩
      · have E : Hid (allS S (zs.take (k + 1)) = true) := by show _ = _; rw [allS_step hx1, hal.out]; simp [h0]
        have hd : decide (x < 0) = false := by simpa using h0
        clear hx1 hI hx hb hal
        go_wp2
        go_round
        case rel => exact ⟨k + 1, by omega, by go_num, E⟩
        case measure => simp [intOf]; omega
    · have E : Hid (allS S zs = true) := by show _ = _; rw [← hal.out, show k = zs.length by omega, List.take_length]
      clear hI hx hb hal
      go_wp2
      go_ret
      exact ⟨ret_bool E.out.symm, rfl⟩

theorem wrap_one {k : Nat} (h : k < 64) (S : Nat → Bool) : bits .or .u64 (setTo S k) (IntKind.u64.wrap (2 ^ k)) = withI (setTo S k) k := by
  have h1 := wrap_pow (k := (k : Int)) (by omega) (by omega)
  rw [Int.toNat_natCast] at h1
  rw [h1]
  exact bits_or _ (setTo_isSet S k)

end Go.Proofs.YtnlaffhhbabjaaaDoor.UsefulRef
