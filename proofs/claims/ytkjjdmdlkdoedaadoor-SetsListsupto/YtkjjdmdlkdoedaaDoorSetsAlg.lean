/-
  What the program's calls on whole sets (Meet, Minus, Union, Len, Least, Within, Compare) and the document's own answers come to.
-/
import Derived.Test.YtkjjdmdlkdoedaaDoorSetsMany
import Derived.Test.YtkjjdmdlkdoedaaDoorSetsMath3
import Derived.Laws.Bits128
namespace Go.Proofs.YtkjjdmdlkdoedaaDoor.SetsAlg
open Go.RowKit Go.Proofs.YtkjjdmdlkdoedaaDoor.SetsMath Go.Proofs.YtkjjdmdlkdoedaaDoor.SetsOne Go.Proofs.YtkjjdmdlkdoedaaDoor.SetsMany

/-- The library's table of lowest bits lies in its variable. -/
def Tab (w : World) : Prop := ∀ j, j < Lib.deBruijn64tab.length → w.cell? ⟨0, j, none⟩ = some (.int .u8 (Lib.deBruijn64tab.getD j 0))

theorem Tab.below {w w' : World} (h : Tab w) (hb : Below w.heap.size w w') : Tab w' := fun j hj => by
  have hc := h j hj
  rw [hb.cell (cell_lt hc)]
  exact hc

theorem tz_key (x a : Nat) (hx : x < 18446744073709551616) (hx0 : x ≠ 0) (hlow : x &&& (18446744073709551616 - x) = a) :
    IntKind.u64.wrap (bits BinOp.and IntKind.u64 (x : Int) (IntKind.u64.wrap (-(x : Int))) * 285870213051353865) / 288230376151711744 = ((a * 285870213051353865 % 18446744073709551616 / 288230376151711744 : Nat) : Int) := by
  have e1 : IntKind.u64.wrap (-(x : Int)) = ((18446744073709551616 - x : Nat) : Int) := by rw [IntKind.wrap_u64]; omega
  rw [e1, u64_and_nat x _ hx (by omega), hlow, IntKind.wrap_u64]
  omega

set_option maxHeartbeats 1000000 in
theorem tz_core (x k idx : Nat) (w : World) (hx0 : ((x : Int) == 0) = false)
    (key : IntKind.u64.wrap (bits BinOp.and IntKind.u64 (x : Int) (IntKind.u64.wrap (-(x : Int))) * 285870213051353865) / 288230376151711744 = (idx : Int))
    (hi : idx < 64) (hk : k < 64) (hcell : w.cell? ⟨0, idx, none⟩ = some (.int .u8 k)) :
    Calls Tryd.prog 44 #[.int .u64 x] w fun e w' => e = .returned (.int .i64 k) ∧ w' = w := by
  go_enter Tryd.func44, Tryd.ntmps44
  go_wp2_with (simp only [key])
  go_ret
  exact ⟨rfl, rfl⟩

theorem tz_any (s : Int) (w : World) (hs : IsSet s) (h0 : ¬ s = 0) (hT : Tab w) :
    Calls Tryd.prog 44 #[.int .u64 s] w fun e w' => e = .returned (.int .i64 (lowI s)) ∧ w' = w := by
  have hlt := toNat_lt hs
  have e : s = (s.toNat : Int) := by unfold IsSet at hs; omega
  have hn0 : s.toNat ≠ 0 := by omega
  obtain ⟨hlow, hk⟩ := Lib.lowest_bit 64 s.toNat hn0 (by rw [two64]; exact hlt)
  rw [two64] at hlow
  obtain ⟨hi, htab⟩ := Lib.deBruijn64_at _ hk
  have hcell := hT _ hi
  rw [htab] at hcell
  have key := tz_core s.toNat _ _ w (by simp; omega) (tz_key s.toNat _ hlt hn0 hlow) hi hk hcell
  rw [← e] at key
  exact key

set_option maxHeartbeats 400000 in
theorem lowest_any (s : Int) (w : World) (hs : IsSet s) (h0 : ¬ s = 0) (hT : Tab w) :
    Calls Tryd.prog 35 #[.int .u64 s] w fun e w' => e = .returned (.int .i64 (lowI s)) ∧ w' = w := by
  go_enter Tryd.func35, Tryd.ntmps35
  go_wp2_with (go_at_call 44; refine (tz_any _ _ hs h0 hT).mono ?_; rintro e w' ⟨rfl, rfl⟩)
  go_ret
  exact ⟨rfl, rfl⟩

set_option maxHeartbeats 400000 in
theorem least_none (w : World) :
    Calls Tryd.prog 17 #[.int .u64 0] w fun e w' => e = .returned (.tuple #[.int .i64 0, .bool false]) ∧ w' = w := by
  go_enter Tryd.func17, Tryd.ntmps17
  go_wp2
  go_ret2
  exact ⟨rfl, rfl⟩

set_option maxHeartbeats 400000 in
theorem least_some (s : Int) (w : World) (hs : IsSet s) (h0 : ¬ s = 0) (hT : Tab w) :
    Calls Tryd.prog 17 #[.int .u64 s] w fun e w' => e = .returned (.tuple #[.int .i64 (lowI s), .bool true]) ∧ w' = w := by
  have hb : (s == 0) = false := by simpa using h0
  go_enter Tryd.func17, Tryd.ntmps17
  go_wp2_with (go_at_call 35; refine (lowest_any _ _ hs h0 hT).mono ?_; rintro e w' ⟨rfl, rfl⟩)
  go_ret2
  exact ⟨rfl, rfl⟩

set_option maxHeartbeats 400000 in
theorem meet_any (s t : Int) (w : World) (hs : IsSet s) (ht : IsSet t) : Calls Tryd.prog 12 #[.int .u64 s, .int .u64 t] w fun e w' => e = .returned (.int .u64 (meetI s t)) ∧ w' = w := by
  have E : Hid (_) := bits_and2 hs ht
  go_enter Tryd.func12, Tryd.ntmps12
  go_wp2
  go_ret
  exact ⟨ret_int E.out, rfl⟩

set_option maxHeartbeats 400000 in
theorem minus_any (s t : Int) (w : World) (hs : IsSet s) (ht : IsSet t) : Calls Tryd.prog 14 #[.int .u64 s, .int .u64 t] w fun e w' => e = .returned (.int .u64 (minusI s t)) ∧ w' = w := by
  have E : Hid (_) := bits_andNot2 hs ht
  go_enter Tryd.func14, Tryd.ntmps14
  go_wp2
  go_ret
  exact ⟨ret_int E.out, rfl⟩

set_option maxHeartbeats 400000 in
theorem within_any (s t : Int) (w : World) (hs : IsSet s) (ht : IsSet t) : Calls Tryd.prog 18 #[.int .u64 s, .int .u64 t] w fun e w' => e = .returned (.bool (minusI s t == 0)) ∧ w' = w := by
  go_enter Tryd.func18, Tryd.ntmps18
  go_wp2_with (go_at_call 14; refine (minus_any _ _ _ hs ht).mono ?_; rintro e w' ⟨rfl, rfl⟩)
  go_ret
  exact ⟨rfl, rfl⟩

def cmpI (s t : Int) : Int := if s < t then -1 else if t < s then 1 else 0

set_option maxHeartbeats 400000 in
theorem compare_any (s t : Int) (w : World) : Calls Tryd.prog 19 #[.int .u64 s, .int .u64 t] w fun e w' => e = .returned (.int .i64 (cmpI s t)) ∧ w' = w := by
  by_cases h1 : s < t
  · have E : Hid (-1 = cmpI s t) := by show _ = cmpI s t; unfold cmpI; rw [if_pos h1]
    go_enter Tryd.func19, Tryd.ntmps19
    go_wp2
    go_ret
    exact ⟨ret_int E.out, rfl⟩
  · by_cases h2 : t < s
    · have E : Hid (1 = cmpI s t) := by show _ = cmpI s t; unfold cmpI; rw [if_neg h1, if_pos h2]
      go_enter Tryd.func19, Tryd.ntmps19
      go_wp2
      go_ret
      exact ⟨ret_int E.out, rfl⟩
    · have E : Hid (0 = cmpI s t) := by show _ = cmpI s t; unfold cmpI; rw [if_neg h1, if_neg h2]
      go_enter Tryd.func19, Tryd.ntmps19
      go_wp2
      go_ret
      exact ⟨ret_int E.out, rfl⟩

set_option maxHeartbeats 1000000 in
theorem ones_core (s a b c d e f : Int) (w : World)
    (k1 : IntKind.u64.wrap (bits .and .u64 (s / 2) 6148914691236517205 + bits .and .u64 s 6148914691236517205) = a)
    (k2 : IntKind.u64.wrap (bits .and .u64 (a / 4) 3689348814741910323 + bits .and .u64 a 3689348814741910323) = b)
    (k3 : bits .and .u64 (IntKind.u64.wrap (b / 16 + b)) 1085102592571150095 = c)
    (k4 : IntKind.u64.wrap (c + c / 256) = d) (k5 : IntKind.u64.wrap (d + d / 65536) = e) (k6 : IntKind.u64.wrap (e + e / 4294967296) = f)
    (hf0 : 0 ≤ f) (hf1 : f ≤ 9223372036854775807) :
    Calls Tryd.prog 34 #[.int .u64 s] w fun r w' => r = .returned (.int .i64 (f % 128)) ∧ w' = w := by
  go_enter Tryd.func34, Tryd.ntmps34
  go_wp2
  go_ret
  exact ⟨ret_int (i64_and127 f), rfl⟩

theorem ones_any (s : Int) (w : World) (hs : IsSet s) : Calls Tryd.prog 34 #[.int .u64 s] w fun e w' => e = .returned (.int .i64 ((numsI s 64).length : Nat)) ∧ w' = w := by
  have hlt := toNat_lt hs
  obtain ⟨x, rfl⟩ : ∃ x : Nat, s = (x : Int) := ⟨s.toNat, by unfold IsSet at hs; omega⟩
  simp only [Int.toNat_natCast] at hlt
  obtain ⟨a, b, c, d, e, f, ha, hb, hc, hd, he, hf, h⟩ := ones' x hlt
  have and_nat : ∀ (y m : Nat), y < 18446744073709551616 → m < 18446744073709551616 → bits .and .u64 (y : Int) (m : Int) = ((y &&& m : Nat) : Int) := fun y m hy hm => u64_and_nat y m hy hm
  have wr : ∀ y : Nat, y < 18446744073709551616 → IntKind.u64.wrap (y : Int) = (y : Int) := fun y hy => by
    rw [IntKind.wrap_u64]; omega
  have hc1 : c < 18446744073709551616 := by
    have : (b / 16 + b) &&& 1085102592571150095 ≤ 1085102592571150095 := Nat.and_le_right
    omega
  have c1 : IntKind.u64.wrap (bits .and .u64 ((x : Int) / 2) 6148914691236517205 + bits .and .u64 (x : Int) 6148914691236517205) = (a : Int) := by
    rw [show (x : Int) / 2 = ((x / 2 : Nat) : Int) by omega, show (6148914691236517205 : Int) = ((6148914691236517205 : Nat) : Int) from rfl, and_nat _ _ (by omega) (by omega), and_nat _ _ (by omega) (by omega), ← Int.natCast_add, ha, wr _ h.2.1]
  have c2 : IntKind.u64.wrap (bits .and .u64 ((a : Int) / 4) 3689348814741910323 + bits .and .u64 (a : Int) 3689348814741910323) = (b : Int) := by
    rw [show (a : Int) / 4 = ((a / 4 : Nat) : Int) by omega, show (3689348814741910323 : Int) = ((3689348814741910323 : Nat) : Int) from rfl, and_nat _ _ (by omega) (by omega), and_nat _ _ (by omega) (by omega), ← Int.natCast_add, hb, wr _ h.2.2.1]
  have c3 : bits .and .u64 (IntKind.u64.wrap ((b : Int) / 16 + (b : Int))) 1085102592571150095 = (c : Int) := by
    rw [show (b : Int) / 16 + (b : Int) = ((b / 16 + b : Nat) : Int) by omega, wr _ h.2.2.2.1, show (1085102592571150095 : Int) = ((1085102592571150095 : Nat) : Int) from rfl, and_nat _ _ (by omega) (by omega), hc]
  have c4 : IntKind.u64.wrap ((c : Int) + (c : Int) / 256) = (d : Int) := by
    rw [show (c : Int) + (c : Int) / 256 = (d : Int) by omega, wr _ h.2.2.2.2.1]
  have c5 : IntKind.u64.wrap ((d : Int) + (d : Int) / 65536) = (e : Int) := by
    rw [show (d : Int) + (d : Int) / 65536 = (e : Int) by omega, wr _ h.2.2.2.2.2.1]
  have c6 : IntKind.u64.wrap ((e : Int) + (e : Int) / 4294967296) = (f : Int) := by
    rw [show (e : Int) + (e : Int) / 4294967296 = (f : Int) by omega, wr _ (by omega)]
  have k := ones_core (x : Int) a b c d e f w c1 c2 c3 c4 c5 c6 (by omega) (by omega)
  have el : (f : Int) % 128 = (((numsI (x : Int) 64).length : Nat) : Int) := by
    have : (numsI (x : Int) 64).length = cnt x 64 := by simp [numsI, cnt]
    rw [this, ← h.1]
    omega
  rw [el] at k
  exact k

set_option maxHeartbeats 400000 in
theorem len_any (s : Int) (w : World) (hs : IsSet s) : Calls Tryd.prog 16 #[.int .u64 s] w fun e w' => e = .returned (.int .i64 ((numsI s 64).length : Nat)) ∧ w' = w := by
  go_enter Tryd.func16, Tryd.ntmps16
  go_wp2_with (go_at_call 34; refine (ones_any _ _ hs).mono ?_; rintro e w' ⟨rfl, rfl⟩)
  go_ret
  exact ⟨rfl, rfl⟩

set_option maxHeartbeats 400000 in
theorem rmeet_any (s t : Int) (w : World) (hs : IsSet s) (ht : IsSet t) : Calls Tryd.prog 13 #[.int .u64 s, .int .u64 t] w fun e w' => e = .returned (.int .u64 (meetI s t)) ∧ w' = w := by
  have hm : Hid (_) := meetI_isSet (t := t) hs
  go_enter Tryd.func13, Tryd.ntmps13
  go_wp2
  go_loop [5, 6] (fun u i => ∃ k : Nat, k ≤ 64 ∧ i = .int .i64 k ∧ u = .int .u64 (maskI (meetI s t) k)) (fun _ i => 64 - (intOf i).toNat)
  case atStart => exact ⟨0, by omega, rfl, by rw [maskI_zero]⟩
  case round =>
    obtain ⟨k, hk, rfl, rfl⟩ := hrel
    by_cases hlt : k < 64
    · have hb := hasB_meetI s t hlt
      have F : Hid (_) := maskI_isSet k hm.out
      cases h1 : hasB s k
      · rw [h1, Bool.false_and] at hb
        have E : Hid (_) := mask_no hm.out hb
        clear hb
        go_wp2_with (first | (go_at_call 32; refine (rhas_any _ _ _ (by assumption)).mono ?_; rintro e w' ⟨rfl, rfl⟩))
        go_round
        case rel => exact ⟨k + 1, by omega, by go_num, by rw [E.out]⟩
        case measure => simp [intOf]; omega
      · cases h2 : hasB t k
        · rw [h1, h2, Bool.and_false] at hb
          have E : Hid (_) := mask_no hm.out hb
          clear hb
          go_wp2_with (first | (go_at_call 32; refine (rhas_any _ _ _ (by assumption)).mono ?_; rintro e w' ⟨rfl, rfl⟩))
          go_round
          case rel => exact ⟨k + 1, by omega, by go_num, by rw [E.out]⟩
          case measure => simp [intOf]; omega
        · rw [h1, h2, Bool.and_true] at hb
          have E : Hid (_) := mask_yes hm.out hlt hb
          clear hb
          go_wp2_with (first | (go_at_call 32; refine (rhas_any _ _ _ (by assumption)).mono ?_; rintro e w' ⟨rfl, rfl⟩) | (go_at_call 33; refine (rwith_any _ _ _ F.out).mono ?_; rintro e w' ⟨rfl, rfl⟩))
          go_round
          case rel => exact ⟨k + 1, by omega, by go_num, by rw [E.out]⟩
          case measure => simp [intOf]; omega
    · have E : Hid (maskI (meetI s t) k = meetI s t) := by show _ = meetI s t; rw [show k = 64 by omega, maskI_all hm.out]
      go_wp2
      go_ret
      exact ⟨ret_int E.out, rfl⟩

set_option maxHeartbeats 400000 in
theorem rminus_any (s t : Int) (w : World) (hs : IsSet s) (ht : IsSet t) : Calls Tryd.prog 15 #[.int .u64 s, .int .u64 t] w fun e w' => e = .returned (.int .u64 (minusI s t)) ∧ w' = w := by
  have hm : Hid (_) := minusI_isSet (t := t) hs
  go_enter Tryd.func15, Tryd.ntmps15
  go_wp2
  go_loop [5, 6] (fun u i => ∃ k : Nat, k ≤ 64 ∧ i = .int .i64 k ∧ u = .int .u64 (maskI (minusI s t) k)) (fun _ i => 64 - (intOf i).toNat)
  case atStart => exact ⟨0, by omega, rfl, by rw [maskI_zero]⟩
  case round =>
    obtain ⟨k, hk, rfl, rfl⟩ := hrel
    by_cases hlt : k < 64
    · have hb := hasB_minusI s ht hlt
      have F : Hid (_) := maskI_isSet k hm.out
      cases h1 : hasB s k
      · rw [h1, Bool.false_and] at hb
        have E : Hid (_) := mask_no hm.out hb
        clear hb
        go_wp2_with (first | (go_at_call 32; refine (rhas_any _ _ _ (by assumption)).mono ?_; rintro e w' ⟨rfl, rfl⟩))
        go_round
        case rel => exact ⟨k + 1, by omega, by go_num, by rw [E.out]⟩
        case measure => simp [intOf]; omega
      · cases h2 : hasB t k
        · rw [h1, h2, Bool.not_false, Bool.and_true] at hb
          have E : Hid (_) := mask_yes hm.out hlt hb
          clear hb
          go_wp2_with (first | (go_at_call 32; refine (rhas_any _ _ _ (by assumption)).mono ?_; rintro e w' ⟨rfl, rfl⟩) | (go_at_call 33; refine (rwith_any _ _ _ F.out).mono ?_; rintro e w' ⟨rfl, rfl⟩))
          go_round
          case rel => exact ⟨k + 1, by omega, by go_num, by rw [E.out]⟩
          case measure => simp [intOf]; omega
        · rw [h1, h2, Bool.not_true, Bool.and_false] at hb
          have E : Hid (_) := mask_no hm.out hb
          clear hb
          go_wp2_with (first | (go_at_call 32; refine (rhas_any _ _ _ (by assumption)).mono ?_; rintro e w' ⟨rfl, rfl⟩))
          go_round
          case rel => exact ⟨k + 1, by omega, by go_num, by rw [E.out]⟩
          case measure => simp [intOf]; omega
    · have E : Hid (maskI (minusI s t) k = minusI s t) := by show _ = minusI s t; rw [show k = 64 by omega, maskI_all hm.out]
      go_wp2
      go_ret
      exact ⟨ret_int E.out, rfl⟩

end Go.Proofs.YtkjjdmdlkdoedaaDoor.SetsAlg
