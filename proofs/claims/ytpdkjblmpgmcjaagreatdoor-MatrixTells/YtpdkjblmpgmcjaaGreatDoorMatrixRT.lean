/-
  The document's matrix in memory: Holds and At of it.
-/
import Derived.Test.YtpdkjblmpgmcjaaGreatDoorMatrixClashes
import Derived.Test.YtpdkjblmpgmcjaaGreatDoorMatrixAwake
namespace Go.Proofs.YtpdkjblmpgmcjaaGreatDoor.MatrixRT
open Go.RowKit Go.Proofs.YtpdkjblmpgmcjaaGreatDoor.GramMath Go.Proofs.YtpdkjblmpgmcjaaGreatDoor.GramRow Go.Proofs.YtpdkjblmpgmcjaaGreatDoor.SetsAlg Go.Proofs.YtpdkjblmpgmcjaaGreatDoor.MatrixMath Go.Proofs.YtpdkjblmpgmcjaaGreatDoor.MatrixPut Go.Proofs.YtpdkjblmpgmcjaaGreatDoor.GramApart Go.Proofs.YtpdkjblmpgmcjaaGreatDoor.MatrixClash
set_option linter.unusedVariables false
set_option linter.unusedSimpArgs false

structure RMatAt (w : World) (R n : Nat) (F : Nat → Nat → Nat) : Prop where
  c0 : w.cell? ⟨R, 0, none⟩ = some (.int .i64 (n : Int))
  bits : ∃ gb cap, w.cell? ⟨R, 1, none⟩ = some (.slice (some ⟨gb, 0, none⟩) n cap) ∧ ∀ a, a < n → ∃ rb, w.cell? ⟨gb, a, none⟩ = some (.slice (some ⟨rb, 0, none⟩) n n) ∧ ∀ b, b < n → w.cell? ⟨rb, b, none⟩ = some (.int .i64 (F a b : Int))

theorem RMatAt.below {w w' : World} {R n : Nat} {F : Nat → Nat → Nat} {B : Nat} (h : RMatAt w R n F) (hb : Below B w w') (hB : w.heap.size ≤ B) : RMatAt w' R n F := by
  have key : ∀ b o v, w.cell? ⟨b, o, none⟩ = some v → w'.cell? ⟨b, o, none⟩ = some v := fun b o v hc => (hb.cell (p := ⟨b, o, none⟩) (Nat.lt_of_lt_of_le (cell_lt hc) hB)).trans hc
  obtain ⟨h1, gb, cap, h2, h3⟩ := h
  refine ⟨key _ _ _ h1, gb, cap, key _ _ _ h2, fun a ha => ?_⟩
  obtain ⟨rb, h4, h5⟩ := h3 a ha
  exact ⟨rb, key _ _ _ h4, fun b hb => key _ _ _ (h5 b hb)⟩

def RMatV (w : World) (ro : Option Addr) (n : Nat) (F : Nat → Nat → Nat) : Prop := (ro = none ∧ n = 0) ∨ ∃ R, ro = some ⟨R, 0, none⟩ ∧ RMatAt w R n F

theorem RMatV.below {w w' : World} {ro : Option Addr} {n : Nat} {F : Nat → Nat → Nat} {B : Nat} (h : RMatV w ro n F) (hb : Below B w w') (hB : w.heap.size ≤ B) : RMatV w' ro n F := by
  rcases h with h | ⟨R, rfl, h⟩
  · exact .inl h
  · exact .inr ⟨R, rfl, h.below hb hB⟩

def rholdsB (n : Nat) (F : Nat → Nat → Nat) (a b x : Int) : Bool :=
  decide (0 ≤ a ∧ a < n ∧ 0 ≤ b ∧ b < n ∧ 0 ≤ x ∧ x ≤ 3) && (if x = 0 then F a.toNat b.toNat == 0 else F a.toNat b.toNat / 2 ^ (x.toNat - 1) % 2 == 1)

theorem rholds_out {n : Nat} {F : Nat → Nat → Nat} {a b x : Int} (h : ¬ (0 ≤ a ∧ a < n ∧ 0 ≤ b ∧ b < n ∧ 0 ≤ x ∧ x ≤ 3)) : rholdsB n F a b x = false := by
  unfold rholdsB
  rw [decide_eq_false h, Bool.false_and]

theorem and1 : ∀ f : Nat, f < 8 → (bits .and .i64 (f : Int) 1 == 1) = (f / 2 ^ 0 % 2 == 1) := by decide +kernel
theorem and2 : ∀ f : Nat, f < 8 → (bits .and .i64 ((f : Int) / 2) 1 == 1) = (f / 2 ^ 1 % 2 == 1) := by decide +kernel
theorem and3 : ∀ f : Nat, f < 8 → (bits .and .i64 ((f : Int) / 4) 1 == 1) = (f / 2 ^ 2 % 2 == 1) := by decide +kernel

set_option maxRecDepth 100000 in
set_option maxHeartbeats 4000000 in
theorem rholds_v (ro : Option Addr) (n : Nat) (F : Nat → Nat → Nat) (a b x : Int) (w : World) (hm : RMatV w ro n F) (hn : n ≤ 60) (hF : ∀ i j, F i j < 8) :
    Calls Tryz.prog 39 #[.pointer ro, .int .i64 a, .int .i64 b, .int .i64 x] w fun e w' => e = .returned (.bool (rholdsB n F a b x)) ∧ w' = w := by
  have hp0 : ∀ W : World, (binOp .eql 33 (.pointer none) (.pointer none)).run Tryz.prog W = .ok (.bool true) W := fun W => by kernel_rfl
  have hp1 : ∀ (W : World) (A : Addr), (binOp .eql 33 (.pointer (some A)) (.pointer none)).run Tryz.prog W = .ok (.bool false) W := fun W A => by kernel_rfl
  by_cases hin : 0 ≤ a ∧ a < n ∧ 0 ≤ b ∧ b < n ∧ 0 ≤ x ∧ x ≤ 3
  · obtain ⟨h1, h2, h3, h4, h5, h6⟩ := id hin
    rcases hm with ⟨rfl, rfl⟩ | ⟨R, rfl, hm⟩
    · omega
    obtain ⟨i, rfl⟩ := Int.eq_ofNat_of_zero_le h1
    obtain ⟨j, rfl⟩ := Int.eq_ofNat_of_zero_le h3
    have c0 := hm.c0
    obtain ⟨gb, cap, c1, hrow⟩ := hm.bits
    obtain ⟨rb, c2, hc⟩ := hrow i (by omega)
    have c3 := hc j (by omega)
    have hf := hF i j
    obtain ⟨f, hfe⟩ : ∃ f, f = F i j := ⟨_, rfl⟩
    have E : Hid (rholdsB n F (i : Int) (j : Int) x = if x = 0 then f == 0 else f / 2 ^ (x.toNat - 1) % 2 == 1) := by
      show _ = _
      unfold rholdsB
      rw [decide_eq_true hin, Bool.true_and, hfe]
      rfl
    rw [← hfe] at c3 hf
    clear hfe hrow hc hm hF hin
    have n1 : ¬ (i : Int) < 0 := by omega
    have n2 : ¬ (n : Int) ≤ (i : Int) := by omega
    have n3 : ¬ (j : Int) < 0 := by omega
    have n4 : ¬ (n : Int) ≤ (j : Int) := by omega
    have n5 : ¬ x < 0 := by omega
    have n6 : ¬ 3 < x := by omega
    rcases (by omega : x = 0 ∨ x = 1 ∨ x = 2 ∨ x = 3) with rfl | rfl | rfl | rfl
    · have e0 : ((f : Int) == 0) = (f == 0) := by cases f <;> simp <;> omega
      go_enter Tryz.func39, Tryz.ntmps39
      go_wp2
      go_ret
      exact ⟨by rw [E.out]; rfl, rfl⟩
    · have e1 := and1 f hf
      go_enter Tryz.func39, Tryz.ntmps39
      go_wp2
      go_ret
      exact ⟨by rw [E.out]; show Ending.returned (Value.bool (f % 2 == 1)) = Ending.returned (Value.bool (f / 1 % 2 == 1)); rw [Nat.div_one], rfl⟩
    · have e1 := and2 f hf
      go_enter Tryz.func39, Tryz.ntmps39
      go_wp2
      go_ret
      exact ⟨by rw [E.out]; rfl, rfl⟩
    · have e1 := and3 f hf
      go_enter Tryz.func39, Tryz.ntmps39
      go_wp2
      go_ret
      exact ⟨by rw [E.out]; rfl, rfl⟩
  · rw [rholds_out hin]
    rcases hm with ⟨rfl, rfl⟩ | ⟨R, rfl, hm⟩
    · go_enter Tryz.func39, Tryz.ntmps39
      go_wp2
      go_ret
      exact ⟨rfl, rfl⟩
    · have c0 := hm.c0
      clear hm hF
      go_enter Tryz.func39, Tryz.ntmps39
      by_cases k1 : a < 0
      · go_wp2
        go_ret
        exact ⟨rfl, rfl⟩
      by_cases k2 : (n : Int) ≤ a
      · go_wp2
        go_ret
        exact ⟨rfl, rfl⟩
      by_cases k3 : b < 0
      · go_wp2
        go_ret
        exact ⟨rfl, rfl⟩
      by_cases k4 : (n : Int) ≤ b
      · go_wp2
        go_ret
        exact ⟨rfl, rfl⟩
      by_cases k5 : x < 0
      · go_wp2
        go_ret
        exact ⟨rfl, rfl⟩
      by_cases k6 : 3 < x
      · go_wp2
        go_ret
        exact ⟨rfl, rfl⟩
      omega

/-- Both tell the same. -/
def Alike (n : Nat) (F : Nat → Nat → Nat) (S : Nat → Nat → Int) : Prop := ∀ a b x : Int, rholdsB n F a b x = holdsB (n : Int) S a b x

theorem rholds_s (ro : Option Addr) (n : Nat) (F : Nat → Nat → Nat) (S : Nat → Nat → Int) (a b x : Int) (w : World) (hm : RMatV w ro n F) (hn : n ≤ 60) (hF : ∀ i j, F i j < 8) (hE : Alike n F S) :
    Calls Tryz.prog 39 #[.pointer ro, .int .i64 a, .int .i64 b, .int .i64 x] w fun e w' => e = .returned (.bool (holdsB (n : Int) S a b x)) ∧ w' = w := by
  rw [← hE a b x]
  exact rholds_v ro n F a b x w hm hn hF

set_option maxHeartbeats 1000000 in
theorem rat_s (ro : Option Addr) (t : Nat) (F : Nat → Nat → Nat) (S : Nat → Nat → Int) (a b : Int) (w : World) (hm : RMatV w ro t F) (ht : t ≤ 60) (hF : ∀ i j, F i j < 8) (hE : Alike t F S) :
    Calls Tryz.prog 40 #[.pointer ro, .int .i64 a, .int .i64 b] w fun e w' => e = .returned (.int .i64 (atI t S a b)) ∧ w' = w := by
  have hh : Hid (∀ x, Calls Tryz.prog 39 #[.pointer ro, .int .i64 a, .int .i64 b, .int .i64 x] w fun e w' => e = .returned (.bool (holdsB t S a b x)) ∧ w' = w) := fun x => rholds_s ro t F S a b x w hm ht hF hE
  clear hm ht hE
  go_enter Tryz.func40, Tryz.ntmps40
  go_wp2
  go_loopw [7] (fun i wr => ∃ k : Nat, 1 ≤ k ∧ k ≤ 4 ∧ i = .int .i64 k ∧ wr = w ∧ Hid (∀ j : Nat, 1 ≤ j → j < k → holdsB t S a b j = false)) (fun i _ => 4 - (intOf i).toNat)
  case atStart => exact ⟨1, by omega, by omega, rfl, rfl, fun j h1 h2 => by omega⟩
  case round =>
    obtain ⟨k, h1, h4, rfl, hwr, hno⟩ := hrel
    subst hwr
    by_cases hlt : k ≤ 3
    · have hlt2 : (k : Int) ≤ 3 := by omega
      have hk := hh.out (k : Int)
      cases hb : holdsB t S a b (k : Int) with
      | true =>
        rw [hb] at hk
        have E : Hid (atI t S a b = (k : Int)) := at_first h1 hlt hno.out hb
        clear hno hb hh
        go_wp2_with fail
        refine hk.mono ?_
        rintro e w1 ⟨rfl, hw⟩
        obtain rfl := hw.symm
        clear hk
        go_wp2
        go_ret
        exact ⟨SetsOne.ret_int E.out.symm, rfl⟩
      | false =>
        rw [hb] at hk
        have E : Hid (∀ j : Nat, 1 ≤ j → j < k + 1 → holdsB t S a b j = false) := fun j j1 j2 => by
          by_cases e : j = k
          · subst e; exact hb
          · exact hno.out j j1 (by omega)
        clear hno hb hh
        go_wp2_with fail
        refine hk.mono ?_
        rintro e w1 ⟨rfl, hw⟩
        obtain rfl := hw.symm
        clear hk
        go_wp2
        go_roundw
        case rel => exact ⟨k + 1, by omega, by omega, by go_num, trivial, E⟩
        case measure => simp [intOf]; omega
    · obtain rfl : k = 4 := by omega
      have E : Hid (atI t S a b = 0) := at_none hno.out
      clear hno hh
      go_wp2
      go_ret
      exact ⟨SetsOne.ret_int E.out.symm, rfl⟩

set_option maxRecDepth 100000 in
set_option maxHeartbeats 4000000 in
theorem same_v (po ro : Option Addr) (t : Nat) (F : Nat → Nat → Nat) (S : Nat → Nat → Int) (w : World) (hm : MatV w po t S) (hr : RMatV w ro t F) (ht : t ≤ 60) (hF : ∀ i j, F i j < 8) (hE : Alike t F S) :
    Calls Tryz.prog 14 #[.pointer po, .pointer ro] w fun e w' => e = .returned (.bool true) ∧ w' = w := by
  have hT := terms_v po t S w hm
  have HA : Hid (∀ a b, Calls Tryz.prog 23 #[.pointer po, .int .i64 a, .int .i64 b] w fun e w' => e = .returned (.int .i64 (atI t S a b)) ∧ w' = w) := fun a b => at_v po t S a b w hm ht
  have HB : Hid (∀ a b, Calls Tryz.prog 40 #[.pointer ro, .int .i64 a, .int .i64 b] w fun e w' => e = .returned (.int .i64 (atI t S a b)) ∧ w' = w) := fun a b => rat_s ro t F S a b w hr ht hF hE
  have HC : Hid (∀ a b x, Calls Tryz.prog 24 #[.pointer po, .int .i64 a, .int .i64 b, .int .i64 x] w fun e w' => e = .returned (.bool (holdsB t S a b x)) ∧ w' = w) := fun a b x => holds_v po t S a b x w hm ht
  have HD : Hid (∀ a b x, Calls Tryz.prog 39 #[.pointer ro, .int .i64 a, .int .i64 b, .int .i64 x] w fun e w' => e = .returned (.bool (holdsB t S a b x)) ∧ w' = w) := fun a b x => rholds_s ro t F S a b x w hr ht hF hE
  have hq0 : ∀ W : World, (binOp .neq 33 (.pointer none) (.pointer none)).run Tryz.prog W = .ok (.bool false) W := fun W => by kernel_rfl
  have hq1 : ∀ (W : World) (A : Addr), (binOp .neq 33 (.pointer (some A)) (.pointer none)).run Tryz.prog W = .ok (.bool true) W := fun W A => by kernel_rfl
  rcases hr with ⟨rfl, rfl⟩ | ⟨R, rfl, hr⟩
  · clear hF hE hm
    go_enter Tryz.func14, Tryz.ntmps14
    go_wp2_with fail
    refine hT.mono ?_
    rintro e w5 ⟨rfl, hw5⟩
    obtain rfl := hw5.symm
    clear hT
    have et : ((((0 : Nat) : Int) : Int) != (((0 : Nat) : Int) : Int)) = false := by simp
    go_wp2
    go_loopw [6] (fun i wr => ∃ k : Nat, k ≤ 0 + 2 ∧ i = .int .i64 ((k : Int) - 1) ∧ wr = w) (fun i _ => 0 + 2 - (intOf i + 1).toNat)
    case atStart => exact ⟨0, by omega, by go_num, rfl⟩
    case round =>
      obtain ⟨k, hk, rfl, hwr⟩ := hrel
      replace hwr := hwr.symm
      subst hwr
      obtain ⟨A, hA⟩ : ∃ A : Int, A = (k : Int) - 1 := ⟨_, rfl⟩
      rw [← hA]
      have bA : -2 < A ∧ A ≤ 61 := by omega
      by_cases hlt : k < 0 + 2
      · have hlt2 : A ≤ (((0 : Nat) : Int) : Int) := by omega
        have HK : Hid (A = (k : Int) - 1) := hA
        clear hA
        go_wp2
        go_loopw [7] (fun i wr => ∃ j : Nat, j ≤ 0 + 2 ∧ i = .int .i64 ((j : Int) - 1) ∧ wr = w) (fun i _ => 0 + 2 - (intOf i + 1).toNat)
        case atStart => exact ⟨0, by omega, by go_num, rfl⟩
        case round =>
          obtain ⟨j, hj, rfl, hwr⟩ := hrel
          replace hwr := hwr.symm
          subst hwr
          obtain ⟨B, hB⟩ : ∃ B : Int, B = (j : Int) - 1 := ⟨_, rfl⟩
          rw [← hB]
          have bB : -2 < B ∧ B ≤ 61 := by omega
          by_cases hjl : j < 0 + 2
          · have hjl2 : B ≤ (((0 : Nat) : Int) : Int) := by omega
            have HJ : Hid (B = (j : Int) - 1) := hB
            clear hB
            have q1 := HA.out A B
            have q2 := HB.out A B
            have eI : (atI (((0 : Nat) : Int) : Int) S A B != atI (((0 : Nat) : Int) : Int) S A B) = false := by simp
            go_wp2_with fail
            refine (q1).mono ?_
            rintro e w5 ⟨rfl, hw5⟩
            obtain rfl := hw5.symm
            go_wp2_with fail
            refine (q2).mono ?_
            rintro e w5 ⟨rfl, hw5⟩
            obtain rfl := hw5.symm
            clear q1 q2
            go_wp2
            go_loopw [8] (fun i wr => ∃ m : Nat, m ≤ 6 ∧ i = .int .i64 ((m : Int) - 1) ∧ wr = w) (fun i _ => 6 - (intOf i + 1).toNat)
            case atStart => exact ⟨0, by omega, by go_num, rfl⟩
            case round =>
              obtain ⟨m, hm, rfl, hwr⟩ := hrel
              replace hwr := hwr.symm
              subst hwr
              obtain ⟨X, hX⟩ : ∃ X : Int, X = (m : Int) - 1 := ⟨_, rfl⟩
              rw [← hX]
              have bX : -2 < X ∧ X ≤ 5 := by omega
              by_cases hml : m < 6
              · have hml2 : X ≤ 4 := by omega
                have HM : Hid (X = (m : Int) - 1) := hX
                clear hX
                have q1 := HC.out A B X
                have q2 := HD.out A B X
                have eB : (holdsB (((0 : Nat) : Int) : Int) S A B X != holdsB (((0 : Nat) : Int) : Int) S A B X) = false := by simp
                go_wp2_with fail
                refine (q1).mono ?_
                rintro e w5 ⟨rfl, hw5⟩
                obtain rfl := hw5.symm
                go_wp2_with fail
                refine (q2).mono ?_
                rintro e w5 ⟨rfl, hw5⟩
                obtain rfl := hw5.symm
                clear q1 q2
                go_wp2
                go_roundw
                case rel => exact ⟨m + 1, by omega, by rw [HM.out]; go_num, trivial⟩
                case measure => rw [HM.out]; simp [intOf]; omega
              · have hml2 : ¬ X ≤ 4 := by omega
                clear hX
                go_wp2
                go_roundw
                case rel => first | exact ⟨j + 1, by omega, by rw [HJ.out]; go_num, trivial⟩ | exact ⟨j + 1, by omega, by have := HJ.out; omega⟩
                case measure => rw [HJ.out]; simp [intOf]; omega
          · have hjl2 : ¬ B ≤ (((0 : Nat) : Int) : Int) := by omega
            clear hB
            go_wp2
            go_roundw
            case rel => first | exact ⟨k + 1, by omega, by rw [HK.out]; go_num, trivial⟩ | exact ⟨k + 1, by omega, by have := HK.out; omega⟩
            case measure => rw [HK.out]; simp [intOf]; omega
      · have hlt2 : ¬ A ≤ (((0 : Nat) : Int) : Int) := by omega
        clear hA
        go_wp2
        go_ret
        exact ⟨rfl, rfl⟩
  · have c0 := hr.c0
    clear hr hF hE hm
    go_enter Tryz.func14, Tryz.ntmps14
    go_wp2_with fail
    refine hT.mono ?_
    rintro e w5 ⟨rfl, hw5⟩
    obtain rfl := hw5.symm
    clear hT
    have et : ((t : Int) != (t : Int)) = false := by simp
    go_wp2
    go_loopw [6] (fun i wr => ∃ k : Nat, k ≤ t + 2 ∧ i = .int .i64 ((k : Int) - 1) ∧ wr = w) (fun i _ => t + 2 - (intOf i + 1).toNat)
    case atStart => exact ⟨0, by omega, by go_num, rfl⟩
    case round =>
      obtain ⟨k, hk, rfl, hwr⟩ := hrel
      replace hwr := hwr.symm
      subst hwr
      obtain ⟨A, hA⟩ : ∃ A : Int, A = (k : Int) - 1 := ⟨_, rfl⟩
      rw [← hA]
      have bA : -2 < A ∧ A ≤ 61 := by omega
      by_cases hlt : k < t + 2
      · have hlt2 : A ≤ (t : Int) := by omega
        have HK : Hid (A = (k : Int) - 1) := hA
        clear hA
        go_wp2
        go_loopw [7] (fun i wr => ∃ j : Nat, j ≤ t + 2 ∧ i = .int .i64 ((j : Int) - 1) ∧ wr = w) (fun i _ => t + 2 - (intOf i + 1).toNat)
        case atStart => exact ⟨0, by omega, by go_num, rfl⟩
        case round =>
          obtain ⟨j, hj, rfl, hwr⟩ := hrel
          replace hwr := hwr.symm
          subst hwr
          obtain ⟨B, hB⟩ : ∃ B : Int, B = (j : Int) - 1 := ⟨_, rfl⟩
          rw [← hB]
          have bB : -2 < B ∧ B ≤ 61 := by omega
          by_cases hjl : j < t + 2
          · have hjl2 : B ≤ (t : Int) := by omega
            have HJ : Hid (B = (j : Int) - 1) := hB
            clear hB
            have q1 := HA.out A B
            have q2 := HB.out A B
            have eI : (atI (t : Int) S A B != atI (t : Int) S A B) = false := by simp
            go_wp2_with fail
            refine (q1).mono ?_
            rintro e w5 ⟨rfl, hw5⟩
            obtain rfl := hw5.symm
            go_wp2_with fail
            refine (q2).mono ?_
            rintro e w5 ⟨rfl, hw5⟩
            obtain rfl := hw5.symm
            clear q1 q2
            go_wp2
            go_loopw [8] (fun i wr => ∃ m : Nat, m ≤ 6 ∧ i = .int .i64 ((m : Int) - 1) ∧ wr = w) (fun i _ => 6 - (intOf i + 1).toNat)
            case atStart => exact ⟨0, by omega, by go_num, rfl⟩
            case round =>
              obtain ⟨m, hm, rfl, hwr⟩ := hrel
              replace hwr := hwr.symm
              subst hwr
              obtain ⟨X, hX⟩ : ∃ X : Int, X = (m : Int) - 1 := ⟨_, rfl⟩
              rw [← hX]
              have bX : -2 < X ∧ X ≤ 5 := by omega
              by_cases hml : m < 6
              · have hml2 : X ≤ 4 := by omega
                have HM : Hid (X = (m : Int) - 1) := hX
                clear hX
                have q1 := HC.out A B X
                have q2 := HD.out A B X
                have eB : (holdsB (t : Int) S A B X != holdsB (t : Int) S A B X) = false := by simp
                go_wp2_with fail
                refine (q1).mono ?_
                rintro e w5 ⟨rfl, hw5⟩
                obtain rfl := hw5.symm
                go_wp2_with fail
                refine (q2).mono ?_
                rintro e w5 ⟨rfl, hw5⟩
                obtain rfl := hw5.symm
                clear q1 q2
                go_wp2
                go_roundw
                case rel => exact ⟨m + 1, by omega, by rw [HM.out]; go_num, trivial⟩
                case measure => rw [HM.out]; simp [intOf]; omega
              · have hml2 : ¬ X ≤ 4 := by omega
                clear hX
                go_wp2
                go_roundw
                case rel => first | exact ⟨j + 1, by omega, by rw [HJ.out]; go_num, trivial⟩ | exact ⟨j + 1, by omega, by have := HJ.out; omega⟩
                case measure => rw [HJ.out]; simp [intOf]; omega
          · have hjl2 : ¬ B ≤ (t : Int) := by omega
            clear hB
            go_wp2
            go_roundw
            case rel => first | exact ⟨k + 1, by omega, by rw [HK.out]; go_num, trivial⟩ | exact ⟨k + 1, by omega, by have := HK.out; omega⟩
            case measure => rw [HK.out]; simp [intOf]; omega
      · have hlt2 : ¬ A ≤ (t : Int) := by omega
        clear hA
        go_wp2
        go_ret
        exact ⟨rfl, rfl⟩

end Go.Proofs.YtpdkjblmpgmcjaaGreatDoor.MatrixRT
