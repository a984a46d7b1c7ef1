/-
  The document's Clashes: the same list.
-/
import Derived.Test.YtpdkjblmpgmcjaaGreatDoorMatrixRT
namespace Go.Proofs.YtpdkjblmpgmcjaaGreatDoor.MatrixRT
open Go.RowKit Go.Proofs.YtpdkjblmpgmcjaaGreatDoor.GramMath Go.Proofs.YtpdkjblmpgmcjaaGreatDoor.GramRow Go.Proofs.YtpdkjblmpgmcjaaGreatDoor.SetsAlg Go.Proofs.YtpdkjblmpgmcjaaGreatDoor.MatrixMath Go.Proofs.YtpdkjblmpgmcjaaGreatDoor.MatrixPut Go.Proofs.YtpdkjblmpgmcjaaGreatDoor.GramApart Go.Proofs.YtpdkjblmpgmcjaaGreatDoor.MatrixClash Go.Proofs.YtpdkjblmpgmcjaaGreatDoor.GramLent
set_option linter.unusedVariables false
set_option linter.unusedSimpArgs false

def posX : Nat → Nat
  | 1 => 0
  | 2 => 2
  | _ => 3

theorem clTo_three {t : Nat} {S : Nat → Nat → Int} {q : Nat} (ht : t ≤ 60) (h : q ≤ 3 * (t * t)) : (clTo t S q).length ≤ 10800 := by
  have h1 := clTo_len t S q
  have h2 : t * t ≤ 60 * 60 := Nat.mul_le_mul ht ht
  omega

set_option maxRecDepth 100000 in
set_option maxHeartbeats 8000000 in
theorem rclashes_s (ro : Option Addr) (t : Nat) (F : Nat → Nat → Nat) (S : Nat → Nat → Int) (w : World) (hr : RMatV w ro t F) (ht : t ≤ 60) (hF : ∀ i j, F i j < 8) (hE : Alike t F S) :
    Calls Tryz.prog 12 #[.pointer ro] w fun e w' =>
      (∃ v, e = .returned v ∧ w'.ownsRow w.heap.size 44 4 v (clL t S).length (cellsP (clL t S))) ∧ Below w.heap.size w w' := by
  obtain ⟨i0, hi, hz0, hz1, hz2⟩ := info_parts infoPr
  have hp0 : ∀ W : World, (binOp .eql 33 (.pointer none) (.pointer none)).run Tryz.prog W = .ok (.bool true) W := fun W => by kernel_rfl
  have hp1 : ∀ (W : World) (A : Addr), (binOp .eql 33 (.pointer (some A)) (.pointer none)).run Tryz.prog W = .ok (.bool false) W := fun W A => by kernel_rfl
  rcases id hr with ⟨rfl, rfl⟩ | ⟨R, rfl, hr1⟩
  · go_enter Tryz.func12, Tryz.ntmps12
    go_wp2
    go_ret
    exact ⟨⟨_, rfl, World.ownsRow_nil _ _ _ _⟩, Below.refl _ _⟩
  have HC : Hid (∀ W, Below w.heap.size w W → W.cell? ⟨R, 0, none⟩ = some (.int .i64 (t : Int))) := fun W hb => (hb.cell (p := ⟨R, 0, none⟩) (cell_lt hr1.c0)).trans hr1.c0
  have HH : Hid (∀ (a b x : Int) W, Below w.heap.size w W → Calls Tryz.prog 39 #[.pointer (some ⟨R, 0, none⟩), .int .i64 a, .int .i64 b, .int .i64 x] W fun e w' => e = .returned (.bool (holdsB (t : Int) S a b x)) ∧ w' = W) := fun a b x W hb => rholds_s _ t F S a b x W (hr.below hb (Nat.le_refl _)) ht hF hE
  clear hr hr1 hF hE
  go_enter Tryz.func12, Tryz.ntmps12
  go_wp2
  go_loopw [3, 4] (fun v i wr => ∃ a : Nat, a ≤ t ∧ i = .int .i64 a ∧ wr.ownsRow w.heap.size 44 4 v (clTo t S (3 * (a * t))).length (cellsP (clTo t S (3 * (a * t)))) ∧ Below w.heap.size w wr) (fun _ i _ => t - (intOf i).toNat)
  case atStart => exact ⟨0, by omega, rfl, by rw [Nat.zero_mul]; exact World.ownsRow_nil _ _ _ _, Below.refl _ _⟩
  case round =>
    obtain ⟨a, ha, rfl, hrow, hB⟩ := hrel
    have c0 := HC.out wr hB
    by_cases hal : a < t
    · have hal2 : (a : Int) < (t : Int) := by omega
      have HAl : Hid (a < t) := hal
      clear hal
      go_wp2
      go_loopw [3, 5] (fun v i wr => ∃ b : Nat, b ≤ t ∧ i = .int .i64 b ∧ wr.ownsRow w.heap.size 44 4 v (clTo t S (3 * (a * t + b))).length (cellsP (clTo t S (3 * (a * t + b)))) ∧ Below w.heap.size w wr) (fun _ i _ => t - (intOf i).toNat)
      case atStart => exact ⟨0, by omega, rfl, hrow, hB⟩
      case round =>
        clear hrow hB c0
        obtain ⟨b, hb, rfl, hrow, hB⟩ := hrel
        have c0 := HC.out wr hB
        by_cases hbl : b < t
        · have hbl2 : (b : Int) < (t : Int) := by omega
          obtain ⟨k, hk⟩ : ∃ k, k = a * t + b := ⟨_, rfl⟩
          have hkl : k + 1 ≤ t * t := by
            have h1 := HAl.out
            have h2 : a * t + t ≤ t * t := by
              have := Nat.mul_le_mul_right t (show a + 1 ≤ t from h1)
              rwa [Nat.succ_mul] at this
            omega
          have hka : k / t = a := by
            rw [hk, Nat.mul_comm, Nat.mul_add_div (by omega), Nat.div_eq_of_lt hbl, Nat.add_zero]
          have hkb : k % t = b := by
            rw [hk, Nat.mul_comm, Nat.mul_add_mod, Nat.mod_eq_of_lt hbl]
          rw [← hk] at hrow
          have HKL : Hid (k + 1 ≤ t * t) := hkl
          have HKK : Hid (k = a * t + b) := hk
          have HHT : Hid (∀ j, j < 3 → hitP t S (3 * k + j) = if (holdsB t S (a : Int) (b : Int) (unl1 j) && holdsB t S (a : Int) (b : Int) (unl2 j)) = true then some ⟨(a : Int), (b : Int), unl1 j, unl2 j⟩ else none) := fun j hj => by
            have := hit_at (t := t) (k := k) (S := S) hj
            rwa [hka, hkb] at this
          have HBl : Hid (b < t) := hbl
          clear hk hkl hka hkb hbl
          go_wp2
          go_loopw [3, 6] (fun v i wr => ∃ x : Nat, 1 ≤ x ∧ x ≤ 4 ∧ i = .int .i64 x ∧ wr.ownsRow w.heap.size 44 4 v (clTo t S (3 * k + posX x)).length (cellsP (clTo t S (3 * k + posX x))) ∧ Below w.heap.size w wr) (fun _ i _ => 4 - (intOf i).toNat)
          case atStart => exact ⟨1, by omega, by omega, rfl, hrow, hB⟩
          case round =>
            clear hrow hB c0
            obtain ⟨x, hx1, hx4, rfl, hrow, hB⟩ := hrel
            by_cases hxl : x ≤ 3
            · have hxl2 : (x : Int) ≤ 3 := by omega
              go_wp2
              go_loopw [3, 7] (fun v i wr => ∃ y : Nat, x + 1 ≤ y ∧ y ≤ 4 ∧ i = .int .i64 y ∧ wr.ownsRow w.heap.size 44 4 v (clTo t S (3 * k + (posX x + (y - (x + 1))))).length (cellsP (clTo t S (3 * k + (posX x + (y - (x + 1)))))) ∧ Below w.heap.size w wr) (fun _ i _ => 4 - (intOf i).toNat)
              case atStart => exact ⟨x + 1, by omega, by omega, by go_num, by rw [Nat.sub_self]; exact hrow, hB⟩
              case round =>
                clear hrow hB
                obtain ⟨y, hy1, hy4, rfl, hrow, hB⟩ := hrel
                by_cases hyl : y ≤ 3
                · have hyl2 : (y : Int) ≤ 3 := by omega
                  obtain ⟨j, hj⟩ : ∃ j, j = posX x + (y - (x + 1)) := ⟨_, rfl⟩
                  have hjj : j < 3 ∧ unl1 j = (x : Int) ∧ unl2 j = (y : Int) ∧ j + 1 = posX x + (y + 1 - (x + 1)) := by
                    rcases (by omega : (x = 1 ∧ y = 2) ∨ (x = 1 ∧ y = 3) ∨ (x = 2 ∧ y = 3)) with ⟨rfl, rfl⟩ | ⟨rfl, rfl⟩ | ⟨rfl, rfl⟩ <;> (subst hj; decide)
                  obtain ⟨hj3, hu1, hu2, hnx⟩ := hjj
                  rw [← hj] at hrow
                  have hht := HHT.out j hj3
                  rw [hu1, hu2] at hht
                  have hsuc := clTo_succ t S (3 * k + j)
                  rw [hht] at hsuc
                  have hlen := clTo_three (S := S) ht (show 3 * k + j ≤ 3 * (t * t) by have := HKL.out; omega)
                  have q1 := HH.out a b x wr hB
                  have q2 := HH.out a b y wr hB
                  have hsw := hB.size
                  obtain ⟨L, hL⟩ : ∃ L, L = clTo t S (3 * k + j) := ⟨_, rfl⟩
                  rw [← hL] at hrow hlen hsuc
                  have HHx : Hid (clTo t S (3 * k + (posX x + (y + 1 - (x + 1)))) = clTo t S (3 * k + j + 1)) := by rw [← hnx]; rfl
                  have HS : Hid (_) := hsuc
                  clear hsuc hL hht hnx hu1 hu2 hj
                  cases H1 : holdsB (t : Int) S (a : Int) (b : Int) (x : Int) with
                  | false =>
                    rw [H1] at q1
                    have HN : Hid (clTo t S (3 * k + (posX x + (y + 1 - (x + 1)))) = L) := by rw [HHx.out, HS.out, H1, if_neg (by simp)]; simp only [Option.toList, List.append_nil]; trivial
                    clear H1 q2 HS HHx
                    go_wp2_with fail
                    refine q1.mono ?_
                    rintro e w5 ⟨rfl, hw5⟩
                    obtain rfl := hw5.symm
                    clear q1
                    go_wp2
                    go_roundw
                    case rel => exact ⟨y + 1, by omega, by omega, by go_num, by rw [HN.out]; exact hrow, hB⟩
                    case measure => simp [intOf]; omega
                  | true =>
                    cases H2 : holdsB (t : Int) S (a : Int) (b : Int) (y : Int) with
                    | false =>
                      rw [H1] at q1
                      rw [H2] at q2
                      have HN : Hid (clTo t S (3 * k + (posX x + (y + 1 - (x + 1)))) = L) := by rw [HHx.out, HS.out, H1, H2, if_neg (by simp)]; simp only [Option.toList, List.append_nil]; trivial
                      clear H1 H2 HS HHx
                      go_wp2_with fail
                      refine q1.mono ?_
                      rintro e w5 ⟨rfl, hw5⟩
                      obtain rfl := hw5.symm
                      clear q1
                      go_wp2_with fail
                      refine q2.mono ?_
                      rintro e w5 ⟨rfl, hw5⟩
                      obtain rfl := hw5.symm
                      clear q2
                      go_wp2
                      go_roundw
                      case rel => exact ⟨y + 1, by omega, by omega, by go_num, by rw [HN.out]; exact hrow, hB⟩
                      case measure => simp [intOf]; omega
                    | true =>
                      rw [H1] at q1
                      rw [H2] at q2
                      have HN : Hid (clTo t S (3 * k + (posX x + (y + 1 - (x + 1)))) = L ++ [⟨(a : Int), (b : Int), (x : Int), (y : Int)⟩]) := by rw [HHx.out, HS.out, H1, H2]; rfl
                      clear H1 H2 HS HHx
                      go_wp2_with fail
                      refine q1.mono ?_
                      rintro e w5 ⟨rfl, hw5⟩
                      obtain rfl := hw5.symm
                      clear q1
                      go_wp2_with fail
                      refine q2.mono ?_
                      rintro e w5 ⟨rfl, hw5⟩
                      obtain rfl := hw5.symm
                      clear q2
                      go_wp2_with (at_builtin; refine wpList_append_own _ rfl _ _ 41 rfl w.heap.size 44 i0 (.agg #[.int .i64 0, .int .i64 0, .int .i64 0, .int .i64 0]) 4 32 Tryz.underlying41 hi hz0 hz1 hz2 rfl (by decide) _ _ _ rfl (hrow.alloc _) ⟨wr.heap.size, 0, none⟩ 1 1 [.int .i64 (a : Int), .int .i64 (b : Int), .int .i64 (x : Int), .int .i64 (y : Int)] rfl rfl (cells_new wr #[.int .i64 (a : Int), .int .i64 (b : Int), .int .i64 (x : Int), .int .i64 (y : Int)] 44) (by simp [Value.oneCell']) (by unfold maxLen; omega) (by omega) (by simp; omega) ?_; intro v' w9 hown' hgrow _)
                      have hB9 := (hB.alloc hsw (.cells #[.int .i64 (a : Int), .int .i64 (b : Int), .int .i64 (x : Int), .int .i64 (y : Int)] 44)).grown hgrow (by simp; omega) (fun j hj => by have := (hrow.lt j hj).1; omega)
                      go_roundw
                      case rel => exact ⟨y + 1, by omega, by omega, by go_num, by rw [HN.out, cellsP_append, List.length_append]; exact hown', hB9⟩
                      case measure => simp [intOf]; omega
                · have hyl2 : ¬ (y : Int) ≤ 3 := by omega
                  have hN : 3 * k + (posX x + (y - (x + 1))) = 3 * k + posX (x + 1) := by
                    rcases (by omega : (x = 1 ∧ y = 4) ∨ (x = 2 ∧ y = 4) ∨ (x = 3 ∧ y = 4)) with ⟨rfl, rfl⟩ | ⟨rfl, rfl⟩ | ⟨rfl, rfl⟩ <;> rfl
                  rw [hN] at hrow
                  clear hN
                  go_wp2
                  go_roundw
                  case rel => exact ⟨x + 1, by omega, by omega, by go_num, hrow, hB⟩
                  case measure => simp [intOf]; omega
            · have hxl2 : ¬ (x : Int) ≤ 3 := by omega
              have hN : 3 * k + posX x = 3 * (a * t + (b + 1)) := by
                obtain rfl : x = 4 := by omega
                have := HKK.out
                show 3 * k + 3 = _
                omega
              rw [hN] at hrow
              have hb2 := HBl.out
              clear hN
              go_wp2
              go_roundw
              case rel => exact ⟨b + 1, by omega, by go_num, hrow, hB⟩
              case measure => simp [intOf]; omega
        · have hbl2 : ¬ (b : Int) < (t : Int) := by omega
          have hN : 3 * (a * t + b) = 3 * ((a + 1) * t) := by
            obtain rfl : b = t := by omega
            exact congrArg (3 * ·) (Nat.succ_mul a b).symm
          rw [hN] at hrow
          have ha2 := HAl.out
          clear hN
          go_wp2
          go_roundw
          case rel => exact ⟨a + 1, by omega, by go_num, hrow, hB⟩
          case measure => simp [intOf]; omega
    · have hal2 : ¬ (a : Int) < (t : Int) := by omega
      have HN : Hid (clL t S = clTo t S (3 * (a * t))) := by
        obtain rfl : a = t := by omega
        rfl
      go_wp2
      go_ret
      exact ⟨⟨_, rfl, by rw [HN.out]; exact hrow⟩, hB⟩

end Go.Proofs.YtpdkjblmpgmcjaaGreatDoor.MatrixRT
