/-
  Texts that stand together: MatrixRPlaces.
-/
import Derived.Test.YtigepihinflkdaaGreatDoorBagMatrixTurnM
import Derived.Test.YtigepihinflkdaaGreatDoorBagMatrixTabs
namespace Go.Proofs.YtigepihinflkdaaGreatDoor.MatrixRHolds
open Go.RowKit Go.Proofs.YtigepihinflkdaaGreatDoor.GramMath Go.Proofs.YtigepihinflkdaaGreatDoor.GramRow Go.Proofs.YtigepihinflkdaaGreatDoor.GramApart Go.Proofs.YtigepihinflkdaaGreatDoor.GramAwake Go.Proofs.YtigepihinflkdaaGreatDoor.SetsMath Go.Proofs.YtigepihinflkdaaGreatDoor.UsefulMath Go.Proofs.YtigepihinflkdaaGreatDoor.MatrixMath Go.Proofs.YtigepihinflkdaaGreatDoor.EndsMath Go.Proofs.YtigepihinflkdaaGreatDoor.EndsFn Go.Proofs.YtigepihinflkdaaGreatDoor.MatrixRMath
set_option linter.unusedVariables false
set_option linter.unusedSimpArgs false

open Classical in
noncomputable def nearB (l : List Int) (k : Nat) (b : Int) : Bool := decide (nearP l k b)
theorem nearB_t {l : List Int} {k : Nat} {b : Int} (h : nearP l k b) : nearB l k b = true := by unfold nearB; simpa using h
theorem nearB_f {l : List Int} {k : Nat} {b : Int} (h : ¬ nearP l k b) : nearB l k b = false := by unfold nearB; simpa using h
theorem nearB_iff {l : List Int} {k : Nat} {b : Int} : nearB l k b = true ↔ nearP l k b := by unfold nearB; simp

theorem near_no1 {l : List Int} {k : Nat} {b : Int} (h : ¬ k + 1 < l.length) : ¬ nearP l k b := by
  unfold nearP
  omega

set_option maxRecDepth 100000 in
set_option maxHeartbeats 2000000 in
theorem near_any (ra : Option Addr) (rc : Nat) (l : List Int) (k : Nat) (b : Int) (w : World) (hI : IRow w ra l) (hl : l.length ≤ 32) (hk : k < l.length) :
    Calls Tryz.prog 94 #[.slice ra l.length rc, .int .i64 (k : Int), .int .i64 b] w fun e w' => e = .returned (.bool (nearB l k b)) ∧ w' = w := by
  by_cases h1 : k + 1 < l.length
  · have h1i : (k : Int) + 1 < (l.length : Int) := by omega
    have d1 : decide ((k : Int) + 1 < (l.length : Int)) = true := by simpa using h1i
    obtain ⟨b1, off1, rfl, q1⟩ := irow_at hI h1
    obtain ⟨x1, hx1⟩ : ∃ x1, l.getD (k + 1) 0 = x1 := ⟨_, rfl⟩
    rw [hx1] at q1
    by_cases h2 : x1 = b
    · have d2 : (x1 == b) = true := by simpa using h2
      have E : Hid (nearP l k b) := .inl ⟨h1, hx1.trans h2⟩
      clear h2 hx1
      go_enter Tryz.func94, Tryz.ntmps94
      go_wp2
      go_ret
      exact ⟨SetsOne.ret_bool (nearB_t E.out).symm, rfl⟩
    · have d2 : (x1 == b) = false := by simpa using h2
      by_cases h3 : k + 2 < l.length
      · have h3i : (k : Int) + 2 < (l.length : Int) := by omega
        have d3 : decide ((k : Int) + 2 < (l.length : Int)) = true := by simpa using h3i
        obtain ⟨b2, off2, e2, q2⟩ := irow_at hI h3
        obtain ⟨rfl, rfl⟩ : b1 = b2 ∧ off1 = off2 := by simpa using e2
        obtain ⟨x2, hx2⟩ : ∃ x2, l.getD (k + 2) 0 = x2 := ⟨_, rfl⟩
        rw [hx2] at q2
        by_cases h4 : x1 < 0
        · have d4 : decide (x1 < 0) = true := by simpa using h4
          have E : Hid ((x2 == b) = true ↔ nearP l k b) := by
            show _ ↔ _
            unfold nearP
            rw [hx1, hx2, beq_iff_eq]
            constructor
            · intro h; exact .inr ⟨h3, h4, h⟩
            · rintro (⟨_, h⟩ | ⟨_, _, h⟩)
              · exact absurd h h2
              · exact h
          clear h2 hx1 hx2
          go_enter Tryz.func94, Tryz.ntmps94
          go_wp2
          go_ret
          exact ⟨SetsOne.ret_bool ((Bool.eq_iff_iff.2 (E.out.trans nearB_iff.symm))), rfl⟩
        · have d4 : decide (x1 < 0) = false := by simpa using h4
          have E : Hid (¬ nearP l k b) := by
            show ¬ _
            unfold nearP
            rw [hx1]
            rintro (⟨_, h⟩ | ⟨_, h, _⟩)
            · exact absurd h h2
            · exact absurd h h4
          clear h2 hx1 hx2
          go_enter Tryz.func94, Tryz.ntmps94
          go_wp2
          go_ret
          exact ⟨SetsOne.ret_bool (nearB_f E.out).symm, rfl⟩
      · have h3i : ¬ (k : Int) + 2 < (l.length : Int) := by omega
        have d3 : decide ((k : Int) + 2 < (l.length : Int)) = false := by simpa using h3i
        have E : Hid (¬ nearP l k b) := by
          show ¬ _
          unfold nearP
          rw [hx1]
          rintro (⟨_, h⟩ | ⟨h, _, _⟩)
          · exact absurd h h2
          · exact absurd h h3
        clear h2 hx1
        go_enter Tryz.func94, Tryz.ntmps94
        go_wp2
        go_ret
        exact ⟨SetsOne.ret_bool (nearB_f E.out).symm, rfl⟩
  · have h1i : ¬ (k : Int) + 1 < (l.length : Int) := by omega
    have d1 : decide ((k : Int) + 1 < (l.length : Int)) = false := by simpa using h1i
    have h3i : ¬ (k : Int) + 2 < (l.length : Int) := by omega
    have d3 : decide ((k : Int) + 2 < (l.length : Int)) = false := by simpa using h3i
    have E : Hid (¬ nearP l k b) := near_no1 h1
    clear hI
    go_enter Tryz.func94, Tryz.ntmps94
    go_wp2
    go_ret
    exact ⟨SetsOne.ret_bool (nearB_f E.out).symm, rfl⟩

open Classical in
noncomputable def atB (VL VR : Nat → Nat) (l : List Int) (k : Nat) (a b x : Int) : Bool := decide (atP VL VR l k a b x)
theorem atB_iff {VL VR : Nat → Nat} {l : List Int} {k : Nat} {a b x : Int} : atB VL VR l k a b x = true ↔ atP VL VR l k a b x := by unfold atB; simp
theorem atB_f {VL VR : Nat → Nat} {l : List Int} {k : Nat} {a b x : Int} (h : ¬ atP VL VR l k a b x) : atB VL VR l k a b x = false := by unfold atB; simpa using h

theorem shr_bit {V m : Nat} (hV : V < 18446744073709551616) (hm : m < 64) : (bits .and .u64 ((V : Int) / 2 ^ m) 1 == 1) = hasB (V : Int) (m : Int) := by
  have e : (V : Int) / 2 ^ m = ((V / 2 ^ m : Nat) : Int) := by simp
  have hlt : V / 2 ^ m < 18446744073709551616 := Nat.lt_of_le_of_lt (Nat.div_le_self _ _) (by omega)
  rw [e, hasB_in (by omega) (by omega), Int.toNat_natCast, Int.toNat_natCast, Nat.testBit_eq_decide_div_mod_eq]
  generalize V / 2 ^ m = z at *
  have e2 : bits .and .u64 (z : Int) 1 = ((z % 2 : Nat) : Int) := by
    rw [u64_and (z : Int) 1 (by omega) (by omega) (by omega) (by omega)]
    simp
  rw [e2]
  rcases Nat.mod_two_eq_zero_or_one z with h | h <;> simp [h]

set_option maxRecDepth 100000 in
set_option maxHeartbeats 4000000 in
theorem rholds_yield (ta na ra : Option Addr) (tc nc rc : Nat) (g : G) (La Ra : Option Addr) (N cl cr : Nat) (VL VR : Nat → Nat) (qa : Option Addr) (qc : Nat) (l : List Int) (k : Nat) (a b : Nat) (w : World) (hI : IRow w qa l) (hl : l.length ≤ 32) (hk : k < l.length) (hL : URow w La N VL) (hsym : ∀ j, j < l.length → -1 - l.getD j 0 < N) (hN : N ≤ 60) (hV : ∀ i, i < N → VL i < 1152921504606846976) (hb : b < 60) :
    Calls Tryz.prog 62 #[.agg #[.slice ta g.ts.length tc, .slice na g.ns.length nc, .int .i64 g.ax, .slice ra g.rs.length rc], .slice La N cl, .slice Ra N cr, .slice qa l.length qc, .int .i64 (k : Int), .int .i64 (a : Int), .int .i64 (b : Int), .int .i64 1] w fun e w' => e = .returned (.bool (atB VL VR l k a b 1)) ∧ Below w.heap.size w w' := by
  obtain ⟨W1, hW1⟩ : ∃ W1, W1 = w.alloc (.cells #[.slice ta g.ts.length tc, .slice na g.ns.length nc, .int .i64 g.ax, .slice ra g.rs.length rc] 25) := ⟨_, rfl⟩
  have hB1 : Below w.heap.size w W1 := by rw [hW1]; exact (Below.refl _ _).alloc (Nat.le_refl _) _
  have hI1 := hI.below hB1 (Nat.le_refl _)
  have hL1 := hL.below hB1 (Nat.le_refl _)
  obtain ⟨b0, off0, rfl, q0⟩ := irow_at hI1 hk
  obtain ⟨x0, hx0⟩ : ∃ x0, l.getD k 0 = x0 := ⟨_, rfl⟩
  rw [hx0] at q0
  have hki : (k : Int) < (l.length : Int) := by omega
  have hbi : (b : Int) < 60 := by omega
  by_cases h1 : x0 = (a : Int)
  · have d1 : (x0 == (a : Int)) = true := by simpa using h1
    by_cases h2 : k + 1 < l.length
    · have h2i : (k : Int) + 1 < (l.length : Int) := by omega
      have d2 : decide ((k : Int) + 1 < (l.length : Int)) = true := by simpa using h2i
      obtain ⟨b2, off2, e2, q1⟩ := irow_at hI1 (k := k + 1) (by omega)
      obtain ⟨rfl, rfl⟩ : b0 = b2 ∧ off0 = off2 := by simpa using e2
      have hs := hsym (k + 1) (by omega)
      obtain ⟨x1, hx1⟩ : ∃ x1, l.getD (k + 1) 0 = x1 := ⟨_, rfl⟩
      rw [hx1] at q1 hs
      by_cases h3 : x1 < 0
      · have d3 : decide (x1 < 0) = true := by simpa using h3
        obtain ⟨m, hm⟩ : ∃ m : Nat, -1 - x1 = (m : Int) := ⟨(-1 - x1).toNat, by omega⟩
        have hmN : m < N := by omega
        have hmi : (m : Int) < (N : Int) := by omega
        obtain ⟨b3, off3, rfl, q3⟩ := hL1 m hmN
        obtain rfl : x1 = -1 - (m : Int) := by omega
        have em : (-1 - (-1 - (m : Int))) = (m : Int) := by omega
        have hVm := hV m hmN
        have hsb := shr_bit (V := VL m) (m := b) (by omega) (by omega)
        have E : Hid (hasB (VL m : Int) (b : Int) = atB VL VR l k a b 1) := by
          show _ = _
          rw [Bool.eq_iff_iff, atB_iff]
          unfold atP ntAt
          rw [hx0, hx1, em, Int.toNat_natCast]
          constructor
          · intro h; exact .inl ⟨rfl, h1, h2, h3, h⟩
          · rintro (⟨_, _, _, _, h⟩ | ⟨h, _⟩ | ⟨h, _⟩)
            · exact h
            · omega
            · omega
        rw [hW1] at hB1 q0 q1 q3
        clear h1 hx0 hx1 hW1 hm hI1 hL1
        go_enter Tryz.func62, Tryz.ntmps62
        go_wp2
        go_ret
        exact ⟨SetsOne.ret_bool E.out, hB1⟩
      · have d3 : decide (x1 < 0) = false := by simpa using h3
        have E : Hid (atB VL VR l k a b 1 = false) := atB_f (by
          unfold atP
          rintro (⟨h, k1, k2, k3, _⟩ | ⟨h, _⟩ | ⟨h, k1, k2, k3, _⟩)
          · rw [hx1] at k3; exact h3 k3
          · omega
          · omega)
        rw [hW1] at hB1 q0 q1
        clear h1 hx0 hx1 hW1 hI1 hL1
        go_enter Tryz.func62, Tryz.ntmps62
        go_wp2
        go_ret
        exact ⟨SetsOne.ret_bool E.out.symm, hB1⟩
    · have h2i : ¬ (k : Int) + 1 < (l.length : Int) := by omega
      have d2 : decide ((k : Int) + 1 < (l.length : Int)) = false := by simpa using h2i
      have E : Hid (atB VL VR l k a b 1 = false) := atB_f (by
        unfold atP
        rintro (⟨h, k1, k2, k3, _⟩ | ⟨h, _⟩ | ⟨h, k1, k2, k3, _⟩)
        · exact h2 k2
        · omega
        · omega)
      rw [hW1] at hB1 q0
      clear h1 hx0 hW1 hI1 hL1
      go_enter Tryz.func62, Tryz.ntmps62
      go_wp2
      go_ret
      exact ⟨SetsOne.ret_bool E.out.symm, hB1⟩
  · have d1 : (x0 == (a : Int)) = false := by simpa using h1
    have E : Hid (atB VL VR l k a b 1 = false) := atB_f (by
      unfold atP
      rintro (⟨h, k1, k2, k3, _⟩ | ⟨h, _⟩ | ⟨h, k1, k2, k3, _⟩)
      · exact h1 (hx0.symm.trans k1)
      · omega
      · omega)
    rw [hW1] at hB1 q0
    clear h1 hx0 hW1 hI1 hL1
    go_enter Tryz.func62, Tryz.ntmps62
    go_wp2
    go_ret
    exact ⟨SetsOne.ret_bool E.out.symm, hB1⟩

set_option maxRecDepth 100000 in
set_option maxHeartbeats 4000000 in
theorem rholds_take (ta na ra : Option Addr) (tc nc rc : Nat) (g : G) (La Ra : Option Addr) (N cl cr : Nat) (VL VR : Nat → Nat) (qa : Option Addr) (qc : Nat) (l : List Int) (k : Nat) (a b : Nat) (w : World) (hI : IRow w qa l) (hl : l.length ≤ 32) (hk : k < l.length) (hL : URow w Ra N VR) (hsym : ∀ j, j < l.length → -1 - l.getD j 0 < N) (hN : N ≤ 60) (hV : ∀ i, i < N → VR i < 1152921504606846976) (hb : a < 60) :
    Calls Tryz.prog 62 #[.agg #[.slice ta g.ts.length tc, .slice na g.ns.length nc, .int .i64 g.ax, .slice ra g.rs.length rc], .slice La N cl, .slice Ra N cr, .slice qa l.length qc, .int .i64 (k : Int), .int .i64 (a : Int), .int .i64 (b : Int), .int .i64 3] w fun e w' => e = .returned (.bool (atB VL VR l k a b 3)) ∧ Below w.heap.size w w' := by
  obtain ⟨W1, hW1⟩ : ∃ W1, W1 = w.alloc (.cells #[.slice ta g.ts.length tc, .slice na g.ns.length nc, .int .i64 g.ax, .slice ra g.rs.length rc] 25) := ⟨_, rfl⟩
  have hB1 : Below w.heap.size w W1 := by rw [hW1]; exact (Below.refl _ _).alloc (Nat.le_refl _) _
  have hI1 := hI.below hB1 (Nat.le_refl _)
  have hL1 := hL.below hB1 (Nat.le_refl _)
  obtain ⟨b0, off0, rfl, q0⟩ := irow_at hI1 hk
  obtain ⟨x0, hx0⟩ : ∃ x0, l.getD k 0 = x0 := ⟨_, rfl⟩
  rw [hx0] at q0
  have hki : (k : Int) < (l.length : Int) := by omega
  have hbi : (a : Int) < 60 := by omega
  by_cases h1 : x0 = (b : Int)
  · have d1 : (x0 == (b : Int)) = true := by simpa using h1
    by_cases h2 : 0 < k
    · have h2i : 0 < (k : Int) := by omega
      have d2 : decide (0 < (k : Int)) = true := by simpa using h2i
      obtain ⟨b2, off2, e2, q1⟩ := irow_at hI1 (k := k - 1) (by omega)
      obtain ⟨rfl, rfl⟩ : b0 = b2 ∧ off0 = off2 := by simpa using e2
      have hs := hsym (k - 1) (by omega)
      obtain ⟨x1, hx1⟩ : ∃ x1, l.getD (k - 1) 0 = x1 := ⟨_, rfl⟩
      rw [hx1] at q1 hs
      have ek : ((k : Int) - 1) = ((k - 1 : Nat) : Int) := by omega
      by_cases h3 : x1 < 0
      · have d3 : decide (x1 < 0) = true := by simpa using h3
        obtain ⟨m, hm⟩ : ∃ m : Nat, -1 - x1 = (m : Int) := ⟨(-1 - x1).toNat, by omega⟩
        have hmN : m < N := by omega
        have hmi : (m : Int) < (N : Int) := by omega
        obtain ⟨b3, off3, rfl, q3⟩ := hL1 m hmN
        obtain rfl : x1 = -1 - (m : Int) := by omega
        have em : (-1 - (-1 - (m : Int))) = (m : Int) := by omega
        have hVm := hV m hmN
        have hsb := shr_bit (V := VR m) (m := a) (by omega) (by omega)
        have E : Hid (hasB (VR m : Int) (a : Int) = atB VL VR l k a b 3) := by
          show _ = _
          rw [Bool.eq_iff_iff, atB_iff]
          unfold atP ntAt
          rw [hx0, hx1, em, Int.toNat_natCast]
          constructor
          · intro h; exact .inr (.inr ⟨rfl, h1, h2, h3, h⟩)
          · rintro (⟨h, _⟩ | ⟨h, _⟩ | ⟨_, _, _, _, h⟩)
            · omega
            · omega
            · exact h
        rw [hW1] at hB1 q0 q1 q3
        clear h1 hx0 hx1 hW1 hm hI1 hL1
        go_enter Tryz.func62, Tryz.ntmps62
        go_wp2
        go_ret
        exact ⟨SetsOne.ret_bool E.out, hB1⟩
      · have d3 : decide (x1 < 0) = false := by simpa using h3
        have E : Hid (atB VL VR l k a b 3 = false) := atB_f (by
          unfold atP
          rintro (⟨h, k1, k2, k3, _⟩ | ⟨h, _⟩ | ⟨h, k1, k2, k3, _⟩)
          · omega
          · omega
          · rw [hx1] at k3; exact h3 k3)
        rw [hW1] at hB1 q0 q1
        clear h1 hx0 hx1 hW1 hI1 hL1
        go_enter Tryz.func62, Tryz.ntmps62
        go_wp2
        go_ret
        exact ⟨SetsOne.ret_bool E.out.symm, hB1⟩
    · have h2i : ¬ 0 < (k : Int) := by omega
      have d2 : decide (0 < (k : Int)) = false := by simpa using h2i
      have E : Hid (atB VL VR l k a b 3 = false) := atB_f (by
        unfold atP
        rintro (⟨h, k1, k2, k3, _⟩ | ⟨h, _⟩ | ⟨h, k1, k2, k3, _⟩)
        · omega
        · omega
        · exact h2 k2)
      rw [hW1] at hB1 q0
      clear h1 hx0 hW1 hI1 hL1
      go_enter Tryz.func62, Tryz.ntmps62
      go_wp2
      go_ret
      exact ⟨SetsOne.ret_bool E.out.symm, hB1⟩
  · have d1 : (x0 == (b : Int)) = false := by simpa using h1
    have E : Hid (atB VL VR l k a b 3 = false) := atB_f (by
      unfold atP
      rintro (⟨h, k1, k2, k3, _⟩ | ⟨h, _⟩ | ⟨h, k1, k2, k3, _⟩)
      · omega
      · omega
      · exact h1 (hx0.symm.trans k1))
    rw [hW1] at hB1 q0
    clear h1 hx0 hW1 hI1 hL1
    go_enter Tryz.func62, Tryz.ntmps62
    go_wp2
    go_ret
    exact ⟨SetsOne.ret_bool E.out.symm, hB1⟩

set_option maxRecDepth 100000 in
set_option maxHeartbeats 4000000 in
theorem rholds_eq (ta na ra : Option Addr) (tc nc rc : Nat) (g : G) (La Ra : Option Addr) (N cl cr : Nat) (VL VR : Nat → Nat) (qa : Option Addr) (qc : Nat) (l : List Int) (k : Nat) (a b : Nat) (w : World) (hI : IRow w qa l) (hl : l.length ≤ 32) (hk : k < l.length) :
    Calls Tryz.prog 62 #[.agg #[.slice ta g.ts.length tc, .slice na g.ns.length nc, .int .i64 g.ax, .slice ra g.rs.length rc], .slice La N cl, .slice Ra N cr, .slice qa l.length qc, .int .i64 (k : Int), .int .i64 (a : Int), .int .i64 (b : Int), .int .i64 2] w fun e w' => e = .returned (.bool (atB VL VR l k a b 2)) ∧ Below w.heap.size w w' := by
  obtain ⟨W1, hW1⟩ : ∃ W1, W1 = w.alloc (.cells #[.slice ta g.ts.length tc, .slice na g.ns.length nc, .int .i64 g.ax, .slice ra g.rs.length rc] 25) := ⟨_, rfl⟩
  have hB1 : Below w.heap.size w W1 := by rw [hW1]; exact (Below.refl _ _).alloc (Nat.le_refl _) _
  have hI1 := hI.below hB1 (Nat.le_refl _)
  have hne := near_any qa qc l k b W1 hI1 hl hk
  obtain ⟨b0, off0, rfl, q0⟩ := irow_at hI1 hk
  obtain ⟨x0, hx0⟩ : ∃ x0, l.getD k 0 = x0 := ⟨_, rfl⟩
  rw [hx0] at q0
  have hki : (k : Int) < (l.length : Int) := by omega
  by_cases h1 : x0 = (a : Int)
  · have d1 : (x0 == (a : Int)) = true := by simpa using h1
    have E : Hid (nearB l k b = atB VL VR l k a b 2) := by
      show _ = _
      rw [Bool.eq_iff_iff, atB_iff, nearB_iff]
      unfold atP
      rw [hx0]
      constructor
      · intro h; exact .inr (.inl ⟨rfl, h1, h⟩)
      · rintro (⟨h, _⟩ | ⟨_, _, h⟩ | ⟨h, _⟩)
        · omega
        · exact h
        · omega
    rw [hW1] at hB1 q0 hne
    clear h1 hx0 hW1 hI1
    go_enter Tryz.func62, Tryz.ntmps62
    go_wp2_with fail
    refine hne.mono ?_
    rintro e w2 ⟨rfl, hw2⟩
    obtain rfl := hw2.symm
    clear hne
    go_wp2
    go_ret
    exact ⟨SetsOne.ret_bool E.out, hB1⟩
  · have d1 : (x0 == (a : Int)) = false := by simpa using h1
    have E : Hid (atB VL VR l k a b 2 = false) := atB_f (by
      unfold atP
      rintro (⟨h, _⟩ | ⟨_, h, _⟩ | ⟨h, _⟩)
      · omega
      · exact h1 (hx0.symm.trans h)
      · omega)
    rw [hW1] at hB1 q0
    clear h1 hx0 hW1 hI1 hne
    go_enter Tryz.func62, Tryz.ntmps62
    go_wp2
    go_ret
    exact ⟨SetsOne.ret_bool E.out.symm, hB1⟩

end Go.Proofs.YtigepihinflkdaaGreatDoor.MatrixRHolds

namespace Go.Proofs.YtigepihinflkdaaGreatDoor.MatrixRHolds
open Go.RowKit Go.Proofs.YtigepihinflkdaaGreatDoor.GramMath Go.Proofs.YtigepihinflkdaaGreatDoor.GramRow Go.Proofs.YtigepihinflkdaaGreatDoor.GramApart Go.Proofs.YtigepihinflkdaaGreatDoor.GramAwake Go.Proofs.YtigepihinflkdaaGreatDoor.SetsMath Go.Proofs.YtigepihinflkdaaGreatDoor.UsefulMath Go.Proofs.YtigepihinflkdaaGreatDoor.MatrixMath Go.Proofs.YtigepihinflkdaaGreatDoor.MatrixKeep Go.Proofs.YtigepihinflkdaaGreatDoor.EndsMath Go.Proofs.YtigepihinflkdaaGreatDoor.EndsFn Go.Proofs.YtigepihinflkdaaGreatDoor.MatrixRMath
set_option linter.unusedVariables false
set_option linter.unusedSimpArgs false

/-- The first place, if there is one. -/
def PlaceR (VL VR : Nat → Nat) (g : G) (a b x i at_ : Int) (ok : Bool) : Prop :=
  (ok = true ∧ ∃ f, firstF x a b (findsF VL VR g) = some f ∧ f.p.rule = i ∧ f.p.at_ = at_) ∨ (ok = false ∧ firstF x a b (findsF VL VR g) = none)

theorem rholds_any (ta na ra : Option Addr) (tc nc rc : Nat) (g : G) (La Ra : Option Addr) (N cl cr : Nat) (VL VR : Nat → Nat) (qa : Option Addr) (qc : Nat) (l : List Int) (k : Nat) (a b : Nat) (x : Int) (w : World) (hI : IRow w qa l) (hl : l.length ≤ 32) (hk : k < l.length) (hL : URow w La N VL) (hR : URow w Ra N VR) (hsym : ∀ j, j < l.length → -1 - l.getD j 0 < N) (hN : N ≤ 60) (hV : ∀ i, i < N → VL i < 1152921504606846976) (hV' : ∀ i, i < N → VR i < 1152921504606846976) (ha : a < 60) (hb : b < 60) (hx : x = 1 ∨ x = 2 ∨ x = 3) :
    Calls Tryz.prog 62 #[.agg #[.slice ta g.ts.length tc, .slice na g.ns.length nc, .int .i64 g.ax, .slice ra g.rs.length rc], .slice La N cl, .slice Ra N cr, .slice qa l.length qc, .int .i64 (k : Int), .int .i64 (a : Int), .int .i64 (b : Int), .int .i64 x] w fun e w' => e = .returned (.bool (atB VL VR l k a b x)) ∧ Below w.heap.size w w' := by
  rcases hx with rfl | rfl | rfl
  · exact rholds_yield ta na ra tc nc rc g La Ra N cl cr VL VR qa qc l k a b w hI hl hk hL hsym hN hV hb
  · exact rholds_eq ta na ra tc nc rc g La Ra N cl cr VL VR qa qc l k a b w hI hl hk
  · exact rholds_take ta na ra tc nc rc g La Ra N cl cr VL VR qa qc l k a b w hI hl hk hR hsym hN hV' ha

set_option maxRecDepth 100000 in
set_option maxHeartbeats 8000000 in
theorem rplace_any (ta na ra : Option Addr) (tc nc rc : Nat) (g : G) (La Ra : Option Addr) (cl cr : Nat) (VL VR : Nat → Nat) (a b : Nat) (x : Int) (w : World) (hRR : RRow w ra g.rs) (hg : GoodG g) (hL : URow w La g.ns.length VL) (hR : URow w Ra g.ns.length VR) (heL : IsEnds false g VL) (heR : IsEnds true g VR) (ha : a ≤ g.ts.length) (hb : b ≤ g.ts.length) (hx : x = 1 ∨ x = 2 ∨ x = 3) :
    Calls Tryz.prog 38 #[.agg #[.slice ta g.ts.length tc, .slice na g.ns.length nc, .int .i64 g.ax, .slice ra g.rs.length rc], .slice La g.ns.length cl, .slice Ra g.ns.length cr, .int .i64 (a : Int), .int .i64 (b : Int), .int .i64 x] w fun e w' => (∃ i at_ ok, e = .returned (.tuple #[.int .i64 i, .int .i64 at_, .bool ok]) ∧ PlaceR VL VR g a b x i at_ ok) ∧ Below w.heap.size w w' := by
  have hfew := hg.few
  have hax0 := hg.ax0
  have hax1 := hg.ax1
  have hVL : ∀ i, i < g.ns.length → VL i < 1152921504606846976 := fun i hi => ends_small hg heL.inv hi
  have hVR : ∀ i, i < g.ns.length → VR i < 1152921504606846976 := fun i hi => ends_small hg heR.inv hi
  obtain ⟨W1, hW1⟩ : ∃ W1, W1 = w.alloc (.cells #[.slice ta g.ts.length tc, .slice na g.ns.length nc, .int .i64 g.ax, .slice ra g.rs.length rc] 25) := ⟨_, rfl⟩
  have hB1 : Below w.heap.size w W1 := by rw [hW1]; exact (Below.refl _ _).alloc (Nat.le_refl _) _
  have hbx : RowAt W1 w.heap.size 25 #[.slice ta g.ts.length tc, .slice na g.ns.length nc, .int .i64 g.ax, .slice ra g.rs.length rc] := by rw [hW1]; exact heap_new _ _
  have hL1 := hL.below hB1 (Nat.le_refl _)
  have hR1 := hR.below hB1 (Nat.le_refl _)
  have g0 := hbx.cell (q := 0) rfl
  have g2 := hbx.cell (q := 2) rfl
  have hax : g.ax.toNat < g.ns.length := by omega
  obtain ⟨bl, ol, rfl, cL⟩ := hL1 g.ax.toNat hax
  obtain ⟨br, oR, rfl, cR⟩ := hR1 g.ax.toNat hax
  have hvl := hVL g.ax.toNat hax
  have hvr := hVR g.ax.toNat hax
  by_cases hT : a = g.ts.length ∨ b = g.ts.length
  · have hfe := first_end (x := x) (a := a) (b := b) hg heL heR (by omega)
    by_cases h1 : a = g.ts.length
    · have d1 : ((a : Int) == (g.ts.length : Int)) = true := by rw [beq_iff_eq]; omega
      by_cases h2 : b < g.ts.length
      · have h2i : (b : Int) < (g.ts.length : Int) := by omega
        have d2 : decide ((b : Int) < (g.ts.length : Int)) = true := by simpa using h2i
        have hsb := shr_bit (V := VL g.ax.toNat) (m := b) (by omega) (by omega)
        rcases hx with rfl | rfl | rfl
        · have E : Hid (PlaceR VL VR g a b 1 (-1) 0 (hasB (VL g.ax.toNat) b)) := by
            rcases hfe with ⟨f, hf, hp, h3⟩ | ⟨hf, h3, h4⟩
            · have h5 : hasB (VL g.ax.toNat) b = true := by rcases h3 with ⟨_, _, h⟩ | ⟨h, _⟩; exact h; omega
              exact .inl ⟨h5, f, hf, by rw [hp], by rw [hp]⟩
            · have h5 : hasB (VL g.ax.toNat) b = false := by
                cases hh : hasB (VL g.ax.toNat) b with
                | false => rfl
                | true => exact absurd ⟨rfl, by omega, hh⟩ h3
              exact .inr ⟨h5, hf⟩
          rw [hW1] at hB1 g0 g2 cL
          clear hfe hW1 hT
          go_enter Tryz.func38, Tryz.ntmps38
          go_wp2
          go_quiet (fail)
          go_wp2
          refine bodyPost_ret (v := .tuple #[.int .i64 (-1), .int .i64 (0), .bool (hasB (VL g.ax.toNat) b)]) (by simp [results, Tryz.results38, go_sem]; try rfl) rfl ?_
          first | exact ⟨⟨_, _, _, rfl, E.out⟩, GramRow.bdrew hB1 _⟩ | exact ⟨⟨_, _, .inl ⟨rfl, E.out⟩⟩, GramRow.bdrew hB1 _⟩
        · have E : Hid (PlaceR VL VR g a b 2 (-1) 0 false) := by
            rcases hfe with ⟨f, hf, hp, h3⟩ | ⟨hf, h3, h4⟩
            · rcases h3 with ⟨h, h6, _⟩ | ⟨h, h6, _⟩ <;> omega
            · exact .inr ⟨rfl, hf⟩
          rw [hW1] at hB1 g0 g2 cL
          clear hfe hW1 hT
          go_enter Tryz.func38, Tryz.ntmps38
          go_wp2
          go_quiet (fail)
          go_wp2
          refine bodyPost_ret (v := .tuple #[.int .i64 (-1), .int .i64 (0), .bool (false)]) (by simp [results, Tryz.results38, go_sem]; try rfl) rfl ?_
          first | exact ⟨⟨_, _, _, rfl, E.out⟩, GramRow.bdrew hB1 _⟩ | exact ⟨⟨_, _, .inl ⟨rfl, E.out⟩⟩, GramRow.bdrew hB1 _⟩
        · have E : Hid (PlaceR VL VR g a b 3 (-1) 0 false) := by
            rcases hfe with ⟨f, hf, hp, h3⟩ | ⟨hf, h3, h4⟩
            · rcases h3 with ⟨h, h6, _⟩ | ⟨h, h6, _⟩ <;> omega
            · exact .inr ⟨rfl, hf⟩
          rw [hW1] at hB1 g0 g2 cL
          clear hfe hW1 hT
          go_enter Tryz.func38, Tryz.ntmps38
          go_wp2
          go_quiet (fail)
          go_wp2
          refine bodyPost_ret (v := .tuple #[.int .i64 (-1), .int .i64 (0), .bool (false)]) (by simp [results, Tryz.results38, go_sem]; try rfl) rfl ?_
          first | exact ⟨⟨_, _, _, rfl, E.out⟩, GramRow.bdrew hB1 _⟩ | exact ⟨⟨_, _, .inl ⟨rfl, E.out⟩⟩, GramRow.bdrew hB1 _⟩
      · have h2i : ¬ (b : Int) < (g.ts.length : Int) := by omega
        have d2 : decide ((b : Int) < (g.ts.length : Int)) = false := by simpa using h2i
        have d3 : ((b : Int) == (g.ts.length : Int)) = true := by rw [beq_iff_eq]; omega
        have d4 : decide ((a : Int) < (g.ts.length : Int)) = false := by simp; omega
        have h4i : ¬ (a : Int) < (g.ts.length : Int) := by omega
        have E : Hid (PlaceR VL VR g a b x 0 0 false) := by
          rcases hfe with ⟨f, hf, hp, h3⟩ | ⟨hf, h3, h4⟩
          · have hok := (finds_ok hg heL heR (MatrixWhyMath.first_in hf).1)
            have hii := (finds_iff hg heL heR).1 ⟨f, (MatrixWhyMath.first_in hf).1, (MatrixWhyMath.first_in hf).2⟩
            have hre := MatrixReasonsMath.rel_end hg (t := (g.ts.length : Int))
            have ea : (a : Int) = g.ts.length := by omega
            have eb : (b : Int) = g.ts.length := by omega
            rw [ea, eb] at hii
            rcases h3 with ⟨rfl, _⟩ | ⟨rfl, _⟩
            · exact absurd hii hre.2.2.1
            · exact absurd hii hre.2.1
          · exact .inr ⟨rfl, hf⟩
        rw [hW1] at hB1 g0 g2
        clear hfe hW1 hT h1 h2 ha hb
        go_enter Tryz.func38, Tryz.ntmps38
        go_wp2
        refine bodyPost_ret (v := .tuple #[.int .i64 (0), .int .i64 (0), .bool (false)]) (by simp [results, Tryz.results38, go_sem]; try rfl) rfl ?_
        first | exact ⟨⟨_, _, _, rfl, E.out⟩, hB1⟩ | exact ⟨⟨_, _, .inl ⟨rfl, E.out⟩⟩, hB1⟩
    · have d1 : ((a : Int) == (g.ts.length : Int)) = false := by rw [beq_eq_false_iff_ne]; omega
      have d3 : ((b : Int) == (g.ts.length : Int)) = true := by rw [beq_iff_eq]; omega
      have h4i : (a : Int) < (g.ts.length : Int) := by omega
      have d4 : decide ((a : Int) < (g.ts.length : Int)) = true := by simpa using h4i
      have hsb := shr_bit (V := VR g.ax.toNat) (m := a) (by omega) (by omega)
      rcases hx with rfl | rfl | rfl
      · have E : Hid (PlaceR VL VR g a b 1 (-1) 0 false) := by
          rcases hfe with ⟨f, hf, hp, h3⟩ | ⟨hf, h3, h4⟩
          · rcases h3 with ⟨h, h6, _⟩ | ⟨h, h6, _⟩ <;> omega
          · exact .inr ⟨rfl, hf⟩
        rw [hW1] at hB1 g0 g2 cR
        clear hfe hW1 hT
        go_enter Tryz.func38, Tryz.ntmps38
        go_wp2
        go_quiet (fail)
        go_wp2
        refine bodyPost_ret (v := .tuple #[.int .i64 (-1), .int .i64 (0), .bool (false)]) (by simp [results, Tryz.results38, go_sem]; try rfl) rfl ?_
        first | exact ⟨⟨_, _, _, rfl, E.out⟩, GramRow.bdrew hB1 _⟩ | exact ⟨⟨_, _, .inl ⟨rfl, E.out⟩⟩, GramRow.bdrew hB1 _⟩
      · have E : Hid (PlaceR VL VR g a b 2 (-1) 0 false) := by
          rcases hfe with ⟨f, hf, hp, h3⟩ | ⟨hf, h3, h4⟩
          · rcases h3 with ⟨h, h6, _⟩ | ⟨h, h6, _⟩ <;> omega
          · exact .inr ⟨rfl, hf⟩
        rw [hW1] at hB1 g0 g2 cR
        clear hfe hW1 hT
        go_enter Tryz.func38, Tryz.ntmps38
        go_wp2
        go_quiet (fail)
        go_wp2
        refine bodyPost_ret (v := .tuple #[.int .i64 (-1), .int .i64 (0), .bool (false)]) (by simp [results, Tryz.results38, go_sem]; try rfl) rfl ?_
        first | exact ⟨⟨_, _, _, rfl, E.out⟩, GramRow.bdrew hB1 _⟩ | exact ⟨⟨_, _, .inl ⟨rfl, E.out⟩⟩, GramRow.bdrew hB1 _⟩
      · have E : Hid (PlaceR VL VR g a b 3 (-1) 0 (hasB (VR g.ax.toNat) a)) := by
          rcases hfe with ⟨f, hf, hp, h3⟩ | ⟨hf, h3, h4⟩
          · have h5 : hasB (VR g.ax.toNat) a = true := by rcases h3 with ⟨h, _⟩ | ⟨_, _, h⟩; omega; exact h
            exact .inl ⟨h5, f, hf, by rw [hp], by rw [hp]⟩
          · have h5 : hasB (VR g.ax.toNat) a = false := by
              cases hh : hasB (VR g.ax.toNat) a with
              | false => rfl
              | true => exact absurd ⟨rfl, by omega, hh⟩ h4
            exact .inr ⟨h5, hf⟩
        rw [hW1] at hB1 g0 g2 cR
        clear hfe hW1 hT
        go_enter Tryz.func38, Tryz.ntmps38
        go_wp2
        go_quiet (fail)
        go_wp2
        refine bodyPost_ret (v := .tuple #[.int .i64 (-1), .int .i64 (0), .bool (hasB (VR g.ax.toNat) a)]) (by simp [results, Tryz.results38, go_sem]; try rfl) rfl ?_
        first | exact ⟨⟨_, _, _, rfl, E.out⟩, GramRow.bdrew hB1 _⟩ | exact ⟨⟨_, _, .inl ⟨rfl, E.out⟩⟩, GramRow.bdrew hB1 _⟩
  · have d1 : ((a : Int) == (g.ts.length : Int)) = false := by rw [beq_eq_false_iff_ne]; omega
    have d3 : ((b : Int) == (g.ts.length : Int)) = false := by rw [beq_eq_false_iff_ne]; omega
    have ha2 : 0 ≤ (a : Int) ∧ (a : Int) < g.ts.length := by omega
    have hb2 : 0 ≤ (b : Int) ∧ (b : Int) < g.ts.length := by omega
    have HRR : Hid (RRow w ra g.rs) := hRR
    have HLb : Hid (∀ W, Below w.heap.size w W → URow W (some ⟨bl, ol, none⟩) g.ns.length VL ∧ URow W (some ⟨br, oR, none⟩) g.ns.length VR) := fun W h => ⟨hL.below h (Nat.le_refl _), hR.below h (Nat.le_refl _)⟩
    have HV : Hid (_) := hVL
    have HV' : Hid (_) := hVR
    have Hg : Hid (GoodG g) := hg
    have hrl := hg.rules
    have Hbx : Hid (RowAt W1 w.heap.size 25 #[.slice ta g.ts.length tc, .slice na g.ns.length nc, .int .i64 g.ax, .slice ra g.rs.length rc]) := hbx
    rw [hW1] at g0
    have HW1 : Hid (_) := hW1
    clear hW1 hRR hL hR hVL hVR hT cL cR g2 hL1 hR1
    go_enter Tryz.func38, Tryz.ntmps38
    go_wp2_with fail
    rw [← HW1.out]
    clear HW1 g0
    go_loopw [16] (fun i wr => ∃ k : Nat, k ≤ g.rs.length ∧ i = .int .i64 k ∧ Hid (firstF x a b (rulesF VL VR g.rs k) = none) ∧ Below W1.heap.size W1 wr) (fun i _ => g.rs.length - (intOf i).toNat)
    case atStart => exact ⟨0, by omega, rfl, (by show _ = _; rfl), Below.refl _ _⟩
    case round =>
      obtain ⟨i, hi, rfl, hno, hBr⟩ := hrel
      have hbx1 := Hbx.out.below hBr Hbx.out.lt
      have g3 := hbx1.cell (q := 3) rfl
      by_cases hlt : i < g.rs.length
      · have hlt2 : (i : Int) < (g.rs.length : Int) := by omega
        obtain ⟨r, hr, hrk, hro⟩ := rightOf_mem hlt
        have hBw : Below w.heap.size w wr := hB1.trans (hBr.mono hB1.size)
        obtain ⟨b1, off1, qa, qc, hra, e0, e1, hIq⟩ := (HRR.out.below hBw (Nat.le_refl _)) i r hrk
        subst hra
        have h32 := (ruleK_ok (Hg.out.each r hr)).1
        have Hsy : Hid (∀ j, j < r.right.length → -1 - r.right.getD j 0 < g.ns.length) := fun j hj => by
          have := side_sym Hg.out hlt (k := j) (by rw [hro]; exact hj)
          rw [hro] at this
          omega
        have Hro : Hid (rightOf g.rs i = r.right) := hro
        obtain ⟨l, hl⟩ : ∃ l, r.right = l := ⟨_, rfl⟩
        rw [hl] at e1 hIq h32 Hsy Hro
        obtain ⟨wi, hwi⟩ : ∃ wi, wi = wr := ⟨_, rfl⟩
        clear hro hrk hl
        go_wp2_with fail
        rw [← hwi] at hBr hBw hIq ⊢
        clear g3 e0 e1 hwi hbx1
        go_loopw [18] (fun i2 wr2 => ∃ j : Nat, j ≤ l.length ∧ i2 = .int .i64 j ∧ Hid (firstF x a b (sideF VL VR i l j) = none) ∧ Below wi.heap.size wi wr2) (fun i2 _ => l.length - (intOf i2).toNat)
        case atStart => exact ⟨0, by omega, rfl, (by show _ = _; rfl), Below.refl _ _⟩
        case round =>
          obtain ⟨j, hj, rfl, hnj, hBj⟩ := hrel
          by_cases hjl : j < l.length
          · have hjl2 : (j : Int) < (l.length : Int) := by omega
            have hBj1 := hBr.trans (hBj.mono hBr.size)
            have hbx2 := Hbx.out.below hBj1 Hbx.out.lt
            have k0 := hbx2.cell (q := 0) rfl
            have k1 := hbx2.cell (q := 1) rfl
            have k2 := hbx2.cell (q := 2) rfl
            have k3 := hbx2.cell (q := 3) rfl
            have hBjw := hBw.trans (hBj.mono hBw.size)
            obtain ⟨hL3, hR3⟩ := HLb.out _ hBjw
            have hho := rholds_any ta na (some ⟨b1, off1, none⟩) tc nc rc g _ _ g.ns.length cl cr VL VR qa qc l j a b x wr (hIq.below hBj (Nat.le_refl _)) h32 hjl hL3 hR3 Hsy.out (by omega) HV.out HV'.out (by omega) (by omega) hx
            cases hv : atB VL VR l j a b x with
            | true =>
              rw [hv] at hho
              have hfa := first_at (x := x) ha2 hb2 hlt (by rw [Hro.out]; exact hjl) hno.out (by rw [Hro.out]; exact hnj.out) (by rw [Hro.out]; exact atB_iff.1 hv)
              have E : Hid (PlaceR VL VR g a b x i j true) := .inl ⟨rfl, hfa⟩
              clear hfa hv hno hnj hL3 hR3
              go_wp2_with fail
              refine hho.mono ?_
              rintro e w3 ⟨rfl, hb3⟩
              have hB9 := hBjw.trans (hb3.mono hBjw.size)
              clear hho
              go_wp2
              refine bodyPost_ret (v := .tuple #[.int .i64 (i), .int .i64 (j), .bool (true)]) (by simp [results, Tryz.results38, go_sem]; try rfl) rfl ?_
              first | exact ⟨⟨_, _, _, rfl, E.out⟩, hB9⟩ | exact ⟨⟨_, _, .inl ⟨rfl, E.out⟩⟩, hB9⟩
            | false =>
              rw [hv] at hho
              have hn2 : Hid (firstF x a b (sideF VL VR i l (j + 1)) = none) := by
                show _ = _
                rw [sideF, first_app hnj.out, first_none_iff]
                intro hf
                have := (atP_iff ha2.1 hb2.1).1 hf
                rw [atB_iff.2 this] at hv
                cases hv
              clear hv hnj hL3 hR3
              go_wp2_with fail
              refine hho.mono ?_
              rintro e w3 ⟨rfl, hb3⟩
              have hB9 := hBj.trans (hb3.mono hBj.size)
              clear hho
              go_wp2
              go_roundw
              case rel => exact ⟨j + 1, by omega, by go_num, hn2, hB9⟩
              case measure => simp [intOf]; omega
          · obtain rfl : j = l.length := by omega
            have hnl : ¬ (l.length : Int) < (l.length : Int) := by omega
            have hn2 : Hid (firstF x a b (rulesF VL VR g.rs (i + 1)) = none) := by
              show _ = _
              rw [rulesF, Hro.out, first_app hno.out]
              exact hnj.out
            go_wp2
            go_roundw
            case rel => exact ⟨i + 1, by omega, by go_num, hn2, hBr.trans (hBj.mono hBr.size)⟩
            case measure => simp [intOf]; omega
      · obtain rfl : i = g.rs.length := by omega
        have hnl : ¬ (g.rs.length : Int) < (g.rs.length : Int) := by omega
        have E : Hid (PlaceR VL VR g a b x 0 0 false) := .inr ⟨rfl, first_no ha2 hb2 hno.out⟩
        have hB9 := hB1.trans (hBr.mono hB1.size)
        clear hno
        go_wp2
        refine bodyPost_ret (v := .tuple #[.int .i64 (0), .int .i64 (0), .bool (false)]) (by simp [results, Tryz.results38, go_sem]; try rfl) rfl ?_
        first | exact ⟨⟨_, _, _, rfl, E.out⟩, hB9⟩ | exact ⟨⟨_, _, .inl ⟨rfl, E.out⟩⟩, hB9⟩

end Go.Proofs.YtigepihinflkdaaGreatDoor.MatrixRHolds
