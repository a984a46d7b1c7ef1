/-
  The walk of SetsOrder: it answers true for every two sets, and writes nothing that was there.
-/
import Derived.Test.YtkjjdmdlkdoedaaDoorSetsLawsWalk
import Derived.Test.YtkjjdmdlkdoedaaDoorSetsOrderMath
namespace Go.Proofs.YtkjjdmdlkdoedaaDoor.SetsOrderW
open Go.RowKit Go.Proofs.YtkjjdmdlkdoedaaDoor.SetsMath Go.Proofs.YtkjjdmdlkdoedaaDoor.SetsOne Go.Proofs.YtkjjdmdlkdoedaaDoor.SetsMany Go.Proofs.YtkjjdmdlkdoedaaDoor.SetsAlg Go.Proofs.YtkjjdmdlkdoedaaDoor.SetsEach Go.Proofs.YtkjjdmdlkdoedaaDoor.SetsKnown Go.Proofs.YtkjjdmdlkdoedaaDoor.SetsLawsW

set_option maxRecDepth 100000 in
set_option maxHeartbeats 8000000 in
theorem walk (s t : Int) (w : World) (hs : IsSet s) (ht : IsSet t) (hT : Tab w) (hG : 0 < w.heap.size) :
    Calls Tryd.prog 6 #[.int .u64 s, .int .u64 t] w fun e w' => e = .returned (.bool true) ∧ Below w.heap.size w w' := by
  have hle := numsI_le s 64
  go_enter Tryd.func6, Tryd.ntmps6
  go_wp2_with fail
  refine (known2 _ hT hG).mono ?_
  rintro e w1 ⟨rfl, hb1⟩
  go_wp2_with fail
  refine (numbers2 w _ _ hs (by assumption) hT hG).mono ?_
  rintro e w2 ⟨av, cv, rfl, hrow, hb2⟩
  have hT2 : Tab w2 := Tab.from hT hb2 hG
  clear hb1
  go_wp2_with fail
  by_cases h0 : s = 0
  · subst h0
    have hlen0 : ∀ w, Calls Tryd.prog 16 #[.int .u64 0] w fun e w' => e = .returned (.int .i64 0) ∧ w' = w := fun w => by
      have := len_any 0 w hs
      rwa [numsI_empty] at this
    have HL : Hid (_) := hlen0
    clear hlen0
    rw [numsI_empty] at hrow hle
    rw [numsI_empty]
    refine (least_none _).mono ?_
    rintro e w3 ⟨rfl, rfl⟩
    go_wp2_with fail
    refine (HL.out _).mono ?_
    rintro e w4 ⟨rfl, rfl⟩
    go_wp2_with fail
    refine wp_loop_rounds 1 ?_
    rw [rounds_succ]
    have hbw := hb2
    go_wp2_with fail
    refine (minus_any _ _ _ hs ht).mono ?_
    rintro e w5 ⟨rfl, rfl⟩
    go_wp2_with fail
    refine (minus_any _ _ _ ht hs).mono ?_
    rintro e w5 ⟨rfl, rfl⟩
    go_wp2_with fail
    refine (union2 w _ _ _ _ (minusI_isSet hs) (minusI_isSet ht) hbw).mono ?_
    rintro e w6 ⟨rfl, hb6⟩
    go_wp2_with fail
    refine (numbers2 w _ _ (orI_isSet (minusI_isSet hs) (minusI_isSet ht)) hb6 hT hG).mono ?_
    rintro e w7 ⟨aa, ca, rfl, hrowa, hb7⟩
    have hnone := fun h => apart_none hs ht h
    have hsome := fun h => apart_some hs ht h
    have hdle := numsI_le (apartI 0 t) 64
    unfold apartI at hnone hsome hdle
    generalize numsI (orI (minusI 0 t) (minusI t 0)) 64 = ds at *
    have HNo : Hid (_) := hnone
    have HSo : Hid (_) := hsome
    clear hnone hsome hb6 hbw
    go_wp2_with fail
    refine (compare_any _ _ _).mono ?_
    rintro e w8 ⟨rfl, rfl⟩
    by_cases hd : ds = []
    · have hst := HNo.out hd
      subst hd
      have E : (cmpI 0 t == 0) = true := by unfold cmpI; rw [if_neg (by omega), if_neg (by omega)]; rfl
      have E2 : ((0 : Int) == t) = true := by simpa using hst
      clear hst HNo HSo
      go_wp2_with fail
      go_ret
      exact ⟨rfl, by assumption⟩
    · obtain ⟨m, l, rfl, hm64, hx, h1, h2⟩ := HSo.out hd
      obtain ⟨bb, oo, rfl, hcl⟩ := hrowa l.length (by simp)
      have hcl : w8.cell? ⟨bb, oo + l.length, none⟩ = some (.int .i64 m) := by rw [hcl]; simp
      have hl64 : l.length ≤ 64 := by simp at hdle; omega
      have hne : ((((l ++ [(m : Int)]).length : Nat) : Int) == 0) = false := by simp; omega
      have hlen : (l ++ [(m : Int)]).length = l.length + 1 := by simp
      clear hdle HNo HSo hd
      cases hsm : hasB 0 m
      · have htm : hasB t m = true := by cases hq : hasB t m <;> simp_all
        have hlt' := h2 htm
        have E1 : (cmpI 0 t == 1) = false := by unfold cmpI; rw [if_pos hlt']; rfl
        have E2 : (cmpI 0 t == -1) = true := by unfold cmpI; rw [if_pos hlt']; rfl
        have HY : Hid (∀ w, Calls Tryd.prog 28 #[.int .u64 0, .int .i64 m] w fun e w' => e = .returned (.bool false) ∧ w' = w) := fun w => by
          have := has_any 0 m w hs
          rwa [hsm] at this
        have HZ : Hid (∀ w, Calls Tryd.prog 28 #[.int .u64 t, .int .i64 m] w fun e w' => e = .returned (.bool true) ∧ w' = w) := fun w => by
          have := has_any t m w ht
          rwa [htm] at this
        clear hsm htm hx h1 h2 hlt'
        go_wp2_with fail
        refine (HY.out _).mono ?_
        rintro e w9 ⟨rfl, rfl⟩
        go_wp2_with fail
        refine (HZ.out _).mono ?_
        rintro e w9 ⟨rfl, rfl⟩
        go_wp2_with fail
        go_ret
        exact ⟨rfl, by assumption⟩
      · have htm : hasB t m = false := by cases hq : hasB t m <;> simp_all
        have hlt' := h1 hsm
        have E1 : (cmpI 0 t == 1) = true := by unfold cmpI; rw [if_neg (by omega), if_pos hlt']; rfl
        have E2 : (cmpI 0 t == -1) = false := by unfold cmpI; rw [if_neg (by omega), if_pos hlt']; rfl
        have HY : Hid (∀ w, Calls Tryd.prog 28 #[.int .u64 0, .int .i64 m] w fun e w' => e = .returned (.bool true) ∧ w' = w) := fun w => by
          have := has_any 0 m w hs
          rwa [hsm] at this
        have HZ : Hid (∀ w, Calls Tryd.prog 28 #[.int .u64 t, .int .i64 m] w fun e w' => e = .returned (.bool false) ∧ w' = w) := fun w => by
          have := has_any t m w ht
          rwa [htm] at this
        clear hsm htm hx h1 h2 hlt'
        go_wp2_with fail
        refine (HY.out _).mono ?_
        rintro e w9 ⟨rfl, rfl⟩
        go_wp2_with fail
        refine (HZ.out _).mono ?_
        rintro e w9 ⟨rfl, rfl⟩
        go_wp2_with fail
        go_ret
        exact ⟨rfl, by assumption⟩
  · obtain ⟨c0, hc0, hc64, _, hnum⟩ := low_facts hs h0
    have hls : Calls Tryd.prog 17 #[.int .u64 s] w2 fun e w' => e = .returned (.tuple #[.int .i64 c0, .bool true]) ∧ w' = w2 := by
      have := least_some s w2 hs h0 hT2
      rwa [hc0] at this
    have hpos : (0 : Int) < ((numsI s 64).length : Int) := by rw [hnum]; simp
    obtain ⟨b, off, rfl, hcell0⟩ := hrow 0 (by omega)
    have hcell0 : w2.cell? ⟨b, off, none⟩ = some (.int .i64 c0) := by rw [Nat.add_zero] at hcell0; rw [hcell0, hnum]; rfl
    have hlen := fun w => len_any s w hs
    have hmem := fun i => numsI_mem s (i := i)
    have hrise := fun i j => numsI_rise s (i := i) (j := j)
    clear hnum
    generalize numsI s 64 = ns at *
    have HL : Hid (_) := hlen
    have HM : Hid (_) := hmem
    have HR : Hid (_) := hrise
    clear hlen hmem hrise
    refine hls.mono ?_
    clear hls
    rintro e w3 ⟨rfl, rfl⟩
    go_wp2_with fail
    refine (HL.out _).mono ?_
    rintro e w4 ⟨rfl, rfl⟩
    go_wp2_with fail
    go_loopw [8] (fun i wr => ∃ k : Nat, k ≤ ns.length ∧ i = .int .i64 k ∧ Below w4.heap.size w4 wr) (fun i _ => ns.length - (intOf i).toNat)
    case atStart => exact ⟨0, by omega, rfl, Below.refl _ _⟩
    case round =>
      obtain ⟨k, hk, rfl, hbr⟩ := hrel
      by_cases hlt : k < ns.length
      · obtain ⟨c, hcz, hc64', hcs⟩ := HM.out k hlt
        obtain ⟨b', off', hbo, hcell⟩ := hrow.below hbr k hlt
        obtain ⟨rfl, rfl⟩ : b' = b ∧ off' = off := by simpa [eq_comm] using hbo
        rw [hcz] at hcell
        have HY : Hid (∀ w, Calls Tryd.prog 28 #[.int .u64 s, .int .i64 c] w fun e w' => e = .returned (.bool true) ∧ w' = w) := fun w => by
          have := has_any s c w hs
          rwa [hcs] at this
        have HN : Hid (∀ w, Calls Tryd.prog 28 #[.int .u64 (withoutI s c), .int .i64 c] w fun e w' => e = .returned (.bool false) ∧ w' = w) := fun w => by
          have := has_any (withoutI s c) c w (withoutI_isSet _ hs)
          rwa [without_has s hc64'] at this
        have HW : Hid (∀ w, Calls Tryd.prog 30 #[.int .u64 (withoutI s c), .int .i64 c] w fun e w' => e = .returned (.int .u64 s) ∧ w' = w) := fun w => by
          have := with_any (withoutI s c) c w (withoutI_isSet _ hs)
          rwa [with_without hs hc64' hcs] at this
        clear hcs
        by_cases hk0 : k = 0
        · have hd : decide (0 < k) = false := by simp; omega
          clear hk0
          go_wp2_with fail
          go_quiet ((first | (go_at_call_of 28 (withoutI s (c : Int)); exact Calls.quiet_of_same (HN.out _)) | (go_at_call 28; exact Calls.quiet_of_same (HY.out _)) | (go_at_call 29; exact Calls.quiet_of_same (without_any _ _ _ hs)) | (go_at_call 30; exact Calls.quiet_of_same (HW.out _))))
          go_wp2
          go_roundw
          case rel => exact ⟨k + 1, by omega, by go_num, hbr.trans ⟨rfl, rfl, rfl, Nat.le_refl _, fun _ _ => rfl⟩⟩
          case measure => simp [intOf]; omega
        · obtain ⟨j, rfl⟩ : ∃ j, k = j + 1 := ⟨k - 1, by omega⟩
          obtain ⟨y, hy⟩ : ∃ y, ns.getD j 0 = y := ⟨_, rfl⟩
          obtain ⟨b'', off'', hbo, hcellp⟩ := hrow.below hbr j (by omega)
          obtain ⟨e1, e2⟩ : b'' = b' ∧ off'' = off' := by simpa [eq_comm] using hbo
          rw [e1, e2] at hcellp
          clear e1 e2
          have hyz : y < (c : Int) := by
            have := HR.out j (j + 1) (by omega) hlt
            rwa [hy, hcz] at this
          rw [hy] at hcellp
          have hj0 : (0 : Int) ≤ (j : Int) + 1 := by omega
          have hj1 : (j : Int) + 1 < (ns.length : Int) := by omega
          have hj2 : (j : Int) < (ns.length : Int) := by omega
          have hj3 : ((j : Int) + 1).toNat = j + 1 := by omega
          have hj4 : IntKind.i64.wrap (j : Int) = (j : Int) := by rw [IntKind.wrap_i64]; omega
          clear hy hbo
          go_wp2_with fail
          go_quiet ((first | (go_at_call_of 28 (withoutI s (c : Int)); exact Calls.quiet_of_same (HN.out _)) | (go_at_call 28; exact Calls.quiet_of_same (HY.out _)) | (go_at_call 29; exact Calls.quiet_of_same (without_any _ _ _ hs)) | (go_at_call 30; exact Calls.quiet_of_same (HW.out _))))
          go_wp2
          go_roundw
          case rel => exact ⟨j + 1 + 1, by omega, by go_num, hbr.trans ⟨rfl, rfl, rfl, Nat.le_refl _, fun _ _ => rfl⟩⟩
          case measure => simp [intOf]; omega
      · have hbw : Below w.heap.size w wr := hb2.trans (hbr.mono hb2.size)
        go_wp2_with fail
        refine (minus_any _ _ _ hs ht).mono ?_
        rintro e w5 ⟨rfl, rfl⟩
        go_wp2_with fail
        refine (minus_any _ _ _ ht hs).mono ?_
        rintro e w5 ⟨rfl, rfl⟩
        go_wp2_with fail
        refine (union2 w _ _ _ _ (minusI_isSet hs) (minusI_isSet ht) hbw).mono ?_
        rintro e w6 ⟨rfl, hb6⟩
        go_wp2_with fail
        refine (numbers2 w _ _ (orI_isSet (minusI_isSet hs) (minusI_isSet ht)) hb6 hT hG).mono ?_
        rintro e w7 ⟨aa, ca, rfl, hrowa, hb7⟩
        have hnone := fun h => apart_none hs ht h
        have hsome := fun h => apart_some hs ht h
        have hdle := numsI_le (apartI s t) 64
        unfold apartI at hnone hsome hdle
        generalize numsI (orI (minusI s t) (minusI t s)) 64 = ds at *
        have HNo : Hid (_) := hnone
        have HSo : Hid (_) := hsome
        clear hnone hsome hb6 hbw
        go_wp2_with fail
        refine (compare_any _ _ _).mono ?_
        rintro e w8 ⟨rfl, rfl⟩
        by_cases hd : ds = []
        · have hst := HNo.out hd
          subst hd
          have E : (cmpI s t == 0) = true := by unfold cmpI; rw [if_neg (by omega), if_neg (by omega)]; rfl
          have E2 : (s == t) = true := by simpa using hst
          clear hst HNo HSo
          go_wp2_with fail
          go_ret
          exact ⟨rfl, by assumption⟩
        · obtain ⟨m, l, rfl, hm64, hx, h1, h2⟩ := HSo.out hd
          obtain ⟨bb, oo, rfl, hcl⟩ := hrowa l.length (by simp)
          have hcl : w8.cell? ⟨bb, oo + l.length, none⟩ = some (.int .i64 m) := by rw [hcl]; simp
          have hl64 : l.length ≤ 64 := by simp at hdle; omega
          have hne : ((((l ++ [(m : Int)]).length : Nat) : Int) == 0) = false := by simp; omega
          have hlen : (l ++ [(m : Int)]).length = l.length + 1 := by simp
          clear hdle HNo HSo hd
          cases hsm : hasB s m
          · have htm : hasB t m = true := by cases hq : hasB t m <;> simp_all
            have hlt' := h2 htm
            have E1 : (cmpI s t == 1) = false := by unfold cmpI; rw [if_pos hlt']; rfl
            have E2 : (cmpI s t == -1) = true := by unfold cmpI; rw [if_pos hlt']; rfl
            have HY : Hid (∀ w, Calls Tryd.prog 28 #[.int .u64 s, .int .i64 m] w fun e w' => e = .returned (.bool false) ∧ w' = w) := fun w => by
              have := has_any s m w hs
              rwa [hsm] at this
            have HZ : Hid (∀ w, Calls Tryd.prog 28 #[.int .u64 t, .int .i64 m] w fun e w' => e = .returned (.bool true) ∧ w' = w) := fun w => by
              have := has_any t m w ht
              rwa [htm] at this
            clear hsm htm hx h1 h2 hlt'
            go_wp2_with fail
            refine (HY.out _).mono ?_
            rintro e w9 ⟨rfl, rfl⟩
            go_wp2_with fail
            refine (HZ.out _).mono ?_
            rintro e w9 ⟨rfl, rfl⟩
            go_wp2_with fail
            go_ret
            exact ⟨rfl, by assumption⟩
          · have htm : hasB t m = false := by cases hq : hasB t m <;> simp_all
            have hlt' := h1 hsm
            have E1 : (cmpI s t == 1) = true := by unfold cmpI; rw [if_neg (by omega), if_pos hlt']; rfl
            have E2 : (cmpI s t == -1) = false := by unfold cmpI; rw [if_neg (by omega), if_pos hlt']; rfl
            have HY : Hid (∀ w, Calls Tryd.prog 28 #[.int .u64 s, .int .i64 m] w fun e w' => e = .returned (.bool true) ∧ w' = w) := fun w => by
              have := has_any s m w hs
              rwa [hsm] at this
            have HZ : Hid (∀ w, Calls Tryd.prog 28 #[.int .u64 t, .int .i64 m] w fun e w' => e = .returned (.bool false) ∧ w' = w) := fun w => by
              have := has_any t m w ht
              rwa [htm] at this
            clear hsm htm hx h1 h2 hlt'
            go_wp2_with fail
            refine (HY.out _).mono ?_
            rintro e w9 ⟨rfl, rfl⟩
            go_wp2_with fail
            refine (HZ.out _).mono ?_
            rintro e w9 ⟨rfl, rfl⟩
            go_wp2_with fail
            go_ret
            exact ⟨rfl, by assumption⟩

end Go.Proofs.YtkjjdmdlkdoedaaDoor.SetsOrderW
