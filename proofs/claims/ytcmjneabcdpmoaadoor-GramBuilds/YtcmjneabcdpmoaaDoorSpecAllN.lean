/-
  The helper that looks whether two grammars share memory, of two that hold nothing.
-/
import Derived.Test.YtcmjneabcdpmoaaDoorGramAll3
namespace Go.Proofs.YtcmjneabcdpmoaaDoor.GramAll
open Go.RowKit Go.Proofs.YtcmjneabcdpmoaaDoor.GramMath Go.Proofs.YtcmjneabcdpmoaaDoor.GramRow Go.Proofs.YtcmjneabcdpmoaaDoor.GramApart Go.Proofs.YtcmjneabcdpmoaaDoor.GramCopy
set_option linter.unusedVariables false

/-- Lists that are none. -/
def nils (k : Nat) : List Value := List.replicate k (.slice none 0 0)
theorem nils_app (a b : Nat) : nils a ++ nils b = nils (a + b) := by unfold nils; exact List.replicate_append_replicate
theorem nils_at {k j : Nat} (h : j < k) : (nils k)[j]? = some (.slice none 0 0) := by unfold nils; simp [h]

theorem strs_nils (H : Nat) (nv : Value) (w : World) (hn : w.ownsRow H 25 1 nv 4 (nils 4)) :
    Calls Tryd.prog 34 #[nv] w fun e w' => e = .returned (.bool true) ∧ But (fun _ => False) w w' := by
  obtain ⟨A, cA, rfl⟩ := ownsRow_succ hn
  obtain ⟨cur, hrow, _, _, hA, hx⟩ := own_at hn
  refine (apart_strs (fun _ => False) 4 A cA (fun _ => 0) (fun _ => 0) (fun _ => none) cur w (by omega) hrow ?_ (fun j hj => rfl) ?_ ?_ ?_ ?_ ?_)
  · intro j hj
    rw [hx j hj]
    exact nils_at hj
  · intro j hj q hq
    exact absurd hq (Nat.not_lt_zero _)
  · intro a ha b hb hab h0 _
    exact absurd h0 (Nat.lt_irrefl _)
  · intro j hj
    exact Nat.zero_le _
  · intro j hj h0
    exact absurd h0 (Nat.lt_irrefl _)
  · intro j hj h0
    exact absurd h0 (Nat.lt_irrefl _)
theorem rules_nils (H : Nat) (rv : Value) (w : World) (hn : w.ownsRow H 29 1 rv 2 (nils 2)) :
    Calls Tryd.prog 36 #[rv] w fun e w' => e = .returned (.bool true) ∧ But (fun _ => False) w w' := by
  obtain ⟨A, cA, rfl⟩ := ownsRow_succ hn
  obtain ⟨cur, hrow, _, _, hA, hx⟩ := own_at hn
  refine (apart_rules (fun _ => False) 2 A cA (fun _ => 0) (fun _ => 0) (fun _ => none) cur w (by omega) hrow ?_ (fun j hj => rfl) ?_ ?_ ?_ ?_ ?_)
  · intro j hj
    rw [hx j hj]
    exact nils_at hj
  · intro j hj q hq
    exact absurd hq (Nat.not_lt_zero _)
  · intro a ha b hb hab h0 _
    exact absurd h0 (Nat.lt_irrefl _)
  · intro j hj
    exact Nat.zero_le _
  · intro j hj h0
    exact absurd h0 (Nat.lt_irrefl _)
  · intro j hj h0
    exact absurd h0 (Nat.lt_irrefl _)

set_option maxRecDepth 100000 in
set_option maxHeartbeats 2000000 in
theorem grammars_nils (L c : Nat) (w : World) (hc : ∀ i, i < 2 → w.cell? ⟨L, i * 4, none⟩ = some (.slice none 0 0) ∧ w.cell? ⟨L, i * 4 + 1, none⟩ = some (.slice none 0 0) ∧ w.cell? ⟨L, i * 4 + 3, none⟩ = some (.slice none 0 0)) :
    Calls Tryd.prog 25 #[.slice (some ⟨L, 0, none⟩) 2 c] w fun e w' => e = .returned (.bool true) ∧ Below w.heap.size w w' := by
  obtain ⟨i1, hi1, hy1, hy2, hy3⟩ := info_parts infoRR
  go_enter Tryd.func25, Tryd.ntmps25
  go_wp2
  go_loopw [3, 4, 5, 6] (fun nv rv sv i wr => ∃ k : Nat, k ≤ 2 ∧ i = .int .i64 k ∧ wr.ownsRow w.heap.size 25 1 nv (2 * k) (nils (2 * k)) ∧ wr.ownsRow w.heap.size 29 1 rv k (nils k) ∧ sv = .slice none 0 0 ∧ Below w.heap.size w wr) (fun _ _ _ i _ => 2 - (intOf i).toNat)
  case atStart => exact ⟨0, by omega, rfl, World.ownsRow_nil _ _ _ _, World.ownsRow_nil _ _ _ _, rfl, Below.refl _ _⟩
  case round =>
    obtain ⟨k, hk, rfl, hnv, hrv, rfl, hB⟩ := hrel
    have hs0 := hB.size
    by_cases hlt : k < 2
    · have hlt2 : (k : Int) < 2 := by omega
      obtain ⟨q0, q1, q3⟩ := hc k hlt
      have hLl := cell_lt q0
      dsimp only at hLl
      have e0 := (hB.cell (p := ⟨L, k * 4, none⟩) hLl).trans q0
      have e1 := (hB.cell (p := ⟨L, k * 4 + 1, none⟩) hLl).trans q1
      have hdZ : Below wr.heap.size wr wr.drew := ⟨rfl, rfl, rfl, Nat.le_refl wr.heap.size, fun _ _ => rfl⟩
      have hS : ∀ w', Below wr.heap.size wr w' → (w'.cell? ⟨L, k * 4, none⟩ = some (.slice none 0 0) ∧ w'.cell? ⟨L, k * 4 + 1, none⟩ = some (.slice none 0 0)) := fun w' hb => ⟨(hb.cell (p := ⟨L, k * 4, none⟩) (show L < _ by omega)).trans e0, (hb.cell (p := ⟨L, k * 4 + 1, none⟩) (show L < _ by omega)).trans e1⟩
      go_wp2_with fail
      refine wp_region_noPanic ?_
      refine wp_region_held_drew (S := (fun w' => w'.cell? ⟨L, k * 4, none⟩ = some (.slice none 0 0) ∧ w'.cell? ⟨L, k * 4 + 1, none⟩ = some (.slice none 0 0))) (by kernel_rfl) (hS _ hdZ) (fun hHeld => ?_)
      refine wpAnyH_take (i := 0) (v := u3) rfl (by kernel_rfl) (by kernel_rfl) (by kernel_rfl) (fun _ _ _ h => h) (Or.inl ⟨by rfl, fun w9 hSw => ?_⟩) hHeld ?_
      · obtain ⟨s0, s1⟩ := hSw
        go_simp
      simp only [List.getElem_toArray, List.getElem_cons_zero, Act.put, List.setIfInBounds_toArray, List.set_cons_zero, List.set_cons_succ]
      refine wpAnyH_take (i := 1) (v := .slice (some ⟨L, 0, none⟩) 2 c) rfl (by kernel_rfl) (by kernel_rfl) (by kernel_rfl) (fun _ _ _ h => h) (Or.inl ⟨by rfl, fun w9 hSw => ?_⟩) hHeld ?_
      · obtain ⟨s0, s1⟩ := hSw
        go_simp
      simp only [List.getElem_toArray, List.getElem_cons_zero, List.getElem_cons_succ, Act.put, List.setIfInBounds_toArray, List.set_cons_zero, List.set_cons_succ]
      refine wpAnyH_take (i := 2) (v := .int .i64 (k : Int)) rfl (by kernel_rfl) (by kernel_rfl) (by kernel_rfl) (fun _ _ _ h => h) (Or.inl ⟨by rfl, fun w9 hSw => ?_⟩) hHeld ?_
      · obtain ⟨s0, s1⟩ := hSw
        go_simp
      simp only [List.getElem_toArray, List.getElem_cons_zero, List.getElem_cons_succ, Act.put, List.setIfInBounds_toArray, List.set_cons_zero, List.set_cons_succ]
      refine wpAnyH_take (i := 3) (v := .pointer (some ⟨L, k * 4, none⟩)) rfl (by kernel_rfl) (by kernel_rfl) (by kernel_rfl) (fun _ _ _ h => h) (Or.inl ⟨by rfl, fun w9 hSw => ?_⟩) hHeld ?_
      · obtain ⟨s0, s1⟩ := hSw
        go_simp
      simp only [List.getElem_toArray, List.getElem_cons_zero, List.getElem_cons_succ, Act.put, List.setIfInBounds_toArray, List.set_cons_zero, List.set_cons_succ]
      refine wpAnyH_take (i := 4) (v := .pointer (some ⟨L, k * 4, none⟩)) rfl (by kernel_rfl) (by kernel_rfl) (by kernel_rfl) (fun _ _ _ h => h) (Or.inl ⟨by rfl, fun w9 hSw => ?_⟩) hHeld ?_
      · obtain ⟨s0, s1⟩ := hSw
        go_simp
      simp only [List.getElem_toArray, List.getElem_cons_zero, List.getElem_cons_succ, Act.put, List.setIfInBounds_toArray, List.set_cons_zero, List.set_cons_succ]
      refine wpAnyH_take (i := 5) (v := .slice none 0 0) rfl (by kernel_rfl) (by kernel_rfl) (by kernel_rfl) (fun _ _ _ h => h) (Or.inl ⟨by rfl, fun w9 hSw => ?_⟩) hHeld ?_
      · obtain ⟨s0, s1⟩ := hSw
        go_simp
      simp only [List.getElem_toArray, List.getElem_cons_zero, List.getElem_cons_succ, Act.put, List.setIfInBounds_toArray, List.set_cons_zero, List.set_cons_succ]
      refine wpAnyH_take (i := 6) (v := .slice (some ⟨L, 0, none⟩) 2 c) rfl (by kernel_rfl) (by kernel_rfl) (by kernel_rfl) (fun _ _ _ h => h) (Or.inl ⟨by rfl, fun w9 hSw => ?_⟩) hHeld ?_
      · obtain ⟨s0, s1⟩ := hSw
        go_simp
      simp only [List.getElem_toArray, List.getElem_cons_zero, List.getElem_cons_succ, Act.put, List.setIfInBounds_toArray, List.set_cons_zero, List.set_cons_succ]
      refine wpAnyH_take (i := 7) (v := .int .i64 (k : Int)) rfl (by kernel_rfl) (by kernel_rfl) (by kernel_rfl) (fun _ _ _ h => h) (Or.inl ⟨by rfl, fun w9 hSw => ?_⟩) hHeld ?_
      · obtain ⟨s0, s1⟩ := hSw
        go_simp
      simp only [List.getElem_toArray, List.getElem_cons_zero, List.getElem_cons_succ, Act.put, List.setIfInBounds_toArray, List.set_cons_zero, List.set_cons_succ]
      refine wpAnyH_take (i := 8) (v := .pointer (some ⟨L, k * 4, none⟩)) rfl (by kernel_rfl) (by kernel_rfl) (by kernel_rfl) (fun _ _ _ h => h) (Or.inl ⟨by rfl, fun w9 hSw => ?_⟩) hHeld ?_
      · obtain ⟨s0, s1⟩ := hSw
        go_simp
      simp only [List.getElem_toArray, List.getElem_cons_zero, List.getElem_cons_succ, Act.put, List.setIfInBounds_toArray, List.set_cons_zero, List.set_cons_succ]
      refine wpAnyH_take (i := 9) (v := .pointer (some ⟨L, k * 4 + 1, none⟩)) rfl (by kernel_rfl) (by kernel_rfl) (by kernel_rfl) (fun _ _ _ h => h) (Or.inl ⟨by rfl, fun w9 hSw => ?_⟩) hHeld ?_
      · obtain ⟨s0, s1⟩ := hSw
        go_simp
      simp only [List.getElem_toArray, List.getElem_cons_zero, List.getElem_cons_succ, Act.put, List.setIfInBounds_toArray, List.set_cons_zero, List.set_cons_succ]
      refine wpAnyH_take (i := 10) (v := .slice none 0 0) rfl (by kernel_rfl) (by kernel_rfl) (by kernel_rfl) (fun _ _ _ h => h) (Or.inl ⟨by rfl, fun w9 hSw => ?_⟩) hHeld ?_
      · obtain ⟨s0, s1⟩ := hSw
        go_simp
      simp only [List.getElem_toArray, List.getElem_cons_zero, List.getElem_cons_succ, Act.put, List.setIfInBounds_toArray, List.set_cons_zero, List.set_cons_succ]
      refine wpAnyH_ready (rs := [11]) (by kernel_rfl) (by simp) ?_
      refine AllReadyH.cons rfl (fun K hK => ?_) AllReadyH.nil
      go_simp
      have hba : Below wr.heap.size wr (World.alloc wr.drew (.cells #[.slice none 0 0, .slice none 0 0] 25)) := hdZ.trans ((Below.refl wr.heap.size wr.drew).alloc (Nat.le_refl _) _)
      refine hK.out _ _ (hS _ hba) (fun hHeld2 => ?_)
      clear hK K hHeld
      refine wpAnyH_ready (rs := [12]) (by kernel_rfl) (by simp) ?_
      refine AllReadyH.cons rfl (fun K hK => ?_) AllReadyH.nil
      have hnv1 : (World.alloc wr.drew (.cells #[.slice none 0 0, .slice none 0 0] 25)).ownsRow w.heap.size 25 1 u3 (2 * k) (nils (2 * k)) := GramApart.own_below hnv hba
      have hrv1 : (World.alloc wr.drew (.cells #[.slice none 0 0, .slice none 0 0] 25)).ownsRow w.heap.size 29 1 u4 k (nils k) := GramApart.own_below hrv hba
      have hz1 : w.heap.size ≤ (World.alloc wr.drew (.cells #[.slice none 0 0, .slice none 0 0] 25)).heap.size := Nat.le_trans hs0 hba.size
      refine stepN rfl _ _ rfl w.heap.size u3 (2 * k) _ (by rfl) hnv1 ⟨wr.heap.size, 0, none⟩ (.slice none 0 0) (.slice none 0 0) (by rfl) (GramLent.cells_new wr.drew #[.slice none 0 0, .slice none 0 0] 25) (by simp [Value.oneCell']) (by omega) hz1 ?_
      intro v5 w5 hown5 hgrow5
      have hrv5 := own_grown hrv1 hnv1 (by decide) hgrow5
      rw [show nils (2 * k) ++ [.slice none 0 0, .slice none 0 0] = nils (2 * (k + 1)) from nils_app (2 * k) 2] at hown5
      have hB5 : Below w.heap.size w w5 := (hB.trans (hba.mono hs0)).grown hgrow5 hz1 (fun j hj => (hnv1.lt j hj).1)
      have hL5 : ∀ o v, w.cell? ⟨L, o, none⟩ = some v → w5.cell? ⟨L, o, none⟩ = some v := fun o v hv => (hB5.cell (p := ⟨L, o, none⟩) hLl).trans hv
      refine hK.out _ _ ⟨hL5 _ _ q0, hL5 _ _ q1⟩ (fun hHeld3 => ?_)
      clear hK K hHeld2
      simp only [List.getElem_toArray, List.getElem_cons_zero, List.getElem_cons_succ, Act.put, List.setIfInBounds_toArray, List.set_cons_zero, List.set_cons_succ]
      refine wpAnyH_ready (rs := [13]) (by kernel_rfl) (by simp) ?_
      refine AllReadyH.cons rfl (fun K hK => ?_) AllReadyH.nil
      go_simp
      refine hK.out _ _ ⟨hL5 _ _ q0, hL5 _ _ q1⟩ (fun _ => ?_)
      clear hK K hHeld3
      refine wpAnyH_done (by kernel_rfl) (NoPanic.normal ?_) _
      clear hnv hrv hnv1 hrv1 hgrow5 hS hba hz1 hdZ e0 e1
      have e3 : w5.cell? ⟨L, k * 4 + 3, none⟩ = some (.slice none 0 0) := hL5 _ _ q3
      have hs5 := hB5.size
      have q4 : w.cell? ⟨L, k * 4 + 3, none⟩ = some (.slice none 0 0) := q3
      clear hL5 q0 q1 q3
      go_wp2_with (at_builtin; refine wpList_append_own _ rfl (.tmp 27) (.tmp 33) 81 rfl w.heap.size 29 i1 (.slice none 0 0) 1 24 Tryd.underlying81 hi1 hy1 hy2 hy3 rfl (by decide) _ _ _ rfl (hrv5.alloc _) ⟨_, 0, none⟩ 1 1 [.slice none 0 0] rfl rfl (cell_one_new _ _ _) (by simp [Value.oneCell']) (by unfold maxLen; omega) (by omega) (by simp; omega) ?_; intro v6 w6 hown6 hgrow6 _)
      have hnv6 := own_grown (hown5.alloc (.cells #[.slice none 0 0] 29)) (hrv5.alloc _) (by decide) hgrow6
      rw [show nils k ++ [.slice none 0 0] = nils (k + 1) from nils_app k 1] at hown6
      have hB6 : Below w.heap.size w w6 := (hB5.alloc hs5 _).grown hgrow6 (by simp; omega) (fun j hj => (hrv5.lt j hj).1)
      clear hown5 hrv5 hgrow6 hB5 hs5 e3
      go_wp2
      go_loopw [5, 7] (fun sv j wr => sv = .slice none 0 0 ∧ j = .int .i64 0 ∧ wr = w6) (fun _ j _ => 0)
      case atStart => exact ⟨rfl, rfl, rfl⟩
      case round =>
        obtain ⟨rfl, rfl, rfl⟩ := hrel
        clear hB hs0
        have hs0 := hB6.size
        have e3 := (hB6.cell (p := ⟨L, k * 4 + 3, none⟩) hLl).trans q4
        go_wp2
        go_roundw
        case rel => exact ⟨k + 1, by omega, by go_num, hnv6, hown6, rfl, hB6⟩
        case measure => simp [intOf]; omega
    · obtain rfl : k = 2 := by omega
      go_wp2_with fail
      refine (strs_nils w.heap.size u3 wr hnv).mono ?_
      rintro e w2 ⟨rfl, hb2⟩
      have hrv2 := own_but hrv hb2 (fun b hb => hb.elim)
      go_wp2_with fail
      refine (ints_nil w2).mono ?_
      rintro e w3 ⟨rfl, rfl⟩
      go_wp2_with fail
      refine (rules_nils w.heap.size u4 w3 hrv2).mono ?_
      rintro e w4 ⟨rfl, hb4⟩
      have j5 : But (fun _ => False) w w4 := ((But.of hB).trans hb2).trans hb4
      have hend : Below w.heap.size w w4 := j5.below (Nat.le_refl _) (fun _ hb => hb.elim)
      clear hb2 hb4 j5 hrv2
      go_wp2
      go_ret
      exact ⟨rfl, hend⟩

end Go.Proofs.YtcmjneabcdpmoaaDoor.GramAll
