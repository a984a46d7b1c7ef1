/-
  Copy, whole.
-/
import Derived.Test.YtcmjneabcdpmoaaDoorGramCopyG
namespace Go.Proofs.YtcmjneabcdpmoaaDoor.GramCopy
open Go.RowKit Go.Proofs.YtcmjneabcdpmoaaDoor.GramMath Go.Proofs.YtcmjneabcdpmoaaDoor.GramRow Go.Proofs.YtcmjneabcdpmoaaDoor.GramApart Go.Proofs.YtcmjneabcdpmoaaDoor.GramLent Go.Proofs.YtcmjneabcdpmoaaDoor.GramName
set_option linter.unusedVariables false

set_option maxRecDepth 100000 in
set_option maxHeartbeats 1000000 in
theorem copy_any (ta na ra : Option Addr) (tc nc rc : Nat) (g : G) (w : World) (hG : GRow w ta na ra g) (ho : okG g) (tm : g.ts.length * 16 ≤ 140737488351232) (nm : g.ns.length * 16 ≤ 140737488351232) (rm : g.rs.length * 32 ≤ 140737488351232) (em : ∀ r ∈ g.rs, r.right.length * 8 ≤ 140737488351232) :
    Calls Tryd.prog 29 #[.agg #[.slice ta g.ts.length tc, .slice na g.ns.length nc, .int .i64 g.ax, .slice ra g.rs.length rc]] w fun e w' => (∃ b1 b2 b3 bs, e = .returned (.agg #[.slice (some ⟨b1, 0, none⟩) g.ts.length g.ts.length, .slice (some ⟨b2, 0, none⟩) g.ns.length g.ns.length, .int .i64 g.ax, .slice (some ⟨b3, 0, none⟩) g.rs.length g.rs.length]) ∧ CopyAt w' w.heap.size b1 b2 b3 bs g) ∧ Below w.heap.size w w' := by
  obtain ⟨o1, o2, o3, _, o5, o6, o7⟩ := id ho
  have hmk := fun W => madeR_any g.rs.length rm W
  have hB2 : Below w.heap.size w ((w.alloc (.cells #[.slice ta g.ts.length tc, .slice na g.ns.length nc, .int .i64 g.ax, .slice ra g.rs.length rc] 35)).alloc (.cells #[.slice none 0 0, .slice none 0 0, .int .i64 0, .slice none 0 0] 35)) := ((Below.refl _ _).alloc (Nat.le_refl _) _).alloc (by simp) _
  have hz2 : ((w.alloc (.cells #[.slice ta g.ts.length tc, .slice na g.ns.length nc, .int .i64 g.ax, .slice ra g.rs.length rc] 35)).alloc (.cells #[.slice none 0 0, .slice none 0 0, .int .i64 0, .slice none 0 0] 35)).heap.size = w.heap.size + 1 + 1 := by simp
  have hG2 := hG.below hB2 (Nat.le_refl _)
  have hR3 := rules_new ((w.alloc (.cells #[.slice ta g.ts.length tc, .slice na g.ns.length nc, .int .i64 g.ax, .slice ra g.rs.length rc] 35)).alloc (.cells #[.slice none 0 0, .slice none 0 0, .int .i64 0, .slice none 0 0] 35)) g.rs
  have hB3 : Below (w.heap.size + 1 + 1) ((w.alloc (.cells #[.slice ta g.ts.length tc, .slice na g.ns.length nc, .int .i64 g.ax, .slice ra g.rs.length rc] 35)).alloc (.cells #[.slice none 0 0, .slice none 0 0, .int .i64 0, .slice none 0 0] 35)) (((w.alloc (.cells #[.slice ta g.ts.length tc, .slice na g.ns.length nc, .int .i64 g.ax, .slice ra g.rs.length rc] 35)).alloc (.cells #[.slice none 0 0, .slice none 0 0, .int .i64 0, .slice none 0 0] 35)).alloc (.cells (madeCells #[.int .i64 0, .slice none 0 0] (g.rs.length * 2)) 53)) := (Below.refl _ _).alloc (Nat.le_of_eq hz2.symm) _
  have hz3 : w.heap.size + 1 + 1 < (((w.alloc (.cells #[.slice ta g.ts.length tc, .slice na g.ns.length nc, .int .i64 g.ax, .slice ra g.rs.length rc] 35)).alloc (.cells #[.slice none 0 0, .slice none 0 0, .int .i64 0, .slice none 0 0] 35)).alloc (.cells (madeCells #[.int .i64 0, .slice none 0 0] (g.rs.length * 2)) 53)).heap.size := by simp
  rw [hz2] at hR3
  have c0 : ((w.alloc (.cells #[.slice ta g.ts.length tc, .slice na g.ns.length nc, .int .i64 g.ax, .slice ra g.rs.length rc] 35)).alloc (.cells #[.slice none 0 0, .slice none 0 0, .int .i64 0, .slice none 0 0] 35)).cell? ⟨w.heap.size, 0, none⟩ = some (.slice ta g.ts.length tc) := by simp
  have c1 : ((w.alloc (.cells #[.slice ta g.ts.length tc, .slice na g.ns.length nc, .int .i64 g.ax, .slice ra g.rs.length rc] 35)).alloc (.cells #[.slice none 0 0, .slice none 0 0, .int .i64 0, .slice none 0 0] 35)).cell? ⟨w.heap.size, 1, none⟩ = some (.slice na g.ns.length nc) := by simp
  have c2 : ((w.alloc (.cells #[.slice ta g.ts.length tc, .slice na g.ns.length nc, .int .i64 g.ax, .slice ra g.rs.length rc] 35)).alloc (.cells #[.slice none 0 0, .slice none 0 0, .int .i64 0, .slice none 0 0] 35)).cell? ⟨w.heap.size, 2, none⟩ = some (.int .i64 g.ax) := by simp
  have c3 : ((w.alloc (.cells #[.slice ta g.ts.length tc, .slice na g.ns.length nc, .int .i64 g.ax, .slice ra g.rs.length rc] 35)).alloc (.cells #[.slice none 0 0, .slice none 0 0, .int .i64 0, .slice none 0 0] 35)).cell? ⟨w.heap.size, 3, none⟩ = some (.slice ra g.rs.length rc) := by simp
  have z0 : ((w.alloc (.cells #[.slice ta g.ts.length tc, .slice na g.ns.length nc, .int .i64 g.ax, .slice ra g.rs.length rc] 35)).alloc (.cells #[.slice none 0 0, .slice none 0 0, .int .i64 0, .slice none 0 0] 35)).cell? ⟨w.heap.size + 1, 0, none⟩ = some (.slice none 0 0) := by simp [go_sem]
  have z1 : ((w.alloc (.cells #[.slice ta g.ts.length tc, .slice na g.ns.length nc, .int .i64 g.ax, .slice ra g.rs.length rc] 35)).alloc (.cells #[.slice none 0 0, .slice none 0 0, .int .i64 0, .slice none 0 0] 35)).cell? ⟨w.heap.size + 1, 1, none⟩ = some (.slice none 0 0) := by simp [go_sem]
  have z2 : ((w.alloc (.cells #[.slice ta g.ts.length tc, .slice na g.ns.length nc, .int .i64 g.ax, .slice ra g.rs.length rc] 35)).alloc (.cells #[.slice none 0 0, .slice none 0 0, .int .i64 0, .slice none 0 0] 35)).cell? ⟨w.heap.size + 1, 2, none⟩ = some (.int .i64 0) := by simp [go_sem]
  have z3 : ((w.alloc (.cells #[.slice ta g.ts.length tc, .slice na g.ns.length nc, .int .i64 g.ax, .slice ra g.rs.length rc] 35)).alloc (.cells #[.slice none 0 0, .slice none 0 0, .int .i64 0, .slice none 0 0] 35)).cell? ⟨w.heap.size + 1, 3, none⟩ = some (.slice none 0 0) := by simp [go_sem]
  have y0 : ((w.alloc (.cells #[.slice ta g.ts.length tc, .slice na g.ns.length nc, .int .i64 g.ax, .slice ra g.rs.length rc] 35)).alloc (.cells #[.slice none 0 0, .slice none 0 0, .int .i64 0, .slice none 0 0] 35)).frozen? ⟨w.heap.size + 1, 0, none⟩ = false := by simp [go_sem]
  have y1 : ((w.alloc (.cells #[.slice ta g.ts.length tc, .slice na g.ns.length nc, .int .i64 g.ax, .slice ra g.rs.length rc] 35)).alloc (.cells #[.slice none 0 0, .slice none 0 0, .int .i64 0, .slice none 0 0] 35)).frozen? ⟨w.heap.size + 1, 1, none⟩ = false := by simp [go_sem]
  have y2 : ((w.alloc (.cells #[.slice ta g.ts.length tc, .slice na g.ns.length nc, .int .i64 g.ax, .slice ra g.rs.length rc] 35)).alloc (.cells #[.slice none 0 0, .slice none 0 0, .int .i64 0, .slice none 0 0] 35)).frozen? ⟨w.heap.size + 1, 2, none⟩ = false := by simp [go_sem]
  have y3 : ((w.alloc (.cells #[.slice ta g.ts.length tc, .slice na g.ns.length nc, .int .i64 g.ax, .slice ra g.rs.length rc] 35)).alloc (.cells #[.slice none 0 0, .slice none 0 0, .int .i64 0, .slice none 0 0] 35)).frozen? ⟨w.heap.size + 1, 3, none⟩ = false := by simp [go_sem]
  clear hG
  go_enter Tryd.func29, Tryd.ntmps29
  go_wp2
  generalize (((w.alloc (.cells #[.slice ta g.ts.length tc, .slice na g.ns.length nc, .int .i64 g.ax, .slice ra g.rs.length rc] 35)).alloc (.cells #[.slice none 0 0, .slice none 0 0, .int .i64 0, .slice none 0 0] 35)).alloc (.cells (madeCells #[.int .i64 0, .slice none 0 0] (g.rs.length * 2)) 53)) = W3 at *
  generalize ((w.alloc (.cells #[.slice ta g.ts.length tc, .slice na g.ns.length nc, .int .i64 g.ax, .slice ra g.rs.length rc] 35)).alloc (.cells #[.slice none 0 0, .slice none 0 0, .int .i64 0, .slice none 0 0] 35)) = W2 at *
  clear hmk
  go_loopw [13] (fun i wr => ∃ (k : Nat) (bs : List Nat), k ≤ g.rs.length ∧ i = .int .i64 k ∧ RulesAt wr (w.heap.size + 1 + 1) bs g.rs k ∧ w.heap.size + 1 + 1 < wr.heap.size ∧ Below (w.heap.size + 1 + 1) W2 wr) (fun i _ => g.rs.length - (intOf i).toNat)
  case atStart => exact ⟨0, [], by omega, rfl, hR3, hz3, hB3⟩
  case round =>
    clear hR3 hz3 hB3
    obtain ⟨k, bs, hk, rfl, hR, hzr, hB⟩ := hrel
    have hGr := hG2.below hB (by omega)
    by_cases hlt : k < g.rs.length
    · obtain ⟨r, hr⟩ : ∃ r, g.rs[k]? = some r := ⟨g.rs[k], List.getElem?_eq_getElem hlt⟩
      obtain ⟨b, off, qa, qc, hra, d0, d1, hI⟩ := hGr.2.2 k r hr
      subst hra
      have hlt2 : (k : Int) < (g.rs.length : Int) := by omega
      have hba : Below wr.heap.size wr (wr.alloc (.cells #[.int .i64 r.left, .slice qa r.right.length qc] 53)) := (Below.refl _ _).alloc (Nat.le_refl _) _
      have hza : (wr.alloc (.cells #[.int .i64 r.left, .slice qa r.right.length qc] 53)).heap.size = wr.heap.size + 1 := by simp
      have hcp := copyRule_any r.left qa qc r.right _ (hI.below hba (Nat.le_refl _)) (em r (List.mem_of_getElem? hr))
      clear hI hGr c0 c1 c2 c3 z0 z1 z2 z3 y0 y1 y2 y3
      go_wp2_with fail
      refine hcp.mono ?_
      rintro e w2 ⟨⟨x, rfl, hx, hxr⟩, hb2⟩
      have hbw := hba.trans (hb2.mono (by omega))
      have hR2 := hR.below hbw (Nat.le_refl _) hzr
      have hzw := hbw.size
      obtain ⟨f0, v0, k0⟩ := hR2.room (k * 2) (by omega)
      obtain ⟨f1, v1, k1⟩ := hR2.room (k * 2 + 1) (by omega)
      have hR4 := hR2.put hr hxr (by omega) (fun y hy => by have := hR.hi y hy; omega)
      have hB4 := ((hB.trans (hbw.mono (by omega))).setCell (p := ⟨w.heap.size + 1 + 1, k * 2, none⟩) (by simp) (.int .i64 r.left)).setCell (p := ⟨w.heap.size + 1 + 1, k * 2 + 1, none⟩) (by simp) (.slice (some ⟨x, 0, none⟩) r.right.length r.right.length)
      have hz4 : w.heap.size + 1 + 1 < ((w2.setCell ⟨w.heap.size + 1 + 1, k * 2, none⟩ (.int .i64 r.left)).setCell ⟨w.heap.size + 1 + 1, k * 2 + 1, none⟩ (.slice (some ⟨x, 0, none⟩) r.right.length r.right.length)).heap.size := by simp; omega
      clear hcp hR hR2 hr hxr hB d0 d1
      go_wp2
      go_roundw
      case rel => exact ⟨k + 1, bs ++ [x], by omega, by go_num, hR4, hz4, hB4⟩
      case measure => simp [intOf]; omega
    · obtain rfl : k = g.rs.length := by omega
      have hnl : ¬ (g.rs.length : Int) < (g.rs.length : Int) := by omega
      have hS : ∀ w', Below wr.heap.size wr w' → (w'.cell? ⟨w.heap.size, 0, none⟩ = some (.slice ta g.ts.length tc) ∧ w'.cell? ⟨w.heap.size, 1, none⟩ = some (.slice na g.ns.length nc) ∧ w'.cell? ⟨w.heap.size, 2, none⟩ = some (.int .i64 g.ax)) := fun w' hb => ⟨(hb.cell (show w.heap.size < wr.heap.size by omega)).trans ((hB.cell (show w.heap.size < w.heap.size + 1 + 1 by omega)).trans c0), (hb.cell (show w.heap.size < wr.heap.size by omega)).trans ((hB.cell (show w.heap.size < w.heap.size + 1 + 1 by omega)).trans c1), (hb.cell (show w.heap.size < wr.heap.size by omega)).trans ((hB.cell (show w.heap.size < w.heap.size + 1 + 1 by omega)).trans c2)⟩
      have hdZ : Below wr.heap.size wr wr.drew := ⟨rfl, rfl, rfl, Nat.le_refl wr.heap.size, fun _ _ => rfl⟩
      have hlt : w.heap.size + 1 < w.heap.size + 1 + 1 := by omega
      go_wp2_with fail
      refine wp_region_noPanic ?_
      refine wp_region_held_drew (S := (fun w' => w'.cell? ⟨w.heap.size, 0, none⟩ = some (.slice ta g.ts.length tc) ∧ w'.cell? ⟨w.heap.size, 1, none⟩ = some (.slice na g.ns.length nc) ∧ w'.cell? ⟨w.heap.size, 2, none⟩ = some (.int .i64 g.ax))) (by kernel_rfl) (hS _ hdZ) (fun hHeld => ?_)
      refine wpAnyH_take (i := 0) (v := .pointer (some ⟨w.heap.size, 0, none⟩)) rfl (by kernel_rfl) (by kernel_rfl) (by kernel_rfl) (fun _ _ _ h => h) (Or.inl ⟨by rfl, fun w9 hSw => ?_⟩) hHeld ?_
      · obtain ⟨s0, s1, s2⟩ := hSw
        go_simp
      simp only [List.getElem_toArray, List.getElem_cons_zero, Act.put, List.setIfInBounds_toArray, List.set_cons_zero, List.set_cons_succ]
      refine wpAnyH_take (i := 1) (v := .slice ta g.ts.length tc) rfl (by kernel_rfl) (by kernel_rfl) (by kernel_rfl) (fun _ _ _ h => h) (Or.inl ⟨by rfl, fun w9 hSw => ?_⟩) hHeld ?_
      · obtain ⟨s0, s1, s2⟩ := hSw
        go_simp
      simp only [List.getElem_toArray, List.getElem_cons_zero, List.getElem_cons_succ, Act.put, List.setIfInBounds_toArray, List.set_cons_zero, List.set_cons_succ]
      refine wpAnyH_take (i := 3) (v := .pointer (some ⟨w.heap.size, 1, none⟩)) rfl (by kernel_rfl) (by kernel_rfl) (by kernel_rfl) (fun _ _ _ h => h) (Or.inl ⟨by rfl, fun w9 hSw => ?_⟩) hHeld ?_
      · obtain ⟨s0, s1, s2⟩ := hSw
        go_simp
      simp only [List.getElem_toArray, List.getElem_cons_zero, List.getElem_cons_succ, Act.put, List.setIfInBounds_toArray, List.set_cons_zero, List.set_cons_succ]
      refine wpAnyH_take (i := 4) (v := .slice na g.ns.length nc) rfl (by kernel_rfl) (by kernel_rfl) (by kernel_rfl) (fun _ _ _ h => h) (Or.inl ⟨by rfl, fun w9 hSw => ?_⟩) hHeld ?_
      · obtain ⟨s0, s1, s2⟩ := hSw
        go_simp
      simp only [List.getElem_toArray, List.getElem_cons_zero, List.getElem_cons_succ, Act.put, List.setIfInBounds_toArray, List.set_cons_zero, List.set_cons_succ]
      refine wpAnyH_take (i := 6) (v := .pointer (some ⟨w.heap.size, 2, none⟩)) rfl (by kernel_rfl) (by kernel_rfl) (by kernel_rfl) (fun _ _ _ h => h) (Or.inl ⟨by rfl, fun w9 hSw => ?_⟩) hHeld ?_
      · obtain ⟨s0, s1, s2⟩ := hSw
        go_simp
      simp only [List.getElem_toArray, List.getElem_cons_zero, List.getElem_cons_succ, Act.put, List.setIfInBounds_toArray, List.set_cons_zero, List.set_cons_succ]
      refine wpAnyH_take (i := 7) (v := .int .i64 g.ax) rfl (by kernel_rfl) (by kernel_rfl) (by kernel_rfl) (fun _ _ _ h => h) (Or.inl ⟨by rfl, fun w9 hSw => ?_⟩) hHeld ?_
      · obtain ⟨s0, s1, s2⟩ := hSw
        go_simp
      simp only [List.getElem_toArray, List.getElem_cons_zero, List.getElem_cons_succ, Act.put, List.setIfInBounds_toArray, List.set_cons_zero, List.set_cons_succ]
      refine wpAnyH_take (i := 8) (v := .slice (some ⟨w.heap.size + 1 + 1, 0, none⟩) g.rs.length g.rs.length) rfl (by kernel_rfl) (by kernel_rfl) (by kernel_rfl) (fun _ _ _ h => h) (Or.inl ⟨by rfl, fun w9 hSw => ?_⟩) hHeld ?_
      · obtain ⟨s0, s1, s2⟩ := hSw
        go_simp
      simp only [List.getElem_toArray, List.getElem_cons_zero, List.getElem_cons_succ, Act.put, List.setIfInBounds_toArray, List.set_cons_zero, List.set_cons_succ]
      refine wpAnyH_ready (rs := [2]) (by kernel_rfl) (by simp) ?_
      refine AllReadyH.cons rfl (fun K hK => ?_) AllReadyH.nil
      go_simp
      refine (copyNames_any ta tc g.ts _ (hGr.1.below hdZ (Nat.le_refl _)) tm o6).mono ?_
      rintro e w1 ⟨⟨b1, rfl, hb1l, hr1⟩, hb1⟩
      have hB1 := hdZ.trans hb1
      refine hK.out _ _ (hS _ hB1) (fun hHeld2 => ?_)
      clear hK K hHeld
      refine wpAnyH_ready (rs := [5]) (by kernel_rfl) (by simp) ?_
      refine AllReadyH.cons rfl (fun K hK => ?_) AllReadyH.nil
      go_simp
      refine (copyNames_any na nc g.ns _ (hGr.2.1.below hB1 (Nat.le_refl _)) nm o7).mono ?_
      rintro e w3 ⟨⟨b2, rfl, hb2l, hr2⟩, hb3⟩
      have hB3 := hB1.trans (hb3.mono hB1.size)
      refine hK.out _ _ (hS _ hB3) (fun hHeld4 => ?_)
      clear hK K hHeld2
      refine wpAnyH_ready (rs := [9]) (by kernel_rfl) (by simp) ?_
      refine AllReadyH.cons rfl (fun K hK => ?_) AllReadyH.nil
      go_simp
      refine hK.out _ _ (hS _ hB3) (fun hHeld5 => ?_)
      clear hK K hHeld4
      have hBB := hB.trans (hB3.mono (Nat.le_of_lt hzr))
      have x0 := (hBB.cell (p := ⟨w.heap.size + 1, 0, none⟩) hlt).trans z0
      have x1 := (hBB.cell (p := ⟨w.heap.size + 1, 1, none⟩) hlt).trans z1
      have x2 := (hBB.cell (p := ⟨w.heap.size + 1, 2, none⟩) hlt).trans z2
      have x3 := (hBB.cell (p := ⟨w.heap.size + 1, 3, none⟩) hlt).trans z3
      have u0 := (hBB.frozen (p := ⟨w.heap.size + 1, 0, none⟩) hlt).trans y0
      have u1 := (hBB.frozen (p := ⟨w.heap.size + 1, 1, none⟩) hlt).trans y1
      have u2 := (hBB.frozen (p := ⟨w.heap.size + 1, 2, none⟩) hlt).trans y2
      have u3 := (hBB.frozen (p := ⟨w.heap.size + 1, 3, none⟩) hlt).trans y3
      refine wpAnyH_ready (rs := [10]) (by kernel_rfl) (by simp) ?_
      refine AllReadyH.cons rfl (fun K hK => ?_) AllReadyH.nil
      go_simp
      have hs1 := hb1.size
      have hs3 := hb3.size
      have hzd : wr.drew.heap.size = wr.heap.size := rfl
      have hlt1 := hr1.lt
      have hC : Cut (w.heap.size + 1) w3 ((((w3.setCell ⟨w.heap.size + 1, 0, none⟩ (.slice (some ⟨b1, 0, none⟩) g.ts.length g.ts.length)).setCell ⟨w.heap.size + 1, 1, none⟩ (.slice (some ⟨b2, 0, none⟩) g.ns.length g.ns.length)).setCell ⟨w.heap.size + 1, 2, none⟩ (.int .i64 g.ax)).setCell ⟨w.heap.size + 1, 3, none⟩ (.slice (some ⟨w.heap.size + 1 + 1, 0, none⟩) g.rs.length g.rs.length)) := (((Cut.set w3 _ _ _).trans (Cut.set _ _ _ _)).trans (Cut.set _ _ _ _)).trans (Cut.set _ _ _ _)
      have hR3 := hR.below hB3 (Nat.le_refl _) hzr
      have hr1' := hr1.below hb3 hlt1
      have hCo : CopyAt ((((w3.setCell ⟨w.heap.size + 1, 0, none⟩ (.slice (some ⟨b1, 0, none⟩) g.ts.length g.ts.length)).setCell ⟨w.heap.size + 1, 1, none⟩ (.slice (some ⟨b2, 0, none⟩) g.ns.length g.ns.length)).setCell ⟨w.heap.size + 1, 2, none⟩ (.int .i64 g.ax)).setCell ⟨w.heap.size + 1, 3, none⟩ (.slice (some ⟨w.heap.size + 1 + 1, 0, none⟩) g.rs.length g.rs.length)) w.heap.size b1 b2 (w.heap.size + 1 + 1) bs g := by
        refine ⟨((((hr1'.other (by omega) _ _).other (by omega) _ _).other (by omega) _ _).other (by omega) _ _), ((((hr2.other (by omega) _ _).other (by omega) _ _).other (by omega) _ _).other (by omega) _ _), ?_, by omega, by omega, by omega, by omega, by omega, by simp; omega⟩
        refine ⟨fun q hq => ?_, hR3.len, fun i r x hr hx => ?_, hR3.inc, hR3.lo, fun x hx => ?_⟩
        · obtain ⟨h1, v, h2⟩ := hR3.room q hq
          exact ⟨by simp only [World.frozen?_setCell]; exact h1, v, (hC _ (by simp)).trans h2⟩
        · obtain ⟨h1, h2, h3⟩ := hR3.each i r x hr hx
          have hxl := hR3.lo x (List.mem_of_getElem? hx)
          exact ⟨(hC _ (by simp)).trans h1, (hC _ (by simp)).trans h2, ((((h3.other (by omega) _ _).other (by omega) _ _).other (by omega) _ _).other (by omega) _ _)⟩
        · have := hR3.hi x hx
          simpa using this
      have hBw : Below w.heap.size w ((((w3.setCell ⟨w.heap.size + 1, 0, none⟩ (.slice (some ⟨b1, 0, none⟩) g.ts.length g.ts.length)).setCell ⟨w.heap.size + 1, 1, none⟩ (.slice (some ⟨b2, 0, none⟩) g.ns.length g.ns.length)).setCell ⟨w.heap.size + 1, 2, none⟩ (.int .i64 g.ax)).setCell ⟨w.heap.size + 1, 3, none⟩ (.slice (some ⟨w.heap.size + 1 + 1, 0, none⟩) g.rs.length g.rs.length)) := (((((hB2.trans (hBB.mono (by omega))).setCell (by simp) _).setCell (by simp) _).setCell (by simp) _).setCell (by simp) _)
      have hS4 := hS _ hB3
      have hne : ∀ o, (⟨w.heap.size, o, none⟩ : Addr).block ≠ w.heap.size + 1 := fun o => by simp
      refine hK.out _ _ ⟨(hC _ (hne _)).trans hS4.1, (hC _ (hne _)).trans hS4.2.1, (hC _ (hne _)).trans hS4.2.2⟩ (fun _ => ?_)
      clear hK K
      refine wpAnyH_done (by kernel_rfl) (NoPanic.normal ?_) _
      have k0 : ((((w3.setCell ⟨w.heap.size + 1, 0, none⟩ (.slice (some ⟨b1, 0, none⟩) g.ts.length g.ts.length)).setCell ⟨w.heap.size + 1, 1, none⟩ (.slice (some ⟨b2, 0, none⟩) g.ns.length g.ns.length)).setCell ⟨w.heap.size + 1, 2, none⟩ (.int .i64 g.ax)).setCell ⟨w.heap.size + 1, 3, none⟩ (.slice (some ⟨w.heap.size + 1 + 1, 0, none⟩) g.rs.length g.rs.length)).cell? ⟨w.heap.size + 1, 0, none⟩ = some (.slice (some ⟨b1, 0, none⟩) g.ts.length g.ts.length) := by simp [go_sem, x0]
      have k1 : ((((w3.setCell ⟨w.heap.size + 1, 0, none⟩ (.slice (some ⟨b1, 0, none⟩) g.ts.length g.ts.length)).setCell ⟨w.heap.size + 1, 1, none⟩ (.slice (some ⟨b2, 0, none⟩) g.ns.length g.ns.length)).setCell ⟨w.heap.size + 1, 2, none⟩ (.int .i64 g.ax)).setCell ⟨w.heap.size + 1, 3, none⟩ (.slice (some ⟨w.heap.size + 1 + 1, 0, none⟩) g.rs.length g.rs.length)).cell? ⟨w.heap.size + 1, 1, none⟩ = some (.slice (some ⟨b2, 0, none⟩) g.ns.length g.ns.length) := by simp [go_sem, x1]
      have k2 : ((((w3.setCell ⟨w.heap.size + 1, 0, none⟩ (.slice (some ⟨b1, 0, none⟩) g.ts.length g.ts.length)).setCell ⟨w.heap.size + 1, 1, none⟩ (.slice (some ⟨b2, 0, none⟩) g.ns.length g.ns.length)).setCell ⟨w.heap.size + 1, 2, none⟩ (.int .i64 g.ax)).setCell ⟨w.heap.size + 1, 3, none⟩ (.slice (some ⟨w.heap.size + 1 + 1, 0, none⟩) g.rs.length g.rs.length)).cell? ⟨w.heap.size + 1, 2, none⟩ = some (.int .i64 g.ax) := by simp [go_sem, x2]
      have k3 : ((((w3.setCell ⟨w.heap.size + 1, 0, none⟩ (.slice (some ⟨b1, 0, none⟩) g.ts.length g.ts.length)).setCell ⟨w.heap.size + 1, 1, none⟩ (.slice (some ⟨b2, 0, none⟩) g.ns.length g.ns.length)).setCell ⟨w.heap.size + 1, 2, none⟩ (.int .i64 g.ax)).setCell ⟨w.heap.size + 1, 3, none⟩ (.slice (some ⟨w.heap.size + 1 + 1, 0, none⟩) g.rs.length g.rs.length)).cell? ⟨w.heap.size + 1, 3, none⟩ = some (.slice (some ⟨w.heap.size + 1 + 1, 0, none⟩) g.rs.length g.rs.length) := by simp [go_sem, x3]
      clear hC hS hS4 hR hR3 hr1 hr2 hr1'
      generalize ((((w3.setCell ⟨w.heap.size + 1, 0, none⟩ (.slice (some ⟨b1, 0, none⟩) g.ts.length g.ts.length)).setCell ⟨w.heap.size + 1, 1, none⟩ (.slice (some ⟨b2, 0, none⟩) g.ns.length g.ns.length)).setCell ⟨w.heap.size + 1, 2, none⟩ (.int .i64 g.ax)).setCell ⟨w.heap.size + 1, 3, none⟩ (.slice (some ⟨w.heap.size + 1 + 1, 0, none⟩) g.rs.length g.rs.length)) = W4 at *
      go_wp2
      refine bodyPost_ret (v := .agg #[.slice (some ⟨b1, 0, none⟩) g.ts.length g.ts.length, .slice (some ⟨b2, 0, none⟩) g.ns.length g.ns.length, .int .i64 g.ax, .slice (some ⟨w.heap.size + 1 + 1, 0, none⟩) g.rs.length g.rs.length]) (by simp [results, Tryd.results29, go_sem, k0, k1, k2, k3]; try rfl) rfl ?_
      exact ⟨⟨b1, b2, w.heap.size + 1 + 1, rfl, bs, hCo⟩, hBw⟩

end Go.Proofs.YtcmjneabcdpmoaaDoor.GramCopy
