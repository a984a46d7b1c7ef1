/-
  The reason of the place that was found.
-/
import Derived.Test.YtpdkjblmpgmcjaaDoorMatrixKeep
import Derived.Test.YtpdkjblmpgmcjaaDoorEndsChain
import Derived.Test.YtpdkjblmpgmcjaaDoorMatrixTurnM
import Derived.Test.YtpdkjblmpgmcjaaDoorUsefulOpen
namespace Go.Proofs.YtpdkjblmpgmcjaaDoor.MatrixReason
open Go.RowKit Go.Proofs.YtpdkjblmpgmcjaaDoor.GramMath Go.Proofs.YtpdkjblmpgmcjaaDoor.GramRow Go.Proofs.YtpdkjblmpgmcjaaDoor.GramApart Go.Proofs.YtpdkjblmpgmcjaaDoor.GramErrs Go.Proofs.YtpdkjblmpgmcjaaDoor.MatrixMath Go.Proofs.YtpdkjblmpgmcjaaDoor.MatrixTell Go.Proofs.YtpdkjblmpgmcjaaDoor.MatrixKeep Go.Proofs.YtpdkjblmpgmcjaaDoor.EndsMath Go.Proofs.YtpdkjblmpgmcjaaDoor.EndsFn Go.Proofs.YtpdkjblmpgmcjaaDoor.EndsSearch Go.Proofs.YtpdkjblmpgmcjaaDoor.EndsChain
set_option linter.unusedVariables false
set_option linter.unusedSimpArgs false

theorem rowN (w : World) (c : Array Value) (t : TypeId) : RowAt (w.alloc (.cells c t)) w.heap.size t c := heap_new _ _

set_option maxRecDepth 100000 in
set_option maxHeartbeats 2000000 in
theorem reason_eq (ta na ra : Option Addr) (tc nc rc : Nat) (g : G) (M : Nat) (a b : Int) (f : Fnd)  (w : World) (hr : RowAt w M 76 (srchC 2 a b (some f))) :
    Calls Tryd.prog 35 #[.pointer (some ⟨M, 0, none⟩), .agg #[.slice ta g.ts.length tc, .slice na g.ns.length nc, .int .i64 g.ax, .slice ra g.rs.length rc]] w fun e w' => e = .returned (.tuple #[.agg #[.int .i64 f.p.rule, .int .i64 f.p.at_, .slice none 0 0], .nilIface]) ∧ Below w.heap.size w w' := by
  have hneq := neq_nil
  have heq0 : ∀ W : World, (binOp .neq 31 .nilIface .nilIface).run Tryd.prog W = .ok (.bool false) W := fun W => by kernel_rfl
  obtain ⟨W2, hW2⟩ : ∃ W2, W2 = (w.alloc (.cells #[.slice ta g.ts.length tc, .slice na g.ns.length nc, .int .i64 g.ax, .slice ra g.rs.length rc] 25)).alloc (.cells #[.int .i64 0, .int .i64 0, .slice none 0 0] 29) := ⟨_, rfl⟩
  have hb2 : Below w.heap.size w W2 := by rw [hW2]; exact ((Below.refl _ _).alloc (Nat.le_refl _) _).alloc (by simp) _
  have hr2 := hr.below hb2 hr.lt
  have hM := hr.lt
  have hz2 : W2.heap.size = w.heap.size + 2 := by rw [hW2]; simp
  have hg2 : RowAt W2 w.heap.size 25 #[.slice ta g.ts.length tc, .slice na g.ns.length nc, .int .i64 g.ax, .slice ra g.rs.length rc] := by
    rw [hW2]
    exact (rowN w _ _).alloc _
  have hq2 : RowAt W2 (w.heap.size + 1) 29 #[.int .i64 0, .int .i64 0, .slice none 0 0] := by
    have h := rowN (w.alloc (.cells #[.slice ta g.ts.length tc, .slice na g.ns.length nc, .int .i64 g.ax, .slice ra g.rs.length rc] 25)) #[.int .i64 0, .int .i64 0, .slice none 0 0] 29
    rw [World.size_alloc] at h
    rw [hW2]
    exact h
  obtain ⟨W3, hW3⟩ : ∃ W3, W3 = (W2.alloc (.cells #[.int .i64 f.p.rule, .int .i64 f.p.at_, .slice none 0 0] 29)).drew := ⟨_, rfl⟩
  have hb3 : Below W2.heap.size W2 W3 := by
    have h : Below W2.heap.size W2 (W2.alloc (.cells #[.int .i64 f.p.rule, .int .i64 f.p.at_, .slice none 0 0] 29)) := (Below.refl _ _).alloc (Nat.le_refl _) _
    rw [hW3]
    exact ⟨h.os, h.tape, h.output, h.size, h.block⟩
  have hz3 : W3.heap.size = w.heap.size + 3 := by rw [hW3]; show (W2.alloc _).heap.size = _; simp [hz2]
  have hr3 := hr2.below hb3 hr2.lt
  have hg3 := hg2.below hb3 hg2.lt
  have hq3 := hq2.below hb3 hq2.lt
  have hy3 : RowAt W3 (w.heap.size + 2) 29 #[.int .i64 f.p.rule, .int .i64 f.p.at_, .slice none 0 0] := by
    have h := rowN W2 #[.int .i64 f.p.rule, .int .i64 f.p.at_, .slice none 0 0] 29
    rw [hz2] at h
    rw [hW3]
    exact h
  have hb3z : Below W2.heap.size W2 (W2.alloc (.cells #[.int .i64 0, .int .i64 0, .slice none 0 0] 29)) := (Below.refl _ _).alloc (Nat.le_refl _) _
  unfold srchC at hr2 hr3
  have c4 := hr2.cell (q := 4) rfl
  have c5 := hr2.cell (q := 5) rfl
  have d4 := (hb3z.cell (p := ⟨M, 4, none⟩) (cell_lt c4)).trans c4
  have d5 := (hb3z.cell (p := ⟨M, 5, none⟩) (cell_lt c5)).trans c5
  have hB3 : Below w.heap.size w W3 := hb2.trans (hb3.mono (by omega))
  have HW2 : Hid (_) := hW2
  have HW3 : Hid (_) := hW3
  clear hW2 hW3 hb3z hb2
  go_enter Tryd.func35, Tryd.ntmps35
  go_wp2
  rw [← HW2.out]
  go_region
  rw [← HW3.out]
  clear HW2 HW3 c4 c5 d4 d5 hr2 hg2 hq2 hb3
  have k2 := hr3.cell (q := 2) rfl
  have s0 := hq3.cell (q := 0) rfl
  have s1 := hq3.cell (q := 1) rfl
  have s2 := hq3.cell (q := 2) rfl
  have t0 := hq3.frozen 0
  have t1 := hq3.frozen 1
  have t2 := hq3.frozen 2
  have u0 := hy3.cell (q := 0) rfl
  have u1 := hy3.cell (q := 1) rfl
  have u2 := hy3.cell (q := 2) rfl
  have hq9 := ((hq3.set 0 (.int .i64 f.p.rule)).set 1 (.int .i64 f.p.at_)).set 2 (.slice none 0 0)
  have z0 := hq9.cell (q := 0) rfl
  have z1 := hq9.cell (q := 1) rfl
  have z2 := hq9.cell (q := 2) rfl
  have hB9 := ((hB3.setCell (p := ⟨w.heap.size + 1, 0, none⟩) (by simp) (.int .i64 f.p.rule)).setCell (p := ⟨w.heap.size + 1, 1, none⟩) (by simp) (.int .i64 f.p.at_)).setCell (p := ⟨w.heap.size + 1, 2, none⟩) (by simp) (.slice none 0 0)
  go_wp2
  refine bodyPost_ret (v := .tuple #[.agg #[.int .i64 f.p.rule, .int .i64 f.p.at_, .slice none 0 0], .nilIface]) (by simp [results, Tryd.results35, go_sem, z0, z1, z2]; try rfl) rfl ?_
  exact ⟨rfl, hB9⟩

set_option maxRecDepth 100000 in
set_option maxHeartbeats 2000000 in
theorem reason_yield (ta na ra : Option Addr) (tc nc rc : Nat) (g : G) (M : Nat) (a b : Int) (f : Fnd) (p : Nat → Addr) (w : World) (hr : RowAt w M 76 (srchC 1 a b (some f))) (hG : GRow w ta na ra g) (hg : okG g) (htc : g.ts.length ≤ tc) (hnc : g.ns.length ≤ nc) (hE : Errs w p) (hch : ∀ z o, ChainR g f.p.non b false z o → z = (0, none) ∧ ∃ c, o = some c) :
    Calls Tryd.prog 35 #[.pointer (some ⟨M, 0, none⟩), .agg #[.slice ta g.ts.length tc, .slice na g.ns.length nc, .int .i64 g.ax, .slice ra g.rs.length rc]] w fun e w' => (∃ v c, e = .returned (.tuple #[.agg #[.int .i64 f.p.rule, .int .i64 f.p.at_, v], .nilIface]) ∧ ChV w.heap.size w' v (some c) ∧ ChainR g f.p.non b false (0, none) (some c)) ∧ Below w.heap.size w w' := by
  have hneq := neq_nil
  have heq0 : ∀ W : World, (binOp .neq 31 .nilIface .nilIface).run Tryd.prog W = .ok (.bool false) W := fun W => by kernel_rfl
  obtain ⟨W2, hW2⟩ : ∃ W2, W2 = (w.alloc (.cells #[.slice ta g.ts.length tc, .slice na g.ns.length nc, .int .i64 g.ax, .slice ra g.rs.length rc] 25)).alloc (.cells #[.int .i64 0, .int .i64 0, .slice none 0 0] 29) := ⟨_, rfl⟩
  have hb2 : Below w.heap.size w W2 := by rw [hW2]; exact ((Below.refl _ _).alloc (Nat.le_refl _) _).alloc (by simp) _
  have hr2 := hr.below hb2 hr.lt
  have hM := hr.lt
  have hz2 : W2.heap.size = w.heap.size + 2 := by rw [hW2]; simp
  have hg2 : RowAt W2 w.heap.size 25 #[.slice ta g.ts.length tc, .slice na g.ns.length nc, .int .i64 g.ax, .slice ra g.rs.length rc] := by
    rw [hW2]
    exact (rowN w _ _).alloc _
  have hq2 : RowAt W2 (w.heap.size + 1) 29 #[.int .i64 0, .int .i64 0, .slice none 0 0] := by
    have h := rowN (w.alloc (.cells #[.slice ta g.ts.length tc, .slice na g.ns.length nc, .int .i64 g.ax, .slice ra g.rs.length rc] 25)) #[.int .i64 0, .int .i64 0, .slice none 0 0] 29
    rw [World.size_alloc] at h
    rw [hW2]
    exact h
  obtain ⟨W3, hW3⟩ : ∃ W3, W3 = (W2.alloc (.cells #[.int .i64 f.p.rule, .int .i64 f.p.at_, .slice none 0 0] 29)).drew := ⟨_, rfl⟩
  have hb3 : Below W2.heap.size W2 W3 := by
    have h : Below W2.heap.size W2 (W2.alloc (.cells #[.int .i64 f.p.rule, .int .i64 f.p.at_, .slice none 0 0] 29)) := (Below.refl _ _).alloc (Nat.le_refl _) _
    rw [hW3]
    exact ⟨h.os, h.tape, h.output, h.size, h.block⟩
  have hz3 : W3.heap.size = w.heap.size + 3 := by rw [hW3]; show (W2.alloc _).heap.size = _; simp [hz2]
  have hr3 := hr2.below hb3 hr2.lt
  have hg3 := hg2.below hb3 hg2.lt
  have hq3 := hq2.below hb3 hq2.lt
  have hy3 : RowAt W3 (w.heap.size + 2) 29 #[.int .i64 f.p.rule, .int .i64 f.p.at_, .slice none 0 0] := by
    have h := rowN W2 #[.int .i64 f.p.rule, .int .i64 f.p.at_, .slice none 0 0] 29
    rw [hz2] at h
    rw [hW3]
    exact h
  have hb3z : Below W2.heap.size W2 (W2.alloc (.cells #[.int .i64 0, .int .i64 0, .slice none 0 0] 29)) := (Below.refl _ _).alloc (Nat.le_refl _) _
  unfold srchC at hr2 hr3
  have c4 := hr2.cell (q := 4) rfl
  have c5 := hr2.cell (q := 5) rfl
  have d4 := (hb3z.cell (p := ⟨M, 4, none⟩) (cell_lt c4)).trans c4
  have d5 := (hb3z.cell (p := ⟨M, 5, none⟩) (cell_lt c5)).trans c5
  have hB3 : Below w.heap.size w W3 := hb2.trans (hb3.mono (by omega))
  have HW2 : Hid (_) := hW2
  have HW3 : Hid (_) := hW3
  clear hW2 hW3 hb3z hb2
  go_enter Tryd.func35, Tryd.ntmps35
  go_wp2
  rw [← HW2.out]
  go_region
  rw [← HW3.out]
  clear HW2 HW3 c4 c5 d4 d5 hr2 hg2 hq2 hb3
  have k2 := hr3.cell (q := 2) rfl
  have g0 := hg3.cell (q := 0) rfl
  have g1 := hg3.cell (q := 1) rfl
  have g2 := hg3.cell (q := 2) rfl
  have g3 := hg3.cell (q := 3) rfl
  have k6 := hr3.cell (q := 6) rfl
  have kt := hr3.cell (q := 1) rfl
  have hS : ∀ w', Below W3.heap.size W3 w' → (fun w' => w'.cell? ⟨w.heap.size, 0, none⟩ = some (.slice ta g.ts.length tc) ∧ w'.cell? ⟨w.heap.size, 1, none⟩ = some (.slice na g.ns.length nc) ∧ w'.cell? ⟨w.heap.size, 2, none⟩ = some (.int .i64 g.ax) ∧ w'.cell? ⟨w.heap.size, 3, none⟩ = some (.slice ra g.rs.length rc) ∧ w'.cell? ⟨M, 6, none⟩ = some (.int .i64 f.p.non) ∧ w'.cell? ⟨M, 1, none⟩ = some (.int .i64 b)) w' := fun w' hb => by
    have key : ∀ q v, W3.cell? q = some v → w'.cell? q = some v := fun q v hv => (hb.cell (p := q) (cell_lt hv)).trans hv
    exact ⟨key _ _ g0, key _ _ g1, key _ _ g2, key _ _ g3, key _ _ k6, key _ _ kt⟩
  have hdr : Below W3.heap.size W3 W3.drew := ⟨rfl, rfl, rfl, Nat.le_refl _, fun _ _ => rfl⟩
  have hBd : Below w.heap.size w W3.drew := hB3.trans (hdr.mono (by omega))
  have hcc := Chain_top ta na ra tc nc rc g f.p.non b false p W3.drew (hG.below hBd (Nat.le_refl _)) hg htc hnc (hE.below hBd (Nat.le_refl _))
  clear g0 g1 g2 g3 k6 kt hG hg3
  go_wp2_with fail
  refine wp_region_noPanic ?_
  refine wp_region_held_drew (S := (fun w' => w'.cell? ⟨w.heap.size, 0, none⟩ = some (.slice ta g.ts.length tc) ∧ w'.cell? ⟨w.heap.size, 1, none⟩ = some (.slice na g.ns.length nc) ∧ w'.cell? ⟨w.heap.size, 2, none⟩ = some (.int .i64 g.ax) ∧ w'.cell? ⟨w.heap.size, 3, none⟩ = some (.slice ra g.rs.length rc) ∧ w'.cell? ⟨M, 6, none⟩ = some (.int .i64 f.p.non) ∧ w'.cell? ⟨M, 1, none⟩ = some (.int .i64 b))) (by kernel_rfl) (hS _ hdr) (fun hHeld => ?_)
  refine wpAnyH_take (i := 0) (v := .agg #[.slice ta g.ts.length tc, .slice na g.ns.length nc, .int .i64 g.ax, .slice ra g.rs.length rc]) rfl (by kernel_rfl) (by kernel_rfl) (by kernel_rfl) (fun _ _ _ h => h) (Or.inl ⟨by rfl, fun w9 hSw => ?_⟩) hHeld ?_
  · obtain ⟨s0, s1, s2, s3, s4, s5⟩ := hSw
    go_simp
  simp only [List.getElem_toArray, List.getElem_cons_zero, List.getElem_cons_succ, Act.put, List.setIfInBounds_toArray, List.set_cons_zero, List.set_cons_succ]
  refine wpAnyH_take (i := 1) (v := .pointer (some ⟨M, 0, none⟩)) rfl (by kernel_rfl) (by kernel_rfl) (by kernel_rfl) (fun _ _ _ h => h) (Or.inl ⟨by rfl, fun w9 hSw => ?_⟩) hHeld ?_
  · obtain ⟨s0, s1, s2, s3, s4, s5⟩ := hSw
    go_simp
  simp only [List.getElem_toArray, List.getElem_cons_zero, List.getElem_cons_succ, Act.put, List.setIfInBounds_toArray, List.set_cons_zero, List.set_cons_succ]
  refine wpAnyH_take (i := 2) (v := .pointer (some ⟨M, 0, none⟩)) rfl (by kernel_rfl) (by kernel_rfl) (by kernel_rfl) (fun _ _ _ h => h) (Or.inl ⟨by rfl, fun w9 hSw => ?_⟩) hHeld ?_
  · obtain ⟨s0, s1, s2, s3, s4, s5⟩ := hSw
    go_simp
  simp only [List.getElem_toArray, List.getElem_cons_zero, List.getElem_cons_succ, Act.put, List.setIfInBounds_toArray, List.set_cons_zero, List.set_cons_succ]
  refine wpAnyH_take (i := 3) (v := .pointer (some ⟨M, 4, none⟩)) rfl (by kernel_rfl) (by kernel_rfl) (by kernel_rfl) (fun _ _ _ h => h) (Or.inl ⟨by rfl, fun w9 hSw => ?_⟩) hHeld ?_
  · obtain ⟨s0, s1, s2, s3, s4, s5⟩ := hSw
    go_simp
  simp only [List.getElem_toArray, List.getElem_cons_zero, List.getElem_cons_succ, Act.put, List.setIfInBounds_toArray, List.set_cons_zero, List.set_cons_succ]
  refine wpAnyH_take (i := 4) (v := .pointer (some ⟨M, 6, none⟩)) rfl (by kernel_rfl) (by kernel_rfl) (by kernel_rfl) (fun _ _ _ h => h) (Or.inl ⟨by rfl, fun w9 hSw => ?_⟩) hHeld ?_
  · obtain ⟨s0, s1, s2, s3, s4, s5⟩ := hSw
    go_simp
  simp only [List.getElem_toArray, List.getElem_cons_zero, List.getElem_cons_succ, Act.put, List.setIfInBounds_toArray, List.set_cons_zero, List.set_cons_succ]
  refine wpAnyH_take (i := 5) (v := .int .i64 f.p.non) rfl (by kernel_rfl) (by kernel_rfl) (by kernel_rfl) (fun _ _ _ h => h) (Or.inl ⟨by rfl, fun w9 hSw => ?_⟩) hHeld ?_
  · obtain ⟨s0, s1, s2, s3, s4, s5⟩ := hSw
    go_simp
  simp only [List.getElem_toArray, List.getElem_cons_zero, List.getElem_cons_succ, Act.put, List.setIfInBounds_toArray, List.set_cons_zero, List.set_cons_succ]
  refine wpAnyH_take (i := 6) (v := .pointer (some ⟨M, 0, none⟩)) rfl (by kernel_rfl) (by kernel_rfl) (by kernel_rfl) (fun _ _ _ h => h) (Or.inl ⟨by rfl, fun w9 hSw => ?_⟩) hHeld ?_
  · obtain ⟨s0, s1, s2, s3, s4, s5⟩ := hSw
    go_simp
  simp only [List.getElem_toArray, List.getElem_cons_zero, List.getElem_cons_succ, Act.put, List.setIfInBounds_toArray, List.set_cons_zero, List.set_cons_succ]
  refine wpAnyH_take (i := 7) (v := .pointer (some ⟨M, 0, none⟩)) rfl (by kernel_rfl) (by kernel_rfl) (by kernel_rfl) (fun _ _ _ h => h) (Or.inl ⟨by rfl, fun w9 hSw => ?_⟩) hHeld ?_
  · obtain ⟨s0, s1, s2, s3, s4, s5⟩ := hSw
    go_simp
  simp only [List.getElem_toArray, List.getElem_cons_zero, List.getElem_cons_succ, Act.put, List.setIfInBounds_toArray, List.set_cons_zero, List.set_cons_succ]
  refine wpAnyH_take (i := 8) (v := .pointer (some ⟨M, 1, none⟩)) rfl (by kernel_rfl) (by kernel_rfl) (by kernel_rfl) (fun _ _ _ h => h) (Or.inl ⟨by rfl, fun w9 hSw => ?_⟩) hHeld ?_
  · obtain ⟨s0, s1, s2, s3, s4, s5⟩ := hSw
    go_simp
  simp only [List.getElem_toArray, List.getElem_cons_zero, List.getElem_cons_succ, Act.put, List.setIfInBounds_toArray, List.set_cons_zero, List.set_cons_succ]
  refine wpAnyH_take (i := 9) (v := .int .i64 b) rfl (by kernel_rfl) (by kernel_rfl) (by kernel_rfl) (fun _ _ _ h => h) (Or.inl ⟨by rfl, fun w9 hSw => ?_⟩) hHeld ?_
  · obtain ⟨s0, s1, s2, s3, s4, s5⟩ := hSw
    go_simp
  simp only [List.getElem_toArray, List.getElem_cons_zero, List.getElem_cons_succ, Act.put, List.setIfInBounds_toArray, List.set_cons_zero, List.set_cons_succ]
  refine wpAnyH_ready (rs := [10]) (by kernel_rfl) (by simp) ?_
  refine AllReadyH.cons rfl (fun K hK => ?_) AllReadyH.nil
  go_simp
  refine hcc.mono ?_
  rintro e w4 ⟨⟨v, y, z, o, rfl, hv, hy, hR⟩, hb4⟩
  have hC4 := hdr.trans hb4
  refine hK.out _ _ (hS _ hC4) (fun hHeld2 => ?_)
  clear hK K hHeld hcc
  obtain ⟨rfl, c, rfl⟩ := hch _ _ hR
  have HR : Hid (_) := hR
  obtain rfl : y = .nilIface := hy
  obtain ⟨g', cap', rfl, hown⟩ := hv
  refine wpAnyH_take (i := 11) (v := .tuple #[.slice (some ⟨g', 0, none⟩) c.length cap', .nilIface]) rfl (by kernel_rfl) (by kernel_rfl) (by kernel_rfl) (fun _ _ _ h => h) (Or.inl ⟨by rfl, fun w9 hSw => ?_⟩) hHeld2 ?_
  · obtain ⟨s0, s1, s2, s3, s4, s5⟩ := hSw
    go_simp
  simp only [List.getElem_toArray, List.getElem_cons_zero, List.getElem_cons_succ, Act.put, List.setIfInBounds_toArray, List.set_cons_zero, List.set_cons_succ]
  refine wpAnyH_take (i := 12) (v := .slice (some ⟨g', 0, none⟩) c.length cap') rfl (by kernel_rfl) (by kernel_rfl) (by kernel_rfl) (fun _ _ _ h => h) (Or.inl ⟨by rfl, fun w9 hSw => ?_⟩) hHeld2 ?_
  · obtain ⟨s0, s1, s2, s3, s4, s5⟩ := hSw
    go_simp
  simp only [List.getElem_toArray, List.getElem_cons_zero, List.getElem_cons_succ, Act.put, List.setIfInBounds_toArray, List.set_cons_zero, List.set_cons_succ]
  refine wpAnyH_take (i := 13) (v := .nilIface) rfl (by kernel_rfl) (by kernel_rfl) (by kernel_rfl) (fun _ _ _ h => h) (Or.inl ⟨by rfl, fun w9 hSw => ?_⟩) hHeld2 ?_
  · obtain ⟨s0, s1, s2, s3, s4, s5⟩ := hSw
    go_simp
  simp only [List.getElem_toArray, List.getElem_cons_zero, List.getElem_cons_succ, Act.put, List.setIfInBounds_toArray, List.set_cons_zero, List.set_cons_succ]
  refine wpAnyH_take (i := 14) (v := .pointer (some ⟨w.heap.size + 2, 2, none⟩)) rfl (by kernel_rfl) (by kernel_rfl) (by kernel_rfl) (fun _ _ _ h => h) (Or.inl ⟨by rfl, fun w9 hSw => ?_⟩) hHeld2 ?_
  · obtain ⟨s0, s1, s2, s3, s4, s5⟩ := hSw
    go_simp
  simp only [List.getElem_toArray, List.getElem_cons_zero, List.getElem_cons_succ, Act.put, List.setIfInBounds_toArray, List.set_cons_zero, List.set_cons_succ]
  have hB4 : Below w.heap.size w w4 := hB3.trans (hC4.mono (by omega))
  have hq4 := hq3.below hC4 hq3.lt
  have hy4 := hy3.below hC4 hy3.lt
  have y2 := hy4.cell (q := 2) rfl
  have yf := hy4.frozen 2
  have hy5 := hy4.set 2 (.slice (some ⟨g', 0, none⟩) c.length cap')
  have hq5 := hq4.other (b' := w.heap.size + 2) (by omega) 2 (.slice (some ⟨g', 0, none⟩) c.length cap')
  have hv5 : Hid (ChV w.heap.size (((w4.setCell ⟨w.heap.size + 2, 2, none⟩ (.slice (some ⟨g', 0, none⟩) c.length cap')).setCell ⟨w.heap.size + 1, 0, none⟩ (.int .i64 f.p.rule)).setCell ⟨w.heap.size + 1, 1, none⟩ (.int .i64 f.p.at_) |>.setCell ⟨w.heap.size + 1, 2, none⟩ (.slice (some ⟨g', 0, none⟩) c.length cap')) (.slice (some ⟨g', 0, none⟩) c.length cap') (some c)) := by
    refine ⟨g', cap', rfl, own_base (base := W3.heap.size) (ownsRow_setCell_below (ownsRow_setCell_below (ownsRow_setCell_below (ownsRow_setCell_below hown ?_ _) ?_ _) ?_ _) ?_ _) (by omega)⟩ <;> (show _ < W3.heap.size; simp only; omega)
  have hS5 : (fun w' => w'.cell? ⟨w.heap.size, 0, none⟩ = some (.slice ta g.ts.length tc) ∧ w'.cell? ⟨w.heap.size, 1, none⟩ = some (.slice na g.ns.length nc) ∧ w'.cell? ⟨w.heap.size, 2, none⟩ = some (.int .i64 g.ax) ∧ w'.cell? ⟨w.heap.size, 3, none⟩ = some (.slice ra g.rs.length rc) ∧ w'.cell? ⟨M, 6, none⟩ = some (.int .i64 f.p.non) ∧ w'.cell? ⟨M, 1, none⟩ = some (.int .i64 b)) (w4.setCell ⟨w.heap.size + 2, 2, none⟩ (.slice (some ⟨g', 0, none⟩) c.length cap')) := by
    obtain ⟨j0, j1, j2, j3, j4, j5⟩ := hS _ hC4
    have key : ∀ bb o u, bb ≠ w.heap.size + 2 → w4.cell? ⟨bb, o, none⟩ = some u → (w4.setCell ⟨w.heap.size + 2, 2, none⟩ (.slice (some ⟨g', 0, none⟩) c.length cap')).cell? ⟨bb, o, none⟩ = some u := fun bb o u hne hu => (World.cell?_setCell_other _ _ _ _ (fun h => hne (congrArg Addr.block h).symm)).trans hu
    exact ⟨key _ _ _ (by omega) j0, key _ _ _ (by omega) j1, key _ _ _ (by omega) j2, key _ _ _ (by omega) j3, key _ _ _ (by omega) j4, key _ _ _ (by omega) j5⟩
  have hB5 := hB4.setCell (p := ⟨w.heap.size + 2, 2, none⟩) (by simp) (.slice (some ⟨g', 0, none⟩) c.length cap')
  refine wpAnyH_ready (rs := [15]) (by kernel_rfl) (by simp) ?_
  refine AllReadyH.cons rfl (fun K hK => ?_) AllReadyH.nil
  go_simp
  refine hK.out _ _ hS5 (fun hHeld3 => ?_)
  clear hK K hHeld2
  refine wpAnyH_take (i := 16) (v := .nilIface) rfl (by kernel_rfl) (by kernel_rfl) (by kernel_rfl) (fun _ _ _ h => h) (Or.inl ⟨by rfl, fun w9 hSw => ?_⟩) hHeld3 ?_
  · obtain ⟨s0, s1, s2, s3, s4, s5⟩ := hSw
    go_simp
  simp only [List.getElem_toArray, List.getElem_cons_zero, List.getElem_cons_succ, Act.put, List.setIfInBounds_toArray, List.set_cons_zero, List.set_cons_succ]
  clear hHeld3 hS hS5 hB4 hB3 hBd hq4 hy4 y2 yf hown hR
  refine wpAnyH_done (by kernel_rfl) (NoPanic.normal ?_) _
  clear hq3 hy3
  generalize w4.setCell ⟨w.heap.size + 2, 2, none⟩ (.slice (some ⟨g', 0, none⟩) c.length cap') = W5 at *
  have hq3 := hq5
  have hy3 := hy5
  have s0 := hq3.cell (q := 0) rfl
  have s1 := hq3.cell (q := 1) rfl
  have s2 := hq3.cell (q := 2) rfl
  have t0 := hq3.frozen 0
  have t1 := hq3.frozen 1
  have t2 := hq3.frozen 2
  have u0 := hy3.cell (q := 0) rfl
  have u1 := hy3.cell (q := 1) rfl
  have u2 := hy3.cell (q := 2) rfl
  have hq9 := ((hq3.set 0 (.int .i64 f.p.rule)).set 1 (.int .i64 f.p.at_)).set 2 (.slice (some ⟨g', 0, none⟩) c.length cap')
  have z0 := hq9.cell (q := 0) rfl
  have z1 := hq9.cell (q := 1) rfl
  have z2 := hq9.cell (q := 2) rfl
  have hB9 := ((hB5.setCell (p := ⟨w.heap.size + 1, 0, none⟩) (by simp) (.int .i64 f.p.rule)).setCell (p := ⟨w.heap.size + 1, 1, none⟩) (by simp) (.int .i64 f.p.at_)).setCell (p := ⟨w.heap.size + 1, 2, none⟩) (by simp) (.slice (some ⟨g', 0, none⟩) c.length cap')
  go_wp2
  refine bodyPost_ret (v := .tuple #[.agg #[.int .i64 f.p.rule, .int .i64 f.p.at_, .slice (some ⟨g', 0, none⟩) c.length cap'], .nilIface]) (by simp [results, Tryd.results35, go_sem, z0, z1, z2]; try rfl) rfl ?_
  exact ⟨⟨_, c, rfl, hv5.out, HR.out⟩, hB9⟩

set_option maxRecDepth 100000 in
set_option maxHeartbeats 2000000 in
theorem reason_take (ta na ra : Option Addr) (tc nc rc : Nat) (g : G) (M : Nat) (a b : Int) (f : Fnd) (p : Nat → Addr) (w : World) (hr : RowAt w M 76 (srchC 3 a b (some f))) (hG : GRow w ta na ra g) (hg : okG g) (htc : g.ts.length ≤ tc) (hnc : g.ns.length ≤ nc) (hE : Errs w p) (hch : ∀ z o, ChainR g f.p.non a true z o → z = (0, none) ∧ ∃ c, o = some c) :
    Calls Tryd.prog 35 #[.pointer (some ⟨M, 0, none⟩), .agg #[.slice ta g.ts.length tc, .slice na g.ns.length nc, .int .i64 g.ax, .slice ra g.rs.length rc]] w fun e w' => (∃ v c, e = .returned (.tuple #[.agg #[.int .i64 f.p.rule, .int .i64 f.p.at_, v], .nilIface]) ∧ ChV w.heap.size w' v (some c) ∧ ChainR g f.p.non a true (0, none) (some c)) ∧ Below w.heap.size w w' := by
  have hneq := neq_nil
  have heq0 : ∀ W : World, (binOp .neq 31 .nilIface .nilIface).run Tryd.prog W = .ok (.bool false) W := fun W => by kernel_rfl
  obtain ⟨W2, hW2⟩ : ∃ W2, W2 = (w.alloc (.cells #[.slice ta g.ts.length tc, .slice na g.ns.length nc, .int .i64 g.ax, .slice ra g.rs.length rc] 25)).alloc (.cells #[.int .i64 0, .int .i64 0, .slice none 0 0] 29) := ⟨_, rfl⟩
  have hb2 : Below w.heap.size w W2 := by rw [hW2]; exact ((Below.refl _ _).alloc (Nat.le_refl _) _).alloc (by simp) _
  have hr2 := hr.below hb2 hr.lt
  have hM := hr.lt
  have hz2 : W2.heap.size = w.heap.size + 2 := by rw [hW2]; simp
  have hg2 : RowAt W2 w.heap.size 25 #[.slice ta g.ts.length tc, .slice na g.ns.length nc, .int .i64 g.ax, .slice ra g.rs.length rc] := by
    rw [hW2]
    exact (rowN w _ _).alloc _
  have hq2 : RowAt W2 (w.heap.size + 1) 29 #[.int .i64 0, .int .i64 0, .slice none 0 0] := by
    have h := rowN (w.alloc (.cells #[.slice ta g.ts.length tc, .slice na g.ns.length nc, .int .i64 g.ax, .slice ra g.rs.length rc] 25)) #[.int .i64 0, .int .i64 0, .slice none 0 0] 29
    rw [World.size_alloc] at h
    rw [hW2]
    exact h
  obtain ⟨W3, hW3⟩ : ∃ W3, W3 = (W2.alloc (.cells #[.int .i64 f.p.rule, .int .i64 f.p.at_, .slice none 0 0] 29)).drew := ⟨_, rfl⟩
  have hb3 : Below W2.heap.size W2 W3 := by
    have h : Below W2.heap.size W2 (W2.alloc (.cells #[.int .i64 f.p.rule, .int .i64 f.p.at_, .slice none 0 0] 29)) := (Below.refl _ _).alloc (Nat.le_refl _) _
    rw [hW3]
    exact ⟨h.os, h.tape, h.output, h.size, h.block⟩
  have hz3 : W3.heap.size = w.heap.size + 3 := by rw [hW3]; show (W2.alloc _).heap.size = _; simp [hz2]
  have hr3 := hr2.below hb3 hr2.lt
  have hg3 := hg2.below hb3 hg2.lt
  have hq3 := hq2.below hb3 hq2.lt
  have hy3 : RowAt W3 (w.heap.size + 2) 29 #[.int .i64 f.p.rule, .int .i64 f.p.at_, .slice none 0 0] := by
    have h := rowN W2 #[.int .i64 f.p.rule, .int .i64 f.p.at_, .slice none 0 0] 29
    rw [hz2] at h
    rw [hW3]
    exact h
  have hb3z : Below W2.heap.size W2 (W2.alloc (.cells #[.int .i64 0, .int .i64 0, .slice none 0 0] 29)) := (Below.refl _ _).alloc (Nat.le_refl _) _
  unfold srchC at hr2 hr3
  have c4 := hr2.cell (q := 4) rfl
  have c5 := hr2.cell (q := 5) rfl
  have d4 := (hb3z.cell (p := ⟨M, 4, none⟩) (cell_lt c4)).trans c4
  have d5 := (hb3z.cell (p := ⟨M, 5, none⟩) (cell_lt c5)).trans c5
  have hB3 : Below w.heap.size w W3 := hb2.trans (hb3.mono (by omega))
  have HW2 : Hid (_) := hW2
  have HW3 : Hid (_) := hW3
  clear hW2 hW3 hb3z hb2
  go_enter Tryd.func35, Tryd.ntmps35
  go_wp2
  rw [← HW2.out]
  go_region
  rw [← HW3.out]
  clear HW2 HW3 c4 c5 d4 d5 hr2 hg2 hq2 hb3
  have k2 := hr3.cell (q := 2) rfl
  have g0 := hg3.cell (q := 0) rfl
  have g1 := hg3.cell (q := 1) rfl
  have g2 := hg3.cell (q := 2) rfl
  have g3 := hg3.cell (q := 3) rfl
  have k6 := hr3.cell (q := 6) rfl
  have kt := hr3.cell (q := 0) rfl
  have hS : ∀ w', Below W3.heap.size W3 w' → (fun w' => w'.cell? ⟨w.heap.size, 0, none⟩ = some (.slice ta g.ts.length tc) ∧ w'.cell? ⟨w.heap.size, 1, none⟩ = some (.slice na g.ns.length nc) ∧ w'.cell? ⟨w.heap.size, 2, none⟩ = some (.int .i64 g.ax) ∧ w'.cell? ⟨w.heap.size, 3, none⟩ = some (.slice ra g.rs.length rc) ∧ w'.cell? ⟨M, 6, none⟩ = some (.int .i64 f.p.non) ∧ w'.cell? ⟨M, 0, none⟩ = some (.int .i64 a)) w' := fun w' hb => by
    have key : ∀ q v, W3.cell? q = some v → w'.cell? q = some v := fun q v hv => (hb.cell (p := q) (cell_lt hv)).trans hv
    exact ⟨key _ _ g0, key _ _ g1, key _ _ g2, key _ _ g3, key _ _ k6, key _ _ kt⟩
  have hdr : Below W3.heap.size W3 W3.drew := ⟨rfl, rfl, rfl, Nat.le_refl _, fun _ _ => rfl⟩
  have hBd : Below w.heap.size w W3.drew := hB3.trans (hdr.mono (by omega))
  have hcc := Chain_top ta na ra tc nc rc g f.p.non a true p W3.drew (hG.below hBd (Nat.le_refl _)) hg htc hnc (hE.below hBd (Nat.le_refl _))
  clear g0 g1 g2 g3 k6 kt hG hg3
  go_wp2_with fail
  refine wp_region_noPanic ?_
  refine wp_region_held_drew (S := (fun w' => w'.cell? ⟨w.heap.size, 0, none⟩ = some (.slice ta g.ts.length tc) ∧ w'.cell? ⟨w.heap.size, 1, none⟩ = some (.slice na g.ns.length nc) ∧ w'.cell? ⟨w.heap.size, 2, none⟩ = some (.int .i64 g.ax) ∧ w'.cell? ⟨w.heap.size, 3, none⟩ = some (.slice ra g.rs.length rc) ∧ w'.cell? ⟨M, 6, none⟩ = some (.int .i64 f.p.non) ∧ w'.cell? ⟨M, 0, none⟩ = some (.int .i64 a))) (by kernel_rfl) (hS _ hdr) (fun hHeld => ?_)
  refine wpAnyH_take (i := 0) (v := .agg #[.slice ta g.ts.length tc, .slice na g.ns.length nc, .int .i64 g.ax, .slice ra g.rs.length rc]) rfl (by kernel_rfl) (by kernel_rfl) (by kernel_rfl) (fun _ _ _ h => h) (Or.inl ⟨by rfl, fun w9 hSw => ?_⟩) hHeld ?_
  · obtain ⟨s0, s1, s2, s3, s4, s5⟩ := hSw
    go_simp
  simp only [List.getElem_toArray, List.getElem_cons_zero, List.getElem_cons_succ, Act.put, List.setIfInBounds_toArray, List.set_cons_zero, List.set_cons_succ]
  refine wpAnyH_take (i := 1) (v := .pointer (some ⟨M, 0, none⟩)) rfl (by kernel_rfl) (by kernel_rfl) (by kernel_rfl) (fun _ _ _ h => h) (Or.inl ⟨by rfl, fun w9 hSw => ?_⟩) hHeld ?_
  · obtain ⟨s0, s1, s2, s3, s4, s5⟩ := hSw
    go_simp
  simp only [List.getElem_toArray, List.getElem_cons_zero, List.getElem_cons_succ, Act.put, List.setIfInBounds_toArray, List.set_cons_zero, List.set_cons_succ]
  refine wpAnyH_take (i := 2) (v := .pointer (some ⟨M, 0, none⟩)) rfl (by kernel_rfl) (by kernel_rfl) (by kernel_rfl) (fun _ _ _ h => h) (Or.inl ⟨by rfl, fun w9 hSw => ?_⟩) hHeld ?_
  · obtain ⟨s0, s1, s2, s3, s4, s5⟩ := hSw
    go_simp
  simp only [List.getElem_toArray, List.getElem_cons_zero, List.getElem_cons_succ, Act.put, List.setIfInBounds_toArray, List.set_cons_zero, List.set_cons_succ]
  refine wpAnyH_take (i := 3) (v := .pointer (some ⟨M, 4, none⟩)) rfl (by kernel_rfl) (by kernel_rfl) (by kernel_rfl) (fun _ _ _ h => h) (Or.inl ⟨by rfl, fun w9 hSw => ?_⟩) hHeld ?_
  · obtain ⟨s0, s1, s2, s3, s4, s5⟩ := hSw
    go_simp
  simp only [List.getElem_toArray, List.getElem_cons_zero, List.getElem_cons_succ, Act.put, List.setIfInBounds_toArray, List.set_cons_zero, List.set_cons_succ]
  refine wpAnyH_take (i := 4) (v := .pointer (some ⟨M, 6, none⟩)) rfl (by kernel_rfl) (by kernel_rfl) (by kernel_rfl) (fun _ _ _ h => h) (Or.inl ⟨by rfl, fun w9 hSw => ?_⟩) hHeld ?_
  · obtain ⟨s0, s1, s2, s3, s4, s5⟩ := hSw
    go_simp
  simp only [List.getElem_toArray, List.getElem_cons_zero, List.getElem_cons_succ, Act.put, List.setIfInBounds_toArray, List.set_cons_zero, List.set_cons_succ]
  refine wpAnyH_take (i := 5) (v := .int .i64 f.p.non) rfl (by kernel_rfl) (by kernel_rfl) (by kernel_rfl) (fun _ _ _ h => h) (Or.inl ⟨by rfl, fun w9 hSw => ?_⟩) hHeld ?_
  · obtain ⟨s0, s1, s2, s3, s4, s5⟩ := hSw
    go_simp
  simp only [List.getElem_toArray, List.getElem_cons_zero, List.getElem_cons_succ, Act.put, List.setIfInBounds_toArray, List.set_cons_zero, List.set_cons_succ]
  refine wpAnyH_take (i := 6) (v := .pointer (some ⟨M, 0, none⟩)) rfl (by kernel_rfl) (by kernel_rfl) (by kernel_rfl) (fun _ _ _ h => h) (Or.inl ⟨by rfl, fun w9 hSw => ?_⟩) hHeld ?_
  · obtain ⟨s0, s1, s2, s3, s4, s5⟩ := hSw
    go_simp
  simp only [List.getElem_toArray, List.getElem_cons_zero, List.getElem_cons_succ, Act.put, List.setIfInBounds_toArray, List.set_cons_zero, List.set_cons_succ]
  refine wpAnyH_take (i := 7) (v := .pointer (some ⟨M, 0, none⟩)) rfl (by kernel_rfl) (by kernel_rfl) (by kernel_rfl) (fun _ _ _ h => h) (Or.inl ⟨by rfl, fun w9 hSw => ?_⟩) hHeld ?_
  · obtain ⟨s0, s1, s2, s3, s4, s5⟩ := hSw
    go_simp
  simp only [List.getElem_toArray, List.getElem_cons_zero, List.getElem_cons_succ, Act.put, List.setIfInBounds_toArray, List.set_cons_zero, List.set_cons_succ]
  refine wpAnyH_take (i := 8) (v := .pointer (some ⟨M, 0, none⟩)) rfl (by kernel_rfl) (by kernel_rfl) (by kernel_rfl) (fun _ _ _ h => h) (Or.inl ⟨by rfl, fun w9 hSw => ?_⟩) hHeld ?_
  · obtain ⟨s0, s1, s2, s3, s4, s5⟩ := hSw
    go_simp
  simp only [List.getElem_toArray, List.getElem_cons_zero, List.getElem_cons_succ, Act.put, List.setIfInBounds_toArray, List.set_cons_zero, List.set_cons_succ]
  refine wpAnyH_take (i := 9) (v := .int .i64 a) rfl (by kernel_rfl) (by kernel_rfl) (by kernel_rfl) (fun _ _ _ h => h) (Or.inl ⟨by rfl, fun w9 hSw => ?_⟩) hHeld ?_
  · obtain ⟨s0, s1, s2, s3, s4, s5⟩ := hSw
    go_simp
  simp only [List.getElem_toArray, List.getElem_cons_zero, List.getElem_cons_succ, Act.put, List.setIfInBounds_toArray, List.set_cons_zero, List.set_cons_succ]
  refine wpAnyH_ready (rs := [10]) (by kernel_rfl) (by simp) ?_
  refine AllReadyH.cons rfl (fun K hK => ?_) AllReadyH.nil
  go_simp
  refine hcc.mono ?_
  rintro e w4 ⟨⟨v, y, z, o, rfl, hv, hy, hR⟩, hb4⟩
  have hC4 := hdr.trans hb4
  refine hK.out _ _ (hS _ hC4) (fun hHeld2 => ?_)
  clear hK K hHeld hcc
  obtain ⟨rfl, c, rfl⟩ := hch _ _ hR
  have HR : Hid (_) := hR
  obtain rfl : y = .nilIface := hy
  obtain ⟨g', cap', rfl, hown⟩ := hv
  refine wpAnyH_take (i := 11) (v := .tuple #[.slice (some ⟨g', 0, none⟩) c.length cap', .nilIface]) rfl (by kernel_rfl) (by kernel_rfl) (by kernel_rfl) (fun _ _ _ h => h) (Or.inl ⟨by rfl, fun w9 hSw => ?_⟩) hHeld2 ?_
  · obtain ⟨s0, s1, s2, s3, s4, s5⟩ := hSw
    go_simp
  simp only [List.getElem_toArray, List.getElem_cons_zero, List.getElem_cons_succ, Act.put, List.setIfInBounds_toArray, List.set_cons_zero, List.set_cons_succ]
  refine wpAnyH_take (i := 12) (v := .slice (some ⟨g', 0, none⟩) c.length cap') rfl (by kernel_rfl) (by kernel_rfl) (by kernel_rfl) (fun _ _ _ h => h) (Or.inl ⟨by rfl, fun w9 hSw => ?_⟩) hHeld2 ?_
  · obtain ⟨s0, s1, s2, s3, s4, s5⟩ := hSw
    go_simp
  simp only [List.getElem_toArray, List.getElem_cons_zero, List.getElem_cons_succ, Act.put, List.setIfInBounds_toArray, List.set_cons_zero, List.set_cons_succ]
  refine wpAnyH_take (i := 13) (v := .nilIface) rfl (by kernel_rfl) (by kernel_rfl) (by kernel_rfl) (fun _ _ _ h => h) (Or.inl ⟨by rfl, fun w9 hSw => ?_⟩) hHeld2 ?_
  · obtain ⟨s0, s1, s2, s3, s4, s5⟩ := hSw
    go_simp
  simp only [List.getElem_toArray, List.getElem_cons_zero, List.getElem_cons_succ, Act.put, List.setIfInBounds_toArray, List.set_cons_zero, List.set_cons_succ]
  refine wpAnyH_take (i := 14) (v := .pointer (some ⟨w.heap.size + 2, 2, none⟩)) rfl (by kernel_rfl) (by kernel_rfl) (by kernel_rfl) (fun _ _ _ h => h) (Or.inl ⟨by rfl, fun w9 hSw => ?_⟩) hHeld2 ?_
  · obtain ⟨s0, s1, s2, s3, s4, s5⟩ := hSw
    go_simp
  simp only [List.getElem_toArray, List.getElem_cons_zero, List.getElem_cons_succ, Act.put, List.setIfInBounds_toArray, List.set_cons_zero, List.set_cons_succ]
  have hB4 : Below w.heap.size w w4 := hB3.trans (hC4.mono (by omega))
  have hq4 := hq3.below hC4 hq3.lt
  have hy4 := hy3.below hC4 hy3.lt
  have y2 := hy4.cell (q := 2) rfl
  have yf := hy4.frozen 2
  have hy5 := hy4.set 2 (.slice (some ⟨g', 0, none⟩) c.length cap')
  have hq5 := hq4.other (b' := w.heap.size + 2) (by omega) 2 (.slice (some ⟨g', 0, none⟩) c.length cap')
  have hv5 : Hid (ChV w.heap.size (((w4.setCell ⟨w.heap.size + 2, 2, none⟩ (.slice (some ⟨g', 0, none⟩) c.length cap')).setCell ⟨w.heap.size + 1, 0, none⟩ (.int .i64 f.p.rule)).setCell ⟨w.heap.size + 1, 1, none⟩ (.int .i64 f.p.at_) |>.setCell ⟨w.heap.size + 1, 2, none⟩ (.slice (some ⟨g', 0, none⟩) c.length cap')) (.slice (some ⟨g', 0, none⟩) c.length cap') (some c)) := by
    refine ⟨g', cap', rfl, own_base (base := W3.heap.size) (ownsRow_setCell_below (ownsRow_setCell_below (ownsRow_setCell_below (ownsRow_setCell_below hown ?_ _) ?_ _) ?_ _) ?_ _) (by omega)⟩ <;> (show _ < W3.heap.size; simp only; omega)
  have hS5 : (fun w' => w'.cell? ⟨w.heap.size, 0, none⟩ = some (.slice ta g.ts.length tc) ∧ w'.cell? ⟨w.heap.size, 1, none⟩ = some (.slice na g.ns.length nc) ∧ w'.cell? ⟨w.heap.size, 2, none⟩ = some (.int .i64 g.ax) ∧ w'.cell? ⟨w.heap.size, 3, none⟩ = some (.slice ra g.rs.length rc) ∧ w'.cell? ⟨M, 6, none⟩ = some (.int .i64 f.p.non) ∧ w'.cell? ⟨M, 0, none⟩ = some (.int .i64 a)) (w4.setCell ⟨w.heap.size + 2, 2, none⟩ (.slice (some ⟨g', 0, none⟩) c.length cap')) := by
    obtain ⟨j0, j1, j2, j3, j4, j5⟩ := hS _ hC4
    have key : ∀ bb o u, bb ≠ w.heap.size + 2 → w4.cell? ⟨bb, o, none⟩ = some u → (w4.setCell ⟨w.heap.size + 2, 2, none⟩ (.slice (some ⟨g', 0, none⟩) c.length cap')).cell? ⟨bb, o, none⟩ = some u := fun bb o u hne hu => (World.cell?_setCell_other _ _ _ _ (fun h => hne (congrArg Addr.block h).symm)).trans hu
    exact ⟨key _ _ _ (by omega) j0, key _ _ _ (by omega) j1, key _ _ _ (by omega) j2, key _ _ _ (by omega) j3, key _ _ _ (by omega) j4, key _ _ _ (by omega) j5⟩
  have hB5 := hB4.setCell (p := ⟨w.heap.size + 2, 2, none⟩) (by simp) (.slice (some ⟨g', 0, none⟩) c.length cap')
  refine wpAnyH_ready (rs := [15]) (by kernel_rfl) (by simp) ?_
  refine AllReadyH.cons rfl (fun K hK => ?_) AllReadyH.nil
  go_simp
  refine hK.out _ _ hS5 (fun hHeld3 => ?_)
  clear hK K hHeld2
  refine wpAnyH_take (i := 16) (v := .nilIface) rfl (by kernel_rfl) (by kernel_rfl) (by kernel_rfl) (fun _ _ _ h => h) (Or.inl ⟨by rfl, fun w9 hSw => ?_⟩) hHeld3 ?_
  · obtain ⟨s0, s1, s2, s3, s4, s5⟩ := hSw
    go_simp
  simp only [List.getElem_toArray, List.getElem_cons_zero, List.getElem_cons_succ, Act.put, List.setIfInBounds_toArray, List.set_cons_zero, List.set_cons_succ]
  clear hHeld3 hS hS5 hB4 hB3 hBd hq4 hy4 y2 yf hown hR
  refine wpAnyH_done (by kernel_rfl) (NoPanic.normal ?_) _
  clear hq3 hy3
  generalize w4.setCell ⟨w.heap.size + 2, 2, none⟩ (.slice (some ⟨g', 0, none⟩) c.length cap') = W5 at *
  have hq3 := hq5
  have hy3 := hy5
  have s0 := hq3.cell (q := 0) rfl
  have s1 := hq3.cell (q := 1) rfl
  have s2 := hq3.cell (q := 2) rfl
  have t0 := hq3.frozen 0
  have t1 := hq3.frozen 1
  have t2 := hq3.frozen 2
  have u0 := hy3.cell (q := 0) rfl
  have u1 := hy3.cell (q := 1) rfl
  have u2 := hy3.cell (q := 2) rfl
  have hq9 := ((hq3.set 0 (.int .i64 f.p.rule)).set 1 (.int .i64 f.p.at_)).set 2 (.slice (some ⟨g', 0, none⟩) c.length cap')
  have z0 := hq9.cell (q := 0) rfl
  have z1 := hq9.cell (q := 1) rfl
  have z2 := hq9.cell (q := 2) rfl
  have hB9 := ((hB5.setCell (p := ⟨w.heap.size + 1, 0, none⟩) (by simp) (.int .i64 f.p.rule)).setCell (p := ⟨w.heap.size + 1, 1, none⟩) (by simp) (.int .i64 f.p.at_)).setCell (p := ⟨w.heap.size + 1, 2, none⟩) (by simp) (.slice (some ⟨g', 0, none⟩) c.length cap')
  go_wp2
  refine bodyPost_ret (v := .tuple #[.agg #[.int .i64 f.p.rule, .int .i64 f.p.at_, .slice (some ⟨g', 0, none⟩) c.length cap'], .nilIface]) (by simp [results, Tryd.results35, go_sem, z0, z1, z2]; try rfl) rfl ?_
  exact ⟨⟨_, c, rfl, hv5.out, HR.out⟩, hB9⟩

end Go.Proofs.YtpdkjblmpgmcjaaDoor.MatrixReason
