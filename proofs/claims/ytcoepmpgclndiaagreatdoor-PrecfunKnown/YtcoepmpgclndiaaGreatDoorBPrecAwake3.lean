/-
  Texts that stand together: PrecAwake3.
-/
import Derived.Test.YtcoepmpgclndiaaGreatDoorBPrecAwake2
namespace Go.Proofs.YtcoepmpgclndiaaGreatDoor.PrecAwake
open Go.RowKit Go.Proofs.YtcoepmpgclndiaaGreatDoor.GramMath Go.Proofs.YtcoepmpgclndiaaGreatDoor.GramRow Go.Proofs.YtcoepmpgclndiaaGreatDoor.GramErrs Go.Proofs.YtcoepmpgclndiaaGreatDoor.GramAwake Go.Proofs.YtcoepmpgclndiaaGreatDoor.GramApart Go.Proofs.YtcoepmpgclndiaaGreatDoor.EndsMath Go.Proofs.YtcoepmpgclndiaaGreatDoor.EndsAwake Go.Proofs.YtcoepmpgclndiaaGreatDoor.GramOpen Go.Proofs.YtcoepmpgclndiaaGreatDoor.MatrixMath Go.Proofs.YtcoepmpgclndiaaGreatDoor.MatrixPut Go.Proofs.YtcoepmpgclndiaaGreatDoor.MatrixOf Go.Proofs.YtcoepmpgclndiaaGreatDoor.MatrixClash Go.Proofs.YtcoepmpgclndiaaGreatDoor.GraphMath Go.Proofs.YtcoepmpgclndiaaGreatDoor.GraphNet Go.Proofs.YtcoepmpgclndiaaGreatDoor.PrecFn Go.Proofs.YtcoepmpgclndiaaGreatDoor.GramLess Go.Proofs.YtcoepmpgclndiaaGreatDoor.SetsAlg Go.Proofs.YtcoepmpgclndiaaGreatDoor.GramSame Go.Proofs.YtcoepmpgclndiaaGreatDoor.OpRow
set_option linter.unusedVariables false
set_option linter.unusedSimpArgs false

theorem s_edS {S : Nat → Nat → Int} (h : IsMat sG S) : edS 3 S = [(0, 3), (0, 5), (1, 3), (1, 5), (3, 2), (4, 0), (4, 2)] ∧ clS 3 S = [0, 1, 2, 3, 4, 5] := by
  obtain ⟨h1, h2, h3⟩ := rel_S s_good s_left s_right h
  have e1 : rY 3 S = sY := h1
  have e2 : rQ 3 S = sQ := h2
  have e3 : rK 3 S = sK := h3
  unfold edS clS
  rw [e1, e2, e3]
  exact ⟨s_ed, s_cl⟩
theorem s_fns {S : Nat → Nat → Int} (h : IsMat sG S) : fF 3 S = [2, 2, 0] ∧ fG 3 S = [1, 3, 0] ∧ fY 3 S = [] := by
  obtain ⟨h1, h2⟩ := s_edS h
  have hr : rdL ((2 * 3 : Nat) : Int) (edS 3 S) = [] := by rw [h1]; exact s_rd
  have hl : lvL ((2 * 3 : Nat) : Int) (edS 3 S) = [2, 2, 0, 1, 3, 0] := by rw [h1]; exact s_lv
  refine ⟨?_, ?_, hr⟩
  · unfold fF fnL; rw [if_pos hr, h2, hl]; rfl
  · unfold fG fnL; rw [if_pos hr, h2, hl]; rfl
theorem r_fns {S : Nat → Nat → Int} (h : IsMat rG S) : fF 5 S = [] ∧ fG 5 S = [] ∧ fY 5 S = [0, 6, 2, 8] := by
  obtain ⟨h1, h2, h3⟩ := rel_S r_good r_left r_right h
  have e1 : rY 5 S = rYc := h1
  have e2 : rQ 5 S = rQc := h2
  have e3 : rK 5 S = rKc := h3
  have hr : rdL ((2 * 5 : Nat) : Int) (edS 5 S) = [0, 6, 2, 8] := by unfold edS; rw [e1, e2, e3]; exact r_rd
  refine ⟨?_, ?_, hr⟩
  · unfold fF; rw [if_neg (by rw [hr]; simp)]
  · unfold fG; rw [if_neg (by rw [hr]; simp)]

set_option maxRecDepth 100000 in
set_option maxHeartbeats 8000000 in
theorem awake_any (p : Nat → Addr) (w : World) (hE : Errs w p) (hT : Tab w) (hTG : 16 < w.heap.size) : Calls Tryz.prog 8 #[] w fun e w' => e = .returned (.bool true) ∧ Below w.heap.size w w' := by
  have HE : Hid (Errs w p) := hE
  have HT : Hid (Tab w) := hT
  clear hE hT
  go_enter Tryz.func8, Tryz.ntmps8
  go_wp2_with fail
  refine (sumsP_any w).mono ?_
  rintro e w1 ⟨⟨ta, na, ra, rfl, hG1, hc1⟩, hb1⟩
  have hs1 := hb1.size
  have hof := lawof_any ta na ra 2 2 3 sG p w1 hG1 hc1 s_ok (by decide) (by decide) (HE.out.below hb1 (Nat.le_refl _)) (SetsEach.Tab.from HT.out hb1 hTG) (by omega) s_check s_good (fun S hS => clash_S s_good s_left s_right hS s_no)
  replace hof : Calls Tryz.prog 12 #[.agg #[.slice ta 2 2, .slice na 2 2, .int .i64 0, .slice ra 3 3]] w1 fun e w' => (∃ S f h c y, e = .returned (.tuple #[.agg #[f, h, c, y], .int .i64 0]) ∧ IsMat sG S ∧ FnL w' 3 S f h c y) ∧ Below w1.heap.size w1 w' := hof
  clear hG1 hc1
  go_wp2_with fail
  refine hof.mono ?_
  rintro e w2 ⟨⟨S, f, h, c, y, rfl, hi, hF⟩, hb2⟩
  have hB2 : Below w.heap.size w w2 := hb1.trans (hb2.mono hb1.size)
  obtain ⟨k1, k2, k3⟩ := s_fns hi
  obtain ⟨⟨fa, fk, rfl, f1⟩, ⟨ga, gk, rfl, g1⟩, ⟨ca, ck, rfl, c1⟩, ⟨ya, yk, rfl, y1⟩⟩ := hF
  rw [k1] at f1 ⊢
  rw [k2] at g1 ⊢
  rw [k3] at y1 ⊢
  obtain ⟨W3, hW3⟩ : ∃ W3, W3 = w2.alloc (.cells #[.slice fa 3 fk, .slice ga 3 gk, .slice ca 6 ck, .slice ya 0 yk] 42) := ⟨_, rfl⟩
  have hb3 : Below w2.heap.size w2 W3 := by rw [hW3]; exact (Below.refl _ _).alloc (Nat.le_refl _) _
  have hB3 : Below w.heap.size w W3 := hB2.trans (hb3.mono hB2.size)
  have hr3 : RowAt W3 w2.heap.size 42 #[.slice fa 3 fk, .slice ga 3 gk, .slice ca 6 ck, .slice ya 0 yk] := by rw [hW3]; exact heap_new _ _
  have HR3 : Hid (RowAt W3 w2.heap.size 42 #[.slice fa 3 fk, .slice ga 3 gk, .slice ca 6 ck, .slice ya 0 yk] ∧ IRow W3 fa [2, 2, 0] ∧ IRow W3 ga [1, 3, 0] ∧ Below w.heap.size w W3) := ⟨hr3, IRow.below f1 hb3 (Nat.le_refl _), IRow.below g1 hb3 (Nat.le_refl _), hB3⟩
  have hrd := roundP_any W3
  rw [hW3] at hrd
  have HW3 : Hid (W3 = w2.alloc (.cells #[.slice fa 3 fk, .slice ga 3 gk, .slice ca 6 ck, .slice ya 0 yk] 42)) := hW3
  clear hof hr3 hb3 hB3 hB2 hb2 hb1 hW3 f1 g1 c1 y1 hi k1 k2 k3
  go_wp2_with fail
  refine hrd.mono ?_
  rintro e w4 ⟨⟨ta, na, ra, rfl, hG4, hc4⟩, hb4⟩
  rw [← HW3.out] at hb4
  have hB4 : Below w.heap.size w w4 := HR3.out.2.2.2.trans (hb4.mono HR3.out.2.2.2.size)
  have hs4 := hB4.size
  have hof := lawof_any ta na ra 4 5 8 rG p w4 hG4 hc4 r_ok (by decide) (by decide) (HE.out.below hB4 (Nat.le_refl _)) (SetsEach.Tab.from HT.out hB4 hTG) (by omega) r_check r_good (fun S hS => clash_S r_good r_left r_right hS r_no)
  replace hof : Calls Tryz.prog 12 #[.agg #[.slice ta 4 4, .slice na 5 5, .int .i64 0, .slice ra 8 8]] w4 fun e w' => (∃ S f h c y, e = .returned (.tuple #[.agg #[f, h, c, y], .int .i64 0]) ∧ IsMat rG S ∧ FnL w' 5 S f h c y) ∧ Below w4.heap.size w4 w' := hof
  clear hG4 hc4 hrd
  go_wp2_with fail
  refine hof.mono ?_
  rintro e w5 ⟨⟨S5, f, h, c, y, rfl, hi, hF⟩, hb5⟩
  obtain ⟨k1, k2, k3⟩ := r_fns hi
  obtain ⟨⟨fa5, fk5, rfl, f1⟩, ⟨ga5, gk5, rfl, g1⟩, ⟨ca5, ck5, rfl, c1⟩, ⟨ya5, yk5, rfl, y1⟩⟩ := hF
  rw [k1] at f1 ⊢
  rw [k2] at g1 ⊢
  rw [k3] at y1 ⊢
  obtain ⟨W6, hW6⟩ : ∃ W6, W6 = w5.alloc (.cells #[.slice fa5 0 fk5, .slice ga5 0 gk5, .slice ca5 10 ck5, .slice ya5 4 yk5] 42) := ⟨_, rfl⟩
  have hb6 : Below w5.heap.size w5 W6 := by rw [hW6]; exact (Below.refl _ _).alloc (Nat.le_refl _) _
  have hb36 : Below W3.heap.size W3 W6 := (hb4.trans (hb5.mono hb4.size)).trans (hb6.mono (hb4.trans (hb5.mono hb4.size)).size)
  have hr3 := HR3.out.1.below hb36 HR3.out.1.lt
  have hr6 : RowAt W6 w5.heap.size 42 #[.slice fa5 0 fk5, .slice ga5 0 gk5, .slice ca5 10 ck5, .slice ya5 4 yk5] := by rw [hW6]; exact heap_new _ _
  have HB6 : Hid (Below w.heap.size w W6) := HR3.out.2.2.2.trans (hb36.mono HR3.out.2.2.2.size)
  have HX : Hid (∀ w9, Below W6.heap.size W6 w9 → IRow w9 fa [2, 2, 0] ∧ IRow w9 ga [1, 3, 0] ∧ IRow w9 ya5 [0, 6, 2, 8] ∧ RowAt w9 w2.heap.size 42 #[.slice fa 3 fk, .slice ga 3 gk, .slice ca 6 ck, .slice ya 0 yk] ∧ RowAt w9 w5.heap.size 42 #[.slice fa5 0 fk5, .slice ga5 0 gk5, .slice ca5 10 ck5, .slice ya5 4 yk5]) := fun w9 h9 => ⟨IRow.below (IRow.below HR3.out.2.1 hb36 (Nat.le_refl _)) h9 (Nat.le_refl _), IRow.below (IRow.below HR3.out.2.2.1 hb36 (Nat.le_refl _)) h9 (Nat.le_refl _), IRow.below (IRow.below y1 hb6 (Nat.le_refl _)) h9 (Nat.le_refl _), hr3.below h9 hr3.lt, hr6.below h9 hr6.lt⟩
  have d0 := hr3.cell (q := 0) (v := .slice fa 3 fk) rfl
  have hBx : Below W6.heap.size W6 (W6.alloc (.cells #[.int .i64 2, .int .i64 2, .int .i64 0] 3)) := (Below.refl _ _).alloc (Nat.le_refl _) _
  have hrx : RowAt (W6.alloc (.cells #[.int .i64 2, .int .i64 2, .int .i64 0] 3)) W6.heap.size 3 (intsA [2, 2, 0]) := heap_new _ _
  have hq := ints_any fa (some ⟨W6.heap.size, 0, none⟩) fk 3 [2, 2, 0] [2, 2, 0] _ (HX.out _ hBx).1 (intsA_row hrx) (by decide) (by decide)
  rw [show eqI [2, 2, 0] [2, 2, 0] = true by unfold eqI; simp] at hq
  replace hq : Calls Tryz.prog 9 #[.slice fa 3 fk, .slice (some ⟨W6.heap.size, 0, none⟩) 3 3] (W6.alloc (.cells #[.int .i64 2, .int .i64 2, .int .i64 0] 3)) fun e w' => e = .returned (.bool true) ∧ ∃ q, w' = (W6.alloc (.cells #[.int .i64 2, .int .i64 2, .int .i64 0] 3)).drewN q := hq
  clear hof hi f1 g1 c1 y1 k1 k2 k3 hb4 hB4 hb5 hb6 hb36 hr3 hr6 hrx HR3 HW3
  rw [hW6] at d0 hq
  rw [World.size_alloc] at hq
  have HW6 : Hid (W6 = w5.alloc (.cells #[.slice fa5 0 fk5, .slice ga5 0 gk5, .slice ca5 10 ck5, .slice ya5 4 yk5] 42)) := hW6
  clear hW6
  go_wp2_with fail
  refine hq.mono ?_
  rintro e w7 ⟨rfl, q7, hw7⟩
  rw [← HW6.out] at hw7
  have hb7 : Below W6.heap.size W6 w7 := by rw [hw7]; exact bdrew hBx _
  obtain ⟨_, x2, _, x4, _⟩ := HX.out w7 hb7
  have d1 := x4.cell (q := 1) (v := .slice ga 3 gk) rfl
  have hBy : Below w7.heap.size w7 (w7.alloc (.cells #[.int .i64 1, .int .i64 3, .int .i64 0] 3)) := (Below.refl _ _).alloc (Nat.le_refl _) _
  have hry : RowAt (w7.alloc (.cells #[.int .i64 1, .int .i64 3, .int .i64 0] 3)) w7.heap.size 3 (intsA [1, 3, 0]) := heap_new _ _
  have hq2 := ints_any ga (some ⟨w7.heap.size, 0, none⟩) gk 3 [1, 3, 0] [1, 3, 0] _ (HX.out _ (hb7.trans (hBy.mono hb7.size))).2.1 (intsA_row hry) (by decide) (by decide)
  rw [show eqI [1, 3, 0] [1, 3, 0] = true by unfold eqI; simp] at hq2
  replace hq2 : Calls Tryz.prog 9 #[.slice ga 3 gk, .slice (some ⟨w7.heap.size, 0, none⟩) 3 3] (w7.alloc (.cells #[.int .i64 1, .int .i64 3, .int .i64 0] 3)) fun e w' => e = .returned (.bool true) ∧ ∃ q, w' = (w7.alloc (.cells #[.int .i64 1, .int .i64 3, .int .i64 0] 3)).drewN q := hq2
  clear hq hw7 x2 x4 hry hBx d0
  go_wp2_with fail
  refine hq2.mono ?_
  rintro e w8 ⟨rfl, q8, hw8⟩
  have hb8 : Below W6.heap.size W6 w8 := by rw [hw8]; exact hb7.trans ((bdrew hBy _).mono hb7.size)
  obtain ⟨_, _, x3, x4, x5⟩ := HX.out w8 hb8
  have d3 := x4.cell (q := 3) (v := .slice ya 0 yk) rfl
  have e3 := x5.cell (q := 3) (v := .slice ya5 4 yk5) rfl
  have hBz : Below w8.heap.size w8 (w8.alloc (.cells #[.int .i64 0, .int .i64 6, .int .i64 2, .int .i64 8] 3)) := (Below.refl _ _).alloc (Nat.le_refl _) _
  have hrz : RowAt (w8.alloc (.cells #[.int .i64 0, .int .i64 6, .int .i64 2, .int .i64 8] 3)) w8.heap.size 3 (intsA [0, 6, 2, 8]) := heap_new _ _
  have hq3 := ints_any ya5 (some ⟨w8.heap.size, 0, none⟩) yk5 4 [0, 6, 2, 8] [0, 6, 2, 8] _ (HX.out _ (hb8.trans (hBz.mono hb8.size))).2.2.1 (intsA_row hrz) (by decide) (by decide)
  rw [show eqI [0, 6, 2, 8] [0, 6, 2, 8] = true by unfold eqI; simp] at hq3
  replace hq3 : Calls Tryz.prog 9 #[.slice ya5 4 yk5, .slice (some ⟨w8.heap.size, 0, none⟩) 4 4] (w8.alloc (.cells #[.int .i64 0, .int .i64 6, .int .i64 2, .int .i64 8] 3)) fun e w' => e = .returned (.bool true) ∧ ∃ q, w' = (w8.alloc (.cells #[.int .i64 0, .int .i64 6, .int .i64 2, .int .i64 8] 3)).drewN q := hq3
  clear hq2 hw8 x3 x4 x5 hrz hBy d1 hb7
  go_wp2_with fail
  refine hq3.mono ?_
  rintro e w9 ⟨rfl, q9, hw9⟩
  have hb9 : Below W6.heap.size W6 w9 := by rw [hw9]; exact hb8.trans ((bdrew hBz _).mono hb8.size)
  obtain ⟨_, _, _, _, x5⟩ := HX.out w9 hb9
  have g0 := x5.cell (q := 0) (v := .slice fa5 0 fk5) rfl
  have g1 := x5.cell (q := 1) (v := .slice ga5 0 gk5) rfl
  have HB9 : Hid (Below w.heap.size w w9) := HB6.out.trans (hb9.mono HB6.out.size)
  clear hq3 hw9 x5 hBz d3 e3 hb8 hb9
  go_wp2
  go_ret
  exact ⟨rfl, HB9.out⟩

end Go.Proofs.YtcoepmpgclndiaaGreatDoor.PrecAwake
