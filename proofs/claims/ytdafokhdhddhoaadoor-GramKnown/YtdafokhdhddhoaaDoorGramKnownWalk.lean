/-
  GramKnown.
-/
import Derived.Test.YtdafokhdhddhoaaDoorGramKnownMath5
import Derived.BigRegion
import Derived.Deep.DeepCutAuto
import Derived.Handy
namespace Go.Proofs.YtdafokhdhddhoaaDoor.GramKnown
open Go.RowKit Go.Proofs.YtdafokhdhddhoaaDoor.GramMath Go.Proofs.YtdafokhdhddhoaaDoor.GramRow Go.Proofs.YtdafokhdhddhoaaDoor.GramOne Go.Proofs.YtdafokhdhddhoaaDoor.GramApart Go.Proofs.YtdafokhdhddhoaaDoor.GramErrs Go.Proofs.YtdafokhdhddhoaaDoor.GramLent Go.Proofs.YtdafokhdhddhoaaDoor.GramAwake Go.Proofs.YtdafokhdhddhoaaDoor.GramLess Go.Proofs.YtdafokhdhddhoaaDoor.GramCopy Go.Proofs.YtdafokhdhddhoaaDoor.GramRoll Go.Proofs.YtdafokhdhddhoaaDoor.GramName
set_option linter.unusedVariables false
set_option linter.unusedSimpArgs false

theorem infoR2 : (Tryd.prog.info? 52).map (fun i => (i.zero, i.size, i.bytes)) = some (some (.agg #[.int .i64 0, .slice none 0 0]), 2, 32) := by kernel_rfl

theorem stepG {ops : Array Oper} {o : Oper} {a : Act} {w w' : World} {v' : Value} {K : Act → World → Prop} {Q' : Exit → Act → World → Prop} {E : Prop} (hg : o.guard = none) (s x : Operand)
    (ho : o.op = .call { callee := .builtin .append, args := #[s, x], argTypes := #[29, 29] }) (hty : o.type = 29) (vs vx : Value) (hs : a.eval s = vs) (hx : a.eval x = vx)
    (hrun : (Builtin.append_ #[29, 29] 29 #[vs, vx]).run Tryd.prog w = .ok v' w') (h : K (a.put o.dst v') w') :
    if Region.wanted o (yielded ops a.tmps) = true then Oper.wp Tryd.prog o a w K Q' else E := by
  have hw : Region.wanted o (yielded ops a.tmps) = true := by simp [Region.wanted, hg]
  rw [if_pos hw]
  unfold Oper.wp
  simp [execOp, ho, resolve, invoke, builtin, hs, hx, hty, hrun, Result.andThen]
  exact h

set_option maxRecDepth 100000 in
set_option maxHeartbeats 16000000 in
theorem walk (p : Nat → Addr) (w : World) (hE : Errs w p) (hT : ErrType w) : Calls Tryd.prog 4 #[] w fun e w' => e = .returned (.bool true) ∧ Below w.heap.size w w' := by
  obtain ⟨i0, hi, hz0, hz1, hz2⟩ := info_parts infoR2
  go_enter Tryd.func4, Tryd.ntmps4
  go_wp2_with fail
  refine (given_any w).mono ?_
  rintro e w1 ⟨⟨ta1, na1, ra1, rfl, hG1⟩, hb1⟩
  have kA : KBox (w1.alloc (.cells #[.slice ta1 2 2, .slice na1 1 1, .int .i64 1, .slice ra1 2 2] 35)) w1.heap.size gA := KBox.new (g := gA) hG1 (by decide) (by decide) rfl
  have B2 := hb1.trans ((bAlloc w1 (.cells #[.slice ta1 2 2, .slice na1 1 1, .int .i64 1, .slice ra1 2 2] 35)).mono hb1.size)
  clear hG1 hb1
  go_wp2_with fail
  generalize w1.alloc (.cells #[.slice ta1 2 2, .slice na1 1 1, .int .i64 1, .slice ra1 2 2] 35) = w2 at *
  generalize w1.heap.size = bA at *
  refine (given_any w2).mono ?_
  rintro e w3 ⟨⟨ta3, na3, ra3, rfl, hG3⟩, hb3⟩
  have kA3 := kA.below hb3 (Nat.le_refl _)
  have B3 := B2.trans (hb3.mono B2.size)
  obtain ⟨rab3, lq3, rfl, hm3, hq3, hi3⟩ := given_rules hG3.2.2
  have hX : Below w3.heap.size w3 (((w3.alloc (.cells #[.slice ta3 2 2, .slice na3 1 1, .int .i64 0, .slice (some rab3) 2 2] 35)).alloc (.cells #[.int .i64 2] 3)).alloc (.cells #[.int .i64 0, .slice (some ⟨w3.heap.size + 1, 0, none⟩) 1 1] 52)) := (((Below.refl _ _).alloc (Nat.le_refl _) _).alloc (by simp) _).alloc (by simp; omega) _
  have hqX := qrow_all (hq3.below hX (Nat.le_refl _))
  have hol : (cellsQ lq3).length = 2 * 2 := by rw [cellsQ_len, ← List.length_map (f := fun x : Q => x.r), hm3]; rfl
  have hnew : ∀ j u, [Value.int .i64 0, .slice (some ⟨w3.heap.size + 1, 0, none⟩) 1 1][j]? = some u → (((w3.alloc (.cells #[.slice ta3 2 2, .slice na3 1 1, .int .i64 0, .slice (some rab3) 2 2] 35)).alloc (.cells #[.int .i64 2] 3)).alloc (.cells #[.int .i64 0, .slice (some ⟨w3.heap.size + 1, 0, none⟩) 1 1] 52)).cell? ((⟨w3.heap.size + 1 + 1, 0, none⟩ : Addr).add j) = some u := by
    have h := cells_new ((w3.alloc (.cells #[.slice ta3 2 2, .slice na3 1 1, .int .i64 0, .slice (some rab3) 2 2] 35)).alloc (.cells #[.int .i64 2] 3)) #[.int .i64 0, .slice (some ⟨w3.heap.size + 1, 0, none⟩) 1 1] 52
    rw [World.size_alloc, World.size_alloc] at h
    exact h
  have rX0 : RowAt (((w3.alloc (.cells #[.slice ta3 2 2, .slice na3 1 1, .int .i64 0, .slice (some rab3) 2 2] 35)).alloc (.cells #[.int .i64 2] 3)).alloc (.cells #[.int .i64 0, .slice (some ⟨w3.heap.size + 1, 0, none⟩) 1 1] 52)) w3.heap.size 35 #[.slice ta3 2 2, .slice na3 1 1, .int .i64 0, .slice (some rab3) 2 2] := (Below.heap_alloc _ _ _ (by simp; omega)).trans ((Below.heap_alloc _ _ _ (by simp)).trans (World.alloc_heap_new w3 _))
  have rX1 : RowAt (((w3.alloc (.cells #[.slice ta3 2 2, .slice na3 1 1, .int .i64 0, .slice (some rab3) 2 2] 35)).alloc (.cells #[.int .i64 2] 3)).alloc (.cells #[.int .i64 0, .slice (some ⟨w3.heap.size + 1, 0, none⟩) 1 1] 52)) (w3.heap.size + 1) 3 (intsA [2]) := by
    have h := World.alloc_heap_new (w3.alloc (.cells #[.slice ta3 2 2, .slice na3 1 1, .int .i64 0, .slice (some rab3) 2 2] 35)) (.cells #[.int .i64 2] 3)
    rw [World.size_alloc] at h
    exact (Below.heap_alloc _ _ _ (by simp)).trans h
  have zX : (((w3.alloc (.cells #[.slice ta3 2 2, .slice na3 1 1, .int .i64 0, .slice (some rab3) 2 2] 35)).alloc (.cells #[.int .i64 2] 3)).alloc (.cells #[.int .i64 0, .slice (some ⟨w3.heap.size + 1, 0, none⟩) 1 1] 52)).heap.size = w3.heap.size + 3 := by simp
  clear kA B2 hb3
  go_wp2_with (at_builtin; refine wpList_append_grows _ rfl (.tmp 37) (.tmp 40) 29 rfl 52 i0 (.agg #[.int .i64 0, .slice none 0 0]) 2 32 Tryd.underlying29 hi hz0 hz1 hz2 rfl (by decide) (some rab3) 2 2 (cellsQ lq3) rfl (fun h => by cases h) hol hqX ⟨w3.heap.size + 1 + 1, 0, none⟩ 1 1 [.int .i64 0, .slice (some ⟨w3.heap.size + 1, 0, none⟩) 1 1] rfl rfl hnew (by simp [Value.oneCell']) (by decide) (by unfold maxLen; omega) (by omega) ?_; intro v5 w5 hown5 hgrow5; have hB5 := hX.grown hgrow5 (by omega) (fun k h => by cases h); have r50 : RowAt w5 w3.heap.size 35 #[.slice ta3 2 2, .slice na3 1 1, .int .i64 0, .slice (some rab3) 2 2] := (hgrow5.block _ (by omega) (by simp)).trans rX0; have r51 : RowAt w5 (w3.heap.size + 1) 3 (intsA [2]) := (hgrow5.block _ (by omega) (by simp)).trans rX1; obtain ⟨ra5, rc5, hv5, kB, hB6⟩ := after_more hG3 hm3 hi3 hB5 r50 r51 (by omega) (by omega) hown5; subst hv5; have cc5 : w5.cell? ⟨w3.heap.size, 3, none⟩ = some (.slice (some rab3) 2 2) := r50.cell rfl; have ff5 := r50.frozen 3)
  have kA6 := kA3.below hB6 (Nat.le_refl _)
  have B6 := B3.trans (hB6.mono B3.size)
  clear kA3 B3 hX hqX hol hnew rX0 rX1 zX hown5 hgrow5 hB5 r50 r51 cc5 ff5 hB6 hG3 hm3 hq3 hi3
  generalize w5.setCell ⟨w3.heap.size, 3, none⟩ (.slice ra5 3 rc5) = w6 at *
  generalize w3.heap.size = bB at *
  refine (given_any w6).mono ?_
  rintro e w7 ⟨⟨ta7, na7, ra7, rfl, hG7⟩, hb7⟩
  have kA7 := kA6.below hb7 (Nat.le_refl _)
  have kB7 := kB.below hb7 (Nat.le_refl _)
  have B7 := B6.trans (hb7.mono B6.size)
  clear kA6 kB B6 hb7
  go_wp2_with fail
  have hC : Below w7.heap.size w7 ((w7.alloc (.cells #[.slice (some ⟨w7.heap.size + 1, 0, none⟩) 2 2, .slice na7 1 1, .int .i64 0, .slice ra7 2 2] 35)).alloc (.cells #[.string ⟨#[43]⟩, .string ⟨#[]⟩] 9)) := ((Below.refl _ _).alloc (Nat.le_refl _) _).alloc (by simp) _
  have kC : KBox ((w7.alloc (.cells #[.slice (some ⟨w7.heap.size + 1, 0, none⟩) 2 2, .slice na7 1 1, .int .i64 0, .slice ra7 2 2] 35)).alloc (.cells #[.string ⟨#[43]⟩, .string ⟨#[]⟩] 9)) w7.heap.size gC := KBox.of (g := gC) (n := 2) ((Below.heap_alloc _ _ _ (by simp)).trans (World.alloc_heap_new w7 _)) ⟨two_str (b := w7.heap.size + 1) rfl (by simp [go_sem]) (by simp [go_sem]), hG7.2.1.below hC (Nat.le_refl _), hG7.2.2.below hC (Nat.le_refl _)⟩ (by decide) (by decide) rfl
  have kA8 := kA7.below hC (Nat.le_refl _)
  have kB8 := kB7.below hC (Nat.le_refl _)
  have B8 := B7.trans (hC.mono B7.size)
  clear kA7 kB7 B7 hC hG7
  generalize ((w7.alloc (.cells #[.slice (some ⟨w7.heap.size + 1, 0, none⟩) 2 2, .slice na7 1 1, .int .i64 0, .slice ra7 2 2] 35)).alloc (.cells #[.string ⟨#[43]⟩, .string ⟨#[]⟩] 9)) = w8 at *
  generalize w7.heap.size = bC at *
  refine (given_any w8).mono ?_
  rintro e w9 ⟨⟨ta9, na9, ra9, rfl, hG9⟩, hb9⟩
  have hD : Below w9.heap.size w9 (w9.alloc (.cells #[.slice ta9 2 2, .slice none 0 0, .int .i64 0, .slice ra9 2 2] 35)) := (Below.refl _ _).alloc (Nat.le_refl _) _
  have kD : KBox (w9.alloc (.cells #[.slice ta9 2 2, .slice none 0 0, .int .i64 0, .slice ra9 2 2] 35)) w9.heap.size gD := KBox.of (g := gD) (n := 2) (World.alloc_heap_new w9 _) ⟨hG9.1.below hD (Nat.le_refl _), (fun i x hx => by cases hx), hG9.2.2.below hD (Nat.le_refl _)⟩ (by decide) (by decide) rfl
  have hbD := hb9.trans (hD.mono hb9.size)
  have kA := kA8.below hbD (Nat.le_refl _)
  have kB := kB8.below hbD (Nat.le_refl _)
  have kC := kC.below hbD (Nat.le_refl _)
  have B10 := B8.trans (hbD.mono B8.size)
  clear kA8 kB8 B8 hb9 hD hbD hG9
  go_wp2_with fail
  generalize (w9.alloc (.cells #[.slice ta9 2 2, .slice none 0 0, .int .i64 0, .slice ra9 2 2] 35)) = w10 at *
  generalize w9.heap.size = bD at *
  have hE10 := hE.below B10 (Nat.le_refl _)
  have hT10 := hT.below B10 (Nat.le_refl _)
  refine (awake_any p w10 hE10.sents).mono ?_
  rintro e w11 ⟨rfl, hb11⟩
  obtain ⟨a0, a1, a2, a3, cA0, cA1, cA2, cA3, fA⟩ := wrong_box kA p 1 (-1) ok_A (by rw [ck_A]; decide) (by rw [ck_A]; rfl) (by rw [ck_A]; rfl)
  obtain ⟨b0, b1, b2, b3, cB0, cB1, cB2, cB3, fB⟩ := wrong_box kB p 1 2 ok_B (by rw [show checkG (gM [2]) = (1, some 2) from ck_B]; decide) (by rw [show checkG (gM [2]) = (1, some 2) from ck_B]; rfl) (by rw [show checkG (gM [2]) = (1, some 2) from ck_B]; rfl)
  obtain ⟨c0, c1, c2, c3, cC0, cC1, cC2, cC3, fC⟩ := wrong_box kC p 10 (-1) ok_C (by rw [ck_C]; decide) (by rw [ck_C]; rfl) (by rw [ck_C]; rfl)
  obtain ⟨d0, d1, d2, d3, cD0, cD1, cD2, cD3, fD⟩ := wrong_box kD p 1 (-1) ok_D (by rw [ck_D]; decide) (by rw [ck_D]; rfl) (by rw [ck_D]; rfl)
  have lA := kA.lt
  have lB := kB.lt
  have lC := kC.lt
  have lD := kD.lt
  have nA := neqA
  have nB := neqB
  have nC := neqC
  have x0 := (hb11.cell (p := ⟨bA, 0, none⟩) lA).trans cA0
  have x1 := (hb11.cell (p := ⟨bA, 1, none⟩) lA).trans cA1
  have x2 := (hb11.cell (p := ⟨bA, 2, none⟩) lA).trans cA2
  have x3 := (hb11.cell (p := ⟨bA, 3, none⟩) lA).trans cA3
  go_wp2_with fail
  refine (fA w11 hb11 (hE10.below hb11 (Nat.le_refl _)) (hT10.below hb11 (Nat.le_refl _))).mono ?_
  rintro e w12 ⟨rfl, hy⟩
  have hw12 := hb11.trans (hy.mono hb11.size)
  clear x0 x1 x2 x3 hy
  have x0 := (hw12.cell (p := ⟨bB, 0, none⟩) lB).trans cB0
  have x1 := (hw12.cell (p := ⟨bB, 1, none⟩) lB).trans cB1
  have x2 := (hw12.cell (p := ⟨bB, 2, none⟩) lB).trans cB2
  have x3 := (hw12.cell (p := ⟨bB, 3, none⟩) lB).trans cB3
  go_wp2_with fail
  refine (fB w12 hw12 (hE10.below hw12 (Nat.le_refl _)) (hT10.below hw12 (Nat.le_refl _))).mono ?_
  rintro e w13 ⟨rfl, hy⟩
  have hw13 := hw12.trans (hy.mono hw12.size)
  clear x0 x1 x2 x3 hy
  have x0 := (hw13.cell (p := ⟨bC, 0, none⟩) lC).trans cC0
  have x1 := (hw13.cell (p := ⟨bC, 1, none⟩) lC).trans cC1
  have x2 := (hw13.cell (p := ⟨bC, 2, none⟩) lC).trans cC2
  have x3 := (hw13.cell (p := ⟨bC, 3, none⟩) lC).trans cC3
  go_wp2_with fail
  refine (fC w13 hw13 (hE10.below hw13 (Nat.le_refl _)) (hT10.below hw13 (Nat.le_refl _))).mono ?_
  rintro e w14 ⟨rfl, hy⟩
  have hw14 := hw13.trans (hy.mono hw13.size)
  clear x0 x1 x2 x3 hy
  have x0 := (hw14.cell (p := ⟨bD, 0, none⟩) lD).trans cD0
  have x1 := (hw14.cell (p := ⟨bD, 1, none⟩) lD).trans cD1
  have x2 := (hw14.cell (p := ⟨bD, 2, none⟩) lD).trans cD2
  have x3 := (hw14.cell (p := ⟨bD, 3, none⟩) lD).trans cD3
  go_wp2_with fail
  refine (fD w14 hw14 (hE10.below hw14 (Nat.le_refl _)) (hT10.below hw14 (Nat.le_refl _))).mono ?_
  rintro e w15 ⟨rfl, hy⟩
  have hw15 := hw14.trans (hy.mono hw14.size)
  clear x0 x1 x2 x3 hy
  have B15 := B10.trans (hw15.mono B10.size)
  clear kA kB kC kD cA0 cA1 cA2 cA3 cB0 cB1 cB2 cB3 cC0 cC1 cC2 cC3 cD0 cD1 cD2 cD3 fA fB fC fD lA lB lC lD hb11 hw12 hw13 hw14 hw15 hE10 hT10 B10
  go_wp2_with fail
  refine (many_any 59 w15 (by decide)).mono ?_
  rintro e w16 ⟨⟨v59, rfl, hown59⟩, hb59⟩
  obtain ⟨m59, cm59, hv59, hs59, hl59⟩ := GramRoll.srow_own (ss := manyN 59) (by rw [manyN_len]; exact hown59)
  rw [manyN_len] at hv59 hl59
  subst hv59
  have hC : Below w16.heap.size w16 ((w16.alloc (.cells #[.string ⟨#[69]⟩] 9)).alloc (.cells #[.slice m59 59 cm59, .slice (some ⟨w16.heap.size, 0, none⟩) 1 1, .int .i64 0, .slice none 0 0] 35)) := ((Below.refl _ _).alloc (Nat.le_refl _) _).alloc (by simp) _
  have kE : KBox ((w16.alloc (.cells #[.string ⟨#[69]⟩] 9)).alloc (.cells #[.slice m59 59 cm59, .slice (some ⟨w16.heap.size, 0, none⟩) 1 1, .int .i64 0, .slice none 0 0] 35)) (w16.heap.size + 1) gE := KBox.of (g := gE) (n := 0) (tc := cm59) (nc := 1) (by
      have h := World.alloc_heap_new (w16.alloc (.cells #[.string ⟨#[69]⟩] 9)) (.cells #[.slice m59 59 cm59, .slice (some ⟨w16.heap.size, 0, none⟩) 1 1, .int .i64 0, .slice none 0 0] 35)
      rw [World.size_alloc] at h
      have e : gE.ts.length = 59 := manyN_len 59
      rw [e]
      exact h) ⟨hs59.below hC (Nat.le_refl _), one_str (b := w16.heap.size) rfl (by simp [go_sem]), fun i r hr => by cases hr⟩ (by rw [show gE.ts.length = 59 from manyN_len 59]; exact hl59) (by decide) rfl
  have hbC := hb59.trans (hC.mono hb59.size)
  have B17 := B15.trans (hbC.mono B15.size)
  clear hown59 hs59 hC hbC hb59 B15
  go_wp2_with fail
  generalize ((w16.alloc (.cells #[.string ⟨#[69]⟩] 9)).alloc (.cells #[.slice m59 59 cm59, .slice (some ⟨w16.heap.size, 0, none⟩) 1 1, .int .i64 0, .slice none 0 0] 35)) = w17 at *
  generalize hgen : w16.heap.size + 1 = xkE at *
  clear hgen
  refine (many_any 60 w17 (by decide)).mono ?_
  rintro e w18 ⟨⟨v60, rfl, hown60⟩, hb60⟩
  obtain ⟨m60, cm60, hv60, hs60, hl60⟩ := GramRoll.srow_own (ss := manyN 60) (by rw [manyN_len]; exact hown60)
  rw [manyN_len] at hv60 hl60
  subst hv60
  have hC : Below w18.heap.size w18 ((w18.alloc (.cells #[.string ⟨#[69]⟩] 9)).alloc (.cells #[.slice m60 60 cm60, .slice (some ⟨w18.heap.size, 0, none⟩) 1 1, .int .i64 0, .slice none 0 0] 35)) := ((Below.refl _ _).alloc (Nat.le_refl _) _).alloc (by simp) _
  have kF : KBox ((w18.alloc (.cells #[.string ⟨#[69]⟩] 9)).alloc (.cells #[.slice m60 60 cm60, .slice (some ⟨w18.heap.size, 0, none⟩) 1 1, .int .i64 0, .slice none 0 0] 35)) (w18.heap.size + 1) gF := KBox.of (g := gF) (n := 0) (tc := cm60) (nc := 1) (by
      have h := World.alloc_heap_new (w18.alloc (.cells #[.string ⟨#[69]⟩] 9)) (.cells #[.slice m60 60 cm60, .slice (some ⟨w18.heap.size, 0, none⟩) 1 1, .int .i64 0, .slice none 0 0] 35)
      rw [World.size_alloc] at h
      have e : gF.ts.length = 60 := manyN_len 60
      rw [e]
      exact h) ⟨hs60.below hC (Nat.le_refl _), one_str (b := w18.heap.size) rfl (by simp [go_sem]), fun i r hr => by cases hr⟩ (by rw [show gF.ts.length = 60 from manyN_len 60]; exact hl60) (by decide) rfl
  have hbC := hb60.trans (hC.mono hb60.size)
  have kE := kE.below hbC (Nat.le_refl _)
  have B19 := B17.trans (hbC.mono B17.size)
  clear hown60 hs60 hC hbC hb60 B17
  go_wp2_with fail
  generalize ((w18.alloc (.cells #[.string ⟨#[69]⟩] 9)).alloc (.cells #[.slice m60 60 cm60, .slice (some ⟨w18.heap.size, 0, none⟩) 1 1, .int .i64 0, .slice none 0 0] 35)) = w19 at *
  generalize hgen : w18.heap.size + 1 = xkF at *
  clear hgen
  refine (given_any w19).mono ?_
  rintro e w20 ⟨⟨ta20, na20, ra20, rfl, hG20⟩, hb20⟩
  have kE := kE.below hb20 (Nat.le_refl _)
  have kF := kF.below hb20 (Nat.le_refl _)
  have B20 := B19.trans (hb20.mono B19.size)
  obtain ⟨rab20, lq20, rfl, hm20, hq20, hi20⟩ := given_rules hG20.2.2
  clear B19 hb20
  go_wp2_with fail
  have hA20 : Below w20.heap.size w20 (w20.alloc (.cells #[.slice ta20 2 2, .slice na20 1 1, .int .i64 0, .slice (some rab20) 2 2] 35)) := bAlloc _ _
  have rA20 : RowAt (w20.alloc (.cells #[.slice ta20 2 2, .slice na20 1 1, .int .i64 0, .slice (some rab20) 2 2] 35)) w20.heap.size 35 #[.slice ta20 2 2, .slice na20 1 1, .int .i64 0, .slice (some rab20) 2 2] := World.alloc_heap_new w20 _
  have zA20 : (w20.alloc (.cells #[.slice ta20 2 2, .slice na20 1 1, .int .i64 0, .slice (some rab20) 2 2] 35)).heap.size = w20.heap.size + 1 := by simp
  have hmk20 : ∀ W : World, (Instr.makeSlice 39 (.int .i64 32) (.int .i64 32)).run Tryd.prog W = .ok (.slice (some ⟨W.heap.size, 0, none⟩) 32 32) (W.alloc (.cells (madeCells #[.int .i64 0] 32) 3)) := fun W => madeI_any 32 (by decide) W
  have rmk20 : ∀ W : World, RowAt (W.alloc (.cells (madeCells #[.int .i64 0] 32) 3)) W.heap.size 3 (intsA (List.replicate 32 0)) := fun W => by
    have h := made_heap W (.int .i64 0) 32 3
    have e : intsA (List.replicate 32 0) = (List.replicate 32 (Value.int .i64 0)).toArray := by kernel_rfl
    rw [RowAt, e]
    exact h
  obtain ⟨mk20, hmkd20⟩ : ∃ mk, mk = madeCells #[Value.int .i64 0] 32 := ⟨_, rfl⟩
  rw [← hmkd20] at hmk20 rmk20
  clear hmkd20
  generalize (w20.alloc (.cells #[.slice ta20 2 2, .slice na20 1 1, .int .i64 0, .slice (some rab20) 2 2] 35)) = w21 at *
  generalize hb20 : w20.heap.size = b20 at hA20 rA20 zA20 ⊢
  have hX20 : Below b20 w20 ((w21.alloc (.cells mk20 3)).alloc (.cells #[.int .i64 0, .slice (some ⟨b20 + 1, 0, none⟩) 32 32] 52)).drew := ((hA20.alloc (by omega) _).alloc (by rw [World.size_alloc]; omega) _).drew
  have hX120 : Below w21.heap.size w21 ((w21.alloc (.cells mk20 3)).alloc (.cells #[.int .i64 0, .slice (some ⟨b20 + 1, 0, none⟩) 32 32] 52)).drew := (((Below.refl _ _).alloc (by omega) _).alloc (by rw [World.size_alloc]; omega) _).drew
  have rX020 : RowAt ((w21.alloc (.cells mk20 3)).alloc (.cells #[.int .i64 0, .slice (some ⟨b20 + 1, 0, none⟩) 32 32] 52)).drew b20 35 #[.slice ta20 2 2, .slice na20 1 1, .int .i64 0, .slice (some rab20) 2 2] := rA20.below hX120 rA20.lt
  have rX120 : RowAt ((w21.alloc (.cells mk20 3)).alloc (.cells #[.int .i64 0, .slice (some ⟨b20 + 1, 0, none⟩) 32 32] 52)).drew (b20 + 1) 3 (intsA (List.replicate 32 0)) := by
    have h := rmk20 w21
    rw [zA20] at h
    exact (show ((w21.alloc (.cells mk20 3)).alloc (.cells #[.int .i64 0, .slice (some ⟨b20 + 1, 0, none⟩) 32 32] 52)).heap[b20 + 1]? = (w21.alloc (.cells mk20 3)).heap[b20 + 1]? from Below.heap_alloc _ _ _ (by rw [World.size_alloc]; omega)).trans h
  have zX20 : ((w21.alloc (.cells mk20 3)).alloc (.cells #[.int .i64 0, .slice (some ⟨b20 + 1, 0, none⟩) 32 32] 52)).drew.heap.size = b20 + 3 := by show ((w21.alloc (.cells mk20 3)).alloc (.cells #[.int .i64 0, .slice (some ⟨b20 + 1, 0, none⟩) 32 32] 52)).heap.size = _; rw [World.size_alloc, World.size_alloc, zA20]
  have hnew20 : ∀ j u, [Value.int .i64 0, .slice (some ⟨b20 + 1, 0, none⟩) 32 32][j]? = some u → ((w21.alloc (.cells mk20 3)).alloc (.cells #[.int .i64 0, .slice (some ⟨b20 + 1, 0, none⟩) 32 32] 52)).drew.cell? ((⟨b20 + 1 + 1, 0, none⟩ : Addr).add j) = some u := by
    have h := cells_new (w21.alloc (.cells mk20 3)) #[.int .i64 0, .slice (some ⟨b20 + 1, 0, none⟩) 32 32] 52
    rw [World.size_alloc, zA20] at h
    exact h
  have hol20 : (cellsQ lq20).length = 2 * 2 := by rw [cellsQ_len, ← List.length_map (f := fun x : Q => x.r), hm20]; rfl
  have hqX20 := qrow_all (hq20.below hX20 (by omega)) rab20 rfl
  obtain ⟨v20, u20, hrun20, hown20, hgrow20⟩ := run_append_arg_grows (P := Tryd.prog) ((w21.alloc (.cells mk20 3)).alloc (.cells #[.int .i64 0, .slice (some ⟨b20 + 1, 0, none⟩) 32 32] 52)).drew 29 29 52 i0 (.agg #[.int .i64 0, .slice none 0 0]) 2 32 Tryd.underlying29 hi hz0 hz1 hz2 rfl (by decide) rab20 2 2 (cellsQ lq20) hol20 hqX20 ⟨b20 + 1 + 1, 0, none⟩ 1 1 [.int .i64 0, .slice (some ⟨b20 + 1, 0, none⟩) 32 32] rfl hnew20 (by decide) (by unfold maxLen; omega) (by omega)
  have hB520 := hX20.grown hgrow20 (by omega) (fun k h => by cases h)
  have r520 : RowAt u20 b20 35 #[.slice ta20 2 2, .slice na20 1 1, .int .i64 0, .slice (some rab20) 2 2] := (hgrow20.block _ (by omega) (by simp)).trans rX020
  have r620 : RowAt u20 (b20 + 1) 3 (intsA (List.replicate 32 0)) := (hgrow20.block _ (by omega) (by simp)).trans rX120
  subst hb20
  obtain ⟨ra520, rc520, hv20, kGx, hB620⟩ := after_more (zs := List.replicate 32 0) hG20 hm20 hi20 hB520 r520 r620 (by omega) (by omega) hown20
  subst hv20
  have cc20 : u20.cell? ⟨w20.heap.size, 3, none⟩ = some (.slice (some rab20) 2 2) := r520.cell rfl
  have ff20 := r520.frozen 3
  have ca20 : w21.cell? ⟨w20.heap.size, 3, none⟩ = some (.slice (some rab20) 2 2) := rA20.cell rfl
  clear hA20 hX20 hX120 rX020 rX120 hnew20 hol20 hqX20 hown20 hgrow20 hB520 r520 r620 hG20 hm20 hq20 hi20 rmk20 rA20 zX20
  go_cut [] (fun wx => KBox wx w20.heap.size (gM (List.replicate 32 0)) ∧ Below w20.heap.size w20 wx)
  case first =>
    clear kE kF B20
    refine wp_region_noPanic ?_
    refine wp_region_held_drew (S := (fun _ => True)) (by kernel_rfl) trivial (fun hHeld => ?_)
    refine wpAnyH_take (i := 0) (v := .pointer (some ⟨w20.heap.size, 3, none⟩)) rfl (by kernel_rfl) (by kernel_rfl) (by kernel_rfl) (fun _ _ _ h => h) (Or.inl ⟨by rfl, fun w9 hSw => ?_⟩) hHeld ?_
    · go_simp
    simp only [List.getElem_toArray, List.getElem_cons_zero, List.getElem_cons_succ, Act.put, List.setIfInBounds_toArray, List.set_cons_zero, List.set_cons_succ]
    refine wpAnyH_ready (rs := [1, 2]) (by kernel_rfl) (by simp) ?_
    refine AllReadyH.cons rfl (fun K hK => ?_) ?_
    · go_simp; refine hK.out _ _ trivial (fun _ => ?_); clear hK K
      refine wpAnyH_ready (rs := [2]) (by kernel_rfl) (by simp) ?_
      refine AllReadyH.cons rfl (fun K hK => ?_) AllReadyH.nil
      go_simp; refine hK.out _ _ trivial (fun _ => ?_); clear hK K
      refine wpAnyH_ready (rs := [3]) (by kernel_rfl) (by simp) ?_
      refine AllReadyH.cons rfl (fun K hK => ?_) AllReadyH.nil
      go_simp; refine hK.out _ _ trivial (fun _ => ?_); clear hK K
      refine wpAnyH_ready (rs := [4]) (by kernel_rfl) (by simp) ?_
      refine AllReadyH.cons rfl (fun K hK => ?_) AllReadyH.nil
      go_simp; refine hK.out _ _ trivial (fun _ => ?_); clear hK K
      refine wpAnyH_ready (rs := [5]) (by kernel_rfl) (by simp) ?_
      refine AllReadyH.cons rfl (fun K hK => ?_) AllReadyH.nil
      refine GramKnown.stepG rfl _ _ rfl rfl _ _ (by rfl) (by rfl) hrun20 ?_; refine hK.out _ _ trivial (fun _ => ?_); clear hK K; simp only [List.getElem_toArray, List.getElem_cons_zero, List.getElem_cons_succ, Act.put, List.setIfInBounds_toArray, List.set_cons_zero, List.set_cons_succ]
      refine wpAnyH_ready (rs := [6]) (by kernel_rfl) (by simp) ?_
      refine AllReadyH.cons rfl (fun K hK => ?_) AllReadyH.nil
      go_simp; refine hK.out _ _ trivial (fun _ => ?_); clear hK K
      refine wpAnyH_ready (rs := [7]) (by kernel_rfl) (by simp) ?_
      refine AllReadyH.cons rfl (fun K hK => ?_) AllReadyH.nil
      go_simp; refine hK.out _ _ trivial (fun _ => ?_); clear hK K
      refine wpAnyH_done (by kernel_rfl) (NoPanic.normal ?_) _; go_wp2; go_meet; case rel => exact ⟨kGx, hB620⟩
    refine AllReadyH.cons rfl (fun K hK => ?_) AllReadyH.nil
    go_simp; refine hK.out _ _ trivial (fun _ => ?_); clear hK K
    refine wpAnyH_ready (rs := [1, 3]) (by kernel_rfl) (by simp) ?_
    refine AllReadyH.cons rfl (fun K hK => ?_) ?_
    · go_simp; refine hK.out _ _ trivial (fun _ => ?_); clear hK K
      refine wpAnyH_ready (rs := [3]) (by kernel_rfl) (by simp) ?_
      refine AllReadyH.cons rfl (fun K hK => ?_) AllReadyH.nil
      go_simp; refine hK.out _ _ trivial (fun _ => ?_); clear hK K
      refine wpAnyH_ready (rs := [4]) (by kernel_rfl) (by simp) ?_
      refine AllReadyH.cons rfl (fun K hK => ?_) AllReadyH.nil
      go_simp; refine hK.out _ _ trivial (fun _ => ?_); clear hK K
      refine wpAnyH_ready (rs := [5]) (by kernel_rfl) (by simp) ?_
      refine AllReadyH.cons rfl (fun K hK => ?_) AllReadyH.nil
      refine GramKnown.stepG rfl _ _ rfl rfl _ _ (by rfl) (by rfl) hrun20 ?_; refine hK.out _ _ trivial (fun _ => ?_); clear hK K; simp only [List.getElem_toArray, List.getElem_cons_zero, List.getElem_cons_succ, Act.put, List.setIfInBounds_toArray, List.set_cons_zero, List.set_cons_succ]
      refine wpAnyH_ready (rs := [6]) (by kernel_rfl) (by simp) ?_
      refine AllReadyH.cons rfl (fun K hK => ?_) AllReadyH.nil
      go_simp; refine hK.out _ _ trivial (fun _ => ?_); clear hK K
      refine wpAnyH_ready (rs := [7]) (by kernel_rfl) (by simp) ?_
      refine AllReadyH.cons rfl (fun K hK => ?_) AllReadyH.nil
      go_simp; refine hK.out _ _ trivial (fun _ => ?_); clear hK K
      refine wpAnyH_done (by kernel_rfl) (NoPanic.normal ?_) _; go_wp2; go_meet; case rel => exact ⟨kGx, hB620⟩
    refine AllReadyH.cons rfl (fun K hK => ?_) AllReadyH.nil
    go_simp; refine hK.out _ _ trivial (fun _ => ?_); clear hK K
    refine wpAnyH_ready (rs := [1, 4]) (by kernel_rfl) (by simp) ?_
    refine AllReadyH.cons rfl (fun K hK => ?_) ?_
    · go_simp; refine hK.out _ _ trivial (fun _ => ?_); clear hK K
      refine wpAnyH_ready (rs := [4]) (by kernel_rfl) (by simp) ?_
      refine AllReadyH.cons rfl (fun K hK => ?_) AllReadyH.nil
      go_simp; refine hK.out _ _ trivial (fun _ => ?_); clear hK K
      refine wpAnyH_ready (rs := [5]) (by kernel_rfl) (by simp) ?_
      refine AllReadyH.cons rfl (fun K hK => ?_) AllReadyH.nil
      refine GramKnown.stepG rfl _ _ rfl rfl _ _ (by rfl) (by rfl) hrun20 ?_; refine hK.out _ _ trivial (fun _ => ?_); clear hK K; simp only [List.getElem_toArray, List.getElem_cons_zero, List.getElem_cons_succ, Act.put, List.setIfInBounds_toArray, List.set_cons_zero, List.set_cons_succ]
      refine wpAnyH_ready (rs := [6]) (by kernel_rfl) (by simp) ?_
      refine AllReadyH.cons rfl (fun K hK => ?_) AllReadyH.nil
      go_simp; refine hK.out _ _ trivial (fun _ => ?_); clear hK K
      refine wpAnyH_ready (rs := [7]) (by kernel_rfl) (by simp) ?_
      refine AllReadyH.cons rfl (fun K hK => ?_) AllReadyH.nil
      go_simp; refine hK.out _ _ trivial (fun _ => ?_); clear hK K
      refine wpAnyH_done (by kernel_rfl) (NoPanic.normal ?_) _; go_wp2; go_meet; case rel => exact ⟨kGx, hB620⟩
    refine AllReadyH.cons rfl (fun K hK => ?_) AllReadyH.nil
    go_simp; refine hK.out _ _ trivial (fun _ => ?_); clear hK K
    refine wpAnyH_ready (rs := [1]) (by kernel_rfl) (by simp) ?_
    refine AllReadyH.cons rfl (fun K hK => ?_) AllReadyH.nil
    go_simp; refine hK.out _ _ trivial (fun _ => ?_); clear hK K
    refine wpAnyH_ready (rs := [5]) (by kernel_rfl) (by simp) ?_
    refine AllReadyH.cons rfl (fun K hK => ?_) AllReadyH.nil
    refine GramKnown.stepG rfl _ _ rfl rfl _ _ (by rfl) (by rfl) hrun20 ?_; refine hK.out _ _ trivial (fun _ => ?_); clear hK K; simp only [List.getElem_toArray, List.getElem_cons_zero, List.getElem_cons_succ, Act.put, List.setIfInBounds_toArray, List.set_cons_zero, List.set_cons_succ]
    refine wpAnyH_ready (rs := [6]) (by kernel_rfl) (by simp) ?_
    refine AllReadyH.cons rfl (fun K hK => ?_) AllReadyH.nil
    go_simp; refine hK.out _ _ trivial (fun _ => ?_); clear hK K
    refine wpAnyH_ready (rs := [7]) (by kernel_rfl) (by simp) ?_
    refine AllReadyH.cons rfl (fun K hK => ?_) AllReadyH.nil
    go_simp; refine hK.out _ _ trivial (fun _ => ?_); clear hK K
    refine wpAnyH_done (by kernel_rfl) (NoPanic.normal ?_) _; go_wp2; go_meet; case rel => exact ⟨kGx, hB620⟩
  case rest =>
    rename World => w22
    obtain ⟨kG, hB622⟩ := hcut
    have kE := kE.below hB622 (Nat.le_refl _)
    have kF := kF.below hB622 (Nat.le_refl _)
    have B22 := B20.trans (hB622.mono B20.size)
    clear kGx hB620 hrun20 B20 hB622
    go_wp2_with fail
    refine (given_any w22).mono ?_
    rintro e w23 ⟨⟨ta23, na23, ra23, rfl, hG23⟩, hb23⟩
    have kE := kE.below hb23 (Nat.le_refl _)
    have kF := kF.below hb23 (Nat.le_refl _)
    have kG := kG.below hb23 (Nat.le_refl _)
    have B23 := B22.trans (hb23.mono B22.size)
    obtain ⟨rab23, lq23, rfl, hm23, hq23, hi23⟩ := given_rules hG23.2.2
    clear B22 hb23
    go_wp2_with fail
    have hA23 : Below w23.heap.size w23 (w23.alloc (.cells #[.slice ta23 2 2, .slice na23 1 1, .int .i64 0, .slice (some rab23) 2 2] 35)) := bAlloc _ _
    have rA23 : RowAt (w23.alloc (.cells #[.slice ta23 2 2, .slice na23 1 1, .int .i64 0, .slice (some rab23) 2 2] 35)) w23.heap.size 35 #[.slice ta23 2 2, .slice na23 1 1, .int .i64 0, .slice (some rab23) 2 2] := World.alloc_heap_new w23 _
    have zA23 : (w23.alloc (.cells #[.slice ta23 2 2, .slice na23 1 1, .int .i64 0, .slice (some rab23) 2 2] 35)).heap.size = w23.heap.size + 1 := by simp
    have hmk23 : ∀ W : World, (Instr.makeSlice 39 (.int .i64 33) (.int .i64 33)).run Tryd.prog W = .ok (.slice (some ⟨W.heap.size, 0, none⟩) 33 33) (W.alloc (.cells (madeCells #[.int .i64 0] 33) 3)) := fun W => madeI_any 33 (by decide) W
    have rmk23 : ∀ W : World, RowAt (W.alloc (.cells (madeCells #[.int .i64 0] 33) 3)) W.heap.size 3 (intsA (List.replicate 33 0)) := fun W => by
      have h := made_heap W (.int .i64 0) 33 3
      have e : intsA (List.replicate 33 0) = (List.replicate 33 (Value.int .i64 0)).toArray := by kernel_rfl
      rw [RowAt, e]
      exact h
    obtain ⟨mk23, hmkd23⟩ : ∃ mk, mk = madeCells #[Value.int .i64 0] 33 := ⟨_, rfl⟩
    rw [← hmkd23] at hmk23 rmk23
    clear hmkd23
    generalize (w23.alloc (.cells #[.slice ta23 2 2, .slice na23 1 1, .int .i64 0, .slice (some rab23) 2 2] 35)) = w24 at *
    generalize hb23 : w23.heap.size = b23 at hA23 rA23 zA23 ⊢
    have hX23 : Below b23 w23 ((w24.alloc (.cells mk23 3)).alloc (.cells #[.int .i64 0, .slice (some ⟨b23 + 1, 0, none⟩) 33 33] 52)).drew := ((hA23.alloc (by omega) _).alloc (by rw [World.size_alloc]; omega) _).drew
    have hX123 : Below w24.heap.size w24 ((w24.alloc (.cells mk23 3)).alloc (.cells #[.int .i64 0, .slice (some ⟨b23 + 1, 0, none⟩) 33 33] 52)).drew := (((Below.refl _ _).alloc (by omega) _).alloc (by rw [World.size_alloc]; omega) _).drew
    have rX023 : RowAt ((w24.alloc (.cells mk23 3)).alloc (.cells #[.int .i64 0, .slice (some ⟨b23 + 1, 0, none⟩) 33 33] 52)).drew b23 35 #[.slice ta23 2 2, .slice na23 1 1, .int .i64 0, .slice (some rab23) 2 2] := rA23.below hX123 rA23.lt
    have rX123 : RowAt ((w24.alloc (.cells mk23 3)).alloc (.cells #[.int .i64 0, .slice (some ⟨b23 + 1, 0, none⟩) 33 33] 52)).drew (b23 + 1) 3 (intsA (List.replicate 33 0)) := by
      have h := rmk23 w24
      rw [zA23] at h
      exact (show ((w24.alloc (.cells mk23 3)).alloc (.cells #[.int .i64 0, .slice (some ⟨b23 + 1, 0, none⟩) 33 33] 52)).heap[b23 + 1]? = (w24.alloc (.cells mk23 3)).heap[b23 + 1]? from Below.heap_alloc _ _ _ (by rw [World.size_alloc]; omega)).trans h
    have zX23 : ((w24.alloc (.cells mk23 3)).alloc (.cells #[.int .i64 0, .slice (some ⟨b23 + 1, 0, none⟩) 33 33] 52)).drew.heap.size = b23 + 3 := by show ((w24.alloc (.cells mk23 3)).alloc (.cells #[.int .i64 0, .slice (some ⟨b23 + 1, 0, none⟩) 33 33] 52)).heap.size = _; rw [World.size_alloc, World.size_alloc, zA23]
    have hnew23 : ∀ j u, [Value.int .i64 0, .slice (some ⟨b23 + 1, 0, none⟩) 33 33][j]? = some u → ((w24.alloc (.cells mk23 3)).alloc (.cells #[.int .i64 0, .slice (some ⟨b23 + 1, 0, none⟩) 33 33] 52)).drew.cell? ((⟨b23 + 1 + 1, 0, none⟩ : Addr).add j) = some u := by
      have h := cells_new (w24.alloc (.cells mk23 3)) #[.int .i64 0, .slice (some ⟨b23 + 1, 0, none⟩) 33 33] 52
      rw [World.size_alloc, zA23] at h
      exact h
    have hol23 : (cellsQ lq23).length = 2 * 2 := by rw [cellsQ_len, ← List.length_map (f := fun x : Q => x.r), hm23]; rfl
    have hqX23 := qrow_all (hq23.below hX23 (by omega)) rab23 rfl
    obtain ⟨v23, u23, hrun23, hown23, hgrow23⟩ := run_append_arg_grows (P := Tryd.prog) ((w24.alloc (.cells mk23 3)).alloc (.cells #[.int .i64 0, .slice (some ⟨b23 + 1, 0, none⟩) 33 33] 52)).drew 29 29 52 i0 (.agg #[.int .i64 0, .slice none 0 0]) 2 32 Tryd.underlying29 hi hz0 hz1 hz2 rfl (by decide) rab23 2 2 (cellsQ lq23) hol23 hqX23 ⟨b23 + 1 + 1, 0, none⟩ 1 1 [.int .i64 0, .slice (some ⟨b23 + 1, 0, none⟩) 33 33] rfl hnew23 (by decide) (by unfold maxLen; omega) (by omega)
    have hB523 := hX23.grown hgrow23 (by omega) (fun k h => by cases h)
    have r523 : RowAt u23 b23 35 #[.slice ta23 2 2, .slice na23 1 1, .int .i64 0, .slice (some rab23) 2 2] := (hgrow23.block _ (by omega) (by simp)).trans rX023
    have r623 : RowAt u23 (b23 + 1) 3 (intsA (List.replicate 33 0)) := (hgrow23.block _ (by omega) (by simp)).trans rX123
    subst hb23
    obtain ⟨ra523, rc523, hv23, kHx, hB623⟩ := after_more (zs := List.replicate 33 0) hG23 hm23 hi23 hB523 r523 r623 (by omega) (by omega) hown23
    subst hv23
    have cc23 : u23.cell? ⟨w23.heap.size, 3, none⟩ = some (.slice (some rab23) 2 2) := r523.cell rfl
    have ff23 := r523.frozen 3
    have ca23 : w24.cell? ⟨w23.heap.size, 3, none⟩ = some (.slice (some rab23) 2 2) := rA23.cell rfl
    clear hA23 hX23 hX123 rX023 rX123 hnew23 hol23 hqX23 hown23 hgrow23 hB523 r523 r623 hG23 hm23 hq23 hi23 rmk23 rA23 zX23
    go_cut [] (fun wx => KBox wx w23.heap.size (gM (List.replicate 33 0)) ∧ Below w23.heap.size w23 wx)
    case first =>
      clear kE kF kG B23
      refine wp_region_noPanic ?_
      refine wp_region_held_drew (S := (fun _ => True)) (by kernel_rfl) trivial (fun hHeld => ?_)
      refine wpAnyH_take (i := 0) (v := .pointer (some ⟨w23.heap.size, 3, none⟩)) rfl (by kernel_rfl) (by kernel_rfl) (by kernel_rfl) (fun _ _ _ h => h) (Or.inl ⟨by rfl, fun w9 hSw => ?_⟩) hHeld ?_
      · go_simp
      simp only [List.getElem_toArray, List.getElem_cons_zero, List.getElem_cons_succ, Act.put, List.setIfInBounds_toArray, List.set_cons_zero, List.set_cons_succ]
      refine wpAnyH_ready (rs := [1, 2]) (by kernel_rfl) (by simp) ?_
      refine AllReadyH.cons rfl (fun K hK => ?_) ?_
      · go_simp; refine hK.out _ _ trivial (fun _ => ?_); clear hK K
        refine wpAnyH_ready (rs := [2]) (by kernel_rfl) (by simp) ?_
        refine AllReadyH.cons rfl (fun K hK => ?_) AllReadyH.nil
        go_simp; refine hK.out _ _ trivial (fun _ => ?_); clear hK K
        refine wpAnyH_ready (rs := [3]) (by kernel_rfl) (by simp) ?_
        refine AllReadyH.cons rfl (fun K hK => ?_) AllReadyH.nil
        go_simp; refine hK.out _ _ trivial (fun _ => ?_); clear hK K
        refine wpAnyH_ready (rs := [4]) (by kernel_rfl) (by simp) ?_
        refine AllReadyH.cons rfl (fun K hK => ?_) AllReadyH.nil
        go_simp; refine hK.out _ _ trivial (fun _ => ?_); clear hK K
        refine wpAnyH_ready (rs := [5]) (by kernel_rfl) (by simp) ?_
        refine AllReadyH.cons rfl (fun K hK => ?_) AllReadyH.nil
        refine GramKnown.stepG rfl _ _ rfl rfl _ _ (by rfl) (by rfl) hrun23 ?_; refine hK.out _ _ trivial (fun _ => ?_); clear hK K; simp only [List.getElem_toArray, List.getElem_cons_zero, List.getElem_cons_succ, Act.put, List.setIfInBounds_toArray, List.set_cons_zero, List.set_cons_succ]
        refine wpAnyH_ready (rs := [6]) (by kernel_rfl) (by simp) ?_
        refine AllReadyH.cons rfl (fun K hK => ?_) AllReadyH.nil
        go_simp; refine hK.out _ _ trivial (fun _ => ?_); clear hK K
        refine wpAnyH_ready (rs := [7]) (by kernel_rfl) (by simp) ?_
        refine AllReadyH.cons rfl (fun K hK => ?_) AllReadyH.nil
        go_simp; refine hK.out _ _ trivial (fun _ => ?_); clear hK K
        refine wpAnyH_done (by kernel_rfl) (NoPanic.normal ?_) _; go_wp2; go_meet; case rel => exact ⟨kHx, hB623⟩
      refine AllReadyH.cons rfl (fun K hK => ?_) AllReadyH.nil
      go_simp; refine hK.out _ _ trivial (fun _ => ?_); clear hK K
      refine wpAnyH_ready (rs := [1, 3]) (by kernel_rfl) (by simp) ?_
      refine AllReadyH.cons rfl (fun K hK => ?_) ?_
      · go_simp; refine hK.out _ _ trivial (fun _ => ?_); clear hK K
        refine wpAnyH_ready (rs := [3]) (by kernel_rfl) (by simp) ?_
        refine AllReadyH.cons rfl (fun K hK => ?_) AllReadyH.nil
        go_simp; refine hK.out _ _ trivial (fun _ => ?_); clear hK K
        refine wpAnyH_ready (rs := [4]) (by kernel_rfl) (by simp) ?_
        refine AllReadyH.cons rfl (fun K hK => ?_) AllReadyH.nil
        go_simp; refine hK.out _ _ trivial (fun _ => ?_); clear hK K
        refine wpAnyH_ready (rs := [5]) (by kernel_rfl) (by simp) ?_
        refine AllReadyH.cons rfl (fun K hK => ?_) AllReadyH.nil
        refine GramKnown.stepG rfl _ _ rfl rfl _ _ (by rfl) (by rfl) hrun23 ?_; refine hK.out _ _ trivial (fun _ => ?_); clear hK K; simp only [List.getElem_toArray, List.getElem_cons_zero, List.getElem_cons_succ, Act.put, List.setIfInBounds_toArray, List.set_cons_zero, List.set_cons_succ]
        refine wpAnyH_ready (rs := [6]) (by kernel_rfl) (by simp) ?_
        refine AllReadyH.cons rfl (fun K hK => ?_) AllReadyH.nil
        go_simp; refine hK.out _ _ trivial (fun _ => ?_); clear hK K
        refine wpAnyH_ready (rs := [7]) (by kernel_rfl) (by simp) ?_
        refine AllReadyH.cons rfl (fun K hK => ?_) AllReadyH.nil
        go_simp; refine hK.out _ _ trivial (fun _ => ?_); clear hK K
        refine wpAnyH_done (by kernel_rfl) (NoPanic.normal ?_) _; go_wp2; go_meet; case rel => exact ⟨kHx, hB623⟩
      refine AllReadyH.cons rfl (fun K hK => ?_) AllReadyH.nil
      go_simp; refine hK.out _ _ trivial (fun _ => ?_); clear hK K
      refine wpAnyH_ready (rs := [1, 4]) (by kernel_rfl) (by simp) ?_
      refine AllReadyH.cons rfl (fun K hK => ?_) ?_
      · go_simp; refine hK.out _ _ trivial (fun _ => ?_); clear hK K
        refine wpAnyH_ready (rs := [4]) (by kernel_rfl) (by simp) ?_
        refine AllReadyH.cons rfl (fun K hK => ?_) AllReadyH.nil
        go_simp; refine hK.out _ _ trivial (fun _ => ?_); clear hK K
        refine wpAnyH_ready (rs := [5]) (by kernel_rfl) (by simp) ?_
        refine AllReadyH.cons rfl (fun K hK => ?_) AllReadyH.nil
        refine GramKnown.stepG rfl _ _ rfl rfl _ _ (by rfl) (by rfl) hrun23 ?_; refine hK.out _ _ trivial (fun _ => ?_); clear hK K; simp only [List.getElem_toArray, List.getElem_cons_zero, List.getElem_cons_succ, Act.put, List.setIfInBounds_toArray, List.set_cons_zero, List.set_cons_succ]
        refine wpAnyH_ready (rs := [6]) (by kernel_rfl) (by simp) ?_
        refine AllReadyH.cons rfl (fun K hK => ?_) AllReadyH.nil
        go_simp; refine hK.out _ _ trivial (fun _ => ?_); clear hK K
        refine wpAnyH_ready (rs := [7]) (by kernel_rfl) (by simp) ?_
        refine AllReadyH.cons rfl (fun K hK => ?_) AllReadyH.nil
        go_simp; refine hK.out _ _ trivial (fun _ => ?_); clear hK K
        refine wpAnyH_done (by kernel_rfl) (NoPanic.normal ?_) _; go_wp2; go_meet; case rel => exact ⟨kHx, hB623⟩
      refine AllReadyH.cons rfl (fun K hK => ?_) AllReadyH.nil
      go_simp; refine hK.out _ _ trivial (fun _ => ?_); clear hK K
      refine wpAnyH_ready (rs := [1]) (by kernel_rfl) (by simp) ?_
      refine AllReadyH.cons rfl (fun K hK => ?_) AllReadyH.nil
      go_simp; refine hK.out _ _ trivial (fun _ => ?_); clear hK K
      refine wpAnyH_ready (rs := [5]) (by kernel_rfl) (by simp) ?_
      refine AllReadyH.cons rfl (fun K hK => ?_) AllReadyH.nil
      refine GramKnown.stepG rfl _ _ rfl rfl _ _ (by rfl) (by rfl) hrun23 ?_; refine hK.out _ _ trivial (fun _ => ?_); clear hK K; simp only [List.getElem_toArray, List.getElem_cons_zero, List.getElem_cons_succ, Act.put, List.setIfInBounds_toArray, List.set_cons_zero, List.set_cons_succ]
      refine wpAnyH_ready (rs := [6]) (by kernel_rfl) (by simp) ?_
      refine AllReadyH.cons rfl (fun K hK => ?_) AllReadyH.nil
      go_simp; refine hK.out _ _ trivial (fun _ => ?_); clear hK K
      refine wpAnyH_ready (rs := [7]) (by kernel_rfl) (by simp) ?_
      refine AllReadyH.cons rfl (fun K hK => ?_) AllReadyH.nil
      go_simp; refine hK.out _ _ trivial (fun _ => ?_); clear hK K
      refine wpAnyH_done (by kernel_rfl) (NoPanic.normal ?_) _; go_wp2; go_meet; case rel => exact ⟨kHx, hB623⟩
    case rest =>
      rename World => w25
      obtain ⟨kH, hB625⟩ := hcut
      have kE := kE.below hB625 (Nat.le_refl _)
      have kF := kF.below hB625 (Nat.le_refl _)
      have kG := kG.below hB625 (Nat.le_refl _)
      have B25 := B23.trans (hB625.mono B23.size)
      clear kHx hB623 hrun23 B23 hB625
      go_wp2_with fail
      refine (given_any w25).mono ?_
      rintro e w26 ⟨⟨ta26, na26, ra26, rfl, hG26⟩, hb26⟩
      have hmk26 : ∀ W : World, (Instr.makeSlice 29 (.int .i64 120) (.int .i64 120)).run Tryd.prog W = .ok (.slice (some ⟨W.heap.size, 0, none⟩) 120 120) (W.alloc (.cells (madeCells #[.int .i64 0, .slice none 0 0] (120 * 2)) 52)) := fun W => madeR_any 120 (by decide) W
      have rmk26 : ∀ (W : World) (b : Nat), RowAt W b 52 (madeCells #[.int .i64 0, .slice none 0 0] (120 * 2)) → RRow W (some ⟨b, 0, none⟩) (List.replicate 120 ⟨0, []⟩) := fun W b h => made_rules h
      obtain ⟨mk26, hmkd26⟩ : ∃ mk, mk = madeCells #[Value.int .i64 0, .slice none 0 0] (120 * 2) := ⟨_, rfl⟩
      rw [← hmkd26] at hmk26
      rw [← hmkd26] at rmk26
      clear hmkd26
      have hI26 : Below w26.heap.size w26 ((w26.alloc (.cells #[.slice ta26 2 2, .slice na26 1 1, .int .i64 0, .slice (some ⟨w26.heap.size + 1, 0, none⟩) 120 120] 35)).alloc (.cells mk26 52)) := ((Below.refl _ _).alloc (Nat.le_refl _) _).alloc (by simp) _
      have rI26 : RowAt ((w26.alloc (.cells #[.slice ta26 2 2, .slice na26 1 1, .int .i64 0, .slice (some ⟨w26.heap.size + 1, 0, none⟩) 120 120] 35)).alloc (.cells mk26 52)) (w26.heap.size + 1) 52 mk26 := by
        have h := World.alloc_heap_new (w26.alloc (.cells #[.slice ta26 2 2, .slice na26 1 1, .int .i64 0, .slice (some ⟨w26.heap.size + 1, 0, none⟩) 120 120] 35)) (.cells mk26 52)
        rw [World.size_alloc] at h
        exact h
      have kI : KBox ((w26.alloc (.cells #[.slice ta26 2 2, .slice na26 1 1, .int .i64 0, .slice (some ⟨w26.heap.size + 1, 0, none⟩) 120 120] 35)).alloc (.cells mk26 52)) w26.heap.size (gN 120) := KBox.of (g := gN 120) (n := 120) ((Below.heap_alloc _ _ _ (by simp)).trans (World.alloc_heap_new w26 _)) ⟨hG26.1.below hI26 (Nat.le_refl _), hG26.2.1.below hI26 (Nat.le_refl _), rmk26 _ _ rI26⟩ (by show 2 ≤ 2; omega) (by show 1 ≤ 1; omega) (List.length_replicate ..).symm
      have hbI26 := hb26.trans (hI26.mono hb26.size)
      have kE := kE.below hbI26 (Nat.le_refl _)
      have kF := kF.below hbI26 (Nat.le_refl _)
      have kG := kG.below hbI26 (Nat.le_refl _)
      have kH := kH.below hbI26 (Nat.le_refl _)
      have B27 := B25.trans (hbI26.mono B25.size)
      clear hG26 hb26 hI26 rI26 rmk26 hbI26 B25
      go_wp2_with fail
      generalize ((w26.alloc (.cells #[.slice ta26 2 2, .slice na26 1 1, .int .i64 0, .slice (some ⟨w26.heap.size + 1, 0, none⟩) 120 120] 35)).alloc (.cells mk26 52)) = w27 at *
      refine (given_any w27).mono ?_
      rintro e w28 ⟨⟨ta28, na28, ra28, rfl, hG28⟩, hb28⟩
      have hmk28 : ∀ W : World, (Instr.makeSlice 29 (.int .i64 121) (.int .i64 121)).run Tryd.prog W = .ok (.slice (some ⟨W.heap.size, 0, none⟩) 121 121) (W.alloc (.cells (madeCells #[.int .i64 0, .slice none 0 0] (121 * 2)) 52)) := fun W => madeR_any 121 (by decide) W
      have rmk28 : ∀ (W : World) (b : Nat), RowAt W b 52 (madeCells #[.int .i64 0, .slice none 0 0] (121 * 2)) → RRow W (some ⟨b, 0, none⟩) (List.replicate 121 ⟨0, []⟩) := fun W b h => made_rules h
      obtain ⟨mk28, hmkd28⟩ : ∃ mk, mk = madeCells #[Value.int .i64 0, .slice none 0 0] (121 * 2) := ⟨_, rfl⟩
      rw [← hmkd28] at hmk28
      rw [← hmkd28] at rmk28
      clear hmkd28
      have hI28 : Below w28.heap.size w28 ((w28.alloc (.cells #[.slice ta28 2 2, .slice na28 1 1, .int .i64 0, .slice (some ⟨w28.heap.size + 1, 0, none⟩) 121 121] 35)).alloc (.cells mk28 52)) := ((Below.refl _ _).alloc (Nat.le_refl _) _).alloc (by simp) _
      have rI28 : RowAt ((w28.alloc (.cells #[.slice ta28 2 2, .slice na28 1 1, .int .i64 0, .slice (some ⟨w28.heap.size + 1, 0, none⟩) 121 121] 35)).alloc (.cells mk28 52)) (w28.heap.size + 1) 52 mk28 := by
        have h := World.alloc_heap_new (w28.alloc (.cells #[.slice ta28 2 2, .slice na28 1 1, .int .i64 0, .slice (some ⟨w28.heap.size + 1, 0, none⟩) 121 121] 35)) (.cells mk28 52)
        rw [World.size_alloc] at h
        exact h
      have kJ : KBox ((w28.alloc (.cells #[.slice ta28 2 2, .slice na28 1 1, .int .i64 0, .slice (some ⟨w28.heap.size + 1, 0, none⟩) 121 121] 35)).alloc (.cells mk28 52)) w28.heap.size (gN 121) := KBox.of (g := gN 121) (n := 121) ((Below.heap_alloc _ _ _ (by simp)).trans (World.alloc_heap_new w28 _)) ⟨hG28.1.below hI28 (Nat.le_refl _), hG28.2.1.below hI28 (Nat.le_refl _), rmk28 _ _ rI28⟩ (by show 2 ≤ 2; omega) (by show 1 ≤ 1; omega) (List.length_replicate ..).symm
      have hbI28 := hb28.trans (hI28.mono hb28.size)
      have kE := kE.below hbI28 (Nat.le_refl _)
      have kF := kF.below hbI28 (Nat.le_refl _)
      have kG := kG.below hbI28 (Nat.le_refl _)
      have kH := kH.below hbI28 (Nat.le_refl _)
      have kI := kI.below hbI28 (Nat.le_refl _)
      have B29 := B27.trans (hbI28.mono B27.size)
      clear hG28 hb28 hI28 rI28 rmk28 hbI28 B27
      obtain ⟨E0, E1, E2, E3, cE0, cE1, cE2, cE3, fE⟩ := wrong_box kE p 0 (-1) ok_E (by rw [ck_E]; decide) (by rw [ck_E]; rfl) (rz_0 ck_E)
      have lE := kE.lt
      go_wp2_with fail
      generalize ((w28.alloc (.cells #[.slice ta28 2 2, .slice na28 1 1, .int .i64 0, .slice (some ⟨w28.heap.size + 1, 0, none⟩) 121 121] 35)).alloc (.cells mk28 52)) = w29 at *
      have hE29 := hE.below B29 (Nat.le_refl _)
      have hT29 := hT.below B29 (Nat.le_refl _)
      have ckR : (checkG (gM (List.replicate 32 0))).1 = 0 := ck_R
      have ckH : checkG (gM (List.replicate 33 0)) = (3, some 2) := ck_R3
      obtain ⟨F0, F1, F2, F3, cF0, cF1, cF2, cF3, fF⟩ := wrong_box kF p 3 (-1) ok_F (by rw [ck_F]; decide) (by rw [ck_F]; rfl) (by rw [ck_F]; rfl)
      have lF := kF.lt
      obtain ⟨G0, G1, G2, G3, cG0, cG1, cG2, cG3, fG⟩ := wrong_box kG p 0 (-1) ok_R (by rw [ckR]; decide) (by rw [ckR]; rfl) (rz_0 ckR)
      have lG := kG.lt
      obtain ⟨H0, H1, H2, H3, cH0, cH1, cH2, cH3, fH⟩ := wrong_box kH p 3 (2) ok_R3 (by rw [ckH]; decide) (by rw [ckH]; rfl) (by rw [ckH]; rfl)
      have lH := kH.lt
      obtain ⟨I0, I1, I2, I3, cI0, cI1, cI2, cI3, fI⟩ := wrong_box kI p 0 (-1) ok_N (by rw [ck_N]; decide) (by rw [ck_N]; rfl) (rz_0 ck_N)
      have lI := kI.lt
      obtain ⟨J0, J1, J2, J3, cJ0, cJ1, cJ2, cJ3, fJ⟩ := wrong_box kJ p 3 (-1) ok_N1 (by rw [ck_N1]; decide) (by rw [ck_N1]; rfl) (by rw [ck_N1]; rfl)
      have lJ := kJ.lt
      have nE := neqE
      have nF := neqF
      have nH := neqH
      have h0x : Below w29.heap.size w29 w29 := Below.refl _ _
      refine (fE w29 h0x (hE29.below h0x (Nat.le_refl _)) (hT29.below h0x (Nat.le_refl _))).mono ?_
      rintro e w30 ⟨rfl, hy⟩
      have hw30 := h0x.trans (hy.mono h0x.size)
      clear hy
      have x0 := (hw30.cell (p := ⟨xkF, 0, none⟩) lF).trans cF0
      have x1 := (hw30.cell (p := ⟨xkF, 1, none⟩) lF).trans cF1
      have x2 := (hw30.cell (p := ⟨xkF, 2, none⟩) lF).trans cF2
      have x3 := (hw30.cell (p := ⟨xkF, 3, none⟩) lF).trans cF3
      go_wp2_with fail
      refine (fF w30 hw30 (hE29.below hw30 (Nat.le_refl _)) (hT29.below hw30 (Nat.le_refl _))).mono ?_
      rintro e w31 ⟨rfl, hy⟩
      have hw31 := hw30.trans (hy.mono hw30.size)
      clear hy
      have x0 := (hw31.cell (p := ⟨w20.heap.size, 0, none⟩) lG).trans cG0
      have x1 := (hw31.cell (p := ⟨w20.heap.size, 1, none⟩) lG).trans cG1
      have x2 := (hw31.cell (p := ⟨w20.heap.size, 2, none⟩) lG).trans cG2
      have x3 := (hw31.cell (p := ⟨w20.heap.size, 3, none⟩) lG).trans cG3
      go_wp2_with fail
      refine (fG w31 hw31 (hE29.below hw31 (Nat.le_refl _)) (hT29.below hw31 (Nat.le_refl _))).mono ?_
      rintro e w32 ⟨rfl, hy⟩
      have hw32 := hw31.trans (hy.mono hw31.size)
      clear hy
      have x0 := (hw32.cell (p := ⟨w23.heap.size, 0, none⟩) lH).trans cH0
      have x1 := (hw32.cell (p := ⟨w23.heap.size, 1, none⟩) lH).trans cH1
      have x2 := (hw32.cell (p := ⟨w23.heap.size, 2, none⟩) lH).trans cH2
      have x3 := (hw32.cell (p := ⟨w23.heap.size, 3, none⟩) lH).trans cH3
      go_wp2_with fail
      refine (fH w32 hw32 (hE29.below hw32 (Nat.le_refl _)) (hT29.below hw32 (Nat.le_refl _))).mono ?_
      rintro e w33 ⟨rfl, hy⟩
      have hw33 := hw32.trans (hy.mono hw32.size)
      clear hy
      have x0 := (hw33.cell (p := ⟨w26.heap.size, 0, none⟩) lI).trans cI0
      have x1 := (hw33.cell (p := ⟨w26.heap.size, 1, none⟩) lI).trans cI1
      have x2 := (hw33.cell (p := ⟨w26.heap.size, 2, none⟩) lI).trans cI2
      have x3 := (hw33.cell (p := ⟨w26.heap.size, 3, none⟩) lI).trans cI3
      go_wp2_with fail
      refine (fI w33 hw33 (hE29.below hw33 (Nat.le_refl _)) (hT29.below hw33 (Nat.le_refl _))).mono ?_
      rintro e w34 ⟨rfl, hy⟩
      have hw34 := hw33.trans (hy.mono hw33.size)
      clear hy
      have x0 := (hw34.cell (p := ⟨w28.heap.size, 0, none⟩) lJ).trans cJ0
      have x1 := (hw34.cell (p := ⟨w28.heap.size, 1, none⟩) lJ).trans cJ1
      have x2 := (hw34.cell (p := ⟨w28.heap.size, 2, none⟩) lJ).trans cJ2
      have x3 := (hw34.cell (p := ⟨w28.heap.size, 3, none⟩) lJ).trans cJ3
      go_wp2_with fail
      refine (fJ w34 hw34 (hE29.below hw34 (Nat.le_refl _)) (hT29.below hw34 (Nat.le_refl _))).mono ?_
      rintro e w35 ⟨rfl, hy⟩
      have hw35 := hw34.trans (hy.mono hw34.size)
      clear hy
      have B35 := B29.trans (hw35.mono B29.size)
      go_wp2_with fail
      refine (given_any w35).mono ?_
      rintro e w36 ⟨⟨ta, na, ra, rfl, hG⟩, hb⟩
      have B36 := B35.trans (hb.mono B35.size)
      clear hb B35
      have hc := term_any ta na ra 2 1 2 givenG ⟨#[69]⟩ w36 hG.1 (by decide)
      rw [show idxN givenG.ts ⟨#[69]⟩ = 0 from by kernel_rfl, show idxB givenG.ts ⟨#[69]⟩ = false from by kernel_rfl] at hc
      go_wp2_with fail
      refine hc.mono ?_
      rintro e w37 ⟨rfl, hb⟩
      have B37 := B36.trans (hb.mono B36.size)
      clear hb B36 hc hG
      go_wp2_with fail
      refine (given_any w37).mono ?_
      rintro e w38 ⟨⟨ta, na, ra, rfl, hG⟩, hb⟩
      have B38 := B37.trans (hb.mono B37.size)
      clear hb B37
      have hc := nontermF_any ta na ra 2 1 2 givenG ⟨#[69]⟩ w38 hG.2.1 (by decide)
      rw [show idxN givenG.ns ⟨#[69]⟩ = 0 from by kernel_rfl, show idxB givenG.ns ⟨#[69]⟩ = true from by kernel_rfl] at hc
      go_wp2_with fail
      refine hc.mono ?_
      rintro e w39 ⟨rfl, hb⟩
      have B39 := B38.trans (hb.mono B38.size)
      clear hb B38 hc hG
      go_wp2_with fail
      refine (given_any w39).mono ?_
      rintro e w40 ⟨⟨ta, na, ra, rfl, hG⟩, hb⟩
      have B40 := B39.trans (hb.mono B39.size)
      clear hb B39
      have hc := GramName.name_any ta na ra 2 1 2 givenG (1) w40 hG.1 hG.2.1 given_ok ⟨by decide, by decide⟩
      rw [show nameS givenG (1) = ⟨#[105]⟩ from by kernel_rfl, show nameB givenG (1) = true from by kernel_rfl] at hc
      go_wp2_with fail
      refine hc.mono ?_
      rintro e w41 ⟨rfl, hb⟩
      have B41 := B40.trans (hb.mono B40.size)
      clear hb B40 hc hG
      go_wp2_with fail
      refine (given_any w41).mono ?_
      rintro e w42 ⟨⟨ta, na, ra, rfl, hG⟩, hb⟩
      have B42 := B41.trans (hb.mono B41.size)
      clear hb B41
      have hc := GramName.name_any ta na ra 2 1 2 givenG (-1) w42 hG.1 hG.2.1 given_ok ⟨by decide, by decide⟩
      rw [show nameS givenG (-1) = ⟨#[69]⟩ from by kernel_rfl, show nameB givenG (-1) = true from by kernel_rfl] at hc
      go_wp2_with fail
      refine hc.mono ?_
      rintro e w43 ⟨rfl, hb⟩
      have B43 := B42.trans (hb.mono B42.size)
      clear hb B42 hc hG
      go_wp2_with fail
      refine (given_any w43).mono ?_
      rintro e w44 ⟨⟨ta, na, ra, rfl, hG⟩, hb⟩
      have B44 := B43.trans (hb.mono B43.size)
      clear hb B43
      have hc := GramName.name_any ta na ra 2 1 2 givenG (2) w44 hG.1 hG.2.1 given_ok ⟨by decide, by decide⟩
      rw [show nameS givenG (2) = ⟨#[]⟩ from by kernel_rfl, show nameB givenG (2) = false from by kernel_rfl] at hc
      go_wp2_with fail
      refine hc.mono ?_
      rintro e w45 ⟨rfl, hb⟩
      have B45 := B44.trans (hb.mono B44.size)
      clear hb B44 hc hG
      go_wp2_with fail
      refine (given_any w45).mono ?_
      rintro e w46 ⟨⟨ta, na, ra, rfl, hG⟩, hb⟩
      have B46 := B45.trans (hb.mono B45.size)
      clear hb B45
      have hc := GramName.name_any ta na ra 2 1 2 givenG (-2) w46 hG.1 hG.2.1 given_ok ⟨by decide, by decide⟩
      rw [show nameS givenG (-2) = ⟨#[]⟩ from by kernel_rfl, show nameB givenG (-2) = false from by kernel_rfl] at hc
      go_wp2_with fail
      refine hc.mono ?_
      rintro e w47 ⟨rfl, hb⟩
      have B47 := B46.trans (hb.mono B46.size)
      clear hb B46 hc hG
      go_wp2_with fail
      refine (chain_any w47).mono ?_
      rintro e w48 ⟨⟨ta, na, ra, rfl, hG⟩, hb⟩
      have B48 := B47.trans (hb.mono B47.size)
      obtain ⟨bb, off, qa, qc, rfl, q1, q2, q3⟩ := hG.2.2 0 ⟨0, [-2]⟩ rfl
      have hfd : ∀ W : World, (Instr.field 35 (.agg #[.slice ta 1 1, .slice na 3 3, .int .i64 0, .slice (some ⟨bb, off, none⟩) 3 3]) 3).run Tryd.prog W = .ok (.slice (some ⟨bb, off, none⟩) 3 3) W := fun W => by kernel_rfl
      have q1' : w48.cell? ⟨bb, off, none⟩ = some _ := q1
      have q2' : w48.cell? ⟨bb, off + 1, none⟩ = some _ := q2
      have hc := renaming_any qa qc ⟨0, [-2]⟩ w48 q3 ⟨⟨by decide, by decide⟩, fun x hx => by obtain rfl : x = -2 := (by simpa using hx); exact ⟨by decide, by decide⟩, by decide⟩
      rw [show renN ⟨0, [-2]⟩ = 1 from by kernel_rfl, show renB ⟨0, [-2]⟩ = true from by kernel_rfl] at hc
      clear hb B47 q1 q2 q3
      go_wp2_with fail
      refine hc.mono ?_
      rintro e w49 ⟨rfl, hb⟩
      have B49 := B48.trans (hb.mono B48.size)
      clear hb B48 hc hG q1' q2' hfd
      go_wp2_with fail
      refine (given_any w49).mono ?_
      rintro e w50 ⟨⟨ta, na, ra, rfl, hG⟩, hb⟩
      have B50 := B49.trans (hb.mono B49.size)
      obtain ⟨bb, off, qa, qc, rfl, q1, q2, q3⟩ := hG.2.2 1 ⟨0, [1]⟩ rfl
      have hfd : ∀ W : World, (Instr.field 35 (.agg #[.slice ta 2 2, .slice na 1 1, .int .i64 0, .slice (some ⟨bb, off, none⟩) 2 2]) 3).run Tryd.prog W = .ok (.slice (some ⟨bb, off, none⟩) 2 2) W := fun W => by kernel_rfl
      have q1' : w50.cell? ⟨bb, off + 2, none⟩ = some _ := q1
      have q2' : w50.cell? ⟨bb, off + 2 + 1, none⟩ = some _ := q2
      have hc := renaming_any qa qc ⟨0, [1]⟩ w50 q3 ⟨⟨by decide, by decide⟩, fun x hx => by obtain rfl : x = 1 := (by simpa using hx); exact ⟨by decide, by decide⟩, by decide⟩
      rw [show renN ⟨0, [1]⟩ = 0 from by kernel_rfl, show renB ⟨0, [1]⟩ = false from by kernel_rfl] at hc
      clear hb B49 q1 q2 q3
      go_wp2_with fail
      refine hc.mono ?_
      rintro e w51 ⟨rfl, hb⟩
      have B51 := B50.trans (hb.mono B50.size)
      clear hb B50 hc hG q1' q2' hfd
      have hlt := B51.size
      have hwl := B51
      go_wp2_with fail
      refine (new_any w51).mono ?_
      rintro e x1 ⟨rfl, hB1, hb⟩
      have D1 := B51.trans (hb.mono B51.size)
      have z1 : w51.heap.size < x1.heap.size := Nat.lt_of_lt_of_le hB1.t.lt hB1.lt
      have zb : w.heap.size ≤ w51.heap.size + 1 := by omega
      clear hb hwl B51
      generalize w51.heap.size = xb at *
      have hc := bnonterm_any _ _ _ _ _ _ _ _ _ ⟨#[65]⟩ x1 hB1 (by decide) (by decide)
      rw [show numZ emptyG.ns ⟨#[65]⟩ = 0 from by kernel_rfl, show withNs emptyG (addS emptyG.ns ⟨#[65]⟩) = ⟨[], [⟨#[65]⟩], 0, []⟩ from by kernel_rfl] at hc
      go_wp2_with fail
      refine hc.mono ?_
      rintro e x2 ⟨⟨nv2, mv2, rfl, hB2⟩, hk⟩
      have D2 := D1.trans ((keep_below hk (B := w.heap.size) hlt z1 (fun k h => Nat.le_trans zb (hB1.n.blocks h).1)).mono (Nat.le_refl _))
      have z2 := Nat.lt_of_lt_of_le z1 hk.size
      clear hc hk hB1
      have hc := bterm_any _ _ _ _ _ _ _ _ _ ⟨#[116]⟩ x2 hB2 (by decide) (by decide)
      rw [show numZ ([] : List ByteArray) ⟨#[116]⟩ = 0 from by kernel_rfl, show withTs ⟨[], [⟨#[65]⟩], 0, []⟩ (addS [] ⟨#[116]⟩) = ⟨[⟨#[116]⟩], [⟨#[65]⟩], 0, []⟩ from by kernel_rfl] at hc
      go_wp2_with fail
      refine hc.mono ?_
      rintro e x3 ⟨⟨nv3, mv3, rfl, hB3⟩, hk⟩
      have D3 := D2.trans ((keep_below hk (B := w.heap.size) hlt z2 (fun k h => Nat.le_trans zb (hB2.t.blocks h).1)).mono (Nat.le_refl _))
      have z3 := Nat.lt_of_lt_of_le z2 hk.size
      clear hc hk hB2
      have hc := bterm_any _ _ _ _ _ _ _ _ _ ⟨#[116]⟩ x3 hB3 (by decide) (by decide)
      rw [show numZ [⟨#[116]⟩] ⟨#[116]⟩ = 0 from by kernel_rfl, show withTs ⟨[⟨#[116]⟩], [⟨#[65]⟩], 0, []⟩ (addS [⟨#[116]⟩] ⟨#[116]⟩) = ⟨[⟨#[116]⟩], [⟨#[65]⟩], 0, []⟩ from by kernel_rfl] at hc
      go_wp2_with fail
      refine hc.mono ?_
      rintro e x4 ⟨⟨nv4, mv4, rfl, hB4⟩, hk⟩
      have D4 := D3.trans ((keep_below hk (B := w.heap.size) hlt z3 (fun k h => Nat.le_trans zb (hB3.t.blocks h).1)).mono (Nat.le_refl _))
      have z4 := Nat.lt_of_lt_of_le z3 hk.size
      clear hc hk hB3
      have hb5 : Below x4.heap.size x4 (x4.alloc (.cells #[.int .i64 0] 3)) := (Below.refl _ _).alloc (Nat.le_refl _) _
      have hB5 := build_on hB4 hb5
      have D5 := D4.trans (hb5.mono D4.size)
      have z5 := Nat.lt_of_lt_of_le z4 hb5.size
      have hI : IRow (x4.alloc (.cells #[.int .i64 0] 3)) (some ⟨x4.heap.size, 0, none⟩) [0] := one_int (by simp [go_sem])
      have hc := brule_any _ _ _ _ _ _ _ _ _ 0 (some ⟨x4.heap.size, 0, none⟩) 1 [0] _ hB5 hI (by decide) (by decide)
      rw [show withRs ⟨[⟨#[116]⟩], [⟨#[65]⟩], 0, []⟩ (([] : List R) ++ [⟨0, [0]⟩]) = tG from by kernel_rfl] at hc
      clear hb5 hB4 hI
      go_wp2_with fail
      generalize x4.alloc (.cells #[.int .i64 0] 3) = x5 at *
      refine hc.mono ?_
      rintro e x6 ⟨⟨rv6, lq6, rfl, hB6⟩, hk⟩
      have D6 := D5.trans ((keep_below hk (B := w.heap.size) hlt z5 (fun k h => Nat.le_trans zb (hB5.r.row.lt k h).1)).mono (Nat.le_refl _))
      clear hc hk hB5
      have hc := bgrammar_any _ _ tG _ _ _ _ _ _ p x6 hB6 t_ok (hE.sents.below D6 (Nat.le_refl _)) (by decide) (by decide) (by decide) t_em
      rw [t_check] at hc
      simp only [show tG.ts.length = 1 from rfl, show tG.ns.length = 1 from rfl, show tG.rs.length = 1 from rfl, show tG.ax = 0 from rfl] at hc
      go_wp2_with fail
      refine hc.mono ?_
      rintro e x7 ⟨⟨_, c1, c2, c3, bs, rfl, hC⟩ | ⟨hne, _⟩, hb⟩
      rotate_left
      · exact absurd rfl hne
      have D7 := D6.trans (hb.mono D6.size)
      have hG7 := hC.row
      clear hc hb hC hB6
      have hb : Below x7.heap.size x7 (x7.alloc (.cells #[.slice (some ⟨c1, 0, none⟩) 1 1, .slice (some ⟨c2, 0, none⟩) 1 1, .int .i64 0, .slice (some ⟨c3, 0, none⟩) 1 1] 35)) := (Below.refl _ _).alloc (Nat.le_refl _) _
      have hrx : RowAt (x7.alloc (.cells #[.slice (some ⟨c1, 0, none⟩) 1 1, .slice (some ⟨c2, 0, none⟩) 1 1, .int .i64 0, .slice (some ⟨c3, 0, none⟩) 1 1] 35)) x7.heap.size 35 #[.slice (some ⟨c1, 0, none⟩) 1 1, .slice (some ⟨c2, 0, none⟩) 1 1, .int .i64 0, .slice (some ⟨c3, 0, none⟩) 1 1] := heap_new _ _
      have D8 := D7.trans (hb.mono D7.size)
      have hz8 : Hid ((x7.alloc (.cells #[.slice (some ⟨c1, 0, none⟩) 1 1, .slice (some ⟨c2, 0, none⟩) 1 1, .int .i64 0, .slice (some ⟨c3, 0, none⟩) 1 1] 35)).heap.size = x7.heap.size + 1) := World.size_alloc _ _
      have hG8 := hG7.below hb (Nat.le_refl _)
      clear hb hG7 D7
      go_wp2_with fail
      generalize x7.alloc (.cells #[.slice (some ⟨c1, 0, none⟩) 1 1, .slice (some ⟨c2, 0, none⟩) 1 1, .int .i64 0, .slice (some ⟨c3, 0, none⟩) 1 1] 35) = x8 at *
      generalize x7.heap.size = bx at *
      have y0 := hrx.cell (q := 0) rfl
      have y1 := hrx.cell (q := 1) rfl
      have y2 := hrx.cell (q := 2) rfl
      have y3 := hrx.cell (q := 3) rfl
      obtain ⟨hH, hbL⟩ := one_lit x8 _ rfl
      have hc := GramSame.grammar_any (some ⟨c1, 0, none⟩) (some ⟨c2, 0, none⟩) (some ⟨c3, 0, none⟩) _ _ _ 1 1 1 1 1 1 tG tG _ (hG8.below hbL (Nat.le_refl _)) hH t_ok t_ok
      rw [t_same] at hc
      simp only [show tG.ts.length = 1 from rfl, show tG.ns.length = 1 from rfl, show tG.rs.length = 1 from rfl, show tG.ax = 0 from rfl] at hc
      have D9 := D8.trans (hbL.mono D8.size)
      clear hbL hH hG8
      rw [hz8.out] at hc D9
      refine hc.mono ?_
      rintro e x9 ⟨rfl, hb⟩
      have D10 := D9.trans (hb.mono D9.size)
      go_wp2
      go_ret
      exact ⟨rfl, D10⟩

end Go.Proofs.YtdafokhdhddhoaaDoor.GramKnown
