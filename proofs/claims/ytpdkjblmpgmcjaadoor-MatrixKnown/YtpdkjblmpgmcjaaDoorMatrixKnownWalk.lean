/-
  The walk of MatrixKnown: the chapter's examples, and no matrix.
-/
import Derived.Test.YtpdkjblmpgmcjaaDoorMatrixKnownMs
import Derived.Deep.DeepCutAuto
namespace Go.Proofs.YtpdkjblmpgmcjaaDoor.MatrixKnown
open Go.RowKit Go.Proofs.YtpdkjblmpgmcjaaDoor.GramMath Go.Proofs.YtpdkjblmpgmcjaaDoor.GramRow Go.Proofs.YtpdkjblmpgmcjaaDoor.GramErrs Go.Proofs.YtpdkjblmpgmcjaaDoor.GramSame Go.Proofs.YtpdkjblmpgmcjaaDoor.EndsMath Go.Proofs.YtpdkjblmpgmcjaaDoor.EndsSearch Go.Proofs.YtpdkjblmpgmcjaaDoor.EndsChain Go.Proofs.YtpdkjblmpgmcjaaDoor.GramOpen Go.Proofs.YtpdkjblmpgmcjaaDoor.SetsAlg Go.Proofs.YtpdkjblmpgmcjaaDoor.MatrixMath Go.Proofs.YtpdkjblmpgmcjaaDoor.MatrixPut Go.Proofs.YtpdkjblmpgmcjaaDoor.MatrixOf Go.Proofs.YtpdkjblmpgmcjaaDoor.MatrixAwake Go.Proofs.YtpdkjblmpgmcjaaDoor.MatrixKeep Go.Proofs.YtpdkjblmpgmcjaaDoor.MatrixWhyMath Go.Proofs.YtpdkjblmpgmcjaaDoor.MatrixWhyFn Go.Proofs.YtpdkjblmpgmcjaaDoor.MatrixReasonsMath Go.Proofs.YtpdkjblmpgmcjaaDoor.MatrixRMath Go.Proofs.YtpdkjblmpgmcjaaDoor.GramApart Go.Proofs.YtpdkjblmpgmcjaaDoor.MatrixClash Go.Proofs.YtpdkjblmpgmcjaaDoor.GramAwake Go.Proofs.YtpdkjblmpgmcjaaDoor.EndsChainsW
set_option linter.unusedVariables false
set_option linter.unusedSimpArgs false

theorem take4 {cur : Array Value} {a b c d : Value} (h : cur.toList.take (1 * 4) = [a, b, c, d]) : cur[0]? = some a ∧ cur[1]? = some b ∧ cur[2]? = some c ∧ cur[3]? = some d := by
  have e : ∀ i, i < 4 → cur[i]? = [a, b, c, d][i]? := fun i hi => by
    rw [← h, List.getElem?_take, if_pos (by omega), Array.getElem?_toList]
  exact ⟨e 0 (by decide), e 1 (by decide), e 2 (by decide), e 3 (by decide)⟩

theorem len_nil {w : World} {v : Value} {base e size : Nat} {xs : List Value} (h : w.ownsRow base e size v 0 xs) : ∃ a c, v = .slice a 0 c := by
  obtain ⟨_, ⟨rfl, _⟩ | ⟨g, cap, cur, rfl, _⟩⟩ := h
  · exact ⟨_, _, rfl⟩
  · exact ⟨_, _, rfl⟩

theorem holds_zero (S : Nat → Nat → Int) (a b x : Int) : holdsB ((0 : Nat) : Int) S a b x = false := by
  unfold holdsB
  by_cases h : 0 ≤ a
  · have h2 : ¬ a < ((0 : Nat) : Int) := by omega
    simp only [h2, decide_false, Bool.and_false, Bool.false_and]
  · simp [h]
theorem at_zero (S : Nat → Nat → Int) (a b : Int) : atI ((0 : Nat) : Int) S a b = 0 := by
  unfold atI
  rw [if_neg (by rw [holds_zero]; decide), if_neg (by rw [holds_zero]; decide), if_neg (by rw [holds_zero]; decide)]

set_option maxRecDepth 100000 in
set_option maxHeartbeats 16000000 in
theorem walk (p : Nat → Addr) (w : World) (hE : Errs w p) (hT : Tab w) (hTG : 16 < w.heap.size) :
    Calls Tryd.prog 4 #[] w fun e w' => e = .returned (.bool true) ∧ Below w.heap.size w w' := by
  have hS := hE.sents
  go_enter Tryd.func4, Tryd.ntmps4
  go_wp2_with fail
  refine (sums_any w).mono ?_
  rintro e w1 ⟨⟨ta, na, ra, rfl, hG1, hc1⟩, B1⟩
  have hof := sums_of p w1 (hS.below B1 (Nat.le_refl _)) (SetsEach.Tab.from hT B1 hTG) (Nat.lt_of_lt_of_le hTG B1.size) ta na ra hG1 hc1
  go_wp2_with fail
  refine hof.mono ?_
  rintro e w2 ⟨⟨N, U, rfl, hN, iN⟩, hb⟩
  have B2 := B1.trans (hb.mono B1.size)
  clear hof hG1 hc1 hb B1
  have hk := clashF_v (some ⟨N, 0, none⟩) 3 U w2 (by decide) (.inr ⟨N, rfl, hN⟩)
  rw [s_clashes iN] at hk
  replace hk : Calls Tryd.prog 18 #[.pointer (some ⟨N, 0, none⟩)] w2 fun e w' => e = .returned (.tuple #[.agg #[.int .i64 0, .int .i64 0, .int .i64 1, .int .i64 3], .bool true]) ∧ Below w2.heap.size w2 w' := hk
  go_wp2_with fail
  refine hk.mono ?_
  rintro e w3 ⟨rfl, hb⟩
  have B3 := B2.trans (hb.mono B2.size)
  replace hN := hN.below hb hN.lt
  clear hk hb B2
  have hp : RowAt (w3.alloc (.cells #[.int .i64 0, .int .i64 0, .int .i64 1, .int .i64 3] 48)) w3.heap.size 48 #[.int .i64 0, .int .i64 0, .int .i64 1, .int .i64 3] := heap_new _ _
  have hb : Below w3.heap.size w3 (w3.alloc (.cells #[.int .i64 0, .int .i64 0, .int .i64 1, .int .i64 3] 48)) := (Below.refl _ _).alloc (Nat.le_refl _) _
  have B4 := B3.trans (hb.mono B3.size)
  replace hN := hN.below hb hN.lt
  clear hb B3
  have hk := clashesF_v (some ⟨N, 0, none⟩) 3 U _ (by decide) (.inr ⟨N, rfl, hN⟩)
  rw [s_clashes iN] at hk
  go_wp2_with fail
  generalize w3.alloc (.cells #[.int .i64 0, .int .i64 0, .int .i64 1, .int .i64 3] 48) = w4 at *
  generalize w3.heap.size = bp at *
  refine hk.mono ?_
  rintro e w5 ⟨⟨v, rfl, hv⟩, hb⟩
  have B5 := B4.trans (hb.mono B4.size)
  replace hN := hN.below hb hN.lt
  replace hp := hp.below hb hp.lt
  obtain ⟨_, ⟨_, h0⟩ | ⟨gl, cl, cur, rfl, _, hl, _, _, _, htk⟩⟩ := hv
  · cases h0
  replace hl : RowAt w5 gl 48 cur := hl
  obtain ⟨t0, t1, t2, t3⟩ := take4 htk
  clear hk hb B4 htk
  go_wp2_with fail
  refine (nested_any w5).mono ?_
  rintro e w6 ⟨⟨ta, na, ra, rfl, hG1, hc1⟩, hb⟩
  have B6 := B5.trans (hb.mono B5.size)
  replace hN := hN.below hb hN.lt
  replace hp := hp.below hb hp.lt
  replace hl := hl.below hb hl.lt
  have hof := nested_of p w6 (hS.below B6 (Nat.le_refl _)) (SetsEach.Tab.from hT B6 hTG) (Nat.lt_of_lt_of_le hTG B6.size) ta na ra hG1 hc1
  clear hb B5
  go_wp2_with fail
  refine hof.mono ?_
  rintro e w7 ⟨⟨M, S, rfl, hM, iM⟩, hb⟩
  have B7 := B6.trans (hb.mono B6.size)
  replace hN := hN.below hb hN.lt
  replace hp := hp.below hb hp.lt
  replace hl := hl.below hb hl.lt
  clear hof hG1 hc1 hb B6
  have hk := clashF_v (some ⟨M, 0, none⟩) 3 S w7 (by decide) (.inr ⟨M, rfl, hM⟩)
  rw [h_clashes iM] at hk
  replace hk : Calls Tryd.prog 18 #[.pointer (some ⟨M, 0, none⟩)] w7 fun e w' => e = .returned (.tuple #[.agg #[.int .i64 0, .int .i64 0, .int .i64 0, .int .i64 0], .bool false]) ∧ Below w7.heap.size w7 w' := hk
  go_wp2_with fail
  refine hk.mono ?_
  rintro e w8 ⟨rfl, hb⟩
  have B8 := B7.trans (hb.mono B7.size)
  replace hN := hN.below hb hN.lt
  replace hp := hp.below hb hp.lt
  replace hl := hl.below hb hl.lt
  replace hM := hM.below hb hM.lt
  clear hk hb B7
  have hb : Below w8.heap.size w8 (w8.alloc (.cells #[.int .i64 0, .int .i64 0, .int .i64 0, .int .i64 0] 48)) := (Below.refl _ _).alloc (Nat.le_refl _) _
  have B9 := B8.trans (hb.mono B8.size)
  replace hN := hN.below hb hN.lt
  replace hp := hp.below hb hp.lt
  replace hl := hl.below hb hl.lt
  replace hM := hM.below hb hM.lt
  clear hb B8
  go_wp2_with fail
  generalize w8.alloc (.cells #[.int .i64 0, .int .i64 0, .int .i64 0, .int .i64 0] 48) = w9 at *
  go_cut [72] (fun s wx => s = .bool false ∧ Below w.heap.size w wx)
  case first =>
    have hd : Below w9.heap.size w9 w9.drew := drew_below w9 1
    have nP : ∀ W : World, (binOp .neq 48 (.agg #[.int .i64 0, .int .i64 0, .int .i64 1, .int .i64 3]) (.agg #[.int .i64 0, .int .i64 0, .int .i64 1, .int .i64 3])).run Tryd.prog W = .ok (.bool false) W := fun W => by kernel_rfl
    refine wp_region_noPanic ?_
    refine wp_region_held_drew (S := (fun w' => Below w9.heap.size w9 w')) (by kernel_rfl) hd (fun hHeld => ?_)
    refine wpAnyH_ready (rs := [0]) (by kernel_rfl) (by simp) ?_
    refine AllReadyH.cons rfl (fun K hK => ?_) AllReadyH.nil
    go_simp
    have D1 := B9.trans (hd.mono B9.size)
    refine (MatrixAwake.awake_any p _ (hS.below D1 (Nat.le_refl _)) (SetsEach.Tab.from hT D1 hTG) (Nat.lt_of_lt_of_le hTG D1.size)).mono ?_
    rintro e y1 ⟨rfl, hb⟩
    have H1 : Below w9.heap.size w9 y1 := hd.trans hb
    refine hK.out _ _ H1 (fun hHeld1 => ?_)
    clear hK K hb
    refine wpAnyH_take (i := 1) (v := .bool false) rfl (by kernel_rfl) (by kernel_rfl) (by kernel_rfl) (fun _ _ _ h => h) (Or.inl ⟨by rfl, fun w0 hSw => ?_⟩) hHeld1 ?_
    · go_simp
    simp only [List.getElem_toArray, List.getElem_cons_zero, List.getElem_cons_succ, Act.put, List.setIfInBounds_toArray, List.set_cons_zero, List.set_cons_succ]
    refine wpAnyH_take (i := 2) (v := .bool false) rfl (by kernel_rfl) (by kernel_rfl) (by kernel_rfl) (fun _ _ _ h => h) (Or.inl ⟨by rfl, fun w0 hSw => ?_⟩) hHeld1 ?_
    · go_simp
    simp only [List.getElem_toArray, List.getElem_cons_zero, List.getElem_cons_succ, Act.put, List.setIfInBounds_toArray, List.set_cons_zero, List.set_cons_succ]
    refine wpAnyH_take (i := 3) (v := .pointer (some ⟨N, 0, none⟩)) rfl (by kernel_rfl) (by kernel_rfl) (by kernel_rfl) (fun _ _ _ h => h) (Or.inl ⟨by rfl, fun w0 hSw => ?_⟩) hHeld1 ?_
    · go_simp
    simp only [List.getElem_toArray, List.getElem_cons_zero, List.getElem_cons_succ, Act.put, List.setIfInBounds_toArray, List.set_cons_zero, List.set_cons_succ]
    refine wpAnyH_ready (rs := [4]) (by kernel_rfl) (by simp) ?_
    refine AllReadyH.cons rfl (fun K hK => ?_) AllReadyH.nil
    go_simp
    have a0 := at_any N 3 U 0 0 y1 (hN.below H1 hN.lt) (by decide)
    rw [show atI 3 U 0 0 = 1 from (at_B s_good s_left s_right iN).trans (by kernel_rfl)] at a0
    refine a0.mono ?_
    rintro e y2 ⟨rfl, hy⟩
    obtain rfl := hy.symm
    refine hK.out _ _ H1 (fun _ => ?_)
    clear hK K a0
    refine wpAnyH_take (i := 5) (v := .bool false) rfl (by kernel_rfl) (by kernel_rfl) (by kernel_rfl) (fun _ _ _ h => h) (Or.inl ⟨by rfl, fun w0 hSw => ?_⟩) hHeld1 ?_
    · go_simp
    simp only [List.getElem_toArray, List.getElem_cons_zero, List.getElem_cons_succ, Act.put, List.setIfInBounds_toArray, List.set_cons_zero, List.set_cons_succ]
    refine wpAnyH_take (i := 6) (v := .bool false) rfl (by kernel_rfl) (by kernel_rfl) (by kernel_rfl) (fun _ _ _ h => h) (Or.inl ⟨by rfl, fun w0 hSw => ?_⟩) hHeld1 ?_
    · go_simp
    simp only [List.getElem_toArray, List.getElem_cons_zero, List.getElem_cons_succ, Act.put, List.setIfInBounds_toArray, List.set_cons_zero, List.set_cons_succ]
    refine wpAnyH_take (i := 7) (v := .bool false) rfl (by kernel_rfl) (by kernel_rfl) (by kernel_rfl) (fun _ _ _ h => h) (Or.inl ⟨by rfl, fun w0 hSw => ?_⟩) hHeld1 ?_
    · go_simp
    simp only [List.getElem_toArray, List.getElem_cons_zero, List.getElem_cons_succ, Act.put, List.setIfInBounds_toArray, List.set_cons_zero, List.set_cons_succ]
    refine wpAnyH_take (i := 8) (v := .bool true) rfl (by kernel_rfl) (by kernel_rfl) (by kernel_rfl) (fun _ _ _ h => h) (Or.inl ⟨by rfl, fun w0 hSw => ?_⟩) hHeld1 ?_
    · go_simp
    simp only [List.getElem_toArray, List.getElem_cons_zero, List.getElem_cons_succ, Act.put, List.setIfInBounds_toArray, List.set_cons_zero, List.set_cons_succ]
    refine wpAnyH_take (i := 9) (v := .bool false) rfl (by kernel_rfl) (by kernel_rfl) (by kernel_rfl) (fun _ _ _ h => h) (Or.inl ⟨by rfl, fun w0 hSw => ?_⟩) hHeld1 ?_
    · go_simp
    simp only [List.getElem_toArray, List.getElem_cons_zero, List.getElem_cons_succ, Act.put, List.setIfInBounds_toArray, List.set_cons_zero, List.set_cons_succ]
    refine wpAnyH_take (i := 10) (v := .bool false) rfl (by kernel_rfl) (by kernel_rfl) (by kernel_rfl) (fun _ _ _ h => h) (Or.inl ⟨by rfl, fun w0 hSw => ?_⟩) hHeld1 ?_
    · go_simp
    simp only [List.getElem_toArray, List.getElem_cons_zero, List.getElem_cons_succ, Act.put, List.setIfInBounds_toArray, List.set_cons_zero, List.set_cons_succ]
    refine wpAnyH_take (i := 11) (v := .bool false) rfl (by kernel_rfl) (by kernel_rfl) (by kernel_rfl) (fun _ _ _ h => h) (Or.inl ⟨by rfl, fun w0 hSw => ?_⟩) hHeld1 ?_
    · go_simp
    simp only [List.getElem_toArray, List.getElem_cons_zero, List.getElem_cons_succ, Act.put, List.setIfInBounds_toArray, List.set_cons_zero, List.set_cons_succ]
    refine wpAnyH_take (i := 12) (v := .agg #[.int .i64 0, .int .i64 0, .int .i64 1, .int .i64 3]) rfl (by kernel_rfl) (by kernel_rfl) (by kernel_rfl) (fun _ _ _ h => h) (Or.inl ⟨by rfl, fun w0 hSw => ?_⟩) hHeld1 ?_
    · have q0 := (hp.below hSw hp.lt).cell (q := 0) rfl
      have q1 := (hp.below hSw hp.lt).cell (q := 1) rfl
      have q2 := (hp.below hSw hp.lt).cell (q := 2) rfl
      have q3 := (hp.below hSw hp.lt).cell (q := 3) rfl
      go_simp
    simp only [List.getElem_toArray, List.getElem_cons_zero, List.getElem_cons_succ, Act.put, List.setIfInBounds_toArray, List.set_cons_zero, List.set_cons_succ]
    refine wpAnyH_take (i := 13) (v := .agg #[.int .i64 0, .int .i64 0, .int .i64 1, .int .i64 3]) rfl (by kernel_rfl) (by kernel_rfl) (by kernel_rfl) (fun _ _ _ h => h) (Or.inl ⟨by rfl, fun w0 hSw => ?_⟩) hHeld1 ?_
    · go_simp
    simp only [List.getElem_toArray, List.getElem_cons_zero, List.getElem_cons_succ, Act.put, List.setIfInBounds_toArray, List.set_cons_zero, List.set_cons_succ]
    refine wpAnyH_take (i := 14) (v := .bool false) rfl (by kernel_rfl) (by kernel_rfl) (by kernel_rfl) (fun _ _ _ h => h) (Or.inl ⟨by rfl, fun w0 hSw => ?_⟩) hHeld1 ?_
    · go_simp
    simp only [List.getElem_toArray, List.getElem_cons_zero, List.getElem_cons_succ, Act.put, List.setIfInBounds_toArray, List.set_cons_zero, List.set_cons_succ]
    refine wpAnyH_take (i := 15) (v := .bool false) rfl (by kernel_rfl) (by kernel_rfl) (by kernel_rfl) (fun _ _ _ h => h) (Or.inl ⟨by rfl, fun w0 hSw => ?_⟩) hHeld1 ?_
    · go_simp
    simp only [List.getElem_toArray, List.getElem_cons_zero, List.getElem_cons_succ, Act.put, List.setIfInBounds_toArray, List.set_cons_zero, List.set_cons_succ]
    refine wpAnyH_take (i := 16) (v := .bool false) rfl (by kernel_rfl) (by kernel_rfl) (by kernel_rfl) (fun _ _ _ h => h) (Or.inl ⟨by rfl, fun w0 hSw => ?_⟩) hHeld1 ?_
    · go_simp
    simp only [List.getElem_toArray, List.getElem_cons_zero, List.getElem_cons_succ, Act.put, List.setIfInBounds_toArray, List.set_cons_zero, List.set_cons_succ]
    refine wpAnyH_take (i := 17) (v := .slice (some ⟨gl, 0, none⟩) 1 cl) rfl (by kernel_rfl) (by kernel_rfl) (by kernel_rfl) (fun _ _ _ h => h) (Or.inl ⟨by rfl, fun w0 hSw => ?_⟩) hHeld1 ?_
    · go_simp
    simp only [List.getElem_toArray, List.getElem_cons_zero, List.getElem_cons_succ, Act.put, List.setIfInBounds_toArray, List.set_cons_zero, List.set_cons_succ]
    refine wpAnyH_take (i := 18) (v := .int .i64 1) rfl (by kernel_rfl) (by kernel_rfl) (by kernel_rfl) (fun _ _ _ h => h) (Or.inl ⟨by rfl, fun w0 hSw => ?_⟩) hHeld1 ?_
    · go_simp
    simp only [List.getElem_toArray, List.getElem_cons_zero, List.getElem_cons_succ, Act.put, List.setIfInBounds_toArray, List.set_cons_zero, List.set_cons_succ]
    refine wpAnyH_take (i := 19) (v := .bool false) rfl (by kernel_rfl) (by kernel_rfl) (by kernel_rfl) (fun _ _ _ h => h) (Or.inl ⟨by rfl, fun w0 hSw => ?_⟩) hHeld1 ?_
    · go_simp
    simp only [List.getElem_toArray, List.getElem_cons_zero, List.getElem_cons_succ, Act.put, List.setIfInBounds_toArray, List.set_cons_zero, List.set_cons_succ]
    refine wpAnyH_take (i := 20) (v := .bool false) rfl (by kernel_rfl) (by kernel_rfl) (by kernel_rfl) (fun _ _ _ h => h) (Or.inl ⟨by rfl, fun w0 hSw => ?_⟩) hHeld1 ?_
    · go_simp
    simp only [List.getElem_toArray, List.getElem_cons_zero, List.getElem_cons_succ, Act.put, List.setIfInBounds_toArray, List.set_cons_zero, List.set_cons_succ]
    refine wpAnyH_take (i := 21) (v := .bool false) rfl (by kernel_rfl) (by kernel_rfl) (by kernel_rfl) (fun _ _ _ h => h) (Or.inl ⟨by rfl, fun w0 hSw => ?_⟩) hHeld1 ?_
    · go_simp
    simp only [List.getElem_toArray, List.getElem_cons_zero, List.getElem_cons_succ, Act.put, List.setIfInBounds_toArray, List.set_cons_zero, List.set_cons_succ]
    refine wpAnyH_take (i := 22) (v := .slice (some ⟨gl, 0, none⟩) 1 cl) rfl (by kernel_rfl) (by kernel_rfl) (by kernel_rfl) (fun _ _ _ h => h) (Or.inl ⟨by rfl, fun w0 hSw => ?_⟩) hHeld1 ?_
    · go_simp
    simp only [List.getElem_toArray, List.getElem_cons_zero, List.getElem_cons_succ, Act.put, List.setIfInBounds_toArray, List.set_cons_zero, List.set_cons_succ]
    refine wpAnyH_take (i := 23) (v := .pointer (some ⟨gl, 0, none⟩)) rfl (by kernel_rfl) (by kernel_rfl) (by kernel_rfl) (fun _ _ _ h => h) (Or.inl ⟨by rfl, fun w0 hSw => ?_⟩) hHeld1 ?_
    · go_simp
    simp only [List.getElem_toArray, List.getElem_cons_zero, List.getElem_cons_succ, Act.put, List.setIfInBounds_toArray, List.set_cons_zero, List.set_cons_succ]
    refine wpAnyH_take (i := 24) (v := .agg #[.int .i64 0, .int .i64 0, .int .i64 1, .int .i64 3]) rfl (by kernel_rfl) (by kernel_rfl) (by kernel_rfl) (fun _ _ _ h => h) (Or.inl ⟨by rfl, fun w0 hSw => ?_⟩) hHeld1 ?_
    · have q0 := (hl.below hSw hl.lt).cell (q := 0) t0
      have q1 := (hl.below hSw hl.lt).cell (q := 1) t1
      have q2 := (hl.below hSw hl.lt).cell (q := 2) t2
      have q3 := (hl.below hSw hl.lt).cell (q := 3) t3
      go_simp
    simp only [List.getElem_toArray, List.getElem_cons_zero, List.getElem_cons_succ, Act.put, List.setIfInBounds_toArray, List.set_cons_zero, List.set_cons_succ]
    refine wpAnyH_take (i := 25) (v := .agg #[.int .i64 0, .int .i64 0, .int .i64 1, .int .i64 3]) rfl (by kernel_rfl) (by kernel_rfl) (by kernel_rfl) (fun _ _ _ h => h) (Or.inl ⟨by rfl, fun w0 hSw => ?_⟩) hHeld1 ?_
    · have q0 := (hp.below hSw hp.lt).cell (q := 0) rfl
      have q1 := (hp.below hSw hp.lt).cell (q := 1) rfl
      have q2 := (hp.below hSw hp.lt).cell (q := 2) rfl
      have q3 := (hp.below hSw hp.lt).cell (q := 3) rfl
      go_simp
    simp only [List.getElem_toArray, List.getElem_cons_zero, List.getElem_cons_succ, Act.put, List.setIfInBounds_toArray, List.set_cons_zero, List.set_cons_succ]
    refine wpAnyH_take (i := 26) (v := .bool false) rfl (by kernel_rfl) (by kernel_rfl) (by kernel_rfl) (fun _ _ _ h => h) (Or.inl ⟨by rfl, fun w0 hSw => ?_⟩) hHeld1 ?_
    · go_simp
    simp only [List.getElem_toArray, List.getElem_cons_zero, List.getElem_cons_succ, Act.put, List.setIfInBounds_toArray, List.set_cons_zero, List.set_cons_succ]
    refine wpAnyH_take (i := 27) (v := .bool false) rfl (by kernel_rfl) (by kernel_rfl) (by kernel_rfl) (fun _ _ _ h => h) (Or.inl ⟨by rfl, fun w0 hSw => ?_⟩) hHeld1 ?_
    · go_simp
    simp only [List.getElem_toArray, List.getElem_cons_zero, List.getElem_cons_succ, Act.put, List.setIfInBounds_toArray, List.set_cons_zero, List.set_cons_succ]
    refine wpAnyH_take (i := 28) (v := .bool false) rfl (by kernel_rfl) (by kernel_rfl) (by kernel_rfl) (fun _ _ _ h => h) (Or.inl ⟨by rfl, fun w0 hSw => ?_⟩) hHeld1 ?_
    · go_simp
    simp only [List.getElem_toArray, List.getElem_cons_zero, List.getElem_cons_succ, Act.put, List.setIfInBounds_toArray, List.set_cons_zero, List.set_cons_succ]
    refine wpAnyH_take (i := 29) (v := .bool false) rfl (by kernel_rfl) (by kernel_rfl) (by kernel_rfl) (fun _ _ _ h => h) (Or.inl ⟨by rfl, fun w0 hSw => ?_⟩) hHeld1 ?_
    · go_simp
    simp only [List.getElem_toArray, List.getElem_cons_zero, List.getElem_cons_succ, Act.put, List.setIfInBounds_toArray, List.set_cons_zero, List.set_cons_succ]
    refine wpAnyH_take (i := 30) (v := .bool false) rfl (by kernel_rfl) (by kernel_rfl) (by kernel_rfl) (fun _ _ _ h => h) (Or.inl ⟨by rfl, fun w0 hSw => ?_⟩) hHeld1 ?_
    · go_simp
    simp only [List.getElem_toArray, List.getElem_cons_zero, List.getElem_cons_succ, Act.put, List.setIfInBounds_toArray, List.set_cons_zero, List.set_cons_succ]
    refine wpAnyH_take (i := 31) (v := .bool false) rfl (by kernel_rfl) (by kernel_rfl) (by kernel_rfl) (fun _ _ _ h => h) (Or.inl ⟨by rfl, fun w0 hSw => ?_⟩) hHeld1 ?_
    · go_simp
    simp only [List.getElem_toArray, List.getElem_cons_zero, List.getElem_cons_succ, Act.put, List.setIfInBounds_toArray, List.set_cons_zero, List.set_cons_succ]
    refine wpAnyH_take (i := 32) (v := .pointer (some ⟨M, 0, none⟩)) rfl (by kernel_rfl) (by kernel_rfl) (by kernel_rfl) (fun _ _ _ h => h) (Or.inl ⟨by rfl, fun w0 hSw => ?_⟩) hHeld1 ?_
    · go_simp
    simp only [List.getElem_toArray, List.getElem_cons_zero, List.getElem_cons_succ, Act.put, List.setIfInBounds_toArray, List.set_cons_zero, List.set_cons_succ]
    have hpack : ∀ W, MatAt W M 3 S → Calls Tryd.prog 23 #[.pointer (some ⟨M, 0, none⟩)] W fun e w' => (e = .returned (.slice (some ⟨W.heap.size, 0, none⟩) 3 3) ∧ RowAt w' W.heap.size 5 (([9, 31, 0] : List Int).map (Value.int .u8)).toArray) ∧ Below W.heap.size W w' := fun W h => by
      have h2 := pack_v (some ⟨M, 0, none⟩) 3 S W (by decide) (.inr ⟨M, rfl, h⟩)
      rw [show (3 * 3 + 3) / 4 = 3 from rfl, show 3 * 3 = 9 from rfl, h_pack iM] at h2
      exact h2
    have HP : Hid (_) := hpack
    clear hpack
    refine wpAnyH_ready (rs := [33, 34]) (by kernel_rfl) (by simp) ?_
    refine AllReadyH.cons rfl (fun K hK => ?_) (AllReadyH.cons rfl (fun K hK => ?_) AllReadyH.nil)
    · skip
      go_simp
      refine (HP.out _ (hM.below H1 hM.lt)).mono ?_
      rintro e y3 ⟨⟨rfl, hpk⟩, hb⟩
      have H3 : Below w9.heap.size w9 y3 := H1.trans (hb.mono H1.size)
      refine hK.out _ _ H3 (fun _ => ?_)
      clear hK K hb
      refine wpAnyH_ready (rs := [34]) (by kernel_rfl) (by simp) ?_
      refine AllReadyH.cons rfl (fun K hK => ?_) AllReadyH.nil
      go_simp
      have H4 : Below w9.heap.size w9 (y3.alloc (.cells #[.int .u8 9, .int .u8 31, .int .u8 0] 5)) := H3.alloc H3.size _
      have hlt : RowAt (y3.alloc (.cells #[.int .u8 9, .int .u8 31, .int .u8 0] 5)) y3.heap.size 5 (([9, 31, 0] : List Int).map (Value.int .u8)).toArray := heap_new _ _
      replace hpk := hpk.alloc (.cells #[.int .u8 9, .int .u8 31, .int .u8 0] 5)
      refine hK.out _ _ H4 (fun _ => ?_)
      clear hK K
      generalize y3.alloc (.cells #[.int .u8 9, .int .u8 31, .int .u8 0] 5) = y4 at *
      generalize y3.heap.size = bq at *
      generalize y1.heap.size = bk at *
      have r1 : BRow8 y4 (some ⟨bk, 0, none⟩) [9, 31, 0] := bytes_row hpk
      have r2 : BRow8 y4 (some ⟨bq, 0, none⟩) [9, 31, 0] := bytes_row hlt
      have hq := bytes_any (some ⟨bk, 0, none⟩) (some ⟨bq, 0, none⟩) 3 3 [9, 31, 0] [9, 31, 0] y4 r1 r2 (by decide) (by decide)
      rw [eqI_self] at hq
      clear r1 r2 hpk hlt
      refine wpAnyH_ready (rs := [35]) (by kernel_rfl) (by simp) ?_
      refine AllReadyH.cons rfl (fun K hK => ?_) AllReadyH.nil
      go_simp
      refine hq.mono ?_
      rintro e y5 ⟨rfl, qq, hww⟩
      have H5 : Below w9.heap.size w9 y5 := by rw [hww]; exact H4.trans ((drew_below y4 qq).mono H4.size)
      refine hK.out _ _ H5 (fun hHeld5 => ?_)
      clear hK K hww hq
      refine wpAnyH_take (i := 36) (v := .bool false) rfl (by kernel_rfl) (by kernel_rfl) (by kernel_rfl) (fun _ _ _ h => h) (Or.inl ⟨by rfl, fun w0 hSw => ?_⟩) hHeld5 ?_
      · go_simp
      simp only [List.getElem_toArray, List.getElem_cons_zero, List.getElem_cons_succ, Act.put, List.setIfInBounds_toArray, List.set_cons_zero, List.set_cons_succ]
      refine wpAnyH_take (i := 37) (v := .bool false) rfl (by kernel_rfl) (by kernel_rfl) (by kernel_rfl) (fun _ _ _ h => h) (Or.inl ⟨by rfl, fun w0 hSw => ?_⟩) hHeld5 ?_
      · go_simp
      simp only [List.getElem_toArray, List.getElem_cons_zero, List.getElem_cons_succ, Act.put, List.setIfInBounds_toArray, List.set_cons_zero, List.set_cons_succ]
      refine wpAnyH_done (by kernel_rfl) (NoPanic.normal ?_) _
      go_wp2
      go_meet
      exact ⟨rfl, B9.trans (H5.mono B9.size)⟩
    · skip
      go_simp
      have Ha : Below w9.heap.size w9 (y1.alloc (.cells #[.int .u8 9, .int .u8 31, .int .u8 0] 5)) := H1.alloc H1.size _
      have hlt : RowAt (y1.alloc (.cells #[.int .u8 9, .int .u8 31, .int .u8 0] 5)) y1.heap.size 5 (([9, 31, 0] : List Int).map (Value.int .u8)).toArray := heap_new _ _
      refine hK.out _ _ Ha (fun _ => ?_)
      clear hK K
      refine wpAnyH_ready (rs := [33]) (by kernel_rfl) (by simp) ?_
      refine AllReadyH.cons rfl (fun K hK => ?_) AllReadyH.nil
      go_simp
      have hpc := HP.out _ (hM.below Ha hM.lt)
      obtain ⟨Wa, hWa⟩ : ∃ Wa, Wa = y1.alloc (.cells #[.int .u8 9, .int .u8 31, .int .u8 0] 5) := ⟨_, rfl⟩
      rw [← hWa] at hpc Ha hlt ⊢
      clear hWa
      refine hpc.mono ?_
      rintro e y4 ⟨⟨rfl, hpk⟩, hb⟩
      have H4 : Below w9.heap.size w9 y4 := Ha.trans (hb.mono Ha.size)
      replace hlt := hlt.below hb hlt.lt
      refine hK.out _ _ H4 (fun _ => ?_)
      clear hK K hb hpc
      generalize y1.heap.size = bq at *
      generalize Wa.heap.size = bk at *
      have r1 : BRow8 y4 (some ⟨bk, 0, none⟩) [9, 31, 0] := bytes_row hpk
      have r2 : BRow8 y4 (some ⟨bq, 0, none⟩) [9, 31, 0] := bytes_row hlt
      have hq := bytes_any (some ⟨bk, 0, none⟩) (some ⟨bq, 0, none⟩) 3 3 [9, 31, 0] [9, 31, 0] y4 r1 r2 (by decide) (by decide)
      rw [eqI_self] at hq
      clear r1 r2 hpk hlt
      refine wpAnyH_ready (rs := [35]) (by kernel_rfl) (by simp) ?_
      refine AllReadyH.cons rfl (fun K hK => ?_) AllReadyH.nil
      go_simp
      refine hq.mono ?_
      rintro e y5 ⟨rfl, qq, hww⟩
      have H5 : Below w9.heap.size w9 y5 := by rw [hww]; exact H4.trans ((drew_below y4 qq).mono H4.size)
      refine hK.out _ _ H5 (fun hHeld5 => ?_)
      clear hK K hww hq
      refine wpAnyH_take (i := 36) (v := .bool false) rfl (by kernel_rfl) (by kernel_rfl) (by kernel_rfl) (fun _ _ _ h => h) (Or.inl ⟨by rfl, fun w0 hSw => ?_⟩) hHeld5 ?_
      · go_simp
      simp only [List.getElem_toArray, List.getElem_cons_zero, List.getElem_cons_succ, Act.put, List.setIfInBounds_toArray, List.set_cons_zero, List.set_cons_succ]
      refine wpAnyH_take (i := 37) (v := .bool false) rfl (by kernel_rfl) (by kernel_rfl) (by kernel_rfl) (fun _ _ _ h => h) (Or.inl ⟨by rfl, fun w0 hSw => ?_⟩) hHeld5 ?_
      · go_simp
      simp only [List.getElem_toArray, List.getElem_cons_zero, List.getElem_cons_succ, Act.put, List.setIfInBounds_toArray, List.set_cons_zero, List.set_cons_succ]
      refine wpAnyH_done (by kernel_rfl) (NoPanic.normal ?_) _
      go_wp2
      go_meet
      exact ⟨rfl, B9.trans (H5.mono B9.size)⟩
  case rest =>
    clear hN hp hl hM iN iM t0 t1 t2 t3 B9
    obtain ⟨rfl, hcut⟩ := hcut
    go_wp2_with fail
    refine (sums_any wc).mono ?_
    rintro e v1 ⟨⟨ta, na, ra, rfl, hG1, hc1⟩, hb⟩
    have Bv1 := hcut.trans (hb.mono hcut.size)
    clear hb hcut
    have hb : Below v1.heap.size v1 (v1.alloc (.cells #[.int .i64 (0)] 3)) := (Below.refl _ _).alloc (Nat.le_refl _) _
    have hI : IRow (v1.alloc (.cells #[.int .i64 (0)] 3)) (some ⟨v1.heap.size, 0, none⟩) [(0 : Int)] := one_int (by simp [go_sem])
    have Bq := Bv1.trans (hb.mono Bv1.size)
    have hk := reason_any ta na ra (some ⟨v1.heap.size, 0, none⟩) 2 1 2 1 sG _ _ _ _ _ (some [0]) p _ (hG1.below hb (Nat.le_refl _)) (caps_below hG1.2.2 hc1 hb (Nat.le_refl _)) s_ok (by decide) (by decide) (hE.below Bq (Nat.le_refl _)) (SetsEach.Tab.from hT Bq hTG) (Nat.lt_of_lt_of_le hTG Bq.size) hI (by decide) why1
    clear hG1 hc1 hI hb
    go_wp2_with fail
    generalize v1.alloc (.cells #[.int .i64 (0)] 3) = Wq at *
    refine hk.mono ?_
    rintro e v2 ⟨rfl, hb⟩
    have Bv2 := Bq.trans (hb.mono Bq.size)
    clear hb Bq hk Bv1
    go_wp2_with fail
    refine (sums_any v2).mono ?_
    rintro e v3 ⟨⟨ta, na, ra, rfl, hG1, hc1⟩, hb⟩
    have Bv3 := Bv2.trans (hb.mono Bv2.size)
    clear hb Bv2
    have hb : Below v3.heap.size v3 (v3.alloc (.cells #[.int .i64 (0)] 3)) := (Below.refl _ _).alloc (Nat.le_refl _) _
    have hI : IRow (v3.alloc (.cells #[.int .i64 (0)] 3)) (some ⟨v3.heap.size, 0, none⟩) [(0 : Int)] := one_int (by simp [go_sem])
    have Bq := Bv3.trans (hb.mono Bv3.size)
    have hk := reason_any ta na ra (some ⟨v3.heap.size, 0, none⟩) 2 1 2 1 sG _ _ _ _ _ (some [0]) p _ (hG1.below hb (Nat.le_refl _)) (caps_below hG1.2.2 hc1 hb (Nat.le_refl _)) s_ok (by decide) (by decide) (hE.below Bq (Nat.le_refl _)) (SetsEach.Tab.from hT Bq hTG) (Nat.lt_of_lt_of_le hTG Bq.size) hI (by decide) why2
    clear hG1 hc1 hI hb
    go_wp2_with fail
    generalize v3.alloc (.cells #[.int .i64 (0)] 3) = Wq at *
    refine hk.mono ?_
    rintro e v4 ⟨rfl, hb⟩
    have Bv4 := Bq.trans (hb.mono Bq.size)
    clear hb Bq hk Bv3
    go_wp2_with fail
    refine (sums_any v4).mono ?_
    rintro e v5 ⟨⟨ta, na, ra, rfl, hG1, hc1⟩, hb⟩
    have Bv5 := Bv4.trans (hb.mono Bv4.size)
    clear hb Bv4
    have hb : Below v5.heap.size v5 (v5.alloc (.cells #[.int .i64 (1)] 3)) := (Below.refl _ _).alloc (Nat.le_refl _) _
    have hI : IRow (v5.alloc (.cells #[.int .i64 (1)] 3)) (some ⟨v5.heap.size, 0, none⟩) [(1 : Int)] := one_int (by simp [go_sem])
    have Bq := Bv5.trans (hb.mono Bv5.size)
    have hk := reason_any ta na ra (some ⟨v5.heap.size, 0, none⟩) 2 1 2 1 sG _ _ _ _ _ (some [1]) p _ (hG1.below hb (Nat.le_refl _)) (caps_below hG1.2.2 hc1 hb (Nat.le_refl _)) s_ok (by decide) (by decide) (hE.below Bq (Nat.le_refl _)) (SetsEach.Tab.from hT Bq hTG) (Nat.lt_of_lt_of_le hTG Bq.size) hI (by decide) why3
    clear hG1 hc1 hI hb
    go_wp2_with fail
    generalize v5.alloc (.cells #[.int .i64 (1)] 3) = Wq at *
    refine hk.mono ?_
    rintro e v6 ⟨rfl, hb⟩
    have Bv6 := Bq.trans (hb.mono Bq.size)
    clear hb Bq hk Bv5
    go_wp2_with fail
    refine (nested_any v6).mono ?_
    rintro e v7 ⟨⟨ta, na, ra, rfl, hG1, hc1⟩, hb⟩
    have Bv7 := Bv6.trans (hb.mono Bv6.size)
    clear hb Bv6
    have Bq := Bv7
    have hk := reason_any ta na ra none 2 1 2 0 hG _ _ _ _ _ none p _ hG1 hc1 h_ok (by decide) (by decide) (hE.below Bq (Nat.le_refl _)) (SetsEach.Tab.from hT Bq hTG) (Nat.lt_of_lt_of_le hTG Bq.size) (fun i x hx => by cases hx) (by decide) why4
    clear hG1 hc1
    go_wp2_with fail
    refine hk.mono ?_
    rintro e v8 ⟨rfl, hb⟩
    have Bv8 := Bq.trans (hb.mono Bq.size)
    clear hb Bq hk Bv7
    go_wp2_with fail
    refine (nested_any v8).mono ?_
    rintro e v9 ⟨⟨ta, na, ra, rfl, hG1, hc1⟩, hb⟩
    have Bv9 := Bv8.trans (hb.mono Bv8.size)
    clear hb Bv8
    have hk := none_any ta na ra 2 1 2 hG _ _ _ _ _ _ _ p _ hG1 hc1 h_ok (by decide) (by decide) (hE.below Bv9 (Nat.le_refl _)) (SetsEach.Tab.from hT Bv9 hTG) (Nat.lt_of_lt_of_le hTG Bv9.size) (by decide) why5
    clear hG1 hc1
    go_wp2_with fail
    refine hk.mono ?_
    rintro e v10 ⟨rfl, hb⟩
    have Bv10 := Bv9.trans (hb.mono Bv9.size)
    clear hb hk Bv9
    go_wp2_with fail
    refine (nested_any v10).mono ?_
    rintro e v11 ⟨⟨ta, na, ra, rfl, hG1, hc1⟩, hb⟩
    have Bv11 := Bv10.trans (hb.mono Bv10.size)
    clear hb Bv10
    have hk := none_any ta na ra 2 1 2 hG _ _ _ _ _ _ _ p _ hG1 hc1 h_ok (by decide) (by decide) (hE.below Bv11 (Nat.le_refl _)) (SetsEach.Tab.from hT Bv11 hTG) (Nat.lt_of_lt_of_le hTG Bv11.size) (by decide) why6
    clear hG1 hc1
    go_wp2_with fail
    refine hk.mono ?_
    rintro e v12 ⟨rfl, hb⟩
    have Bv12 := Bv11.trans (hb.mono Bv11.size)
    clear hb hk Bv11
    go_wp2_with fail
    refine (nested_any v12).mono ?_
    rintro e v13 ⟨⟨ta, na, ra, rfl, hG1, hc1⟩, hb⟩
    have Bv13 := Bv12.trans (hb.mono Bv12.size)
    clear hb Bv12
    have hk := none_any ta na ra 2 1 2 hG _ _ _ _ _ _ _ p _ hG1 hc1 h_ok (by decide) (by decide) (hE.below Bv13 (Nat.le_refl _)) (SetsEach.Tab.from hT Bv13 hTG) (Nat.lt_of_lt_of_le hTG Bv13.size) (by decide) why7
    clear hG1 hc1
    go_wp2_with fail
    refine hk.mono ?_
    rintro e v14 ⟨rfl, hb⟩
    have Bv14 := Bv13.trans (hb.mono Bv13.size)
    clear hb hk Bv13
    go_wp2_with fail
    refine (nested_any v14).mono ?_
    rintro e v15 ⟨⟨ta, na, ra, rfl, hG1, hc1⟩, hb⟩
    have Bv15 := Bv14.trans (hb.mono Bv14.size)
    clear hb Bv14
    have hk := none_any ta na ra 2 1 2 hG _ _ _ _ _ _ _ p _ hG1 hc1 h_ok (by decide) (by decide) (hE.below Bv15 (Nat.le_refl _)) (SetsEach.Tab.from hT Bv15 hTG) (Nat.lt_of_lt_of_le hTG Bv15.size) (by decide) why8
    clear hG1 hc1
    go_wp2_with fail
    refine hk.mono ?_
    rintro e v16 ⟨rfl, hb⟩
    have Bv16 := Bv15.trans (hb.mono Bv15.size)
    clear hb hk Bv15
    have hk := clashF_v none 0 (fun _ _ => 0) v16 (by decide) (.inl ⟨rfl, rfl⟩)
    replace hk : Calls Tryd.prog 18 #[.pointer none] v16 fun e w' => e = .returned (.tuple #[.agg #[.int .i64 0, .int .i64 0, .int .i64 0, .int .i64 0], .bool false]) ∧ Below v16.heap.size v16 w' := hk
    go_wp2_with fail
    refine hk.mono ?_
    rintro e v17 ⟨rfl, hb⟩
    have Bv17 := Bv16.trans (hb.mono Bv16.size)
    clear hb hk Bv16
    have hb : Below v17.heap.size v17 (v17.alloc (.cells #[.int .i64 0, .int .i64 0, .int .i64 0, .int .i64 0] 48)) := (Below.refl _ _).alloc (Nat.le_refl _) _
    have Bn := Bv17.trans (hb.mono Bv17.size)
    clear hb Bv17
    obtain ⟨Wn, hWn⟩ : ∃ Wn, Wn = v17.alloc (.cells #[.int .i64 0, .int .i64 0, .int .i64 0, .int .i64 0] 48) := ⟨_, rfl⟩
    have k0 := terms_nil Wn
    have k1 := at_v none 0 (fun _ _ => 0) 0 0 Wn (.inl ⟨rfl, rfl⟩) (by decide)
    rw [at_zero] at k1
    have k2 := holds_v none 0 (fun _ _ => 0) 0 0 0 Wn (.inl ⟨rfl, rfl⟩) (by decide)
    rw [holds_zero] at k2
    have k3 := clashesF_v none 0 (fun _ _ => 0) Wn (by decide) (.inl ⟨rfl, rfl⟩)
    rw [hWn] at k0 k1 k2 k3
    go_wp2_with fail
    refine k0.mono ?_
    rintro e w5 ⟨rfl, hw5⟩
    obtain rfl := hw5.symm
    clear k0
    go_wp2_with fail
    refine k1.mono ?_
    rintro e w5 ⟨rfl, hw5⟩
    obtain rfl := hw5.symm
    clear k1
    go_wp2_with fail
    refine k2.mono ?_
    rintro e w5 ⟨rfl, hw5⟩
    obtain rfl := hw5.symm
    clear k2
    go_wp2_with fail
    refine k3.mono ?_
    rintro e z1 ⟨⟨v, rfl, hv⟩, hb⟩
    rw [← hWn] at hb Bn
    have Bz := Bn.trans (hb.mono Bn.size)
    obtain ⟨av, cv, rfl⟩ := len_nil hv
    clear k3 hv hb Bn hWn
    have k4 := pack_v none 0 (fun _ _ => 0) z1 (by decide) (.inl ⟨rfl, rfl⟩)
    replace k4 : Calls Tryd.prog 23 #[.pointer none] z1 fun e w' => e = .returned (.slice (some ⟨z1.heap.size, 0, none⟩) 0 0) ∧ Below z1.heap.size z1 w' := k4.mono (fun e w' h => ⟨h.1.1, h.2⟩)
    go_wp2_with fail
    refine k4.mono ?_
    rintro e z2 ⟨rfl, hb⟩
    have Bf := Bz.trans (hb.mono Bz.size)
    clear k4 hb Bz
    go_wp2
    go_ret
    exact ⟨rfl, Bf⟩

end Go.Proofs.YtpdkjblmpgmcjaaDoor.MatrixKnown
