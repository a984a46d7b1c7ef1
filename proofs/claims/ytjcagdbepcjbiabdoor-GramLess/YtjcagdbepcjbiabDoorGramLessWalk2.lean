/-
  The walk of GramLess at a grammar that has no list of rules.
-/
import Derived.Test.YtjcagdbepcjbiabDoorGramLessWalk
namespace Go.Proofs.YtjcagdbepcjbiabDoor.GramLessW
open Go.RowKit Go.Proofs.YtjcagdbepcjbiabDoor.GramMath Go.Proofs.YtjcagdbepcjbiabDoor.GramRow Go.Proofs.YtjcagdbepcjbiabDoor.GramOne Go.Proofs.YtjcagdbepcjbiabDoor.GramCheck Go.Proofs.YtjcagdbepcjbiabDoor.GramAwake Go.Proofs.YtjcagdbepcjbiabDoor.GramErrs Go.Proofs.YtjcagdbepcjbiabDoor.GramLess
set_option linter.unusedVariables false

set_option maxRecDepth 100000 in
set_option maxHeartbeats 4000000 in
theorem walk_none (ta na qa : Option Addr) (tc nc qc : Nat) (ts ns : List ByteArray) (ax : Int) (at' : Int) (bad : R) (p : Nat → Addr) (w : World) (hG : GRow w ta na none ⟨ts, ns, ax, []⟩) (ho : okG ⟨ts, ns, ax, []⟩) (htc : ts.length ≤ tc) (hnc : ns.length ≤ nc) (hat : I64 at') (hbad : IRow w qa bad.right) (hbo : okR bad) (hE : Errs w p) (hT : ErrType w) :
    Calls Tryd.prog 3 #[.agg #[.slice ta ts.length tc, .slice na ns.length nc, .int .i64 ax, .slice none 0 0], .int .i64 at', .agg #[.int .i64 bad.left, .slice qa bad.right.length qc]] w fun e w' => e = .returned (.bool true) ∧ Below w.heap.size w w' := by
  have hneq := neq_nil
  have hS := hE.sents
  have hB0 : Below w.heap.size w ((w.alloc (.cells #[.slice ta ts.length tc, .slice na ns.length nc, .int .i64 ax, .slice none 0 0] 25)).alloc (.cells #[.int .i64 bad.left, .slice qa bad.right.length qc] 28)) := ((Below.refl _ _).alloc (Nat.le_refl _) _).alloc (by simp) _
  have hsz : ((w.alloc (.cells #[.slice ta ts.length tc, .slice na ns.length nc, .int .i64 ax, .slice none 0 0] 25)).alloc (.cells #[.int .i64 bad.left, .slice qa bad.right.length qc] 28)).heap.size = w.heap.size + 2 := by simp
  have b0 : ((w.alloc (.cells #[.slice ta ts.length tc, .slice na ns.length nc, .int .i64 ax, .slice none 0 0] 25)).alloc (.cells #[.int .i64 bad.left, .slice qa bad.right.length qc] 28)).cell? ⟨w.heap.size, 0, none⟩ = some (.slice ta ts.length tc) := by simp [go_sem]
  have b1 : ((w.alloc (.cells #[.slice ta ts.length tc, .slice na ns.length nc, .int .i64 ax, .slice none 0 0] 25)).alloc (.cells #[.int .i64 bad.left, .slice qa bad.right.length qc] 28)).cell? ⟨w.heap.size, 1, none⟩ = some (.slice na ns.length nc) := by simp [go_sem]
  have b2 : ((w.alloc (.cells #[.slice ta ts.length tc, .slice na ns.length nc, .int .i64 ax, .slice none 0 0] 25)).alloc (.cells #[.int .i64 bad.left, .slice qa bad.right.length qc] 28)).cell? ⟨w.heap.size, 2, none⟩ = some (.int .i64 ax) := by simp [go_sem]
  have b3 : ((w.alloc (.cells #[.slice ta ts.length tc, .slice na ns.length nc, .int .i64 ax, .slice none 0 0] 25)).alloc (.cells #[.int .i64 bad.left, .slice qa bad.right.length qc] 28)).cell? ⟨w.heap.size, 3, none⟩ = some (.slice none 0 0) := by simp [go_sem]
  have b4 : ((w.alloc (.cells #[.slice ta ts.length tc, .slice na ns.length nc, .int .i64 ax, .slice none 0 0] 25)).alloc (.cells #[.int .i64 bad.left, .slice qa bad.right.length qc] 28)).cell? ⟨w.heap.size + 1, 0, none⟩ = some (.int .i64 bad.left) := by simp [go_sem]
  have b5 : ((w.alloc (.cells #[.slice ta ts.length tc, .slice na ns.length nc, .int .i64 ax, .slice none 0 0] 25)).alloc (.cells #[.int .i64 bad.left, .slice qa bad.right.length qc] 28)).cell? ⟨w.heap.size + 1, 1, none⟩ = some (.slice qa bad.right.length qc) := by simp [go_sem]
  have hck : Calls Tryd.prog 4 #[.agg #[.slice ta ts.length tc, .slice na ns.length nc, .int .i64 ax, .slice none 0 0]] ((w.alloc (.cells #[.slice ta ts.length tc, .slice na ns.length nc, .int .i64 ax, .slice none 0 0] 25)).alloc (.cells #[.int .i64 bad.left, .slice qa bad.right.length qc] 28)) fun e w' => (∃ v, e = .returned v ∧ CkV ((w.alloc (.cells #[.slice ta ts.length tc, .slice na ns.length nc, .int .i64 ax, .slice none 0 0] 25)).alloc (.cells #[.int .i64 bad.left, .slice qa bad.right.length qc] 28)).heap.size p (checkG ⟨ts, ns, ax, []⟩) w' v) ∧ Below ((w.alloc (.cells #[.slice ta ts.length tc, .slice na ns.length nc, .int .i64 ax, .slice none 0 0] 25)).alloc (.cells #[.int .i64 bad.left, .slice qa bad.right.length qc] 28)).heap.size ((w.alloc (.cells #[.slice ta ts.length tc, .slice na ns.length nc, .int .i64 ax, .slice none 0 0] 25)).alloc (.cells #[.int .i64 bad.left, .slice qa bad.right.length qc] 28)) w' := check_any ta na none tc nc 0 ⟨ts, ns, ax, []⟩ p _ (hG.below hB0 (Nat.le_refl _)) ho htc hnc (hS.below hB0 (Nat.le_refl _))
  by_cases hz : (checkG ⟨ts, ns, ax, []⟩).1 = 0
  · have hgd := good_of hz
    rw [check_zero hz] at hck
    have htm : at'.tmod 1 = 0 := Int.tmod_one at'
    go_enter Tryd.func3, Tryd.ntmps3
    go_wp2_with fail
    generalize (w.alloc (.cells #[.slice ta ts.length tc, .slice na ns.length nc, .int .i64 ax, .slice none 0 0] 25)).alloc (.cells #[.int .i64 bad.left, .slice qa bad.right.length qc] 28) = W0 at *
    refine hck.mono ?_
    rintro e w1 ⟨⟨v, rfl, hv⟩, hb1⟩
    obtain rfl : v = .nilIface := hv
    have hBw1 : Below w.heap.size w w1 := hB0.trans (hb1.mono (by omega))
    rw [hsz] at hb1
    go_wp2_with fail
    refine (awake_any p _ (hS.below hBw1 (Nat.le_refl _))).mono ?_
    rintro e wc ⟨rfl, hb2⟩
    have hb02 : Below (w.heap.size + 2) W0 wc := hb1.trans (hb2.mono (by have := hb1.size; omega))
    have hBwc := hBw1.trans (hb2.mono hBw1.size)
    have hs2 : w.heap.size + 2 ≤ wc.heap.size := by have := hb02.size; omega
    have h0 := (hb02.cell (p := ⟨w.heap.size, 0, none⟩) (by simp)).trans b0
    have h1 := (hb02.cell (p := ⟨w.heap.size, 1, none⟩) (by simp)).trans b1
    have h2 := (hb02.cell (p := ⟨w.heap.size, 2, none⟩) (by simp)).trans b2
    have h3 := (hb02.cell (p := ⟨w.heap.size, 3, none⟩) (by simp)).trans b3
    have h4 := (hb02.cell (p := ⟨w.heap.size + 1, 0, none⟩) (by simp)).trans b4
    have h5 := (hb02.cell (p := ⟨w.heap.size + 1, 1, none⟩) (by simp)).trans b5
    have hHc : w.heap.size < wc.heap.size := by omega
    have hHc1 : w.heap.size + 1 < wc.heap.size := by omega
    clear hck b0 b1 b2 b3 b4 b5 hb1 hb2 hBw1 hB0 hb02
    go_upto_region 14 with fail
    generalize hL : wc.alloc (.cells #[.slice ta ts.length tc, .slice na ns.length nc, .int .i64 ax, .slice none 0 0] 25) = W4
    have hb4 : Below wc.heap.size wc W4 := by rw [← hL]; exact (Below.refl _ _).alloc (Nat.le_refl _) _
    have hs4h : Hid (W4.heap.size = wc.heap.size + 1) := by show _ = _; rw [← hL]; simp
    have hs4 : wc.heap.size < W4.heap.size := by have := hs4h.out; omega
    have d0 : W4.cell? ⟨wc.heap.size, 0, none⟩ = some (.slice ta ts.length tc) := by rw [← hL]; simp
    have d1 : W4.cell? ⟨wc.heap.size, 1, none⟩ = some (.slice na ns.length nc) := by rw [← hL]; simp
    have d2 : W4.cell? ⟨wc.heap.size, 2, none⟩ = some (.int .i64 ax) := by rw [← hL]; simp
    have d3 : W4.cell? ⟨wc.heap.size, 3, none⟩ = some (.slice none 0 0) := by rw [← hL]; simp
    have d4 : W4.frozen? ⟨wc.heap.size, 3, none⟩ = false := by rw [← hL]; simp
    clear hL
    go_cut [] (fun wx => ∃ a5 c5 w9, wx = w9.setCell ⟨wc.heap.size, 3, none⟩ (.slice a5 1 c5) ∧ w9.ownsRow W4.heap.size 28 2 (.slice a5 1 c5) 1 (cellsQ ([(⟨bad, qa, qc⟩ : Q)])) ∧ Below W4.heap.size W4 w9)
    case first =>
      have e3 := (hb4.cell (p := ⟨w.heap.size, 3, none⟩) hHc).trans h3
      have e4 := (hb4.cell (p := ⟨w.heap.size + 1, 0, none⟩) hHc1).trans h4
      have e5 := (hb4.cell (p := ⟨w.heap.size + 1, 1, none⟩) hHc1).trans h5
      have hBd : Below W4.heap.size W4 W4.drew := ⟨rfl, rfl, rfl, Nat.le_refl _, fun _ _ => rfl⟩
      have hZ : ∀ (W : World), Below W4.heap.size W4 W → (W.alloc (.cells #[] 28)).ownsRow W4.heap.size 28 2 (.slice (some ⟨W.heap.size, 0, none⟩) 0 0) 0 (cellsQ []) := fun W hW => World.ownsRow_lit W #[] 0 hW.size (by unfold maxLen; omega) rfl
      have hone : Hid (∀ (W : World) (b : Nat), W.heap[b]? = some (.cells #[.int .i64 bad.left, .slice qa bad.right.length qc] 28 (0, 0)) → ∀ ad', some (⟨b, 0, none⟩ : Addr) = some ad' → ∀ (j : Nat) u, (cellsQ [(⟨bad, qa, qc⟩ : Q)])[j]? = some u → W.cell? (ad'.add j) = some u) := fun W b hW ad' had j u hj => by
        obtain rfl := Option.some.inj had
        rw [Addr.add_lit, Nat.zero_add]
        unfold World.cell?
        rw [hW]
        match j, hj with
        | 0, hj => exact hj
        | 1, hj => exact hj
        | n + 2, hj => simp [cellsQ, qv] at hj
      have hBb : Below W4.heap.size W4 ((World.alloc W4.drew (.cells #[] 28)).alloc (.cells #[.int .i64 bad.left, .slice qa bad.right.length qc] 28)) := (hBd.alloc hBd.size _).alloc (hBd.alloc hBd.size _).size _
      have hBc : Below W4.heap.size W4 (World.alloc W4.drew (.cells #[.int .i64 bad.left, .slice qa bad.right.length qc] 28)) := hBd.alloc hBd.size _
      have hBc2 : Below W4.heap.size W4 ((World.alloc W4.drew (.cells #[.int .i64 bad.left, .slice qa bad.right.length qc] 28)).alloc (.cells #[] 28)) := hBc.alloc hBc.size _
      have hblkb : Hid (∀ w4, ((World.alloc W4.drew (.cells #[] 28)).alloc (.cells #[.int .i64 bad.left, .slice qa bad.right.length qc] 28)).grownBy w4 (some W4.heap.size) → w4.heap[W4.heap.size + 1]? = some (.cells #[.int .i64 bad.left, .slice qa bad.right.length qc] 28 (0, 0))) := fun w4 hg => (hg.block (W4.heap.size + 1) (by simp) (by simp)).trans (by have := heap_new (World.alloc W4.drew (.cells #[] 28)) (.cells #[.int .i64 bad.left, .slice qa bad.right.length qc] 28); simpa using this)
      have hblkc : Hid (∀ w4, ((World.alloc W4.drew (.cells #[.int .i64 bad.left, .slice qa bad.right.length qc] 28)).alloc (.cells #[] 28)).grownBy w4 (some (W4.heap.size + 1)) → w4.heap[W4.heap.size]? = some (.cells #[.int .i64 bad.left, .slice qa bad.right.length qc] 28 (0, 0))) := fun w4 hg => (hg.block W4.heap.size (by simp; omega) (by simp)).trans (((Below.refl (W4.heap.size + 1) (World.alloc W4.drew (.cells #[.int .i64 bad.left, .slice qa bad.right.length qc] 28))).alloc (by simp) _).block W4.heap.size (by omega) |>.trans (heap_new W4.drew (.cells #[.int .i64 bad.left, .slice qa bad.right.length qc] 28)))
      have hZc : ((World.alloc W4.drew (.cells #[.int .i64 bad.left, .slice qa bad.right.length qc] 28)).alloc (.cells #[] 28)).ownsRow W4.heap.size 28 2 (.slice (some ⟨W4.heap.size + 1, 0, none⟩) 0 0) 0 (cellsQ []) := by have := hZ _ hBc; simpa using this
      go_region_held3 (fun w' => w'.cell? ⟨w.heap.size, 3, none⟩ = some (.slice none 0 0) ∧ w'.cell? ⟨w.heap.size + 1, 0, none⟩ = some (.int .i64 bad.left) ∧ w'.cell? ⟨w.heap.size + 1, 1, none⟩ = some (.slice qa bad.right.length qc))
        (first | go_keep | (exact ⟨(hB5.cell (show w.heap.size < _ by omega)).trans e3, (hB5.cell (show w.heap.size + 1 < _ by omega)).trans e4, (hB5.cell (show w.heap.size + 1 < _ by omega)).trans e5⟩) | (exact ⟨(World.cell?_setCell_far _ _ _ _ (show wc.heap.size ≠ w.heap.size by omega)).trans ((hB5.cell (show w.heap.size < _ by omega)).trans e3), (World.cell?_setCell_far _ _ _ _ (show wc.heap.size ≠ w.heap.size + 1 by omega)).trans ((hB5.cell (show w.heap.size + 1 < _ by omega)).trans e4), (World.cell?_setCell_far _ _ _ _ (show wc.heap.size ≠ w.heap.size + 1 by omega)).trans ((hB5.cell (show w.heap.size + 1 < _ by omega)).trans e5)⟩))
        (first
          | (refine stepQ rfl _ _ rfl W4.heap.size _ 0 [] rfl rfl (hZ W4.drew hBd) none 0 0 [] rfl rfl (fun _ => ⟨rfl, rfl⟩) (fun ad had => by cases had) (by omega) (hBd.alloc hBd.size _).size ?_; intro v4 w4 hown4 hgrow4; have hB5 : Below W4.heap.size W4 w4 := (hBd.alloc hBd.size _).grown hgrow4 (hBd.alloc hBd.size _).size (fun k hk => by cases hk; exact hBd.size))
          | (refine stepQ rfl _ _ rfl W4.heap.size _ 0 [] rfl rfl ((hZ W4.drew hBd).alloc _) none 0 0 [] rfl rfl (fun _ => ⟨rfl, rfl⟩) (fun ad had => by cases had) (by omega) hBb.size ?_; intro v4 w4 hown4 hgrow4; have hB5 : Below W4.heap.size W4 w4 := hBb.grown hgrow4 hBb.size (fun k hk => by cases hk; exact hBd.size); have hblk := hblkb.out w4 hgrow4)
          | (refine stepQ rfl _ _ rfl W4.heap.size _ 0 [] rfl rfl hZc none 0 0 [] rfl rfl (fun _ => ⟨rfl, rfl⟩) (fun ad had => by cases had) (by omega) hBc2.size ?_; intro v4 w4 hown4 hgrow4; have hB5 : Below W4.heap.size W4 w4 := hBc2.grown hgrow4 hBc2.size (fun k hk => by cases hk; exact Nat.le_succ _); have hblk := hblkc.out w4 hgrow4)
          | (refine stepQ rfl _ _ rfl W4.heap.size _ (0 + 0) ([] ++ []) rfl rfl hown4 (some ⟨_, 0, none⟩) 1 1 [⟨bad, qa, qc⟩] rfl rfl (fun h => by cases h) (hone.out _ _ hblk) (by omega) hB5.size ?_; intro v5 w5 hown5 hgrow5; have hB6 : Below W4.heap.size W4 w5 := hB5.grown hgrow5 hB5.size (fun k hk => (hown4.lt k hk).1); have hB5 := hB6; obtain ⟨a5, c5, hv5⟩ := own_slice hown5; subst hv5; have f4 := (hB6.frozen (p := ⟨wc.heap.size, 3, none⟩) hs4).trans d4; have f3 := (hB6.cell (p := ⟨wc.heap.size, 3, none⟩) hs4).trans d3)
          | (refine stepQ rfl _ _ rfl W4.heap.size _ (0 + 0) ([] ++ []) rfl rfl (hown4.alloc _) (some ⟨w4.heap.size, 0, none⟩) 1 1 [⟨bad, qa, qc⟩] rfl rfl (fun h => by cases h) (hone.out _ _ (heap_new _ _)) (by omega) (hB5.alloc hB5.size _).size ?_; intro v5 w5 hown5 hgrow5; have hB6 : Below W4.heap.size W4 w5 := (hB5.alloc hB5.size _).grown hgrow5 (hB5.alloc hB5.size _).size (fun k hk => (hown4.lt k hk).1); have hB5 := hB6; obtain ⟨a5, c5, hv5⟩ := own_slice hown5; subst hv5; have f4 := (hB6.frozen (p := ⟨wc.heap.size, 3, none⟩) hs4).trans d4; have f3 := (hB6.cell (p := ⟨wc.heap.size, 3, none⟩) hs4).trans d3))
      all_goals
        go_wp2
        go_meet
        case rel => exact ⟨a5, c5, w5, by simp, by simpa using hown5, hB6⟩
    case rest =>
      rename World => wd
      obtain ⟨a5, c5, w9, hwd, hown9, hB9⟩ := hcut
      have hbW : Below wc.heap.size wc wd := by rw [hwd]; exact (hb4.trans (hB9.mono (by omega))).setCell (Nat.le_refl _) _
      have hownd : wd.ownsRow W4.heap.size 28 2 (.slice a5 1 c5) 1 (cellsQ ([(⟨bad, qa, qc⟩ : Q)])) := by rw [hwd]; exact ownsRow_setCell_below hown9 (a := ⟨wc.heap.size, 3, none⟩) hs4 _
      have m0 : wd.cell? ⟨wc.heap.size, 0, none⟩ = some (.slice ta ts.length tc) := by rw [hwd]; exact (World.cell?_setCell_other (h := show (⟨wc.heap.size, 3, none⟩ : Addr) ≠ ⟨wc.heap.size, 0, none⟩ by simp) ..).trans ((hB9.cell (p := ⟨wc.heap.size, 0, none⟩) hs4).trans d0)
      have m1 : wd.cell? ⟨wc.heap.size, 1, none⟩ = some (.slice na ns.length nc) := by rw [hwd]; exact (World.cell?_setCell_other (h := show (⟨wc.heap.size, 3, none⟩ : Addr) ≠ ⟨wc.heap.size, 1, none⟩ by simp) ..).trans ((hB9.cell (p := ⟨wc.heap.size, 1, none⟩) hs4).trans d1)
      have m2 : wd.cell? ⟨wc.heap.size, 2, none⟩ = some (.int .i64 ax) := by rw [hwd]; exact (World.cell?_setCell_other (h := show (⟨wc.heap.size, 3, none⟩ : Addr) ≠ ⟨wc.heap.size, 2, none⟩ by simp) ..).trans ((hB9.cell (p := ⟨wc.heap.size, 2, none⟩) hs4).trans d2)
      have m3 : wd.cell? ⟨wc.heap.size, 3, none⟩ = some (.slice a5 1 c5) := by rw [hwd]; exact World.cell?_setCell_same (h := (hB9.cell (p := ⟨wc.heap.size, 3, none⟩) hs4).trans d3) ..
      have m4 : wd.frozen? ⟨wc.heap.size, 3, none⟩ = false := by rw [hwd, World.frozen?_setCell]; exact (hB9.frozen (p := ⟨wc.heap.size, 3, none⟩) hs4).trans d4
      have hsd : W4.heap.size ≤ wd.heap.size := by rw [hwd]; simpa using hB9.size
      clear hown9 hB9 d0 d1 d2 d3 d4 hwd hb4
      have e3 := (hbW.cell (p := ⟨w.heap.size, 3, none⟩) hHc).trans h3
      have hown1 : (World.drew wd).ownsRow W4.heap.size 28 2 (.slice a5 1 c5) 1 (cellsQ ([(⟨bad, qa, qc⟩ : Q)])) := hownd.drew
      have hBd0 : Below wd.heap.size wd (World.drew wd) := ⟨rfl, rfl, rfl, Nat.le_refl _, fun _ _ => rfl⟩
      go_upto_region 15 with fail
      refine wp_region_noPanic ?_
      refine wp_region_held_drew (S := (fun w' => w'.cell? ⟨w.heap.size, 3, none⟩ = some (.slice none 0 0))) (by kernel_rfl) e3 (fun hHeld => ?_)
      refine wpAnyH_take (i := 0) (v := .pointer (some ⟨wc.heap.size, 3, none⟩)) rfl (by kernel_rfl) (by kernel_rfl) (by kernel_rfl) (fun _ _ _ h => h) (Or.inl ⟨by rfl, fun w9 hSw => ?_⟩) hHeld ?_
      · go_simp
      simp only [List.getElem_toArray, List.getElem_cons_zero, Act.put, List.setIfInBounds_toArray, List.set_cons_zero, List.set_cons_succ]
      refine wpAnyH_take (i := 2) (v := .pointer (some ⟨w.heap.size, 3, none⟩)) rfl (by kernel_rfl) (by kernel_rfl) (by kernel_rfl) (fun _ _ _ h => h) (Or.inl ⟨by rfl, fun w9 hSw => ?_⟩) hHeld ?_
      · go_simp
      simp only [List.getElem_toArray, List.getElem_cons_zero, List.getElem_cons_succ, Act.put, List.setIfInBounds_toArray, List.set_cons_zero, List.set_cons_succ]
      refine wpAnyH_take (i := 3) (v := .slice none 0 0) rfl (by kernel_rfl) (by kernel_rfl) (by kernel_rfl) (fun _ _ _ h => h) (Or.inl ⟨by rfl, fun w9 hSw => ?_⟩) hHeld ?_
      · go_simp
      simp only [List.getElem_toArray, List.getElem_cons_zero, List.getElem_cons_succ, Act.put, List.setIfInBounds_toArray, List.set_cons_zero, List.set_cons_succ]
      refine wpAnyH_take (i := 4) (v := .int .i64 0) rfl (by kernel_rfl) (by kernel_rfl) (by kernel_rfl) (fun _ _ _ h => h) (Or.inl ⟨by rfl, fun w9 hSw => ?_⟩) hHeld ?_
      · go_simp
      simp only [List.getElem_toArray, List.getElem_cons_zero, List.getElem_cons_succ, Act.put, List.setIfInBounds_toArray, List.set_cons_zero, List.set_cons_succ]
      refine wpAnyH_take (i := 5) (v := .slice none 0 0) rfl (by kernel_rfl) (by kernel_rfl) (by kernel_rfl) (fun _ _ _ h => h) (Or.inl ⟨by rfl, fun w9 hSw => ?_⟩) hHeld ?_
      · go_simp
      simp only [List.getElem_toArray, List.getElem_cons_zero, List.getElem_cons_succ, Act.put, List.setIfInBounds_toArray, List.set_cons_zero, List.set_cons_succ]
      refine wpAnyH_ready (rs := [1]) (by kernel_rfl) (by simp) ?_
      refine AllReadyH.cons rfl (fun K hK => ?_) AllReadyH.nil
      go_simp
      refine hK.out _ _ hHeld (fun hHeld2 => ?_)
      clear hK K hHeld
      refine wpAnyH_ready (rs := [6]) (by kernel_rfl) (by simp) ?_
      refine AllReadyH.cons rfl (fun K hK => ?_) AllReadyH.nil
      refine stepQ rfl _ _ rfl W4.heap.size _ 1 [(⟨bad, qa, qc⟩ : Q)] rfl (by rfl) hown1 none 0 0 [] rfl (by rfl) (fun _ => ⟨rfl, rfl⟩) (fun ad had => by cases had) (by omega) hsd ?_
      intro v5 w5 hown5 hgrow5
      have hB5 : Below W4.heap.size wd w5 := (hBd0.mono hsd).grown hgrow5 hsd (fun k hk => (hown1.lt k hk).1)
      rw [Nat.add_zero, List.append_nil] at hown5
      obtain ⟨a6, c6, hv6⟩ := own_slice hown5
      subst hv6
      have f4 := (hB5.frozen (p := ⟨wc.heap.size, 3, none⟩) hs4).trans m4
      have f3 := (hB5.cell (p := ⟨wc.heap.size, 3, none⟩) hs4).trans m3
      refine hK.out _ _ ((hB5.cell (show w.heap.size < _ by omega)).trans e3) (fun hHeld => ?_)
      clear hK K hHeld2
      simp only [List.getElem_toArray, List.getElem_cons_zero, List.getElem_cons_succ, Act.put, List.setIfInBounds_toArray, List.set_cons_zero, List.set_cons_succ]
      refine wpAnyH_take (i := 7) (v := .pointer (some ⟨wc.heap.size, 3, none⟩)) rfl (by kernel_rfl) (by kernel_rfl) (by kernel_rfl) (fun _ _ _ h => h) (Or.inl ⟨by rfl, fun w9 hSw => ?_⟩) hHeld ?_
      · go_simp
      simp only [List.getElem_toArray, List.getElem_cons_zero, List.getElem_cons_succ, Act.put, List.setIfInBounds_toArray, List.set_cons_zero, List.set_cons_succ]
      refine wpAnyH_ready (rs := [8]) (by kernel_rfl) (by simp) ?_
      refine AllReadyH.cons rfl (fun K hK => ?_) AllReadyH.nil
      go_simp
      refine hK.out _ _ ((World.cell?_setCell_far _ _ _ _ (show wc.heap.size ≠ w.heap.size by omega)).trans ((hB5.cell (show w.heap.size < _ by omega)).trans e3)) (fun _ => ?_)
      clear hK K
      refine wpAnyH_done (by kernel_rfl) (NoPanic.normal ?_) _
      have hbW6 : Below wc.heap.size wc (w5.setCell ⟨wc.heap.size, 3, none⟩ (.slice a6 1 c6)) := (hbW.trans (hB5.mono (by omega))).setCell (Nat.le_refl _) _
      have hown6 := ownsRow_setCell_below hown5 (a := ⟨wc.heap.size, 3, none⟩) hs4 (.slice a6 1 c6)
      have g0 : (w5.setCell ⟨wc.heap.size, 3, none⟩ (.slice a6 1 c6)).cell? ⟨wc.heap.size, 0, none⟩ = some (.slice ta ts.length tc) := (World.cell?_setCell_other (h := show (⟨wc.heap.size, 3, none⟩ : Addr) ≠ ⟨wc.heap.size, 0, none⟩ by simp) ..).trans ((hB5.cell (p := ⟨wc.heap.size, 0, none⟩) hs4).trans m0)
      have g1 : (w5.setCell ⟨wc.heap.size, 3, none⟩ (.slice a6 1 c6)).cell? ⟨wc.heap.size, 1, none⟩ = some (.slice na ns.length nc) := (World.cell?_setCell_other (h := show (⟨wc.heap.size, 3, none⟩ : Addr) ≠ ⟨wc.heap.size, 1, none⟩ by simp) ..).trans ((hB5.cell (p := ⟨wc.heap.size, 1, none⟩) hs4).trans m1)
      have g2 : (w5.setCell ⟨wc.heap.size, 3, none⟩ (.slice a6 1 c6)).cell? ⟨wc.heap.size, 2, none⟩ = some (.int .i64 ax) := (World.cell?_setCell_other (h := show (⟨wc.heap.size, 3, none⟩ : Addr) ≠ ⟨wc.heap.size, 2, none⟩ by simp) ..).trans ((hB5.cell (p := ⟨wc.heap.size, 2, none⟩) hs4).trans m2)
      have g3 : (w5.setCell ⟨wc.heap.size, 3, none⟩ (.slice a6 1 c6)).cell? ⟨wc.heap.size, 3, none⟩ = some (.slice a6 1 c6) := World.cell?_setCell_same (h := f3) ..
      have hs6 : wc.heap.size < (w5.setCell ⟨wc.heap.size, 3, none⟩ (.slice a6 1 c6)).heap.size := by have := hB5.size; simp; omega
      clear hown5 hgrow5 hB5 hownd hown1 hBd0 f3 f4 e3 m0 m1 m2 m3 m4
      generalize hW6 : w5.setCell ⟨wc.heap.size, 3, none⟩ (.slice a6 1 c6) = W6
      rw [hW6] at g0 g1 g2 g3 hbW6 hown6 hs6
      clear hW6
      have k0 := (hbW6.cell (p := ⟨w.heap.size, 0, none⟩) hHc).trans h0
      have k1 := (hbW6.cell (p := ⟨w.heap.size, 1, none⟩) hHc).trans h1
      have k2 := (hbW6.cell (p := ⟨w.heap.size, 2, none⟩) hHc).trans h2
      have k3 := (hbW6.cell (p := ⟨w.heap.size, 3, none⟩) hHc).trans h3
      have k4 := (hbW6.cell (p := ⟨w.heap.size + 1, 0, none⟩) hHc1).trans h4
      have k5 := (hbW6.cell (p := ⟨w.heap.size + 1, 1, none⟩) hHc1).trans h5
      have hHw6 : w.heap.size < W6.heap.size := by omega
      have hHw61 : w.heap.size + 1 < W6.heap.size := by omega
      have hBw6 : Below w.heap.size w W6 := hBwc.trans (hbW6.mono (by omega))
      have hbad6 := hbad.below hBw6 (Nat.le_refl _)
      have hb67 : Below W6.heap.size W6 ((W6.alloc (.cells #[.slice ta ts.length tc, .slice na ns.length nc, .int .i64 ax, .slice (some ⟨W6.heap.size + 1, 0, none⟩) 1 1] 25)).alloc (.cells #[.int .i64 bad.left, .slice qa bad.right.length qc] 28)) := ((Below.refl _ _).alloc (Nat.le_refl _) _).alloc (by simp) _
      have hQ7 : QRow ((W6.alloc (.cells #[.slice ta ts.length tc, .slice na ns.length nc, .int .i64 ax, .slice (some ⟨W6.heap.size + 1, 0, none⟩) 1 1] 25)).alloc (.cells #[.int .i64 bad.left, .slice qa bad.right.length qc] 28)) (some ⟨W6.heap.size + 1, 0, none⟩) [⟨bad, qa, qc⟩] := fun i x hx => by
        match i, hx with
        | 0, hx =>
          obtain rfl : (⟨bad, qa, qc⟩ : Q) = x := by simpa using hx
          exact ⟨_, 0, rfl, by simp [go_sem], by simp [go_sem]⟩
        | n + 1, hx => simp at hx
      have hck7 := check_changed ta na none (some ⟨W6.heap.size + 1, 0, none⟩) tc nc 1 1 ⟨ts, ns, ax, []⟩ [bad] [⟨bad, qa, qc⟩] p _ w _ hG (hBw6.trans (hb67.mono hBw6.size)) ho htc hnc hS hQ7 (fun x hx => by obtain rfl := List.mem_singleton.1 hx; exact hbad6.below hb67 (Nat.le_refl _)) (fun x hx => by obtain rfl := List.mem_singleton.1 hx; exact hbo) rfl (by simp) rfl rfl
      have hQ6 := own_qrow rfl hown6
      have heql := eql_nil
      go_wp2_with fail
      refine hck7.mono ?_
      rintro e w8 ⟨⟨vf, rfl, hvf⟩, hb8⟩
      have hb68 : Below W6.heap.size W6 w8 := hb67.trans (hb8.mono hb67.size)
      have hBw8 : Below w.heap.size w w8 := hBw6.trans (hb68.mono hBw6.size)
      have n0 := (hb68.cell (p := ⟨wc.heap.size, 0, none⟩) hs6).trans g0
      have n1 := (hb68.cell (p := ⟨wc.heap.size, 1, none⟩) hs6).trans g1
      have n2 := (hb68.cell (p := ⟨wc.heap.size, 2, none⟩) hs6).trans g2
      have n3 := (hb68.cell (p := ⟨wc.heap.size, 3, none⟩) hs6).trans g3
      have hck8 := check_changed ta na none a6 tc nc c6 1 ⟨ts, ns, ax, []⟩ (([] : List R).take 0 ++ bad :: ([] : List R).drop 0) [(⟨bad, qa, qc⟩ : Q)] p _ w w8 hG hBw8 ho htc hnc hS (hQ6.below hb68 (Nat.le_refl _)) (fun x hx => by obtain rfl := List.mem_singleton.1 hx; exact hbad6.below hb68 (Nat.le_refl _)) (fun x hx => by obtain rfl := List.mem_singleton.1 hx; exact hbo) rfl (by simp) rfl rfl
      have hz1 := check_one hgd bad
      have hz2 := check_more hgd bad (k := 0) (Nat.zero_le _)
      clear hck7 hb67 hQ7 k0 k1 k2 k3 k4 k5 g0 g1 g2 g3 hown6 hQ6 h0 h1 h2 h3 h4 h5
      go_wp2_with fail
      refine hck8.mono ?_
      rintro e w9 ⟨⟨vh, rfl, hvh⟩, hb9⟩
      clear hck8 n0 n1 n2 n3
      have hBw9 : Below w.heap.size w w9 := hBw8.trans (hb9.mono hBw8.size)
      have hvf9 := hvf.below hb9 (Nat.le_refl _)
      have hE9 := hE.below hBw9 (Nat.le_refl _)
      have hT9 := hT.below hBw9 (Nat.le_refl _)
      rw [hz1] at hvf9
      rw [hz2] at hvh
      clear hz1 hz2 hvf
      rw [if_neg (by simp)] at hvh
      rcases ruleK_cases ts.length ns.length bad with h0 | h0 | h0
      · rw [if_pos h0] at hvf9 hvh
        obtain rfl : vf = .nilIface := hvf9
        obtain rfl : vh = .nilIface := hvh
        clear h0
        go_wp2
        go_ret
        exact ⟨rfl, hBw9⟩
      all_goals
        rw [if_neg (by omega), h0] at hvf9 hvh
        clear h0
        obtain ⟨t1, u1, rfl⟩ := ck_iface hvf9 (by simp)
        obtain ⟨t2, u2, rfl⟩ := ck_iface hvh (by simp)
        have hK := kind_ck _ p _ w9 _ hE9 (by simp) hvh
        go_wp2_with fail
        refine hK.mono ?_
        rintro e w10 ⟨rfl, hb10⟩
        have hvf10 := hvf9.below hb10 (Nat.le_refl _)
        have hvh10 := hvh.below hb10 (Nat.le_refl _)
        have hK2 := kind_ck _ p _ w10 _ (hE9.below hb10 (Nat.le_refl _)) (by simp) hvf10
        clear hK
        go_wp2_with fail
        refine hK2.mono ?_
        rintro e w11 ⟨rfl, hb11⟩
        have hvf11 := hvf10.below hb11 (Nat.le_refl _)
        have hvh11 := hvh10.below hb11 (Nat.le_refl _)
        have hT11 := (hT9.below hb10 (Nat.le_refl _)).below hb11 (Nat.le_refl _)
        have hR1 := rule_ck _ p _ w11 _ hT11 hvh11
        clear hK2
        go_wp2_with fail
        refine hR1.mono ?_
        rintro e w12 ⟨rfl, hb12⟩
        have hR2 := rule_ck _ p _ w12 _ (hT11.below hb12 (Nat.le_refl _)) (hvf11.below hb12 (Nat.le_refl _))
        have hkk : (ruleZ (1, some 0) == 0) = true := by simp [ruleZ]
        clear hR1
        go_wp2_with fail
        refine hR2.mono ?_
        rintro e w13 ⟨rfl, hb13⟩
        go_wp2
        go_ret
        exact ⟨rfl, hBw9.trans ((hb10.trans ((hb11.trans ((hb12.trans (hb13.mono hb12.size)).mono hb11.size)).mono hb10.size)).mono hBw9.size)⟩
  · go_enter Tryd.func3, Tryd.ntmps3
    go_wp2_with fail
    refine hck.mono ?_
    rintro e w1 ⟨⟨v, rfl, hv⟩, hb1⟩
    obtain ⟨t, u, rfl⟩ := ck_iface hv hz
    have hBw1 : Below w.heap.size w w1 := hB0.trans (hb1.mono (by omega))
    go_wp2_with fail
    refine (awake_any p _ (hS.below hBw1 (Nat.le_refl _))).mono ?_
    rintro e w2 ⟨rfl, hb2⟩
    go_wp2
    go_ret
    exact ⟨rfl, hBw1.trans (hb2.mono hBw1.size)⟩

end Go.Proofs.YtjcagdbepcjbiabDoor.GramLessW
