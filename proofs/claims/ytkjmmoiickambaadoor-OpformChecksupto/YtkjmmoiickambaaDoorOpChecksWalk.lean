/-
  The walk of OpformChecks: it answers true for every grammar, and writes nothing that was there.
-/
import Derived.Test.YtkjmmoiickambaaDoorOpRCheck
import Derived.Test.YtkjmmoiickambaaDoorOpRows
import Derived.Test.YtkjmmoiickambaaDoorGramOpenL
import Derived.Deep.AppendLies
namespace Go.Proofs.YtkjmmoiickambaaDoor.OpChecksW
open Go.RowKit Go.Proofs.YtkjmmoiickambaaDoor.GramMath Go.Proofs.YtkjmmoiickambaaDoor.GramRow Go.Proofs.YtkjmmoiickambaaDoor.GramOne Go.Proofs.YtkjmmoiickambaaDoor.GramApart Go.Proofs.YtkjmmoiickambaaDoor.GramLent Go.Proofs.YtkjmmoiickambaaDoor.GramErrs Go.Proofs.YtkjmmoiickambaaDoor.OpRow Go.Proofs.YtkjmmoiickambaaDoor.OpFault Go.Proofs.YtkjmmoiickambaaDoor.OpCheck Go.Proofs.YtkjmmoiickambaaDoor.OpForm
set_option linter.unusedVariables false

set_option maxRecDepth 100000 in
set_option maxHeartbeats 8000000 in
theorem walk (ta na ra : Option Addr) (tc nc rc : Nat) (g : G) (p : Nat → Addr) (w : World) (hL : Lendable w ta na ra tc nc g) (hg : okG g) (hm : ((fG g).length + 30) * 16 ≤ 140737488351232) (hE : Errs w p) (hT : ErrType w) :
    Calls Tryd.prog 3 #[.agg #[.slice ta g.ts.length tc, .slice na g.ns.length nc, .int .i64 g.ax, .slice ra g.rs.length rc]] w fun e w' => e = .returned (.bool true) ∧ Below w.heap.size w w' := by
  obtain ⟨i0, hi, hz0, hz1, hz2⟩ := info_parts infoFault
  have hG := GramOpen.lendable_row hL
  have hr8 : ∀ r ∈ g.rs, r.right.length * 8 ≤ 140737488351232 := fun r hr => (hL.each r hr).2
  have hm0 : (fG g).length * 16 ≤ 140737488351232 := by omega
  have hB1 : Below w.heap.size w (w.alloc (.cells #[.slice ta g.ts.length tc, .slice na g.ns.length nc, .int .i64 g.ax, .slice ra g.rs.length rc] 25)) := (Below.refl _ _).alloc (Nat.le_refl _) _
  have hbx1 := rowNew w #[.slice ta g.ts.length tc, .slice na g.ns.length nc, .int .i64 g.ax, .slice ra g.rs.length rc] 25
  have hL1 : Lendable (w.alloc (.cells #[.slice ta g.ts.length tc, .slice na g.ns.length nc, .int .i64 g.ax, .slice ra g.rs.length rc] 25)) ta na ra tc nc g := ⟨hL.ts.below hB1 (Nat.le_refl _), hL.ns.below hB1 (Nat.le_refl _), hL.rs.below hB1 (Nat.le_refl _), hL.tn, hL.nn, hL.tm, hL.nm, hL.rm, hL.each⟩
  have hlend := lentG ta na ra tc nc rc g _ hL1
  go_enter Tryd.func3, Tryd.ntmps3
  go_wp2_with fail
  refine hlend.mono ?_
  rintro e w1 ⟨⟨g1, c1, g2, c2, g3, c3, lq, rfl, hlg⟩, hb1⟩
  have hB2 := hB1.trans (hb1.mono hB1.size)
  have hbx2 := hbx1.below hb1 hbx1.lt
  clear hlend hL1 hL hbx1 hB1 hb1
  have hBn : Below w1.heap.size w1 (w1.alloc (.cells #[.slice (some ⟨g1, 0, none⟩) g.ts.length c1, .slice (some ⟨g2, 0, none⟩) g.ns.length c2, .int .i64 g.ax, .slice (some ⟨g3, 0, none⟩) g.rs.length c3] 25)) := (Below.refl _ _).alloc (Nat.le_refl _) _
  have hin2 := rowNew w1 #[.slice (some ⟨g1, 0, none⟩) g.ts.length c1, .slice (some ⟨g2, 0, none⟩) g.ns.length c2, .int .i64 g.ax, .slice (some ⟨g3, 0, none⟩) g.rs.length c3] 25
  have hlg2 := hlg.below hBn (Nat.le_refl _)
  have hB3 := hB2.trans (hBn.mono hB2.size)
  have hbx3 := hbx2.alloc (.cells #[.slice (some ⟨g1, 0, none⟩) g.ts.length c1, .slice (some ⟨g2, 0, none⟩) g.ns.length c2, .int .i64 g.ax, .slice (some ⟨g3, 0, none⟩) g.rs.length c3] 25)
  have hck := opcheck_any (some ⟨g1, 0, none⟩) (some ⟨g2, 0, none⟩) (some ⟨g3, 0, none⟩) c1 c2 c3 g p _ hlg2.row hg (Nat.le_of_lt hlg.tc) (Nat.le_of_lt hlg.nc) (hE.below hB3 (Nat.le_refl _))
  go_wp2_with fail
  refine hck.mono ?_
  rintro e w3 ⟨⟨v, rfl, hv⟩, hb3⟩
  have hB4 := hB3.trans (hb3.mono hB3.size)
  have hbx4 := hbx3.below hb3 hbx3.lt
  have hin4 := hin2.below hb3 hin2.lt
  have hlg4 := hlg2.below hb3 (Nat.le_refl _)
  clear hck hbx2 hbx3 hin2 hlg hlg2 hBn hB2 hB3 hb3
  have hrc := oprcheck_any ta na ra tc nc rc g w3 (hG.below hB4 (Nat.le_refl _)) hg hr8 hm0
  have a0 := hbx4.cell (q := 0) rfl
  have a1 := hbx4.cell (q := 1) rfl
  have a2 := hbx4.cell (q := 2) rfl
  have a3 := hbx4.cell (q := 3) rfl
  go_wp2_with fail
  refine hrc.mono ?_
  rintro e w4 ⟨rfl, hb4⟩
  have hB5 := hB4.trans (hb4.mono hB4.size)
  have hbx5 := hbx4.below hb4 hbx4.lt
  have hin5 := hin4.below hb4 hin4.lt
  have hlg5 := hlg4.below hb4 (Nat.le_refl _)
  have hv5 := hv.below hb4 (Nat.le_refl _)
  have hs04 := hB5.size
  clear hrc hbx4 hin4 hlg4 hv hB4 hb4 a0 a1 a2 a3
  have hf1 := faults_any (some ⟨g1, 0, none⟩) (some ⟨g2, 0, none⟩) (some ⟨g3, 0, none⟩) c1 c2 c3 g w4 hlg5.row.2.2 hr8 hg.2.2.1 hm0
  have b0 := hin5.cell (q := 0) rfl
  have b1 := hin5.cell (q := 1) rfl
  have b2 := hin5.cell (q := 2) rfl
  have b3 := hin5.cell (q := 3) rfl
  go_wp2_with fail
  refine hf1.mono ?_
  rintro e w5 ⟨⟨lv, rfl, hol⟩, hb5⟩
  have hB6 := hB5.trans (hb5.mono hB5.size)
  have hbx6 := hbx5.below hb5 hbx5.lt
  have hin6 := hin5.below hb5 hin5.lt
  have hlg6 := hlg5.below hb5 (Nat.le_refl _)
  have hv6 := hv5.below hb5 (Nat.le_refl _)
  have hs45 := hb5.size
  clear hf1 hbx5 hin5 hlg5 hv5 hB5 hb5 b0 b1 b2 b3
  have hf2 := faults_any (some ⟨g1, 0, none⟩) (some ⟨g2, 0, none⟩) (some ⟨g3, 0, none⟩) c1 c2 c3 g w5 hlg6.row.2.2 hr8 hg.2.2.1 hm0
  have b0 := hin6.cell (q := 0) rfl
  have b1 := hin6.cell (q := 1) rfl
  have b2 := hin6.cell (q := 2) rfl
  have b3 := hin6.cell (q := 3) rfl
  go_wp2_with fail
  refine hf2.mono ?_
  rintro e w6 ⟨⟨mv, rfl, hom⟩, hb6⟩
  have hdis : Hid (Dis lv mv) := dis_base hol hom (Nat.le_refl _)
  have hol6 := GramLent.own_below hol hb6
  have hB7 := hB6.trans (hb6.mono hB6.size)
  have hbx7 := hbx6.below hb6 hbx6.lt
  have hin7 := hin6.below hb6 hin6.lt
  have hlg7 := hlg6.below hb6 (Nat.le_refl _)
  have hv7 := hv6.below hb6 (Nat.le_refl _)
  have hs56 := hb6.size
  clear hf2 hbx6 hin6 hlg6 hv6 hB6 hb6 b0 b1 b2 b3 hol
  have hrf := rfaults_any ta na ra tc nc rc g w6 (hG.2.2.below hB7 (Nat.le_refl _)) hr8 hg.2.2.1 hm0
  have a0 := hbx7.cell (q := 0) rfl
  have a1 := hbx7.cell (q := 1) rfl
  have a2 := hbx7.cell (q := 2) rfl
  have a3 := hbx7.cell (q := 3) rfl
  go_wp2_with fail
  refine hrf.mono ?_
  rintro e w7 ⟨⟨fv, rfl, hof⟩, hb7⟩
  have hol7 := GramLent.own_below hol6 hb7
  have hom7 := GramLent.own_below hom hb7
  have hB8 := hB7.trans (hb7.mono hB7.size)
  have hbx8 := hbx7.below hb7 hbx7.lt
  have hin8 := hin7.below hb7 hin7.lt
  have hlg8 := hlg7.below hb7 (Nat.le_refl _)
  have hv8 := hv7.below hb7 (Nat.le_refl _)
  have hE8 := hE.below hB8 (Nat.le_refl _)
  have hT8 := hT.below hB8 (Nat.le_refl _)
  have hs67 := hb7.size
  clear hrf hbx7 hin7 hlg7 hv7 hB7 hb7 a0 a1 a2 a3 hol6 hom
  have hkk := kind_ck _ p (opG g) w7 v hE8 (opG_le g) hv8
  go_wp2_with fail
  refine hkk.mono ?_
  rintro e w8 ⟨rfl, hb8⟩
  have hrr := rule_ck _ p (opG g) w8 v (hT8.below hb8 (Nat.le_refl _)) (hv8.below hb8 (Nat.le_refl _))
  have hq1 : (((opG g).1 : Int) != ((opG g).1 : Int)) = false := by simp
  clear hkk
  go_wp2_with fail
  refine hrr.mono ?_
  rintro e w9 ⟨rfl, hb9⟩
  have hb79 := hb8.trans (hb9.mono hb8.size)
  obtain ⟨la, lc, rfl, hla⟩ := own_form hol7
  obtain ⟨ma, mc, rfl, hma⟩ := own_form hom7
  obtain ⟨fa, fc, rfl, hfa⟩ := own_form hof
  have hbx9 := hbx8.below hb79 hbx8.lt
  have hin9 := hin8.below hb79 hin8.lt
  have hlg9 := hlg8.below hb79 (Nat.le_refl _)
  have hB9 := hB8.trans (hb79.mono hB8.size)
  have hol9 := GramLent.own_below hol7 hb79
  have hom9 := GramLent.own_below hom7 hb79
  have hof9 := GramLent.own_below hof hb79
  have hs79 := hb79.size
  clear hrr hb8 hb9 hb79 hbx8 hin8 hlg8 hol7 hom7 hof hv8 hE8 hT8
  have a0 := hbx9.cell (q := 0) rfl
  have a1 := hbx9.cell (q := 1) rfl
  have a2 := hbx9.cell (q := 2) rfl
  have a3 := hbx9.cell (q := 3) rfl
  have b0 := hin9.cell (q := 0) rfl
  have b1 := hin9.cell (q := 1) rfl
  have b2 := hin9.cell (q := 2) rfl
  have b3 := hin9.cell (q := 3) rfl
  have hkept := keptG g1 c1 g2 c2 g3 c3 lq ta na ra tc nc rc g w9 hlg9 (hG.below hB9 (Nat.le_refl _)) hg
  go_wp2_with fail
  refine hkept.mono ?_
  rintro e w10 ⟨rfl, hb10⟩
  have hB10 := hB9.trans (hb10.mono hB9.size)
  have hol10 := GramLent.own_below hol9 hb10
  have hom10 := GramLent.own_below hom9 hb10
  have hof10 := GramLent.own_below hof9 hb10
  have hs10 := hb10.size
  clear hkept hbx9 hin9 hlg9 hol9 hom9 hof9 hB9 hb10 a0 a1 a2 a3 b0 b1 b2 b3
  have hBl : w4.heap.size ≤ w10.heap.size := by omega
  have hBm : w5.heap.size ≤ w10.heap.size := by omega
  have hBf : w6.heap.size ≤ w10.heap.size := by omega
  have hwl : w.heap.size ≤ w4.heap.size := hs04
  have hwm : w.heap.size ≤ w5.heap.size := by omega
  clear hs45 hs56 hs67 hs79 hs10 hs04
  generalize hLL : fG g = L at *
  generalize w4.heap.size = Bl at *
  generalize w5.heap.size = Bm at *
  generalize w6.heap.size = Bf at *
  clear hLL
  go_wp2_with fail
  go_loopw [10] (fun i wr => ∃ k : Nat, k ≤ L.length ∧ i = .int .i64 k ∧ wr.ownsRow Bl 39 2 (.slice la L.length lc) L.length (cellsP (markP L k)) ∧ wr.ownsRow Bm 39 2 (.slice ma L.length mc) L.length (cellsP L) ∧ wr.ownsRow Bf 40 2 (.slice fa L.length fc) L.length (cellsP L) ∧ Below w.heap.size w wr ∧ w10.heap.size ≤ wr.heap.size) (fun i _ => L.length - (intOf i).toNat)
  case atStart => exact ⟨0, by omega, rfl, by rw [markP_zero]; exact hol10, hom10, hof10, hB10, Nat.le_refl _⟩
  case round =>
    clear hol10 hom10 hof10 hB10
    obtain ⟨k, hk, rfl, hl, hmm, hf, hB, hsw⟩ := hrel
    by_cases hlt : k < L.length
    · obtain ⟨gl, rfl⟩ := hla (by omega)
      obtain ⟨gm, rfl⟩ := hma (by omega)
      obtain ⟨gf, rfl⟩ := hfa (by omega)
      obtain ⟨⟨x, y⟩, hpr⟩ : ∃ pr, L[k]? = some pr := ⟨L[k], List.getElem?_eq_getElem hlt⟩
      obtain ⟨x0, x1⟩ := ownP_cell hl ((markP_get hlt).trans hpr) hlt
      obtain ⟨y0, y1⟩ := ownP_cell hmm hpr hlt
      obtain ⟨z0, z1⟩ := ownP_cell hf hpr hlt
      dsimp only at x0 x1 y0 y1 z0 z1
      have hlt2 : (k : Int) < (L.length : Int) := by omega
      have q0 := hl.frozenAt (k * 2)
      have q1 := hl.frozenAt (k * 2 + 1)
      have hxx : (x != x) = false := by simp
      have hyy : (y != y) = false := by simp
      have hms := cellsP_set (markP L k) k (-7) 0 (by rw [markP_len hk]; exact hlt)
      rw [markP_set hlt] at hms
      have hbig := (hl.lt gl rfl)
      go_wp2_with fail
      go_quiet (fail)
      clear x0 x1 y0 y1 z0 z1
      have hl1 := (World.ownsRow.stored (w := wr.drewN nq) hl (k * 2) (.int .i64 (-7))).1
      have hl2 := (hl1.stored (k * 2 + 1) (.int .i64 0)).1
      rw [hms] at hl2
      have hm2 := Dis.set (q := k * 2 + 1) (u := .int .i64 0) (hdis.out) (Dis.set (w := wr.drewN nq) (q := k * 2) (u := .int .i64 (-7)) (hdis.out) hmm)
      have hdf : Dis (.slice (some ⟨gl, 0, none⟩) L.length lc) (.slice (some ⟨gf, 0, none⟩) L.length fc) := dis_types hl hf (by decide)
      have hf2 := Dis.set (q := k * 2 + 1) (u := .int .i64 0) hdf (Dis.set (w := wr.drewN nq) (q := k * 2) (u := .int .i64 (-7)) hdf hf)
      have hB2 : Below w.heap.size w (((wr.drewN nq).setCell ⟨gl, k * 2, none⟩ (.int .i64 (-7))).setCell ⟨gl, k * 2 + 1, none⟩ (.int .i64 0)) := ((bdrew hB nq).setCell (p := ⟨gl, k * 2, none⟩) (show w.heap.size ≤ gl by omega) _).setCell (p := ⟨gl, k * 2 + 1, none⟩) (show w.heap.size ≤ gl by omega) _
      have hs2 : w10.heap.size ≤ (((wr.drewN nq).setCell ⟨gl, k * 2, none⟩ (.int .i64 (-7))).setCell ⟨gl, k * 2 + 1, none⟩ (.int .i64 0)).heap.size := by simp; exact hsw
      have q0' : (wr.drewN nq).frozen? ⟨gl, k * 2, none⟩ = false := q0
      have q1' : (wr.drewN nq).frozen? ⟨gl, k * 2 + 1, none⟩ = false := q1
      obtain ⟨x0, x1⟩ := ownP_cell hl ((markP_get hlt).trans hpr) hlt
      have x0' : (wr.drewN nq).cell? ⟨gl, k * 2, none⟩ = some (.int .i64 x) := x0
      have x1' : (wr.drewN nq).cell? ⟨gl, k * 2 + 1, none⟩ = some (.int .i64 y) := x1
      clear q0 q1 x0 x1 hl hmm hf hl1 hB hms
      generalize wr.drewN nq = wq at *
      go_wp2
      go_roundw
      case rel => exact ⟨k + 1, by omega, by go_num, hl2, hm2, hf2, hB2, hs2⟩
      case measure => simp [intOf]; omega
    · obtain rfl : k = L.length := by omega
      have hnl : ¬ (L.length : Int) < (L.length : Int) := by omega
      rw [markP_all] at hl
      have hln : Hid ((List.replicate L.length ((-7 : Int), (0 : Int))).length = L.length) := by show _ = _; simp
      generalize hRR : List.replicate L.length ((-7 : Int), (0 : Int)) = RR at *
      go_wp2
      go_loopw [7, 8, 11] (fun v7 v8 i ws => ∃ j : Nat, j ≤ 30 ∧ i = .int .i64 j ∧ ws.ownsRow Bl 39 2 v7 (L.length + j) (cellsP (RR ++ List.replicate j (-8, 0))) ∧ ws.ownsRow Bm 39 2 v8 (L.length + j) (cellsP (L ++ List.replicate j (-9, 0))) ∧ ws.ownsRow Bf 40 2 (.slice fa L.length fc) L.length (cellsP L) ∧ Hid (Dis v7 v8) ∧ Below w.heap.size w ws ∧ w10.heap.size ≤ ws.heap.size) (fun _ _ i _ => 30 - (intOf i).toNat)
      case atStart => exact ⟨0, by omega, rfl, by simpa using hl, by simpa using hmm, hf, hdis, hB, hsw⟩
      case round =>
        clear hl hmm hf hB hsw
        obtain ⟨j, hj, rfl, hl, hmm, hf, hd, hB, hsw⟩ := hrel
        by_cases hj30 : j < 30
        · have e8 : Hid (cellsP (RR ++ List.replicate (j + 1) (-8, 0)) = cellsP (RR ++ List.replicate j (-8, 0)) ++ [.int .i64 (-8), .int .i64 0]) := by show _ = _; rw [List.replicate_succ', ← List.append_assoc, cellsP_app]
          have e9 : Hid (cellsP (L ++ List.replicate (j + 1) (-9, 0)) = cellsP (L ++ List.replicate j (-9, 0)) ++ [.int .i64 (-9), .int .i64 0]) := by show _ = _; rw [List.replicate_succ', ← List.append_assoc, cellsP_app]
          go_wp2_with (first
            | (at_builtin; refine wpList_append_lies _ rfl (.tmp 108) (.tmp 110) 32 rfl Bl 39 i0 (.agg #[.int .i64 0, .int .i64 0]) 2 16 Tryd.underlying32 hi hz0 hz1 hz2 rfl (by decide) _ _ _ rfl (hl.alloc _) ⟨wr.heap.size, 0, none⟩ 1 1 [.int .i64 (-8), .int .i64 0] rfl rfl (cells_new _ #[_, _] _) (by simp [Value.oneCell']) (by omega) (by unfold maxLen; omega) (by omega) (by simp; omega) (wr.heap.size + 1) (by simp) ?_; intro gA cA wA hownA hgrowA hatA hltA; have hDA := Dis.grow (m := L.length + j + 1) (c := cA) hd.out hmm hgrowA hatA; have hmA := hDA.1; have hsA : wr.heap.size ≤ wA.heap.size := Nat.le_trans (by simp) hgrowA.size)
            | (at_builtin; refine wpList_append_lies _ rfl (.tmp 112) (.tmp 114) 32 rfl Bm 39 i0 (.agg #[.int .i64 0, .int .i64 0]) 2 16 Tryd.underlying32 hi hz0 hz1 hz2 rfl (by decide) _ _ _ rfl (hmA.alloc _) ⟨wA.heap.size, 0, none⟩ 1 1 [.int .i64 (-9), .int .i64 0] rfl rfl (cells_new _ #[_, _] _) (by simp [Value.oneCell']) (by omega) (by unfold maxLen; omega) (by omega) (by simp; omega) (wA.heap.size + 1) (by simp) ?_; intro gB cB wB hownB hgrowB hatB hltB))
          have hDB := Dis.grow (m := L.length + j + 1) (c := cB) hDA.2.symm hownA hgrowB hatB
          have hfA := own_apart hf hl (by decide) _ hgrowA
          have hfB := own_apart hfA hmA (by decide) _ hgrowB
          have hBA : Below w.heap.size w wA := (hB.alloc hB.size _).grown hgrowA (by have := hB.size; simp; omega) (fun q hq => by have := (hl.lt q hq).1; omega)
          have hBB : Below w.heap.size w wB := (hBA.alloc hBA.size _).grown hgrowB (by have := hBA.size; simp; omega) (fun q hq => by have := (hmA.lt q hq).1; omega)
          have hsB : wA.heap.size ≤ wB.heap.size := Nat.le_trans (by simp) hgrowB.size
          have hl3 := hDB.1
          rw [← e8.out] at hl3
          have hm3 := hownB
          rw [← e9.out] at hm3
          have hD3 : Hid (Dis (.slice (some ⟨gA, 0, none⟩) (L.length + j + 1) cA) (.slice (some ⟨gB, 0, none⟩) (L.length + j + 1) cB)) := hDB.2.symm
          clear hl hmm hf hd hB hownA hgrowA hownB hgrowB hDA hDB hmA hfA hBA
          go_roundw
          case rel => exact ⟨j + 1, by omega, by go_num, hl3, hm3, hfB, hD3, hBB, by omega⟩
          case measure => simp [intOf]; omega
        · obtain rfl : j = 30 := by omega
          obtain ⟨ga, ca, rfl⟩ := ownsRow_succ (k := L.length + 29) hl
          obtain ⟨gb, cb, rfl⟩ := ownsRow_succ (k := L.length + 29) hmm
          go_wp2
          go_loopw [12] (fun i wt => ∃ (k q : Nat), k ≤ L.length ∧ i = .int .i64 k ∧ wt = wr.drewN q) (fun i _ => L.length - (intOf i).toNat)
          case atStart => exact ⟨0, 0, by omega, rfl, rfl⟩
          case round =>
            obtain ⟨k, q, hk, rfl, rfl⟩ := hrel
            by_cases hlt : k < L.length
            · obtain ⟨gf, rfl⟩ := hfa (by omega)
              obtain ⟨⟨x, y⟩, hpr⟩ : ∃ pr, L[k]? = some pr := ⟨L[k], List.getElem?_eq_getElem hlt⟩
              obtain ⟨z0, z1⟩ := ownP_cell hf hpr hlt
              obtain ⟨y0, y1⟩ := ownP_cell (k := k) hmm ((List.getElem?_append_left hlt).trans hpr) (by omega)
              have hRk : (RR ++ List.replicate 30 ((-8 : Int), (0 : Int)))[k]? = some (-7, 0) := by
                rw [List.getElem?_append_left (by rw [hln.out]; exact hlt), ← hRR, List.getElem?_replicate, if_pos hlt]
              obtain ⟨x0, x1⟩ := ownP_cell (k := k) hl hRk (by omega)
              dsimp only at x0 x1 y0 y1 z0 z1
              have hlt2 : (k : Int) < (L.length : Int) := by omega
              have hlt3 : (k : Int) < (L.length : Int) + 30 := by omega
              have hxx : (x != x) = false := by simp
              have hyy : (y != y) = false := by simp
              clear hl hmm hf hpr hRk hRR
              go_wp2_with fail
              go_quiet (fail)
              go_wp2
              go_roundw
              case rel => exact ⟨k + 1, _, by omega, by go_num, rfl⟩
              case measure => simp [intOf]; omega
            · obtain rfl : k = L.length := by omega
              have hnl : ¬ (L.length : Int) < (L.length : Int) := by omega
              go_wp2
              go_loopw [13] (fun i wt => ∃ (k : Nat), k ≤ 30 ∧ i = .int .i64 k ∧ wt = wr.drewN q) (fun i _ => 30 - (intOf i).toNat)
              case atStart => exact ⟨0, by omega, rfl, rfl⟩
              case round =>
                obtain ⟨k, hk, rfl, rfl⟩ := hrel
                by_cases hk30 : k < 30
                · have h8 : (RR ++ List.replicate 30 ((-8 : Int), (0 : Int)))[L.length + k]? = some (-8, 0) := by
                    rw [List.getElem?_append_right (by rw [hln.out]; omega), List.getElem?_replicate, if_pos (by rw [hln.out]; omega)]
                  have h9 : (L ++ List.replicate 30 ((-9 : Int), (0 : Int)))[L.length + k]? = some (-9, 0) := by
                    rw [List.getElem?_append_right (by omega), List.getElem?_replicate, if_pos (by omega)]
                  obtain ⟨x0, x1⟩ := ownP_cell (k := L.length + k) hl h8 (by omega)
                  obtain ⟨y0, y1⟩ := ownP_cell (k := L.length + k) hmm h9 (by omega)
                  dsimp only at x0 x1 y0 y1
                  have x0' : (wr.drewN q).cell? ⟨ga, (L.length + k) * 2, none⟩ = some (.int .i64 (-8)) := x0
                  have y0' : (wr.drewN q).cell? ⟨gb, (L.length + k) * 2, none⟩ = some (.int .i64 (-9)) := y0
                  have hto : ((L.length : Int) + (k : Int)).toNat = L.length + k := by omega
                  have hge : (0 : Int) ≤ (L.length : Int) + (k : Int) := by omega
                  have hlt3 : (L.length : Int) + (k : Int) < (L.length : Int) + 30 := by omega
                  clear hl hmm hf h8 h9 hRR x0 x1 y0 y1
                  go_wp2
                  go_roundw
                  case rel => exact ⟨k + 1, by omega, by go_num, by trivial⟩
                  case measure => simp [intOf]; omega
                · have hBd : Below w.heap.size w (wr.drewN q) := bdrew hB q
                  have haw := opawake_any p (wr.drewN q) (hE.below hBd (Nat.le_refl _)) (hT.below hBd (Nat.le_refl _))
                  go_wp2_with fail
                  refine haw.mono ?_
                  rintro e wz ⟨rfl, hbz⟩
                  go_wp2
                  go_ret
                  exact ⟨rfl, hBd.trans (hbz.mono hBd.size)⟩

end Go.Proofs.YtkjmmoiickambaaDoor.OpChecksW
