/-
  The walk of UsefulSets: it answers true for every grammar, and writes nothing that was there.
-/
import Derived.Test.YtjmodcpeggafhaaDoorUsefulRef4
import Derived.Test.YtjmodcpeggafhaaDoorGramOpenL
import Derived.Test.YtjmodcpeggafhaaDoorGramRuleOf
import Derived.Test.YtjmodcpeggafhaaDoorGramLentG
import Derived.Test.YtjmodcpeggafhaaDoorUsefulOpen
namespace Go.Proofs.YtjmodcpeggafhaaDoor.UsefulSetsW
open Go.RowKit Go.Proofs.YtjmodcpeggafhaaDoor.GramMath Go.Proofs.YtjmodcpeggafhaaDoor.GramRow Go.Proofs.YtjmodcpeggafhaaDoor.GramOne Go.Proofs.YtjmodcpeggafhaaDoor.GramApart Go.Proofs.YtjmodcpeggafhaaDoor.GramLent Go.Proofs.YtjmodcpeggafhaaDoor.GramErrs Go.Proofs.YtjmodcpeggafhaaDoor.UsefulMath Go.Proofs.YtjmodcpeggafhaaDoor.UsefulTop Go.Proofs.YtjmodcpeggafhaaDoor.UsefulRef
set_option linter.unusedVariables false

set_option maxRecDepth 100000 in
set_option maxHeartbeats 8000000 in
theorem walk (ta na ra : Option Addr) (tc nc rc : Nat) (g : G) (p : Nat → Addr) (w : World) (hL : Lendable w ta na ra tc nc g) (hg : okG g) (hE : Errs w p) :
    Calls Tryd.prog 3 #[.agg #[.slice ta g.ts.length tc, .slice na g.ns.length nc, .int .i64 g.ax, .slice ra g.rs.length rc]] w fun e w' => e = .returned (.bool true) ∧ Below w.heap.size w w' := by
  have hG := GramOpen.lendable_row hL
  have hB1 : Below w.heap.size w (w.alloc (.cells #[.slice ta g.ts.length tc, .slice na g.ns.length nc, .int .i64 g.ax, .slice ra g.rs.length rc] 25)) := (Below.refl _ _).alloc (Nat.le_refl _) _
  have hbx1 := rowNew w #[.slice ta g.ts.length tc, .slice na g.ns.length nc, .int .i64 g.ax, .slice ra g.rs.length rc] 25
  have hL1 : Lendable (w.alloc (.cells #[.slice ta g.ts.length tc, .slice na g.ns.length nc, .int .i64 g.ax, .slice ra g.rs.length rc] 25)) ta na ra tc nc g := ⟨hL.ts.below hB1 (Nat.le_refl _), hL.ns.below hB1 (Nat.le_refl _), hL.rs.below hB1 (Nat.le_refl _), hL.tn, hL.nn, hL.tm, hL.nm, hL.rm, hL.each⟩
  have hlend := lentG ta na ra tc nc rc g _ hL1
  go_enter Tryd.func3, Tryd.ntmps3
  go_wp2_with fail
  refine hlend.mono ?_
  rintro e w1 ⟨⟨g1, c1, g2, c2, g3, c3, lq, rfl, hlg⟩, hb1⟩
  have hB2 := hB1.trans (hb1.mono hB1.size)
  have hbx2 := hbx1.below hb1 hbx1.lt
  clear hlend hL1 hL hbx1 hB1 hb1
  have hBn : Below w1.heap.size w1 (w1.alloc (.cells #[.slice (some ⟨g1, 0, none⟩) g.ts.length c1, .slice (some ⟨g2, 0, none⟩) g.ns.length c2, .int .i64 g.ax, .slice (some ⟨g3, 0, none⟩) g.rs.length c3] 25)) := (Below.refl _ _).alloc (Nat.le_refl _) _
  have hin2 := rowNew w1 #[.slice (some ⟨g1, 0, none⟩) g.ts.length c1, .slice (some ⟨g2, 0, none⟩) g.ns.length c2, .int .i64 g.ax, .slice (some ⟨g3, 0, none⟩) g.rs.length c3] 25
  have hlg2 := hlg.below hBn (Nat.le_refl _)
  have hB3 := hB2.trans (hBn.mono hB2.size)
  have hbx3 := hbx2.alloc (.cells #[.slice (some ⟨g1, 0, none⟩) g.ts.length c1, .slice (some ⟨g2, 0, none⟩) g.ns.length c2, .int .i64 g.ax, .slice (some ⟨g3, 0, none⟩) g.rs.length c3] 25)
  have htc := Nat.le_of_lt hlg.tc
  have hnc := Nat.le_of_lt hlg.nc
  clear hbx2 hlg hBn hB2
  have hck := Productive_top (some ⟨g1, 0, none⟩) (some ⟨g2, 0, none⟩) (some ⟨g3, 0, none⟩) c1 c2 c3 g p _ hlg2.row hg htc hnc (hE.sents.below hB3 (Nat.le_refl _))
  go_wp2_with fail
  refine hck.mono ?_
  rintro e w3 ⟨⟨v0, rfl, hv0⟩, hb⟩
  have hB4 := hB3.trans (hb.mono hB3.size)
  have hbx4 := hbx3.below hb hbx3.lt
  have hin4 := hin2.below hb hin2.lt
  have hlg4 := hlg2.below hb (Nat.le_refl _)
  clear hck hB3 hbx3 hin2 hlg2 hb
  have b0 := hin4.cell (q := 0) rfl
  have b1 := hin4.cell (q := 1) rfl
  have b2 := hin4.cell (q := 2) rfl
  have b3 := hin4.cell (q := 3) rfl
  have hck := Reached_top (some ⟨g1, 0, none⟩) (some ⟨g2, 0, none⟩) (some ⟨g3, 0, none⟩) c1 c2 c3 g p _ hlg4.row hg htc hnc (hE.sents.below hB4 (Nat.le_refl _))
  go_wp2_with fail
  refine hck.mono ?_
  rintro e w4 ⟨⟨v1, rfl, hv1⟩, hb⟩
  have hB5 := hB4.trans (hb.mono hB4.size)
  have hbx5 := hbx4.below hb hbx4.lt
  have hin5 := hin4.below hb hin4.lt
  have hlg5 := hlg4.below hb (Nat.le_refl _)
  replace hv0 := hv0.below hb (Nat.le_refl _)
  clear hck hB4 hbx4 hin4 hlg4 hb b0 b1 b2 b3
  have b0 := hin5.cell (q := 0) rfl
  have b1 := hin5.cell (q := 1) rfl
  have b2 := hin5.cell (q := 2) rfl
  have b3 := hin5.cell (q := 3) rfl
  have hck := Useful_top (some ⟨g1, 0, none⟩) (some ⟨g2, 0, none⟩) (some ⟨g3, 0, none⟩) c1 c2 c3 g p _ hlg5.row hg htc hnc (fun h => by cases h) (hE.sents.below hB5 (Nat.le_refl _))
  go_wp2_with fail
  refine hck.mono ?_
  rintro e w5 ⟨⟨v2, rfl, hv2⟩, hb⟩
  have hB6 := hB5.trans (hb.mono hB5.size)
  have hbx6 := hbx5.below hb hbx5.lt
  have hin6 := hin5.below hb hin5.lt
  have hlg6 := hlg5.below hb (Nat.le_refl _)
  replace hv0 := hv0.below hb (Nat.le_refl _)
  replace hv1 := hv1.below hb (Nat.le_refl _)
  clear hck hB5 hbx5 hin5 hlg5 hb b0 b1 b2 b3
  have a0 := hbx6.cell (q := 0) rfl
  have a1 := hbx6.cell (q := 1) rfl
  have a2 := hbx6.cell (q := 2) rfl
  have a3 := hbx6.cell (q := 3) rfl
  have hrs := rsets_any ta na ra tc nc rc g 0 _ (hG.below hB6 (Nat.le_refl _)) hg (by omega)
  go_wp2_with fail
  refine hrs.mono ?_
  rintro e w6 ⟨rfl, hb⟩
  have hB7 := hB6.trans (hb.mono hB6.size)
  have hbx7 := hbx6.below hb hbx6.lt
  have hin7 := hin6.below hb hin6.lt
  have hlg7 := hlg6.below hb (Nat.le_refl _)
  replace hv0 := hv0.below hb (Nat.le_refl _)
  replace hv1 := hv1.below hb (Nat.le_refl _)
  replace hv2 := hv2.below hb (Nat.le_refl _)
  clear hrs hB6 hbx6 hin6 hlg6 hb a0 a1 a2 a3
  have a0 := hbx7.cell (q := 0) rfl
  have a1 := hbx7.cell (q := 1) rfl
  have a2 := hbx7.cell (q := 2) rfl
  have a3 := hbx7.cell (q := 3) rfl
  have hrs := rsets_any ta na ra tc nc rc g 1 _ (hG.below hB7 (Nat.le_refl _)) hg (by omega)
  go_wp2_with fail
  refine hrs.mono ?_
  rintro e w7 ⟨rfl, hb⟩
  have hB8 := hB7.trans (hb.mono hB7.size)
  have hbx8 := hbx7.below hb hbx7.lt
  have hin8 := hin7.below hb hin7.lt
  have hlg8 := hlg7.below hb (Nat.le_refl _)
  replace hv0 := hv0.below hb (Nat.le_refl _)
  replace hv1 := hv1.below hb (Nat.le_refl _)
  replace hv2 := hv2.below hb (Nat.le_refl _)
  clear hrs hB7 hbx7 hin7 hlg7 hb a0 a1 a2 a3
  have a0 := hbx8.cell (q := 0) rfl
  have a1 := hbx8.cell (q := 1) rfl
  have a2 := hbx8.cell (q := 2) rfl
  have a3 := hbx8.cell (q := 3) rfl
  have hrs := rsets_any ta na ra tc nc rc g 2 _ (hG.below hB8 (Nat.le_refl _)) hg (by omega)
  go_wp2_with fail
  refine hrs.mono ?_
  rintro e w8 ⟨rfl, hb⟩
  have hB9 := hB8.trans (hb.mono hB8.size)
  have hbx9 := hbx8.below hb hbx8.lt
  have hin9 := hin8.below hb hin8.lt
  have hlg9 := hlg8.below hb (Nat.le_refl _)
  replace hv0 := hv0.below hb (Nat.le_refl _)
  replace hv1 := hv1.below hb (Nat.le_refl _)
  replace hv2 := hv2.below hb (Nat.le_refl _)
  clear hrs hB8 hbx8 hin8 hlg8 hb a0 a1 a2 a3
  have e0 : (okI g (prodI g) == setsI g 0) = true := by simp [setsI]
  have e1 : (okI g (reachI g) == setsI g 1) = true := by simp [setsI]
  have e2 : (okI g (usefulI g) == setsI g 2) = true := by simp [setsI]
  have ez : (((checkG g).1 : Int) == ((checkG g).1 : Int)) = true := by simp
  have hkk := kind_ck _ p (checkG g) w8 v0 (hE.below hB9 (Nat.le_refl _)) (check_le g) hv0
  go_wp2_with fail
  refine hkk.mono ?_
  rintro e w9 ⟨rfl, hb⟩
  have hB10 := hB9.trans (hb.mono hB9.size)
  have hbx10 := hbx9.below hb hbx9.lt
  have hin10 := hin9.below hb hin9.lt
  have hlg10 := hlg9.below hb (Nat.le_refl _)
  replace hv0 := hv0.below hb (Nat.le_refl _)
  replace hv1 := hv1.below hb (Nat.le_refl _)
  replace hv2 := hv2.below hb (Nat.le_refl _)
  clear hkk hB9 hbx9 hin9 hlg9 hb
  have hkk := kind_ck _ p (checkG g) w9 v1 (hE.below hB10 (Nat.le_refl _)) (check_le g) hv1
  go_wp2_with fail
  refine hkk.mono ?_
  rintro e w10 ⟨rfl, hb⟩
  have hB11 := hB10.trans (hb.mono hB10.size)
  have hbx11 := hbx10.below hb hbx10.lt
  have hin11 := hin10.below hb hin10.lt
  have hlg11 := hlg10.below hb (Nat.le_refl _)
  replace hv0 := hv0.below hb (Nat.le_refl _)
  replace hv1 := hv1.below hb (Nat.le_refl _)
  replace hv2 := hv2.below hb (Nat.le_refl _)
  clear hkk hB10 hbx10 hin10 hlg10 hb
  have hkk := kind_ck _ p (checkG g) w10 v2 (hE.below hB11 (Nat.le_refl _)) (check_le g) hv2
  go_wp2_with fail
  refine hkk.mono ?_
  rintro e w11 ⟨rfl, hb⟩
  have hB12 := hB11.trans (hb.mono hB11.size)
  have hbx12 := hbx11.below hb hbx11.lt
  have hin12 := hin11.below hb hin11.lt
  have hlg12 := hlg11.below hb (Nat.le_refl _)
  replace hv0 := hv0.below hb (Nat.le_refl _)
  replace hv1 := hv1.below hb (Nat.le_refl _)
  replace hv2 := hv2.below hb (Nat.le_refl _)
  clear hkk hB11 hbx11 hin11 hlg11 hb
  have a0 := hbx12.cell (q := 0) rfl
  have a1 := hbx12.cell (q := 1) rfl
  have a2 := hbx12.cell (q := 2) rfl
  have a3 := hbx12.cell (q := 3) rfl
  have b0 := hin12.cell (q := 0) rfl
  have b1 := hin12.cell (q := 1) rfl
  have b2 := hin12.cell (q := 2) rfl
  have b3 := hin12.cell (q := 3) rfl
  have hkept := keptG g1 c1 g2 c2 g3 c3 lq ta na ra tc nc rc g w11 hlg12 (hG.below hB12 (Nat.le_refl _)) hg
  go_wp2_with fail
  refine hkept.mono ?_
  rintro e w12 ⟨rfl, hb⟩
  have hBe := hB12.trans (hb.mono hB12.size)
  go_wp2
  go_ret
  exact ⟨rfl, hBe⟩

end Go.Proofs.YtjmodcpeggafhaaDoor.UsefulSetsW
