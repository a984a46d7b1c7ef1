/-
  Texts that stand together: SpecReadsX.
-/
import Derived.Test.YtjblkgephboajaaGreatDoorBagSpecPlc
namespace Go.Proofs.YtjblkgephboajaaGreatDoor.SpecRdW
open GramLess Go.RowKit Go.Maps Go.WideMaps GramMath GramRow GramOne GramApart GramCopy LineMath SpecLn SpecMd SpecTx SpecRun SpecMem GramAll SpecRb
set_option linter.unusedVariables false
set_option linter.unusedSimpArgs false

set_option maxRecDepth 100000 in
set_option maxHeartbeats 16000000 in
theorem walkR (l : List UInt8) (p : Nat → Addr) (w : World) (hl : l.length ≤ 1048576) (h : St4 w p) :
    Calls Tryz.prog 3 #[.string ⟨l.toArray⟩] w fun e w' => e = .returned (.bool true) ∧ Below w.heap.size w w' := by
  have hshort := short_split l (by omega)
  obtain ⟨hok, hrr, hpl⟩ := fitsZ hl
  have hsm : Hid (kZ (sidesZ l) = 0 → (SpecLw.gZ (sidesZ l)).ts.length ≤ 60 ∧ (SpecLw.gZ (sidesZ l)).ns.length ≤ 60 ∧ (SpecLw.gZ (sidesZ l)).rs.length ≤ 120 ∧ (plZ (sidesZ l)).length ≤ 120) := smallZ
  have rds := fun W hW => read_st l p W (by omega) hshort hW
  have rpl := fun (W : World) (hW : St4 W p) => places_any l p W (by omega) hshort hW.syn hW.errs.sents hW.type
  have rrd := fun W => rread4_any l W hl
  have rrp := fun W => rplaces_any l W hl
  have eqg := GramSame.eqG_refl (SpecLw.gZ (sidesZ l))
  obtain ⟨z, hz⟩ : ∃ z, sidesZ l = z := ⟨_, rfl⟩
  rw [hz] at hok hrr hpl hsm rds rpl rrd rrp eqg
  obtain ⟨g, hg⟩ : ∃ g, SpecLw.gZ z = g := ⟨_, rfl⟩
  obtain ⟨xs, hxs⟩ : ∃ xs, plZ z = xs := ⟨_, rfl⟩
  obtain ⟨kz, hkz⟩ : ∃ kz, (kZ z : Int) = kz := ⟨_, rfl⟩
  obtain ⟨qz, hqz⟩ : ∃ qz, pZ z = qz := ⟨_, rfl⟩
  obtain ⟨rz, hrz⟩ : ∃ rz, rZ z = rz := ⟨_, rfl⟩
  have HZ : Hid (SpecLw.gZ z = g ∧ plZ z = xs ∧ (kZ z : Int) = kz ∧ pZ z = qz ∧ rZ z = rz) := ⟨hg, hxs, hkz, hqz, hrz⟩
  clear hz hg hxs hkz hqz hrz
  go_enter Tryz.func3, Tryz.ntmps3
  go_wp2_with fail
  refine (rds w h).mono ?_
  rintro e w1 ⟨hr, hb⟩
  obtain ⟨ta, na, ra, tc, nc, rc, v1, he, G1, V1⟩ := read_ga hr
  rw [HZ.out.1] at he G1
  subst he
  have hB := hb
  have S := h.below hb
  clear hr hb
  obtain ⟨Y1, hV⟩ : ∃ Y1, Y1 = w1.alloc (.cells #[.slice ta g.ts.length tc, .slice na g.ns.length nc, .int .i64 g.ax, .slice ra g.rs.length rc] 25) := ⟨_, rfl⟩
  have HY1 : Hid (_) := hV
  have hb : Below w1.heap.size w1 Y1 := by rw [hV]; exact (Below.refl _ _).alloc (Nat.le_refl _) _
  have RB1 : RowAt Y1 w1.heap.size 25 #[.slice ta g.ts.length tc, .slice na g.ns.length nc, .int .i64 g.ax, .slice ra g.rs.length rc] := by rw [hV]; exact World.alloc_heap_new w1 _
  have hbs1 := hb.size
  replace S := S.below hb
  replace G1 := G1.below hb
  replace V1 := V1.below hb
  replace hB := hB.trans (hb.mono hB.size)
  clear hb hV
  replace G1 := G1.up hbs1
  have hsY1 := hB.size
  go_wp2_with (rw [← HY1.out])
  refine (rds Y1 S).mono ?_
  rintro e w2 ⟨hr, hb⟩
  replace S := S.below hb
  replace G1 := G1.below hb
  replace V1 := V1.below hb
  replace RB1 := RB1.below hb RB1.lt
  replace hB := hB.trans (hb.mono hB.size)
  obtain ⟨tb, nb, rb, td, nd, rd, v2, he, G2, V2⟩ := read_ga hr
  rw [HZ.out.1] at he G2
  subst he
  have hs12 := hb.size
  have hs01 := hB.size
  clear hr hb
  obtain ⟨Y2, hV⟩ : ∃ Y2, Y2 = w2.alloc (.cells #[.slice tb g.ts.length td, .slice nb g.ns.length nd, .int .i64 g.ax, .slice rb g.rs.length rd] 25) := ⟨_, rfl⟩
  have HY2 : Hid (_) := hV
  have hb : Below w2.heap.size w2 Y2 := by rw [hV]; exact (Below.refl _ _).alloc (Nat.le_refl _) _
  have RB2 : RowAt Y2 w2.heap.size 25 #[.slice tb g.ts.length td, .slice nb g.ns.length nd, .int .i64 g.ax, .slice rb g.rs.length rd] := by rw [hV]; exact World.alloc_heap_new w2 _
  have hbs2 := hb.size
  replace S := S.below hb
  replace G1 := G1.below hb
  replace V1 := V1.below hb
  replace RB1 := RB1.below hb RB1.lt
  replace G2 := G2.below hb
  replace V2 := V2.below hb
  replace hB := hB.trans (hb.mono hB.size)
  clear hb hV
  replace G2 := G2.up hbs2
  have hB2 := Below.refl Y2.heap.size Y2
  go_wp2_with (rw [← HY2.out])
  refine (rrd Y2).mono ?_
  rintro e w3 ⟨⟨tw, nw, rw0, tcw, ncw, rcw, he, GW⟩, hb⟩
  replace S := S.below hb
  replace G1 := G1.below hb
  replace V1 := V1.below hb
  replace RB1 := RB1.below hb RB1.lt
  replace G2 := G2.below hb
  replace V2 := V2.below hb
  replace RB2 := RB2.below hb RB2.lt
  replace hB2 := hB2.trans (hb.mono hB2.size)
  replace hB := hB.trans (hb.mono hB.size)
  rw [HZ.out.1, HZ.out.2.2.1, HZ.out.2.2.2.1, HZ.out.2.2.2.2] at he
  rw [HZ.out.1] at GW
  subst he
  clear hb
  obtain ⟨Y3, hV⟩ : ∃ Y3, Y3 = w3.alloc (.cells #[.slice tw g.ts.length tcw, .slice nw g.ns.length ncw, .int .i64 g.ax, .slice rw0 g.rs.length rcw] 25) := ⟨_, rfl⟩
  have HY3 : Hid (_) := hV
  have hb : Below w3.heap.size w3 Y3 := by rw [hV]; exact (Below.refl _ _).alloc (Nat.le_refl _) _
  have RB3 : RowAt Y3 w3.heap.size 25 #[.slice tw g.ts.length tcw, .slice nw g.ns.length ncw, .int .i64 g.ax, .slice rw0 g.rs.length rcw] := by rw [hV]; exact World.alloc_heap_new w3 _
  have hbs3 := hb.size
  replace S := S.below hb
  replace G1 := G1.below hb
  replace V1 := V1.below hb
  replace RB1 := RB1.below hb RB1.lt
  replace G2 := G2.below hb
  replace V2 := V2.below hb
  replace RB2 := RB2.below hb RB2.lt
  replace hB2 := hB2.trans (hb.mono hB2.size)
  replace GW := GW.below hb (Nat.le_refl _)
  replace hB := hB.trans (hb.mono hB.size)
  clear hb hV
  rw [HZ.out.1] at eqg hok hrr
  have hc := kind_any S.errs V1
  try rw [HZ.out.2.2.1] at hc
  try rw [HZ.out.2.2.2.1] at hc
  try rw [HZ.out.2.2.2.2] at hc
  try rw [eqg] at hc
  have c10 := RB1.cell (q := 0) rfl
  have c11 := RB1.cell (q := 1) rfl
  have c12 := RB1.cell (q := 2) rfl
  have c13 := RB1.cell (q := 3) rfl
  have c20 := RB2.cell (q := 0) rfl
  have c21 := RB2.cell (q := 1) rfl
  have c22 := RB2.cell (q := 2) rfl
  have c23 := RB2.cell (q := 3) rfl
  have c30 := RB3.cell (q := 0) rfl
  have c31 := RB3.cell (q := 1) rfl
  have c32 := RB3.cell (q := 2) rfl
  have c33 := RB3.cell (q := 3) rfl
  go_wp2_with (rw [← HY3.out])
  clear c10 c11 c12 c13 c20 c21 c22 c23 c30 c31 c32 c33
  refine hc.mono ?_
  rintro e w4 ⟨rfl, hb⟩
  clear hc
  replace S := S.below hb
  replace G1 := G1.below hb
  replace V1 := V1.below hb
  replace RB1 := RB1.below hb RB1.lt
  replace G2 := G2.below hb
  replace V2 := V2.below hb
  replace RB2 := RB2.below hb RB2.lt
  replace hB2 := hB2.trans (hb.mono hB2.size)
  replace GW := GW.below hb (Nat.le_refl _)
  replace RB3 := RB3.below hb RB3.lt
  replace hB := hB.trans (hb.mono hB.size)
  clear hb
  have hc := place_any S.type V1
  try rw [HZ.out.2.2.1] at hc
  try rw [HZ.out.2.2.2.1] at hc
  try rw [HZ.out.2.2.2.2] at hc
  try rw [eqg] at hc
  have c10 := RB1.cell (q := 0) rfl
  have c11 := RB1.cell (q := 1) rfl
  have c12 := RB1.cell (q := 2) rfl
  have c13 := RB1.cell (q := 3) rfl
  have c20 := RB2.cell (q := 0) rfl
  have c21 := RB2.cell (q := 1) rfl
  have c22 := RB2.cell (q := 2) rfl
  have c23 := RB2.cell (q := 3) rfl
  have c30 := RB3.cell (q := 0) rfl
  have c31 := RB3.cell (q := 1) rfl
  have c32 := RB3.cell (q := 2) rfl
  have c33 := RB3.cell (q := 3) rfl
  go_wp2_with fail
  clear c10 c11 c12 c13 c20 c21 c22 c23 c30 c31 c32 c33
  refine hc.mono ?_
  rintro e w5 ⟨rfl, hb⟩
  clear hc
  replace S := S.below hb
  replace G1 := G1.below hb
  replace V1 := V1.below hb
  replace RB1 := RB1.below hb RB1.lt
  replace G2 := G2.below hb
  replace V2 := V2.below hb
  replace RB2 := RB2.below hb RB2.lt
  replace hB2 := hB2.trans (hb.mono hB2.size)
  replace GW := GW.below hb (Nat.le_refl _)
  replace RB3 := RB3.below hb RB3.lt
  replace hB := hB.trans (hb.mono hB.size)
  clear hb
  have hc := rule_any S.type V1
  try rw [HZ.out.2.2.1] at hc
  try rw [HZ.out.2.2.2.1] at hc
  try rw [HZ.out.2.2.2.2] at hc
  try rw [eqg] at hc
  have c10 := RB1.cell (q := 0) rfl
  have c11 := RB1.cell (q := 1) rfl
  have c12 := RB1.cell (q := 2) rfl
  have c13 := RB1.cell (q := 3) rfl
  have c20 := RB2.cell (q := 0) rfl
  have c21 := RB2.cell (q := 1) rfl
  have c22 := RB2.cell (q := 2) rfl
  have c23 := RB2.cell (q := 3) rfl
  have c30 := RB3.cell (q := 0) rfl
  have c31 := RB3.cell (q := 1) rfl
  have c32 := RB3.cell (q := 2) rfl
  have c33 := RB3.cell (q := 3) rfl
  go_wp2_with fail
  clear c10 c11 c12 c13 c20 c21 c22 c23 c30 c31 c32 c33
  refine hc.mono ?_
  rintro e w6 ⟨rfl, hb⟩
  clear hc
  replace S := S.below hb
  replace G1 := G1.below hb
  replace V1 := V1.below hb
  replace RB1 := RB1.below hb RB1.lt
  replace G2 := G2.below hb
  replace V2 := V2.below hb
  replace RB2 := RB2.below hb RB2.lt
  replace hB2 := hB2.trans (hb.mono hB2.size)
  replace GW := GW.below hb (Nat.le_refl _)
  replace RB3 := RB3.below hb RB3.lt
  replace hB := hB.trans (hb.mono hB.size)
  clear hb
  have hc := kind_any S.errs V2
  try rw [HZ.out.2.2.1] at hc
  try rw [HZ.out.2.2.2.1] at hc
  try rw [HZ.out.2.2.2.2] at hc
  try rw [eqg] at hc
  have c10 := RB1.cell (q := 0) rfl
  have c11 := RB1.cell (q := 1) rfl
  have c12 := RB1.cell (q := 2) rfl
  have c13 := RB1.cell (q := 3) rfl
  have c20 := RB2.cell (q := 0) rfl
  have c21 := RB2.cell (q := 1) rfl
  have c22 := RB2.cell (q := 2) rfl
  have c23 := RB2.cell (q := 3) rfl
  have c30 := RB3.cell (q := 0) rfl
  have c31 := RB3.cell (q := 1) rfl
  have c32 := RB3.cell (q := 2) rfl
  have c33 := RB3.cell (q := 3) rfl
  go_wp2_with fail
  clear c10 c11 c12 c13 c20 c21 c22 c23 c30 c31 c32 c33
  refine hc.mono ?_
  rintro e w7 ⟨rfl, hb⟩
  clear hc
  replace S := S.below hb
  replace G1 := G1.below hb
  replace V1 := V1.below hb
  replace RB1 := RB1.below hb RB1.lt
  replace G2 := G2.below hb
  replace V2 := V2.below hb
  replace RB2 := RB2.below hb RB2.lt
  replace hB2 := hB2.trans (hb.mono hB2.size)
  replace GW := GW.below hb (Nat.le_refl _)
  replace RB3 := RB3.below hb RB3.lt
  replace hB := hB.trans (hb.mono hB.size)
  clear hb
  have hc := GramSame.grammar_any ta na ra tw nw rw0 tc nc rc tcw ncw rcw g g _ G1.row GW hok hok
  try rw [HZ.out.2.2.1] at hc
  try rw [HZ.out.2.2.2.1] at hc
  try rw [HZ.out.2.2.2.2] at hc
  try rw [eqg] at hc
  have c10 := RB1.cell (q := 0) rfl
  have c11 := RB1.cell (q := 1) rfl
  have c12 := RB1.cell (q := 2) rfl
  have c13 := RB1.cell (q := 3) rfl
  have c20 := RB2.cell (q := 0) rfl
  have c21 := RB2.cell (q := 1) rfl
  have c22 := RB2.cell (q := 2) rfl
  have c23 := RB2.cell (q := 3) rfl
  have c30 := RB3.cell (q := 0) rfl
  have c31 := RB3.cell (q := 1) rfl
  have c32 := RB3.cell (q := 2) rfl
  have c33 := RB3.cell (q := 3) rfl
  go_wp2_with fail
  clear c10 c11 c12 c13 c20 c21 c22 c23 c30 c31 c32 c33
  refine hc.mono ?_
  rintro e w8 ⟨rfl, hb⟩
  clear hc
  replace S := S.below hb
  replace G1 := G1.below hb
  replace V1 := V1.below hb
  replace RB1 := RB1.below hb RB1.lt
  replace G2 := G2.below hb
  replace V2 := V2.below hb
  replace RB2 := RB2.below hb RB2.lt
  replace hB2 := hB2.trans (hb.mono hB2.size)
  replace GW := GW.below hb (Nat.le_refl _)
  replace RB3 := RB3.below hb RB3.lt
  replace hB := hB.trans (hb.mono hB.size)
  clear hb
  have hc := GramSame.grammar_any tb nb rb tw nw rw0 td nd rd tcw ncw rcw g g _ G2.row GW hok hok
  try rw [HZ.out.2.2.1] at hc
  try rw [HZ.out.2.2.2.1] at hc
  try rw [HZ.out.2.2.2.2] at hc
  try rw [eqg] at hc
  have c10 := RB1.cell (q := 0) rfl
  have c11 := RB1.cell (q := 1) rfl
  have c12 := RB1.cell (q := 2) rfl
  have c13 := RB1.cell (q := 3) rfl
  have c20 := RB2.cell (q := 0) rfl
  have c21 := RB2.cell (q := 1) rfl
  have c22 := RB2.cell (q := 2) rfl
  have c23 := RB2.cell (q := 3) rfl
  have c30 := RB3.cell (q := 0) rfl
  have c31 := RB3.cell (q := 1) rfl
  have c32 := RB3.cell (q := 2) rfl
  have c33 := RB3.cell (q := 3) rfl
  go_wp2_with fail
  clear c10 c11 c12 c13 c20 c21 c22 c23 c30 c31 c32 c33
  refine hc.mono ?_
  rintro e w9 ⟨rfl, hb⟩
  clear hc
  replace S := S.below hb
  replace G1 := G1.below hb
  replace V1 := V1.below hb
  replace RB1 := RB1.below hb RB1.lt
  replace G2 := G2.below hb
  replace V2 := V2.below hb
  replace RB2 := RB2.below hb RB2.lt
  replace hB2 := hB2.trans (hb.mono hB2.size)
  replace GW := GW.below hb (Nat.le_refl _)
  replace RB3 := RB3.below hb RB3.lt
  replace hB := hB.trans (hb.mono hB.size)
  clear hb
  clear V1 V2 GW
  have hsQ := hB2.size
  go_wp2_with fail
  refine (rpl _ S).mono ?_
  rintro e w10 ⟨hr, hb⟩
  replace S := S.below hb
  replace G1 := G1.below hb
  replace RB1 := RB1.below hb RB1.lt
  replace G2 := G2.below hb
  replace RB2 := RB2.below hb RB2.lt
  replace hB2 := hB2.trans (hb.mono hB2.size)
  replace RB3 := RB3.below hb RB3.lt
  replace hB := hB.trans (hb.mono hB.size)
  have hsP := hb.size
  obtain ⟨la, lc, v3, he, A1, V3⟩ := places_pa hr
  rw [HZ.out.2.1] at he A1
  subst he
  clear hr hb
  go_wp2_with fail
  refine (rpl _ S).mono ?_
  rintro e w11 ⟨hr, hb⟩
  have hsA := hb.size
  replace S := S.below hb
  replace G1 := G1.below hb
  replace RB1 := RB1.below hb RB1.lt
  replace G2 := G2.below hb
  replace RB2 := RB2.below hb RB2.lt
  replace hB2 := hB2.trans (hb.mono hB2.size)
  replace RB3 := RB3.below hb RB3.lt
  replace A1 := A1.below hb
  replace V3 := V3.below hb
  replace hB := hB.trans (hb.mono hB.size)
  have hsR := hB2.size
  have hB3 := Below.refl w11.heap.size w11
  obtain ⟨ma, mc, v4, he, A2, V4⟩ := places_pa hr
  rw [HZ.out.2.1] at he A2
  subst he
  clear hr hb V4
  go_wp2_with fail
  refine (rrp _).mono ?_
  rintro e w12 ⟨⟨av, he, AT⟩, hb⟩
  have hsB := hb.size
  replace S := S.below hb
  replace G1 := G1.below hb
  replace RB1 := RB1.below hb RB1.lt
  replace G2 := G2.below hb
  replace RB2 := RB2.below hb RB2.lt
  replace hB2 := hB2.trans (hb.mono hB2.size)
  replace RB3 := RB3.below hb RB3.lt
  replace A1 := A1.below hb
  replace V3 := V3.below hb
  replace A2 := A2.below hb
  replace hB3 := hB3.trans (hb.mono hB3.size)
  replace hB := hB.trans (hb.mono hB.size)
  rw [HZ.out.2.1] at AT
  obtain ⟨aa, ac, rfl, _⟩ := SpecRb.own_form AT
  have IT : IRow _ aa xs := SpecRb.irow_own AT
  subst he
  clear hb AT
  have hc := kind_any S.errs V3
  try rw [HZ.out.2.2.1] at hc
  try rw [HZ.out.2.2.2.1] at hc
  try rw [HZ.out.2.2.2.2] at hc
  try rw [eqg] at hc
  have c10 := RB1.cell (q := 0) rfl
  have c11 := RB1.cell (q := 1) rfl
  have c12 := RB1.cell (q := 2) rfl
  have c13 := RB1.cell (q := 3) rfl
  have c20 := RB2.cell (q := 0) rfl
  have c21 := RB2.cell (q := 1) rfl
  have c22 := RB2.cell (q := 2) rfl
  have c23 := RB2.cell (q := 3) rfl
  have c30 := RB3.cell (q := 0) rfl
  have c31 := RB3.cell (q := 1) rfl
  have c32 := RB3.cell (q := 2) rfl
  have c33 := RB3.cell (q := 3) rfl
  go_wp2_with fail
  clear c10 c11 c12 c13 c20 c21 c22 c23 c30 c31 c32 c33
  refine hc.mono ?_
  rintro e w13 ⟨rfl, hb⟩
  clear hc
  replace S := S.below hb
  replace G1 := G1.below hb
  replace RB1 := RB1.below hb RB1.lt
  replace G2 := G2.below hb
  replace RB2 := RB2.below hb RB2.lt
  replace hB2 := hB2.trans (hb.mono hB2.size)
  replace RB3 := RB3.below hb RB3.lt
  replace A1 := A1.below hb
  replace V3 := V3.below hb
  replace A2 := A2.below hb
  replace hB3 := hB3.trans (hb.mono hB3.size)
  replace IT := IT.below hb (Nat.le_refl _)
  replace hB := hB.trans (hb.mono hB.size)
  clear hb
  have hc := place_any S.type V3
  try rw [HZ.out.2.2.1] at hc
  try rw [HZ.out.2.2.2.1] at hc
  try rw [HZ.out.2.2.2.2] at hc
  try rw [eqg] at hc
  have c10 := RB1.cell (q := 0) rfl
  have c11 := RB1.cell (q := 1) rfl
  have c12 := RB1.cell (q := 2) rfl
  have c13 := RB1.cell (q := 3) rfl
  have c20 := RB2.cell (q := 0) rfl
  have c21 := RB2.cell (q := 1) rfl
  have c22 := RB2.cell (q := 2) rfl
  have c23 := RB2.cell (q := 3) rfl
  have c30 := RB3.cell (q := 0) rfl
  have c31 := RB3.cell (q := 1) rfl
  have c32 := RB3.cell (q := 2) rfl
  have c33 := RB3.cell (q := 3) rfl
  go_wp2_with fail
  clear c10 c11 c12 c13 c20 c21 c22 c23 c30 c31 c32 c33
  refine hc.mono ?_
  rintro e w14 ⟨rfl, hb⟩
  clear hc
  replace S := S.below hb
  replace G1 := G1.below hb
  replace RB1 := RB1.below hb RB1.lt
  replace G2 := G2.below hb
  replace RB2 := RB2.below hb RB2.lt
  replace hB2 := hB2.trans (hb.mono hB2.size)
  replace RB3 := RB3.below hb RB3.lt
  replace A1 := A1.below hb
  replace V3 := V3.below hb
  replace A2 := A2.below hb
  replace hB3 := hB3.trans (hb.mono hB3.size)
  replace IT := IT.below hb (Nat.le_refl _)
  replace hB := hB.trans (hb.mono hB.size)
  clear hb
  have hc := rule_any S.type V3
  try rw [HZ.out.2.2.1] at hc
  try rw [HZ.out.2.2.2.1] at hc
  try rw [HZ.out.2.2.2.2] at hc
  try rw [eqg] at hc
  have c10 := RB1.cell (q := 0) rfl
  have c11 := RB1.cell (q := 1) rfl
  have c12 := RB1.cell (q := 2) rfl
  have c13 := RB1.cell (q := 3) rfl
  have c20 := RB2.cell (q := 0) rfl
  have c21 := RB2.cell (q := 1) rfl
  have c22 := RB2.cell (q := 2) rfl
  have c23 := RB2.cell (q := 3) rfl
  have c30 := RB3.cell (q := 0) rfl
  have c31 := RB3.cell (q := 1) rfl
  have c32 := RB3.cell (q := 2) rfl
  have c33 := RB3.cell (q := 3) rfl
  go_wp2_with fail
  clear c10 c11 c12 c13 c20 c21 c22 c23 c30 c31 c32 c33
  refine hc.mono ?_
  rintro e w15 ⟨rfl, hb⟩
  clear hc
  replace S := S.below hb
  replace G1 := G1.below hb
  replace RB1 := RB1.below hb RB1.lt
  replace G2 := G2.below hb
  replace RB2 := RB2.below hb RB2.lt
  replace hB2 := hB2.trans (hb.mono hB2.size)
  replace RB3 := RB3.below hb RB3.lt
  replace A1 := A1.below hb
  replace V3 := V3.below hb
  replace A2 := A2.below hb
  replace hB3 := hB3.trans (hb.mono hB3.size)
  replace IT := IT.below hb (Nat.le_refl _)
  replace hB := hB.trans (hb.mono hB.size)
  clear hb
  have eqi : GramSame.eqI xs xs = true := by unfold GramSame.eqI; simp
  rw [HZ.out.2.1] at hpl
  have hc := GramSame.ints_any la aa lc ac xs xs _ A1.row IT (by omega) (by omega)
  rw [eqi] at hc
  go_wp2_with fail
  refine hc.mono ?_
  rintro e w16 ⟨rfl, q, hq⟩
  obtain ⟨hb, hq0⟩ : Below w15.heap.size w15 w16 ∧ True := ⟨by rw [hq]; exact ⟨rfl, rfl, rfl, Nat.le_refl _, fun _ _ => rfl⟩, trivial⟩
  clear hc hq hq0
  replace S := S.below hb
  replace G1 := G1.below hb
  replace RB1 := RB1.below hb RB1.lt
  replace G2 := G2.below hb
  replace RB2 := RB2.below hb RB2.lt
  replace hB2 := hB2.trans (hb.mono hB2.size)
  replace RB3 := RB3.below hb RB3.lt
  replace A1 := A1.below hb
  replace V3 := V3.below hb
  replace A2 := A2.below hb
  replace hB3 := hB3.trans (hb.mono hB3.size)
  replace IT := IT.below hb (Nat.le_refl _)
  replace hB := hB.trans (hb.mono hB.size)
  clear hb
  have hc := GramSame.ints_any ma aa mc ac xs xs _ A2.row IT (by omega) (by omega)
  rw [eqi] at hc
  go_wp2_with fail
  refine hc.mono ?_
  rintro e w17 ⟨rfl, q, hq⟩
  obtain ⟨hb, hq0⟩ : Below w16.heap.size w16 w17 ∧ True := ⟨by rw [hq]; exact ⟨rfl, rfl, rfl, Nat.le_refl _, fun _ _ => rfl⟩, trivial⟩
  clear hc hq hq0
  replace S := S.below hb
  replace G1 := G1.below hb
  replace RB1 := RB1.below hb RB1.lt
  replace G2 := G2.below hb
  replace RB2 := RB2.below hb RB2.lt
  replace hB2 := hB2.trans (hb.mono hB2.size)
  replace RB3 := RB3.below hb RB3.lt
  replace A1 := A1.below hb
  replace V3 := V3.below hb
  replace A2 := A2.below hb
  replace hB3 := hB3.trans (hb.mono hB3.size)
  replace IT := IT.below hb (Nat.le_refl _)
  replace hB := hB.trans (hb.mono hB.size)
  clear hb
  clear V3 IT eqi
  have hs2k := hB2.size
  have hs3k := hB3.size
  have RB1o := RB1
  have RB2o := RB2
  obtain ⟨W1, hW1⟩ : ∃ W1, W1 = w17.alloc (.cells #[.slice ta g.ts.length tc, .slice na g.ns.length nc, .int .i64 g.ax, .slice ra g.rs.length rc, .slice tb g.ts.length td, .slice nb g.ns.length nd, .int .i64 g.ax, .slice rb g.rs.length rd] 25) := ⟨_, rfl⟩
  have HW1 : Hid (_) := hW1
  have hb : Below w17.heap.size w17 W1 := by rw [hW1]; exact (Below.refl _ _).alloc (Nat.le_refl _) _
  have rL : RowAt W1 w17.heap.size 25 #[.slice ta g.ts.length tc, .slice na g.ns.length nc, .int .i64 g.ax, .slice ra g.rs.length rc, .slice tb g.ts.length td, .slice nb g.ns.length nd, .int .i64 g.ax, .slice rb g.rs.length rd] := by rw [hW1]; exact World.alloc_heap_new w17 _
  have hs1k := hb.size
  replace S := S.below hb
  replace G1 := G1.below hb
  replace RB1 := RB1.below hb RB1.lt
  replace G2 := G2.below hb
  replace RB2 := RB2.below hb RB2.lt
  replace hB2 := hB2.trans (hb.mono hB2.size)
  replace RB3 := RB3.below hb RB3.lt
  replace A1 := A1.below hb
  replace A2 := A2.below hb
  replace hB3 := hB3.trans (hb.mono hB3.size)
  replace hB := hB.trans (hb.mono hB.size)
  clear hb hW1
  have hsm2 : kZ z = 0 → g.ts.length ≤ 60 ∧ g.ns.length ≤ 60 ∧ g.rs.length ≤ 120 := fun h0 => by obtain ⟨q1, q2, q3, _⟩ := hsm.out h0; rw [HZ.out.1] at q1 q2 q3; exact ⟨q1, q2, q3⟩
  have hsm3 : kZ z = 0 → xs.length ≤ 120 := fun h0 => by obtain ⟨_, _, _, q⟩ := hsm.out h0; rw [HZ.out.2.1] at q; exact q
  have hgr := grammars_two (c := 2) W1 G1 G2 rL (by omega) (by omega) (by omega) hsm2 hrr
  have hRB1 := RB1
  have c10 := RB1o.cell (q := 0) rfl
  have c11 := RB1o.cell (q := 1) rfl
  have c12 := RB1o.cell (q := 2) rfl
  have c13 := RB1o.cell (q := 3) rfl
  have c20 := RB2o.cell (q := 0) rfl
  have c21 := RB2o.cell (q := 1) rfl
  have c22 := RB2o.cell (q := 2) rfl
  have c23 := RB2o.cell (q := 3) rfl
  go_wp2_with (rw [← HW1.out])
  refine hgr.mono ?_
  rintro e W2 ⟨rfl, hu⟩
  have hs0k := hB.size
  have hsu := hu.size
  have A1u : PA (kZ z = 0) W2 _ _ la lc xs := A1.keep (fun b h1 h2 => hu.block b h2 (fun hh => by have := hh.2; omega))
  have A2u : PA (kZ z = 0) W2 _ _ ma mc xs := A2.keep (fun b h1 h2 => hu.block b h2 (fun hh => by have := hh.2; omega))
  have hB5 : Below w.heap.size w W2 := hB.trans (hu.below (by omega) (fun k hk => hk.1))
  clear hgr hu rL A1 A2 G1 G2 S hB hB2 hsm2 RB1 RB2 RB3 hRB1 RB1o RB2o c10 c11 c12 c13 c20 c21 c22 c23
  obtain ⟨W3, hW3⟩ : ∃ W3, W3 = W2.alloc (.cells #[.slice la xs.length lc, .slice ma xs.length mc] 34) := ⟨_, rfl⟩
  have HW3 : Hid (_) := hW3
  have hb : Below W2.heap.size W2 W3 := by rw [hW3]; exact (Below.refl _ _).alloc (Nat.le_refl _) _
  have rM : RowAt W3 W2.heap.size 34 #[.slice la xs.length lc, .slice ma xs.length mc] := by rw [hW3]; exact World.alloc_heap_new W2 _
  have hs3 := hb.size
  replace A1u := A1u.below hb
  replace A2u := A2u.below hb
  replace hB5 := hB5.trans (hb.mono hB5.size)
  clear hb hW3
  have hgi := ints_two2 (c := 2) W3 A1u A2u rM (by omega) (by omega) (by omega) hsm3
  go_wp2_with (rw [← HW3.out])
  refine hgi.mono ?_
  rintro e W4 ⟨rfl, hb⟩
  have hs5 := hB5.size
  replace hB5 := hB5.trans (hb.mono (by omega))
  clear hb hgi rM A1u A2u
  have haw := awake_any p W4 (h.below hB5)
  go_wp2_with fail
  refine haw.mono ?_
  rintro e W5 ⟨rfl, hb⟩
  replace hB5 := hB5.trans (hb.mono hB5.size)
  clear hb haw
  go_wp2
  go_ret
  exact ⟨rfl, hB5⟩

theorem walkR2 (s : ByteArray) (p : Nat → Addr) (w : World) (hs : s.size ≤ 1048576) (hE : GramErrs.Errs w p) (hT : GramErrs.ErrType w) :
    Calls Tryz.prog 3 #[.string s] w fun e w' => e = .returned (.bool true) ∧ Below w.heap.size w w' := by
  have hl : s.data.toList.length ≤ 1048576 := by rw [WordsOne.list_size]; exact hs
  have h := walkR s.data.toList p w hl ⟨hE, hT⟩
  have e1 : (⟨s.data.toList.toArray⟩ : ByteArray) = s := by cases s; simp
  rw [e1] at h
  exact h

end Go.Proofs.YtjblkgephboajaaGreatDoor.SpecRdW
