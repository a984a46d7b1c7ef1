/-
  Texts that stand together: PrecfunRightW.
-/
import Derived.Test.YtcoepmpgclndiaaGreatDoorBagPrecLeastM
import Derived.Test.YtcoepmpgclndiaaGreatDoorBPrecAwake3
import Derived.Test.YtcoepmpgclndiaaGreatDoorBGraphLent
namespace Go.Proofs.YtcoepmpgclndiaaGreatDoor.PrecfunRightW
open Go.RowKit Go.Proofs.YtcoepmpgclndiaaGreatDoor.GramMath Go.Proofs.YtcoepmpgclndiaaGreatDoor.GramRow Go.Proofs.YtcoepmpgclndiaaGreatDoor.GramCheck Go.Proofs.YtcoepmpgclndiaaGreatDoor.GramErrs Go.Proofs.YtcoepmpgclndiaaGreatDoor.GramApart Go.Proofs.YtcoepmpgclndiaaGreatDoor.GramLess Go.Proofs.YtcoepmpgclndiaaGreatDoor.OpRow Go.Proofs.YtcoepmpgclndiaaGreatDoor.EndsMath Go.Proofs.YtcoepmpgclndiaaGreatDoor.EndsFn Go.Proofs.YtcoepmpgclndiaaGreatDoor.GramOpen Go.Proofs.YtcoepmpgclndiaaGreatDoor.SetsAlg Go.Proofs.YtcoepmpgclndiaaGreatDoor.MatrixMath Go.Proofs.YtcoepmpgclndiaaGreatDoor.MatrixPut Go.Proofs.YtcoepmpgclndiaaGreatDoor.MatrixOf Go.Proofs.YtcoepmpgclndiaaGreatDoor.MatrixClash Go.Proofs.YtcoepmpgclndiaaGreatDoor.GraphMath Go.Proofs.YtcoepmpgclndiaaGreatDoor.GraphNet Go.Proofs.YtcoepmpgclndiaaGreatDoor.PrecFn Go.Proofs.YtcoepmpgclndiaaGreatDoor.PrecAwake Go.Proofs.YtcoepmpgclndiaaGreatDoor.PrecKind
set_option linter.unusedVariables false
set_option linter.unusedSimpArgs false

set_option maxRecDepth 100000 in
set_option maxHeartbeats 16000000 in
theorem walk (ta na ra : Option Addr) (tc nc rc : Nat) (g : G) (xa ya : Option Addr) (xc yc : Nat) (X Y : List Int) (p : Nat → Addr) (w : World) (hG : GRow w ta na ra g) (hcap : Caps w ra g.rs.length) (hg : okG g) (htc : g.ts.length ≤ tc) (hnc : g.ns.length ≤ nc)
    (hX : IRow w xa X) (hX8 : X.length * 8 ≤ 140737488351232) (hY : IRow w ya Y) (hY8 : Y.length * 8 ≤ 140737488351232)
    (hE : Errs w p) (hT : Tab w) (hTG : 16 < w.heap.size) :
    Calls Tryz.prog 4 #[.agg #[.slice ta g.ts.length tc, .slice na g.ns.length nc, .int .i64 g.ax, .slice ra g.rs.length rc], .slice xa X.length xc, .slice ya Y.length yc] w fun e w' => e = .returned (.bool true) ∧ Below w.heap.size w w' := by
  have hneq := neq_nil
  have q0 := eqp_none
  have hB : Below w.heap.size w (w.alloc (.cells #[.slice ta g.ts.length tc, .slice na g.ns.length nc, .int .i64 g.ax, .slice ra g.rs.length rc] 30)) := (Below.refl _ _).alloc (Nat.le_refl _) _
  have hbx : RowAt (w.alloc (.cells #[.slice ta g.ts.length tc, .slice na g.ns.length nc, .int .i64 g.ax, .slice ra g.rs.length rc] 30)) w.heap.size 30 #[.slice ta g.ts.length tc, .slice na g.ns.length nc, .int .i64 g.ax, .slice ra g.rs.length rc] := heap_new _ _
  have hof := MOf_top ta na ra tc nc rc g p _ (hG.below hB (Nat.le_refl _)) (caps_below hG.2.2 hcap hB (Nat.le_refl _)) hg htc hnc (hE.sents.below hB (Nat.le_refl _)) (SetsEach.Tab.from hT hB hTG) (by simp; omega)
  have HE : Hid (Errs w p ∧ Tab w) := ⟨hE, hT⟩
  have HX : Hid (IRow w xa X ∧ X.length * 8 ≤ 140737488351232) := ⟨hX, hX8⟩
  have HY : Hid (IRow w ya Y ∧ Y.length * 8 ≤ 140737488351232) := ⟨hY, hY8⟩
  clear hG hcap hg hE hT htc hnc hX hX8 hY hY8
  have g0 := hbx.cell (q := 0) rfl
  have g1 := hbx.cell (q := 1) rfl
  have g2 := hbx.cell (q := 2) rfl
  have g3 := hbx.cell (q := 3) rfl
  go_enter Tryz.func4, Tryz.ntmps4
  go_wp2_with fail
  refine hof.mono ?_
  rintro e w1 ⟨⟨u, y, rfl, hO, hy⟩, hb⟩
  replace hB := hB.trans (hb.mono hB.size)
  clear hof hb g0 g1 g2 g3 hbx
  have haw := awake_any p w1 (HE.out.1.below hB (Nat.le_refl _)) (SetsEach.Tab.from HE.out.2 hB hTG) (Nat.lt_of_lt_of_le hTG hB.size)
  rcases hO with ⟨h0, M, S, rfl, hMg, hm, him⟩ | ⟨h0, rfl⟩
  · obtain rfl := ck_nil hy h0
    have hgood := good_of h0
    have hfew := hgood.few
    have hax0 := hgood.ax0
    have hax1 := hgood.ax1
    obtain ⟨t, ht⟩ : ∃ t, t = g.ts.length + 1 := ⟨_, rfl⟩
    have ht60 : t ≤ 60 := by omega
    have HT : Hid (Tame t S) := by rw [ht]; exact tame_of hgood him
    rw [← ht] at hm
    clear hy hgood hfew hax0 hax1 h0 him ht hMg
    go_wp2_with fail
    refine haw.mono ?_
    rintro e w2 ⟨rfl, hb⟩
    replace hB := hB.trans (hb.mono hB.size)
    replace hm := hm.below hb hm.lt
    clear haw hb
    have HM : Hid (MatAt w2 M (t : Int) S) := hm
    have hof := of_any (some ⟨M, 0, none⟩) t S p w2 (.inr ⟨M, rfl, hm⟩) ht60 HT.out (HE.out.1.below hB (Nat.le_refl _))
    clear hm
    go_wp2_with fail
    refine hof.mono ?_
    rintro e w3 ⟨v, rfl, hF, hb⟩
    replace hB := hB.trans (hb.mono hB.size)
    replace HM : Hid (MatAt w3 M (t : Int) S) := HM.out.below hb HM.out.lt
    clear hof hb
    rcases hF with ⟨h, _⟩ | ⟨_, x, l, ev, hc, rfl, pb, hpb, rfl, hpr⟩ | ⟨_, hc, g, ca, cc, hr, rfl, hg, hrow, hown⟩ | ⟨_, hc, g, gf, gg, hr, rfl, hg, h1, h2, r1, r2, r3⟩
    · cases h
    · have HP : Hid (w3.heap[pb]? = some (.cells #[.int .i64 x.a, .int .i64 x.b, .int .i64 x.f, .int .i64 x.s, .iface 206 (.pointer (some (p 5)))] 68 (0, 0))) := hpr
      have hplt : pb < w3.heap.size := by
        apply Nat.lt_of_not_le
        intro hc
        rw [Array.getElem?_eq_none hc] at hpr
        cases hpr
      clear hpr hpb
      obtain ⟨W4, hW4⟩ : ∃ W4, W4 = w3.alloc (.cells #[.slice none 0 0, .slice none 0 0, .slice none 0 0, .slice none 0 0] 42) := ⟨_, rfl⟩
      have hb4 : Below w3.heap.size w3 W4 := by rw [hW4]; exact (Below.refl _ _).alloc (Nat.le_refl _) _
      have hrx : RowAt W4 w3.heap.size 42 #[.slice none 0 0, .slice none 0 0, .slice none 0 0, .slice none 0 0] := by rw [hW4]; exact heap_new _ _
      have hcl := clashF_v (some ⟨M, 0, none⟩) t S W4 ht60 (.inr ⟨M, rfl, HM.out.below hb4 HM.out.lt⟩)
      have HC : Hid (clL t S = x :: l) := hc
      rw [HC.out] at hcl
      rw [hW4] at hcl
      have HW4 : Hid (W4 = w3.alloc (.cells #[.slice none 0 0, .slice none 0 0, .slice none 0 0, .slice none 0 0] 42)) := hW4
      have HRX : Hid (RowAt W4 w3.heap.size 42 #[.slice none 0 0, .slice none 0 0, .slice none 0 0, .slice none 0 0]) := hrx
      clear hW4 hrx hc
      go_wp2_with fail
      refine hcl.mono ?_
      rw [← HW4.out]
      rintro e w5 ⟨rfl, hb5⟩
      unfold clashO
      obtain ⟨W6, hW6⟩ : ∃ W6, W6 = w5.alloc (.cells #[.int .i64 x.a, .int .i64 x.b, .int .i64 x.f, .int .i64 x.s] 50) := ⟨_, rfl⟩
      have hb6 : Below w5.heap.size w5 W6 := by rw [hW6]; exact (Below.refl _ _).alloc (Nat.le_refl _) _
      have HW6 : Hid (W6 = w5.alloc (.cells #[.int .i64 x.a, .int .i64 x.b, .int .i64 x.f, .int .i64 x.s] 50)) := hW6
      have hb36 := (hb4.trans (hb5.mono hb4.size)).trans (hb6.mono (Nat.le_trans hb4.size hb5.size))
      replace hB := hB.trans (hb36.mono hB.size)
      have HRX6 : Hid (RowAt W6 w3.heap.size 42 #[.slice none 0 0, .slice none 0 0, .slice none 0 0, .slice none 0 0]) := by have h1 := HRX.out.below hb5 HRX.out.lt; exact h1.below hb6 h1.lt
      have hft := fits_any (some ⟨M, 0, none⟩) t S xa ya xc yc X Y W6 (.inr ⟨M, rfl, HM.out.below hb36 HM.out.lt⟩) ht60 (HX.out.1.below hB (Nat.le_refl _)) (HY.out.1.below hB (Nat.le_refl _))
      have HM6 : Hid (MatAt W6 M (t : Int) S) := HM.out.below hb36 HM.out.lt
      rw [hW6] at hft
      have HB36 : Hid (Below w3.heap.size w3 W6) := hb36
      clear hW6 hcl hb4 hb5 hb6 hb36 HW4 HRX HM
      have hno : fitsB (rY t S) (rQ t S) (rK t S) t X Y = false := by
        cases hh : fitsB (rY t S) (rQ t S) (rK t S) t X Y with
        | false => rfl
        | true => exact ((fits_iff.1 hh).2.2.clash HC.out).elim
      rw [hno] at hft
      unfold Pr.val
      go_wp2_with fail
      refine hft.mono ?_
      rw [← HW6.out]
      rintro e w7 ⟨rfl, n, rfl⟩
      have hbn : Below W6.heap.size W6 (W6.drewN n) := drew_below W6 n
      replace hB := hB.trans (hbn.mono hB.size)
      have hkd := kind_pair p pb x.a x.b x.f x.s (W6.drewN n) (HE.out.1.below hB (Nat.le_refl _)) (by
        have e1 := HB36.out.block pb hplt
        have e2 := hbn.block pb (Nat.lt_of_lt_of_le hplt HB36.out.size)
        rw [e2, e1]
        exact HP.out)
      clear hft hno
      go_wp2_with fail
      refine hkd.mono ?_
      rintro e w8 ⟨rfl, hb⟩
      have hBe := hB.trans (hb.mono hB.size)
      go_wp2
      go_ret
      exact ⟨rfl, hBe⟩
    · obtain ⟨s, L, hRd, hRL, _⟩ := rd_full (edgeL_may ht60 HT.out hc) hr
      have hmay := edgeL_may ht60 HT.out hc
      obtain ⟨m', hm', _, hes, hesr, hEr⟩ := mayE_zero hmay
      obtain rfl : 2 * t = m' := by omega
      obtain ⟨r1, r2, r3, r4, r5⟩ := hRd.nth hEr
      have hno : fitsB (rY t S) (rQ t S) (rK t S) t X Y = false := by
        cases hh : fitsB (rY t S) (rQ t S) (rK t S) t X Y with
        | false => rfl
        | true => exact ((fits_iff.1 hh).2.2.no HT.out hRd.rnd).elim
      have HR0 : Hid (L[0]? = some s) := r3
      have HND : Hid L.Nodup := hRd.nodup
      have HR4 : Hid (∀ (i x : Nat), L[i]? = some x → x < 2 * t ∧ s ≤ x) := r4
      have HR5 : Hid (∀ (i x y : Nat), L[i]? = some x → L[(i + 1) % L.length]? = some y → ((x : Int), (y : Int)) ∈ edS t S) := fun i x y hx hy => mem_of_toE (fun e he => ⟨(hesr e he).1, (hesr e he).2.2.1⟩) (r5 i x y hx hy)
      obtain ⟨ca', cc', hcc, hir⟩ := own_form hown
      cases hcc
      rw [hRL] at hir ⊢
      rw [ints_length]
      have HIR : Hid (IRow w3 ca (ints L)) := hir
      have HC : Hid (clL t S = []) := hc
      clear hr hown hrow hg hRd hRL r3 r4 r5 hesr hEr hm' hir hmay hc
      have hl120 : L.length ≤ 120 := by omega
      obtain ⟨W4, hW4⟩ : ∃ W4, W4 = w3.alloc (.cells #[.slice none 0 0, .slice none 0 0, .slice (some ⟨g, 0, none⟩) (2 * t) (2 * t), .slice ca L.length cc] 42) := ⟨_, rfl⟩
      have hb4 : Below w3.heap.size w3 W4 := by rw [hW4]; exact (Below.refl _ _).alloc (Nat.le_refl _) _
      have hrx : RowAt W4 w3.heap.size 42 #[.slice none 0 0, .slice none 0 0, .slice (some ⟨g, 0, none⟩) (2 * t) (2 * t), .slice ca L.length cc] := by rw [hW4]; exact heap_new _ _
      have hcl := clashF_v (some ⟨M, 0, none⟩) t S W4 ht60 (.inr ⟨M, rfl, HM.out.below hb4 HM.out.lt⟩)
      rw [HC.out] at hcl
      rw [hW4] at hcl
      have HW4 : Hid (W4 = w3.alloc (.cells #[.slice none 0 0, .slice none 0 0, .slice (some ⟨g, 0, none⟩) (2 * t) (2 * t), .slice ca L.length cc] 42)) := hW4
      have HRX : Hid (RowAt W4 w3.heap.size 42 #[.slice none 0 0, .slice none 0 0, .slice (some ⟨g, 0, none⟩) (2 * t) (2 * t), .slice ca L.length cc]) := hrx
      have Hes : Hid ((edS t S).length ≤ 4096) := hes
      have Hno : Hid (fitsB (rY t S) (rQ t S) (rK t S) t X Y = false) := hno
      clear hW4 hrx hes hno r2
      go_wp2_with fail
      refine hcl.mono ?_
      rw [← HW4.out]
      rintro e w5 ⟨rfl, hb5⟩
      unfold clashO
      obtain ⟨W6, hW6⟩ : ∃ W6, W6 = w5.alloc (.cells #[.int .i64 0, .int .i64 0, .int .i64 0, .int .i64 0] 50) := ⟨_, rfl⟩
      have hb6 : Below w5.heap.size w5 W6 := by rw [hW6]; exact (Below.refl _ _).alloc (Nat.le_refl _) _
      have HW6 : Hid (W6 = w5.alloc (.cells #[.int .i64 0, .int .i64 0, .int .i64 0, .int .i64 0] 50)) := hW6
      have hb36 := (hb4.trans (hb5.mono hb4.size)).trans (hb6.mono (Nat.le_trans hb4.size hb5.size))
      replace hB := hB.trans (hb36.mono hB.size)
      have HRX6 : Hid (RowAt W6 w3.heap.size 42 #[.slice none 0 0, .slice none 0 0, .slice (some ⟨g, 0, none⟩) (2 * t) (2 * t), .slice ca L.length cc]) := by have h1 := HRX.out.below hb5 HRX.out.lt; exact h1.below hb6 h1.lt
      have hft := fits_any (some ⟨M, 0, none⟩) t S xa ya xc yc X Y W6 (.inr ⟨M, rfl, HM.out.below hb36 HM.out.lt⟩) ht60 (HX.out.1.below hB (Nat.le_refl _)) (HY.out.1.below hB (Nat.le_refl _))
      have HM6 : Hid (MatAt W6 M (t : Int) S) := HM.out.below hb36 HM.out.lt
      have HIR6 : Hid (IRow W6 ca (ints L)) := HIR.out.below hb36 (Nat.le_refl _)
      rw [hW6, Hno.out] at hft
      clear hW6 hcl hb4 hb5 hb6 hb36 HW4 HRX HM HIR Hno
      go_wp2_with fail
      refine hft.mono ?_
      rw [← HW6.out]
      rintro e w7 ⟨rfl, n, rfl⟩
      clear hft
      have hbn : Below W6.heap.size W6 (W6.drewN n) := drew_below W6 n
      replace hB := hB.trans (hbn.mono hB.size)
      have HM7 : Hid (MatAt (W6.drewN n) M (t : Int) S) := HM6.out.below hbn HM6.out.lt
      have HRX7 : Hid (RowAt (W6.drewN n) w3.heap.size 42 #[.slice none 0 0, .slice none 0 0, .slice (some ⟨g, 0, none⟩) (2 * t) (2 * t), .slice ca L.length cc]) := HRX6.out.below hbn HRX6.out.lt
      have HIR7 : Hid (IRow (W6.drewN n) ca (ints L)) := HIR6.out.below hbn (Nat.le_refl _)
      clear hbn HRX6 HM6 HW6 HIR6 HX HY
      generalize W6.drewN n = w7 at *
      have hterms := terms_v (some ⟨M, 0, none⟩) t S w7 (.inr ⟨M, rfl, HM7.out⟩)
      go_wp2_with fail
      refine hterms.mono ?_
      rintro e wz ⟨rfl, hwz⟩
      obtain rfl := hwz.symm
      clear hterms
      have hgr := graph_any (some ⟨M, 0, none⟩) t S p w7 (.inr ⟨M, rfl, HM7.out⟩) ht60 ((HE.out.1.1 0 (by omega)).1.below hB (Nat.le_refl _)) ((HE.out.1.1 4 (by omega)).1.below hB (Nat.le_refl _))
      have x2 := HRX7.out.cell (q := 2) rfl
      have x3 := HRX7.out.cell (q := 3) rfl
      have hne : (2 * (t : Int) != 2 * (t : Int)) = false := by simp
      have h2t : (t : Int) ≤ 60 := by omega
      have hn0 : ((L.length : Int) == 0) = false := by rw [beq_eq_false_iff_ne]; omega
      have HLn : Hid (¬ L = []) := fun h => by rw [h] at r1; simp at r1
      go_wp2_with fail
      refine hgr.mono ?_
      rintro e w8 ⟨v, rfl, hV, hb⟩
      clear hgr
      rcases hV with ⟨h, _⟩ | ⟨_, x, l, ev, h, _⟩ | ⟨_, _, gc, ev, rfl, hgc, hrc, hEO⟩
      · cases h
      · rw [HC.out] at h; cases h
      obtain ⟨ea, ec, rfl, hER⟩ := own_eformP hEO
      replace hB := hB.trans (hb.mono hB.size)
      replace HRX7 : Hid (RowAt w8 w3.heap.size 42 #[.slice none 0 0, .slice none 0 0, .slice (some ⟨g, 0, none⟩) (2 * t) (2 * t), .slice ca L.length cc]) := HRX7.out.below hb HRX7.out.lt
      replace HIR7 : Hid (IRow w8 ca (ints L)) := HIR7.out.below hb (Nat.le_refl _)
      have HER : Hid (ERow w8 ea (edS t S)) := hER
      clear hER hEO hrc hgc hb HM7 HT HE hTG HC x2 x3 hne
      obtain ⟨es, hes2⟩ : ∃ es, edgeL (rY t S) (rQ t S) (rK t S) t = es := ⟨_, rfl⟩
      replace HR5 : Hid (∀ (i x y : Nat), L[i]? = some x → L[(i + 1) % L.length]? = some y → ((x : Int), (y : Int)) ∈ es) := by rw [← hes2]; exact HR5
      replace HER : Hid (ERow w8 ea es) := by rw [← hes2]; exact HER
      replace Hes : Hid (es.length ≤ 4096) := by rw [← hes2]; exact Hes
      rw [hes2]
      clear hes2
      have HXC : Hid (w8.cell? ⟨w3.heap.size, 3, none⟩ = some (.slice ca L.length cc)) := HRX7.out.cell (q := 3) rfl
      have x0 := HRX7.out.cell (q := 0) rfl
      have x1 := HRX7.out.cell (q := 1) rfl
      generalize w3.heap.size = xb at *
      have hes := Hes.out
      have heq := Go.Proofs.YtcoepmpgclndiaaGreatDoor.GraphLent.eqE
      go_wp2
      clear x0 x1 HRX7
      go_loopw [19] (fun s wr => ∃ i : Nat, i ≤ L.length ∧ s = .int .i64 (i : Int) ∧ ∃ q, wr = w8.drewN q) (fun s _ => L.length - (intOf s).toNat)
      case atStart => exact ⟨0, by omega, rfl, 0, rfl⟩
      case round =>
        obtain ⟨i, hi, rfl, q, rfl⟩ := hrel
        have x3 : (w8.drewN q).cell? ⟨xb, 3, none⟩ = some (.slice ca L.length cc) := HXC.out
        by_cases hli : i < L.length
        · have hli2 : (i : Int) < (L.length : Int) := by omega
          obtain ⟨x, hx1⟩ : ∃ x, L[i]? = some x := ⟨L[i], List.getElem?_eq_getElem hli⟩
          obtain ⟨k, hk⟩ : ∃ k, k = (i + 1) % L.length := ⟨_, rfl⟩
          have hkl : k < L.length := by rw [hk]; exact Nat.mod_lt _ (by omega)
          obtain ⟨y, hy1⟩ : ∃ y, L[k]? = some y := ⟨L[k], List.getElem?_eq_getElem hkl⟩
          have Hxy : Hid (((x : Int), (y : Int)) ∈ es) := HR5.out i x y hx1 (by rw [← hk]; exact hy1)
          have hsx := (HR4.out i x hx1).2
          have Hstr : Hid (0 < i → s < x) := fun h0 => by
            have e1 : s ≠ x := fun e => by
              subst e
              have := nodup_idx HND.out HR0.out hx1
              omega
            omega
          obtain ⟨rb, ro, rfl, c0⟩ := HIR7.out i (x : Int) (by rw [ints_get, hx1]; rfl)
          obtain ⟨rb2, ro2, eq2, c1⟩ := HIR7.out k (y : Int) (by rw [ints_get, hy1]; rfl)
          cases eq2
          obtain ⟨rb3, ro3, eq3, c2⟩ := HIR7.out 0 (s : Int) (by rw [ints_get, HR0.out]; rfl)
          cases eq3
          have Hrem : Hid (Int.tmod ((i : Int) + 1) (L.length : Int) = (k : Int)) := by
            show _ = _
            rw [Int.tmod_eq_emod_of_nonneg (by omega), hk]
            simp
          have HK : Hid (w8.cell? ⟨rb, ro + i, none⟩ = some (.int .i64 (x : Int)) ∧ w8.cell? ⟨rb, ro + k, none⟩ = some (.int .i64 (y : Int)) ∧ w8.cell? ⟨rb, ro, none⟩ = some (.int .i64 (s : Int))) := ⟨c0, c1, c2⟩
          have f5 : (k : Int) < (L.length : Int) := by omega
          have f6 : ((L.length : Int) == 0) = false := by rw [beq_eq_false_iff_ne]; omega
          clear hx1 hy1 hk c0 c1 c2
          have HZ : Hid (false = decide (((x : Int), (y : Int)) ∈ es.take 0)) := by show _ = _; simp
          go_wp2
          go_loopw [20, 21] (fun h s wr => ∃ j : Nat, j ≤ es.length ∧ s = .int .i64 (j : Int) ∧ h = .bool (decide (((x : Int), (y : Int)) ∈ es.take j)) ∧ ∃ q, wr = w8.drewN q) (fun _ s _ => es.length - (intOf s).toNat)
          case atStart => exact ⟨0, by omega, rfl, by rw [← HZ.out], q, rfl⟩
          case round =>
            obtain ⟨j, hj, rfl, rfl, q2, rfl⟩ := hrel
            clear x3
            by_cases hlj : j < es.length
            · have hlj2 : (j : Int) < (es.length : Int) := by omega
              obtain ⟨⟨c, d⟩, hcd⟩ : ∃ e, es[j]? = some e := ⟨es[j], List.getElem?_eq_getElem hlj⟩
              obtain ⟨eb, eo, rfl, d0, d1⟩ := HER.out j (c, d) hcd
              dsimp only at d0 d1
              have Hsucc : Hid (decide (((x : Int), (y : Int)) ∈ es.take (j + 1)) = (decide (((x : Int), (y : Int)) ∈ es.take j) || decide (c = (x : Int) ∧ d = (y : Int)))) := by
                show _ = _
                rw [List.take_add_one, hcd, Bool.eq_iff_iff]
                simp only [Option.toList_some, List.mem_append, List.mem_singleton, Prod.mk.injEq, decide_eq_true_eq, Bool.or_eq_true]
                constructor
                · rintro (h | ⟨h1, h2⟩)
                  · exact .inl h
                  · exact .inr ⟨h1.symm, h2.symm⟩
                · rintro (h | ⟨h1, h2⟩)
                  · exact .inl h
                  · exact .inr ⟨h1.symm, h2.symm⟩
              obtain ⟨hb, hhb⟩ : ∃ hb, decide (((x : Int), (y : Int)) ∈ es.take j) = hb := ⟨_, rfl⟩
              rw [hhb] at Hsucc ⊢
              obtain ⟨Wd, hWd⟩ : ∃ Wd, (w8.drewN q2).drew = Wd := ⟨_, rfl⟩
              have HWd : Hid (Wd = w8.drewN (q2 + 1)) := hWd.symm
              have e0 : (w8.drewN q2).drew.cell? ⟨eb, eo + j * 2, none⟩ = some (.int .i64 c) := d0
              have e1 : (w8.drewN q2).drew.cell? ⟨eb, eo + j * 2 + 1, none⟩ = some (.int .i64 d) := d1
              have e2 : (w8.drewN q2).drew.cell? ⟨xb, 3, none⟩ = some (.slice (some ⟨rb, ro, none⟩) L.length cc) := HXC.out
              have e3 : (w8.drewN q2).drew.cell? ⟨rb, ro + i, none⟩ = some (.int .i64 (x : Int)) := HK.out.1
              have e4 : (w8.drewN q2).drew.cell? ⟨rb, ro + k, none⟩ = some (.int .i64 (y : Int)) := HK.out.2.1
              clear d0 d1 hhb hcd
              generalize hX : (x : Int) = xx at *
              generalize hY : (y : Int) = yy at *
              clear hX hY
              go_wp2_with fail
              refine wp_region_noPanic ?_
              refine wp_region_held_drew (S := (fun w9 => w9.cell? ⟨eb, eo + j * 2, none⟩ = some (.int .i64 c) ∧ w9.cell? ⟨eb, eo + j * 2 + 1, none⟩ = some (.int .i64 d) ∧ w9.cell? ⟨xb, 3, none⟩ = some (.slice (some ⟨rb, ro, none⟩) L.length cc) ∧ w9.cell? ⟨rb, ro + i, none⟩ = some (.int .i64 xx) ∧ w9.cell? ⟨rb, ro + k, none⟩ = some (.int .i64 yy))) (by kernel_rfl) ⟨e0, e1, e2, e3, e4⟩ (fun hHeld => ?_)
              rw [hWd] at hHeld ⊢
              clear e0 e1 e2 e3 e4 hWd
              cases hb with
              | true =>
                refine wpAnyH_take (i := 0) (v := .bool true) rfl (by kernel_rfl) (by kernel_rfl) (by kernel_rfl) (fun _ _ _ h => h) (Or.inl ⟨by rfl, fun w9 hSw => ?_⟩) hHeld ?_
                · obtain ⟨s0, s1, s2, s3, s4⟩ := hSw
                  go_simp
                simp only [List.getElem_toArray, List.getElem_cons_zero, List.getElem_cons_succ, Act.put, List.setIfInBounds_toArray, List.set_cons_zero, List.set_cons_succ]
                refine wpAnyH_take (i := 1) (v := .bool true) rfl (by kernel_rfl) (by kernel_rfl) (by kernel_rfl) (fun _ _ _ h => h) (Or.inl ⟨by rfl, fun w9 hSw => ?_⟩) hHeld ?_
                · obtain ⟨s0, s1, s2, s3, s4⟩ := hSw
                  go_simp
                simp only [List.getElem_toArray, List.getElem_cons_zero, List.getElem_cons_succ, Act.put, List.setIfInBounds_toArray, List.set_cons_zero, List.set_cons_succ]
                refine wpAnyH_take (i := 2) (v := undef) rfl (by kernel_rfl) (by kernel_rfl) (by kernel_rfl) (fun _ _ _ h => h) (Or.inr ⟨by rfl, rfl⟩) hHeld ?_
                simp only [List.getElem_toArray, List.getElem_cons_zero, List.getElem_cons_succ, Act.put, List.setIfInBounds_toArray, List.set_cons_zero, List.set_cons_succ]
                refine wpAnyH_take (i := 3) (v := undef) rfl (by kernel_rfl) (by kernel_rfl) (by kernel_rfl) (fun _ _ _ h => h) (Or.inr ⟨by rfl, rfl⟩) hHeld ?_
                simp only [List.getElem_toArray, List.getElem_cons_zero, List.getElem_cons_succ, Act.put, List.setIfInBounds_toArray, List.set_cons_zero, List.set_cons_succ]
                refine wpAnyH_take (i := 4) (v := undef) rfl (by kernel_rfl) (by kernel_rfl) (by kernel_rfl) (fun _ _ _ h => h) (Or.inr ⟨by rfl, rfl⟩) hHeld ?_
                simp only [List.getElem_toArray, List.getElem_cons_zero, List.getElem_cons_succ, Act.put, List.setIfInBounds_toArray, List.set_cons_zero, List.set_cons_succ]
                refine wpAnyH_take (i := 5) (v := undef) rfl (by kernel_rfl) (by kernel_rfl) (by kernel_rfl) (fun _ _ _ h => h) (Or.inr ⟨by rfl, rfl⟩) hHeld ?_
                simp only [List.getElem_toArray, List.getElem_cons_zero, List.getElem_cons_succ, Act.put, List.setIfInBounds_toArray, List.set_cons_zero, List.set_cons_succ]
                refine wpAnyH_take (i := 6) (v := undef) rfl (by kernel_rfl) (by kernel_rfl) (by kernel_rfl) (fun _ _ _ h => h) (Or.inr ⟨by rfl, rfl⟩) hHeld ?_
                simp only [List.getElem_toArray, List.getElem_cons_zero, List.getElem_cons_succ, Act.put, List.setIfInBounds_toArray, List.set_cons_zero, List.set_cons_succ]
                refine wpAnyH_take (i := 7) (v := undef) rfl (by kernel_rfl) (by kernel_rfl) (by kernel_rfl) (fun _ _ _ h => h) (Or.inr ⟨by rfl, rfl⟩) hHeld ?_
                simp only [List.getElem_toArray, List.getElem_cons_zero, List.getElem_cons_succ, Act.put, List.setIfInBounds_toArray, List.set_cons_zero, List.set_cons_succ]
                refine wpAnyH_take (i := 8) (v := undef) rfl (by kernel_rfl) (by kernel_rfl) (by kernel_rfl) (fun _ _ _ h => h) (Or.inr ⟨by rfl, rfl⟩) hHeld ?_
                simp only [List.getElem_toArray, List.getElem_cons_zero, List.getElem_cons_succ, Act.put, List.setIfInBounds_toArray, List.set_cons_zero, List.set_cons_succ]
                refine wpAnyH_take (i := 9) (v := undef) rfl (by kernel_rfl) (by kernel_rfl) (by kernel_rfl) (fun _ _ _ h => h) (Or.inr ⟨by rfl, rfl⟩) hHeld ?_
                simp only [List.getElem_toArray, List.getElem_cons_zero, List.getElem_cons_succ, Act.put, List.setIfInBounds_toArray, List.set_cons_zero, List.set_cons_succ]
                refine wpAnyH_take (i := 10) (v := undef) rfl (by kernel_rfl) (by kernel_rfl) (by kernel_rfl) (fun _ _ _ h => h) (Or.inr ⟨by rfl, rfl⟩) hHeld ?_
                simp only [List.getElem_toArray, List.getElem_cons_zero, List.getElem_cons_succ, Act.put, List.setIfInBounds_toArray, List.set_cons_zero, List.set_cons_succ]
                refine wpAnyH_take (i := 11) (v := undef) rfl (by kernel_rfl) (by kernel_rfl) (by kernel_rfl) (fun _ _ _ h => h) (Or.inr ⟨by rfl, rfl⟩) hHeld ?_
                simp only [List.getElem_toArray, List.getElem_cons_zero, List.getElem_cons_succ, Act.put, List.setIfInBounds_toArray, List.set_cons_zero, List.set_cons_succ]
                refine wpAnyH_take (i := 12) (v := undef) rfl (by kernel_rfl) (by kernel_rfl) (by kernel_rfl) (fun _ _ _ h => h) (Or.inr ⟨by rfl, rfl⟩) hHeld ?_
                simp only [List.getElem_toArray, List.getElem_cons_zero, List.getElem_cons_succ, Act.put, List.setIfInBounds_toArray, List.set_cons_zero, List.set_cons_succ]
                refine wpAnyH_take (i := 13) (v := undef) rfl (by kernel_rfl) (by kernel_rfl) (by kernel_rfl) (fun _ _ _ h => h) (Or.inr ⟨by rfl, rfl⟩) hHeld ?_
                simp only [List.getElem_toArray, List.getElem_cons_zero, List.getElem_cons_succ, Act.put, List.setIfInBounds_toArray, List.set_cons_zero, List.set_cons_succ]
                refine wpAnyH_take (i := 14) (v := undef) rfl (by kernel_rfl) (by kernel_rfl) (by kernel_rfl) (fun _ _ _ h => h) (Or.inr ⟨by rfl, rfl⟩) hHeld ?_
                simp only [List.getElem_toArray, List.getElem_cons_zero, List.getElem_cons_succ, Act.put, List.setIfInBounds_toArray, List.set_cons_zero, List.set_cons_succ]
                refine wpAnyH_take (i := 15) (v := undef) rfl (by kernel_rfl) (by kernel_rfl) (by kernel_rfl) (fun _ _ _ h => h) (Or.inr ⟨by rfl, rfl⟩) hHeld ?_
                simp only [List.getElem_toArray, List.getElem_cons_zero, List.getElem_cons_succ, Act.put, List.setIfInBounds_toArray, List.set_cons_zero, List.set_cons_succ]
                refine wpAnyH_take (i := 16) (v := undef) rfl (by kernel_rfl) (by kernel_rfl) (by kernel_rfl) (fun _ _ _ h => h) (Or.inr ⟨by rfl, rfl⟩) hHeld ?_
                simp only [List.getElem_toArray, List.getElem_cons_zero, List.getElem_cons_succ, Act.put, List.setIfInBounds_toArray, List.set_cons_zero, List.set_cons_succ]
                refine wpAnyH_take (i := 17) (v := undef) rfl (by kernel_rfl) (by kernel_rfl) (by kernel_rfl) (fun _ _ _ h => h) (Or.inr ⟨by rfl, rfl⟩) hHeld ?_
                simp only [List.getElem_toArray, List.getElem_cons_zero, List.getElem_cons_succ, Act.put, List.setIfInBounds_toArray, List.set_cons_zero, List.set_cons_succ]
                refine wpAnyH_take (i := 18) (v := undef) rfl (by kernel_rfl) (by kernel_rfl) (by kernel_rfl) (fun _ _ _ h => h) (Or.inr ⟨by rfl, rfl⟩) hHeld ?_
                simp only [List.getElem_toArray, List.getElem_cons_zero, List.getElem_cons_succ, Act.put, List.setIfInBounds_toArray, List.set_cons_zero, List.set_cons_succ]
                refine wpAnyH_take (i := 19) (v := undef) rfl (by kernel_rfl) (by kernel_rfl) (by kernel_rfl) (fun _ _ _ h => h) (Or.inr ⟨by rfl, rfl⟩) hHeld ?_
                simp only [List.getElem_toArray, List.getElem_cons_zero, List.getElem_cons_succ, Act.put, List.setIfInBounds_toArray, List.set_cons_zero, List.set_cons_succ]
                refine wpAnyH_take (i := 20) (v := undef) rfl (by kernel_rfl) (by kernel_rfl) (by kernel_rfl) (fun _ _ _ h => h) (Or.inr ⟨by rfl, rfl⟩) hHeld ?_
                simp only [List.getElem_toArray, List.getElem_cons_zero, List.getElem_cons_succ, Act.put, List.setIfInBounds_toArray, List.set_cons_zero, List.set_cons_succ]
                refine wpAnyH_take (i := 21) (v := undef) rfl (by kernel_rfl) (by kernel_rfl) (by kernel_rfl) (fun _ _ _ h => h) (Or.inr ⟨by rfl, rfl⟩) hHeld ?_
                simp only [List.getElem_toArray, List.getElem_cons_zero, List.getElem_cons_succ, Act.put, List.setIfInBounds_toArray, List.set_cons_zero, List.set_cons_succ]
                refine wpAnyH_take (i := 22) (v := undef) rfl (by kernel_rfl) (by kernel_rfl) (by kernel_rfl) (fun _ _ _ h => h) (Or.inr ⟨by rfl, rfl⟩) hHeld ?_
                simp only [List.getElem_toArray, List.getElem_cons_zero, List.getElem_cons_succ, Act.put, List.setIfInBounds_toArray, List.set_cons_zero, List.set_cons_succ]
                refine wpAnyH_take (i := 23) (v := .bool true) rfl (by kernel_rfl) (by kernel_rfl) (by kernel_rfl) (fun _ _ _ h => h) (Or.inl ⟨by rfl, fun w9 hSw => ?_⟩) hHeld ?_
                · obtain ⟨s0, s1, s2, s3, s4⟩ := hSw
                  go_simp
                simp only [List.getElem_toArray, List.getElem_cons_zero, List.getElem_cons_succ, Act.put, List.setIfInBounds_toArray, List.set_cons_zero, List.set_cons_succ]
                refine wpAnyH_take (i := 24) (v := .bool true) rfl (by kernel_rfl) (by kernel_rfl) (by kernel_rfl) (fun _ _ _ h => h) (Or.inl ⟨by rfl, fun w9 hSw => ?_⟩) hHeld ?_
                · obtain ⟨s0, s1, s2, s3, s4⟩ := hSw
                  go_simp
                simp only [List.getElem_toArray, List.getElem_cons_zero, List.getElem_cons_succ, Act.put, List.setIfInBounds_toArray, List.set_cons_zero, List.set_cons_succ]
                refine wpAnyH_done (by kernel_rfl) (NoPanic.normal ?_) _
                clear hHeld
                go_wp2
                go_roundw
                case rel => exact ⟨j + 1, by omega, by go_num, by rw [Hsucc.out]; rfl, q2 + 1, HWd.out⟩
                case measure => simp [intOf]; omega
              | false =>
                obtain ⟨rb9, hrb9⟩ : ∃ rb9, decide (c = xx ∧ d = yy) = rb9 := ⟨_, rfl⟩
                have Hrb : Hid (decide (c = xx ∧ d = yy) = rb9) := hrb9
                refine wpAnyH_take (i := 0) (v := .bool false) rfl (by kernel_rfl) (by kernel_rfl) (by kernel_rfl) (fun _ _ _ h => h) (Or.inl ⟨by rfl, fun w9 hSw => ?_⟩) hHeld ?_
                · obtain ⟨s0, s1, s2, s3, s4⟩ := hSw
                  go_simp
                simp only [List.getElem_toArray, List.getElem_cons_zero, List.getElem_cons_succ, Act.put, List.setIfInBounds_toArray, List.set_cons_zero, List.set_cons_succ]
                refine wpAnyH_take (i := 1) (v := .bool false) rfl (by kernel_rfl) (by kernel_rfl) (by kernel_rfl) (fun _ _ _ h => h) (Or.inl ⟨by rfl, fun w9 hSw => ?_⟩) hHeld ?_
                · obtain ⟨s0, s1, s2, s3, s4⟩ := hSw
                  go_simp
                simp only [List.getElem_toArray, List.getElem_cons_zero, List.getElem_cons_succ, Act.put, List.setIfInBounds_toArray, List.set_cons_zero, List.set_cons_succ]
                refine wpAnyH_take (i := 2) (v := .slice (some ⟨eb, eo, none⟩) es.length ec) rfl (by kernel_rfl) (by kernel_rfl) (by kernel_rfl) (fun _ _ _ h => h) (Or.inl ⟨by rfl, fun w9 hSw => ?_⟩) hHeld ?_
                · obtain ⟨s0, s1, s2, s3, s4⟩ := hSw
                  go_simp
                simp only [List.getElem_toArray, List.getElem_cons_zero, List.getElem_cons_succ, Act.put, List.setIfInBounds_toArray, List.set_cons_zero, List.set_cons_succ]
                refine wpAnyH_take (i := 3) (v := .int .i64 (j : Int)) rfl (by kernel_rfl) (by kernel_rfl) (by kernel_rfl) (fun _ _ _ h => h) (Or.inl ⟨by rfl, fun w9 hSw => ?_⟩) hHeld ?_
                · obtain ⟨s0, s1, s2, s3, s4⟩ := hSw
                  go_simp
                simp only [List.getElem_toArray, List.getElem_cons_zero, List.getElem_cons_succ, Act.put, List.setIfInBounds_toArray, List.set_cons_zero, List.set_cons_succ]
                refine wpAnyH_take (i := 4) (v := .pointer (some ⟨eb, eo + j * 2, none⟩)) rfl (by kernel_rfl) (by kernel_rfl) (by kernel_rfl) (fun _ _ _ h => h) (Or.inl ⟨by rfl, fun w9 hSw => ?_⟩) hHeld ?_
                · obtain ⟨s0, s1, s2, s3, s4⟩ := hSw
                  go_simp
                  all_goals (first | rfl | omega | (rw [IntKind.wrap_i64]; omega) | (rw [if_neg HLn.out, Hrem.out]) | (rw [Hrem.out]) | (simp; done) | (simp; omega) | (simp [Hrem.out]; done) | (rw [hrb9]))
                simp only [List.getElem_toArray, List.getElem_cons_zero, List.getElem_cons_succ, Act.put, List.setIfInBounds_toArray, List.set_cons_zero, List.set_cons_succ]
                refine wpAnyH_take (i := 5) (v := .agg #[.int .i64 c, .int .i64 d]) rfl (by kernel_rfl) (by kernel_rfl) (by kernel_rfl) (fun _ _ _ h => h) (Or.inl ⟨by rfl, fun w9 hSw => ?_⟩) hHeld ?_
                · obtain ⟨s0, s1, s2, s3, s4⟩ := hSw
                  go_simp
                simp only [List.getElem_toArray, List.getElem_cons_zero, List.getElem_cons_succ, Act.put, List.setIfInBounds_toArray, List.set_cons_zero, List.set_cons_succ]
                refine wpAnyH_take (i := 6) (v := .pointer (some ⟨xb, 3, none⟩)) rfl (by kernel_rfl) (by kernel_rfl) (by kernel_rfl) (fun _ _ _ h => h) (Or.inl ⟨by rfl, fun w9 hSw => ?_⟩) hHeld ?_
                · obtain ⟨s0, s1, s2, s3, s4⟩ := hSw
                  go_simp
                simp only [List.getElem_toArray, List.getElem_cons_zero, List.getElem_cons_succ, Act.put, List.setIfInBounds_toArray, List.set_cons_zero, List.set_cons_succ]
                refine wpAnyH_take (i := 7) (v := .slice (some ⟨rb, ro, none⟩) L.length cc) rfl (by kernel_rfl) (by kernel_rfl) (by kernel_rfl) (fun _ _ _ h => h) (Or.inl ⟨by rfl, fun w9 hSw => ?_⟩) hHeld ?_
                · obtain ⟨s0, s1, s2, s3, s4⟩ := hSw
                  go_simp
                simp only [List.getElem_toArray, List.getElem_cons_zero, List.getElem_cons_succ, Act.put, List.setIfInBounds_toArray, List.set_cons_zero, List.set_cons_succ]
                refine wpAnyH_take (i := 8) (v := .int .i64 (i : Int)) rfl (by kernel_rfl) (by kernel_rfl) (by kernel_rfl) (fun _ _ _ h => h) (Or.inl ⟨by rfl, fun w9 hSw => ?_⟩) hHeld ?_
                · obtain ⟨s0, s1, s2, s3, s4⟩ := hSw
                  go_simp
                simp only [List.getElem_toArray, List.getElem_cons_zero, List.getElem_cons_succ, Act.put, List.setIfInBounds_toArray, List.set_cons_zero, List.set_cons_succ]
                refine wpAnyH_take (i := 9) (v := .pointer (some ⟨rb, ro + i, none⟩)) rfl (by kernel_rfl) (by kernel_rfl) (by kernel_rfl) (fun _ _ _ h => h) (Or.inl ⟨by rfl, fun w9 hSw => ?_⟩) hHeld ?_
                · obtain ⟨s0, s1, s2, s3, s4⟩ := hSw
                  go_simp
                  all_goals (first | rfl | omega | (rw [IntKind.wrap_i64]; omega) | (rw [if_neg HLn.out, Hrem.out]) | (rw [Hrem.out]) | (simp; done) | (simp; omega) | (simp [Hrem.out]; done) | (rw [hrb9]))
                simp only [List.getElem_toArray, List.getElem_cons_zero, List.getElem_cons_succ, Act.put, List.setIfInBounds_toArray, List.set_cons_zero, List.set_cons_succ]
                refine wpAnyH_take (i := 10) (v := .int .i64 xx) rfl (by kernel_rfl) (by kernel_rfl) (by kernel_rfl) (fun _ _ _ h => h) (Or.inl ⟨by rfl, fun w9 hSw => ?_⟩) hHeld ?_
                · obtain ⟨s0, s1, s2, s3, s4⟩ := hSw
                  go_simp
                simp only [List.getElem_toArray, List.getElem_cons_zero, List.getElem_cons_succ, Act.put, List.setIfInBounds_toArray, List.set_cons_zero, List.set_cons_succ]
                refine wpAnyH_take (i := 11) (v := .pointer (some ⟨xb, 3, none⟩)) rfl (by kernel_rfl) (by kernel_rfl) (by kernel_rfl) (fun _ _ _ h => h) (Or.inl ⟨by rfl, fun w9 hSw => ?_⟩) hHeld ?_
                · obtain ⟨s0, s1, s2, s3, s4⟩ := hSw
                  go_simp
                simp only [List.getElem_toArray, List.getElem_cons_zero, List.getElem_cons_succ, Act.put, List.setIfInBounds_toArray, List.set_cons_zero, List.set_cons_succ]
                refine wpAnyH_take (i := 12) (v := .slice (some ⟨rb, ro, none⟩) L.length cc) rfl (by kernel_rfl) (by kernel_rfl) (by kernel_rfl) (fun _ _ _ h => h) (Or.inl ⟨by rfl, fun w9 hSw => ?_⟩) hHeld ?_
                · obtain ⟨s0, s1, s2, s3, s4⟩ := hSw
                  go_simp
                simp only [List.getElem_toArray, List.getElem_cons_zero, List.getElem_cons_succ, Act.put, List.setIfInBounds_toArray, List.set_cons_zero, List.set_cons_succ]
                refine wpAnyH_take (i := 13) (v := .int .i64 (i : Int)) rfl (by kernel_rfl) (by kernel_rfl) (by kernel_rfl) (fun _ _ _ h => h) (Or.inl ⟨by rfl, fun w9 hSw => ?_⟩) hHeld ?_
                · obtain ⟨s0, s1, s2, s3, s4⟩ := hSw
                  go_simp
                simp only [List.getElem_toArray, List.getElem_cons_zero, List.getElem_cons_succ, Act.put, List.setIfInBounds_toArray, List.set_cons_zero, List.set_cons_succ]
                refine wpAnyH_take (i := 14) (v := .int .i64 ((i : Int) + 1)) rfl (by kernel_rfl) (by kernel_rfl) (by kernel_rfl) (fun _ _ _ h => h) (Or.inl ⟨by rfl, fun w9 hSw => ?_⟩) hHeld ?_
                · obtain ⟨s0, s1, s2, s3, s4⟩ := hSw
                  go_simp
                  all_goals (first | rfl | omega | (rw [IntKind.wrap_i64]; omega) | (rw [if_neg HLn.out, Hrem.out]) | (rw [Hrem.out]) | (simp; done) | (simp; omega) | (simp [Hrem.out]; done) | (rw [hrb9]))
                simp only [List.getElem_toArray, List.getElem_cons_zero, List.getElem_cons_succ, Act.put, List.setIfInBounds_toArray, List.set_cons_zero, List.set_cons_succ]
                refine wpAnyH_take (i := 15) (v := .pointer (some ⟨xb, 3, none⟩)) rfl (by kernel_rfl) (by kernel_rfl) (by kernel_rfl) (fun _ _ _ h => h) (Or.inl ⟨by rfl, fun w9 hSw => ?_⟩) hHeld ?_
                · obtain ⟨s0, s1, s2, s3, s4⟩ := hSw
                  go_simp
                simp only [List.getElem_toArray, List.getElem_cons_zero, List.getElem_cons_succ, Act.put, List.setIfInBounds_toArray, List.set_cons_zero, List.set_cons_succ]
                refine wpAnyH_take (i := 16) (v := .slice (some ⟨rb, ro, none⟩) L.length cc) rfl (by kernel_rfl) (by kernel_rfl) (by kernel_rfl) (fun _ _ _ h => h) (Or.inl ⟨by rfl, fun w9 hSw => ?_⟩) hHeld ?_
                · obtain ⟨s0, s1, s2, s3, s4⟩ := hSw
                  go_simp
                simp only [List.getElem_toArray, List.getElem_cons_zero, List.getElem_cons_succ, Act.put, List.setIfInBounds_toArray, List.set_cons_zero, List.set_cons_succ]
                refine wpAnyH_take (i := 17) (v := .int .i64 (L.length : Int)) rfl (by kernel_rfl) (by kernel_rfl) (by kernel_rfl) (fun _ _ _ h => h) (Or.inl ⟨by rfl, fun w9 hSw => ?_⟩) hHeld ?_
                · obtain ⟨s0, s1, s2, s3, s4⟩ := hSw
                  go_simp
                simp only [List.getElem_toArray, List.getElem_cons_zero, List.getElem_cons_succ, Act.put, List.setIfInBounds_toArray, List.set_cons_zero, List.set_cons_succ]
                refine wpAnyH_take (i := 18) (v := .int .i64 (k : Int)) rfl (by kernel_rfl) (by kernel_rfl) (by kernel_rfl) (fun _ _ _ h => h) (Or.inl ⟨by rfl, fun w9 hSw => ?_⟩) hHeld ?_
                · obtain ⟨s0, s1, s2, s3, s4⟩ := hSw
                  go_simp
                  all_goals (first | rfl | omega | (rw [IntKind.wrap_i64]; omega) | (rw [if_neg HLn.out, Hrem.out]) | (rw [Hrem.out]) | (simp; done) | (simp; omega) | (simp [Hrem.out]; done) | (rw [hrb9]))
                simp only [List.getElem_toArray, List.getElem_cons_zero, List.getElem_cons_succ, Act.put, List.setIfInBounds_toArray, List.set_cons_zero, List.set_cons_succ]
                refine wpAnyH_take (i := 19) (v := .pointer (some ⟨rb, ro + k, none⟩)) rfl (by kernel_rfl) (by kernel_rfl) (by kernel_rfl) (fun _ _ _ h => h) (Or.inl ⟨by rfl, fun w9 hSw => ?_⟩) hHeld ?_
                · obtain ⟨s0, s1, s2, s3, s4⟩ := hSw
                  go_simp
                  all_goals (first | rfl | omega | (rw [IntKind.wrap_i64]; omega) | (rw [if_neg HLn.out, Hrem.out]) | (rw [Hrem.out]) | (simp; done) | (simp; omega) | (simp [Hrem.out]; done) | (rw [hrb9]))
                simp only [List.getElem_toArray, List.getElem_cons_zero, List.getElem_cons_succ, Act.put, List.setIfInBounds_toArray, List.set_cons_zero, List.set_cons_succ]
                refine wpAnyH_take (i := 20) (v := .int .i64 yy) rfl (by kernel_rfl) (by kernel_rfl) (by kernel_rfl) (fun _ _ _ h => h) (Or.inl ⟨by rfl, fun w9 hSw => ?_⟩) hHeld ?_
                · obtain ⟨s0, s1, s2, s3, s4⟩ := hSw
                  go_simp
                simp only [List.getElem_toArray, List.getElem_cons_zero, List.getElem_cons_succ, Act.put, List.setIfInBounds_toArray, List.set_cons_zero, List.set_cons_succ]
                refine wpAnyH_take (i := 21) (v := .agg #[.int .i64 xx, .int .i64 yy]) rfl (by kernel_rfl) (by kernel_rfl) (by kernel_rfl) (fun _ _ _ h => h) (Or.inl ⟨by rfl, fun w9 hSw => ?_⟩) hHeld ?_
                · obtain ⟨s0, s1, s2, s3, s4⟩ := hSw
                  go_simp
                  all_goals (first | rfl | omega | (rw [IntKind.wrap_i64]; omega) | (rw [if_neg HLn.out, Hrem.out]) | (rw [Hrem.out]) | (simp; done) | (simp; omega) | (simp [Hrem.out]; done) | (rw [hrb9]))
                simp only [List.getElem_toArray, List.getElem_cons_zero, List.getElem_cons_succ, Act.put, List.setIfInBounds_toArray, List.set_cons_zero, List.set_cons_succ]
                refine wpAnyH_take (i := 22) (v := .bool (rb9)) rfl (by kernel_rfl) (by kernel_rfl) (by kernel_rfl) (fun _ _ _ h => h) (Or.inl ⟨by rfl, fun w9 hSw => ?_⟩) hHeld ?_
                · obtain ⟨s0, s1, s2, s3, s4⟩ := hSw
                  go_simp
                  all_goals (first | rfl | omega | (rw [IntKind.wrap_i64]; omega) | (rw [if_neg HLn.out, Hrem.out]) | (rw [Hrem.out]) | (simp; done) | (simp; omega) | (simp [Hrem.out]; done) | (rw [hrb9]))
                simp only [List.getElem_toArray, List.getElem_cons_zero, List.getElem_cons_succ, Act.put, List.setIfInBounds_toArray, List.set_cons_zero, List.set_cons_succ]
                cases rb9 with
                | true =>
                  refine wpAnyH_take (i := 23) (v := .bool true) rfl (by kernel_rfl) (by kernel_rfl) (by kernel_rfl) (fun _ _ _ h => h) (Or.inl ⟨by rfl, fun w9 hSw => ?_⟩) hHeld ?_
                  · obtain ⟨s0, s1, s2, s3, s4⟩ := hSw
                    go_simp
                  simp only [List.getElem_toArray, List.getElem_cons_zero, List.getElem_cons_succ, Act.put, List.setIfInBounds_toArray, List.set_cons_zero, List.set_cons_succ]
                  refine wpAnyH_take (i := 24) (v := .bool true) rfl (by kernel_rfl) (by kernel_rfl) (by kernel_rfl) (fun _ _ _ h => h) (Or.inl ⟨by rfl, fun w9 hSw => ?_⟩) hHeld ?_
                  · obtain ⟨s0, s1, s2, s3, s4⟩ := hSw
                    go_simp
                  simp only [List.getElem_toArray, List.getElem_cons_zero, List.getElem_cons_succ, Act.put, List.setIfInBounds_toArray, List.set_cons_zero, List.set_cons_succ]
                  refine wpAnyH_done (by kernel_rfl) (NoPanic.normal ?_) _
                  clear hHeld
                  go_wp2
                  go_roundw
                  case rel => exact ⟨j + 1, by omega, by go_num, by rw [Hsucc.out, Hrb.out]; rfl, q2 + 1, HWd.out⟩
                  case measure => simp [intOf]; omega
                | false =>
                  refine wpAnyH_take (i := 23) (v := .bool false) rfl (by kernel_rfl) (by kernel_rfl) (by kernel_rfl) (fun _ _ _ h => h) (Or.inl ⟨by rfl, fun w9 hSw => ?_⟩) hHeld ?_
                  · obtain ⟨s0, s1, s2, s3, s4⟩ := hSw
                    go_simp
                  simp only [List.getElem_toArray, List.getElem_cons_zero, List.getElem_cons_succ, Act.put, List.setIfInBounds_toArray, List.set_cons_zero, List.set_cons_succ]
                  refine wpAnyH_take (i := 24) (v := .bool false) rfl (by kernel_rfl) (by kernel_rfl) (by kernel_rfl) (fun _ _ _ h => h) (Or.inl ⟨by rfl, fun w9 hSw => ?_⟩) hHeld ?_
                  · obtain ⟨s0, s1, s2, s3, s4⟩ := hSw
                    go_simp
                  simp only [List.getElem_toArray, List.getElem_cons_zero, List.getElem_cons_succ, Act.put, List.setIfInBounds_toArray, List.set_cons_zero, List.set_cons_succ]
                  refine wpAnyH_done (by kernel_rfl) (NoPanic.normal ?_) _
                  clear hHeld
                  go_wp2
                  go_roundw
                  case rel => exact ⟨j + 1, by omega, by go_num, by rw [Hsucc.out, Hrb.out]; rfl, q2 + 1, HWd.out⟩
                  case measure => simp [intOf]; omega
            · obtain rfl : j = es.length := by omega
              have hhit : decide (((x : Int), (y : Int)) ∈ es.take es.length) = true := by rw [List.take_length]; exact decide_eq_true Hxy.out
              rw [hhit]
              clear hhit hlj hj HZ
              obtain ⟨Wd, hWd⟩ : ∃ Wd, (w8.drewN q2).drew = Wd := ⟨_, rfl⟩
              have HWd : Hid (Wd = w8.drewN (q2 + 1)) := hWd.symm
              have e2 : (w8.drewN q2).drew.cell? ⟨xb, 3, none⟩ = some (.slice (some ⟨rb, ro, none⟩) L.length cc) := HXC.out
              have e3 : (w8.drewN q2).drew.cell? ⟨rb, ro + i, none⟩ = some (.int .i64 (x : Int)) := HK.out.1
              have e4 : (w8.drewN q2).drew.cell? ⟨rb, ro, none⟩ = some (.int .i64 (s : Int)) := HK.out.2.2
              have Hst2 : Hid (0 < i → (s : Int) < (x : Int)) := fun h => by have := Hstr.out h; omega
              generalize hX : (x : Int) = xx at *
              generalize hY : (s : Int) = ss at *
              clear hX hY
              go_wp2_with fail
              refine wp_region_noPanic ?_
              refine wp_region_held_drew (S := (fun w9 => w9.cell? ⟨xb, 3, none⟩ = some (.slice (some ⟨rb, ro, none⟩) L.length cc) ∧ w9.cell? ⟨rb, ro + i, none⟩ = some (.int .i64 xx) ∧ w9.cell? ⟨rb, ro, none⟩ = some (.int .i64 ss))) (by kernel_rfl) ⟨e2, e3, e4⟩ (fun hHeld => ?_)
              rw [hWd] at hHeld ⊢
              clear e2 e3 e4 hWd
              by_cases hi0 : 0 < i
              · have g1 : (0 : Int) < (i : Int) := by omega
                have g2 : ¬ xx ≤ ss := by have := Hst2.out hi0; omega
                refine wpAnyH_take (i := 0) (v := .bool true) rfl (by kernel_rfl) (by kernel_rfl) (by kernel_rfl) (fun _ _ _ h => h) (Or.inl ⟨by rfl, fun w9 hSw => ?_⟩) hHeld ?_
                · obtain ⟨s0, s1, s2⟩ := hSw
                  go_simp
                simp only [List.getElem_toArray, List.getElem_cons_zero, List.getElem_cons_succ, Act.put, List.setIfInBounds_toArray, List.set_cons_zero, List.set_cons_succ]
                refine wpAnyH_take (i := 1) (v := .bool false) rfl (by kernel_rfl) (by kernel_rfl) (by kernel_rfl) (fun _ _ _ h => h) (Or.inl ⟨by rfl, fun w9 hSw => ?_⟩) hHeld ?_
                · obtain ⟨s0, s1, s2⟩ := hSw
                  go_simp
                simp only [List.getElem_toArray, List.getElem_cons_zero, List.getElem_cons_succ, Act.put, List.setIfInBounds_toArray, List.set_cons_zero, List.set_cons_succ]
                refine wpAnyH_take (i := 2) (v := .bool false) rfl (by kernel_rfl) (by kernel_rfl) (by kernel_rfl) (fun _ _ _ h => h) (Or.inl ⟨by rfl, fun w9 hSw => ?_⟩) hHeld ?_
                · obtain ⟨s0, s1, s2⟩ := hSw
                  go_simp
                simp only [List.getElem_toArray, List.getElem_cons_zero, List.getElem_cons_succ, Act.put, List.setIfInBounds_toArray, List.set_cons_zero, List.set_cons_succ]
                refine wpAnyH_take (i := 3) (v := .int .i64 (i : Int)) rfl (by kernel_rfl) (by kernel_rfl) (by kernel_rfl) (fun _ _ _ h => h) (Or.inl ⟨by rfl, fun w9 hSw => ?_⟩) hHeld ?_
                · obtain ⟨s0, s1, s2⟩ := hSw
                  go_simp
                simp only [List.getElem_toArray, List.getElem_cons_zero, List.getElem_cons_succ, Act.put, List.setIfInBounds_toArray, List.set_cons_zero, List.set_cons_succ]
                refine wpAnyH_take (i := 4) (v := .bool true) rfl (by kernel_rfl) (by kernel_rfl) (by kernel_rfl) (fun _ _ _ h => h) (Or.inl ⟨by rfl, fun w9 hSw => ?_⟩) hHeld ?_
                · obtain ⟨s0, s1, s2⟩ := hSw
                  go_simp
                  all_goals (first | rfl | omega | (simp [*]; done) | (simp; omega))
                simp only [List.getElem_toArray, List.getElem_cons_zero, List.getElem_cons_succ, Act.put, List.setIfInBounds_toArray, List.set_cons_zero, List.set_cons_succ]
                refine wpAnyH_take (i := 5) (v := .bool true) rfl (by kernel_rfl) (by kernel_rfl) (by kernel_rfl) (fun _ _ _ h => h) (Or.inl ⟨by rfl, fun w9 hSw => ?_⟩) hHeld ?_
                · obtain ⟨s0, s1, s2⟩ := hSw
                  go_simp
                simp only [List.getElem_toArray, List.getElem_cons_zero, List.getElem_cons_succ, Act.put, List.setIfInBounds_toArray, List.set_cons_zero, List.set_cons_succ]
                refine wpAnyH_take (i := 6) (v := .pointer (some ⟨xb, 3, none⟩)) rfl (by kernel_rfl) (by kernel_rfl) (by kernel_rfl) (fun _ _ _ h => h) (Or.inl ⟨by rfl, fun w9 hSw => ?_⟩) hHeld ?_
                · obtain ⟨s0, s1, s2⟩ := hSw
                  go_simp
                simp only [List.getElem_toArray, List.getElem_cons_zero, List.getElem_cons_succ, Act.put, List.setIfInBounds_toArray, List.set_cons_zero, List.set_cons_succ]
                refine wpAnyH_take (i := 7) (v := .slice (some ⟨rb, ro, none⟩) L.length cc) rfl (by kernel_rfl) (by kernel_rfl) (by kernel_rfl) (fun _ _ _ h => h) (Or.inl ⟨by rfl, fun w9 hSw => ?_⟩) hHeld ?_
                · obtain ⟨s0, s1, s2⟩ := hSw
                  go_simp
                simp only [List.getElem_toArray, List.getElem_cons_zero, List.getElem_cons_succ, Act.put, List.setIfInBounds_toArray, List.set_cons_zero, List.set_cons_succ]
                refine wpAnyH_take (i := 8) (v := .int .i64 (i : Int)) rfl (by kernel_rfl) (by kernel_rfl) (by kernel_rfl) (fun _ _ _ h => h) (Or.inl ⟨by rfl, fun w9 hSw => ?_⟩) hHeld ?_
                · obtain ⟨s0, s1, s2⟩ := hSw
                  go_simp
                simp only [List.getElem_toArray, List.getElem_cons_zero, List.getElem_cons_succ, Act.put, List.setIfInBounds_toArray, List.set_cons_zero, List.set_cons_succ]
                refine wpAnyH_take (i := 9) (v := .pointer (some ⟨rb, ro + i, none⟩)) rfl (by kernel_rfl) (by kernel_rfl) (by kernel_rfl) (fun _ _ _ h => h) (Or.inl ⟨by rfl, fun w9 hSw => ?_⟩) hHeld ?_
                · obtain ⟨s0, s1, s2⟩ := hSw
                  go_simp
                  all_goals (first | rfl | omega | (simp [*]; done) | (simp; omega))
                simp only [List.getElem_toArray, List.getElem_cons_zero, List.getElem_cons_succ, Act.put, List.setIfInBounds_toArray, List.set_cons_zero, List.set_cons_succ]
                refine wpAnyH_take (i := 10) (v := .int .i64 xx) rfl (by kernel_rfl) (by kernel_rfl) (by kernel_rfl) (fun _ _ _ h => h) (Or.inl ⟨by rfl, fun w9 hSw => ?_⟩) hHeld ?_
                · obtain ⟨s0, s1, s2⟩ := hSw
                  go_simp
                simp only [List.getElem_toArray, List.getElem_cons_zero, List.getElem_cons_succ, Act.put, List.setIfInBounds_toArray, List.set_cons_zero, List.set_cons_succ]
                refine wpAnyH_take (i := 11) (v := .pointer (some ⟨xb, 3, none⟩)) rfl (by kernel_rfl) (by kernel_rfl) (by kernel_rfl) (fun _ _ _ h => h) (Or.inl ⟨by rfl, fun w9 hSw => ?_⟩) hHeld ?_
                · obtain ⟨s0, s1, s2⟩ := hSw
                  go_simp
                simp only [List.getElem_toArray, List.getElem_cons_zero, List.getElem_cons_succ, Act.put, List.setIfInBounds_toArray, List.set_cons_zero, List.set_cons_succ]
                refine wpAnyH_take (i := 12) (v := .slice (some ⟨rb, ro, none⟩) L.length cc) rfl (by kernel_rfl) (by kernel_rfl) (by kernel_rfl) (fun _ _ _ h => h) (Or.inl ⟨by rfl, fun w9 hSw => ?_⟩) hHeld ?_
                · obtain ⟨s0, s1, s2⟩ := hSw
                  go_simp
                simp only [List.getElem_toArray, List.getElem_cons_zero, List.getElem_cons_succ, Act.put, List.setIfInBounds_toArray, List.set_cons_zero, List.set_cons_succ]
                refine wpAnyH_take (i := 13) (v := .pointer (some ⟨rb, ro, none⟩)) rfl (by kernel_rfl) (by kernel_rfl) (by kernel_rfl) (fun _ _ _ h => h) (Or.inl ⟨by rfl, fun w9 hSw => ?_⟩) hHeld ?_
                · obtain ⟨s0, s1, s2⟩ := hSw
                  go_simp
                  all_goals (first | rfl | omega | (simp [*]; done) | (simp; omega))
                simp only [List.getElem_toArray, List.getElem_cons_zero, List.getElem_cons_succ, Act.put, List.setIfInBounds_toArray, List.set_cons_zero, List.set_cons_succ]
                refine wpAnyH_take (i := 14) (v := .int .i64 ss) rfl (by kernel_rfl) (by kernel_rfl) (by kernel_rfl) (fun _ _ _ h => h) (Or.inl ⟨by rfl, fun w9 hSw => ?_⟩) hHeld ?_
                · obtain ⟨s0, s1, s2⟩ := hSw
                  go_simp
                simp only [List.getElem_toArray, List.getElem_cons_zero, List.getElem_cons_succ, Act.put, List.setIfInBounds_toArray, List.set_cons_zero, List.set_cons_succ]
                refine wpAnyH_take (i := 15) (v := .bool false) rfl (by kernel_rfl) (by kernel_rfl) (by kernel_rfl) (fun _ _ _ h => h) (Or.inl ⟨by rfl, fun w9 hSw => ?_⟩) hHeld ?_
                · obtain ⟨s0, s1, s2⟩ := hSw
                  go_simp
                  all_goals (first | rfl | omega | (simp [*]; done) | (simp; omega))
                simp only [List.getElem_toArray, List.getElem_cons_zero, List.getElem_cons_succ, Act.put, List.setIfInBounds_toArray, List.set_cons_zero, List.set_cons_succ]
                refine wpAnyH_take (i := 16) (v := .bool false) rfl (by kernel_rfl) (by kernel_rfl) (by kernel_rfl) (fun _ _ _ h => h) (Or.inl ⟨by rfl, fun w9 hSw => ?_⟩) hHeld ?_
                · obtain ⟨s0, s1, s2⟩ := hSw
                  go_simp
                simp only [List.getElem_toArray, List.getElem_cons_zero, List.getElem_cons_succ, Act.put, List.setIfInBounds_toArray, List.set_cons_zero, List.set_cons_succ]
                refine wpAnyH_take (i := 17) (v := .bool false) rfl (by kernel_rfl) (by kernel_rfl) (by kernel_rfl) (fun _ _ _ h => h) (Or.inl ⟨by rfl, fun w9 hSw => ?_⟩) hHeld ?_
                · obtain ⟨s0, s1, s2⟩ := hSw
                  go_simp
                simp only [List.getElem_toArray, List.getElem_cons_zero, List.getElem_cons_succ, Act.put, List.setIfInBounds_toArray, List.set_cons_zero, List.set_cons_succ]
                refine wpAnyH_done (by kernel_rfl) (NoPanic.normal ?_) _
                clear hHeld
                go_wp2
                go_roundw
                case rel => exact ⟨i + 1, by omega, by go_num, q2 + 1, HWd.out⟩
                case measure => simp [intOf]; omega
              · have g1 : ¬ (0 : Int) < (i : Int) := by omega
                refine wpAnyH_take (i := 0) (v := .bool true) rfl (by kernel_rfl) (by kernel_rfl) (by kernel_rfl) (fun _ _ _ h => h) (Or.inl ⟨by rfl, fun w9 hSw => ?_⟩) hHeld ?_
                · obtain ⟨s0, s1, s2⟩ := hSw
                  go_simp
                simp only [List.getElem_toArray, List.getElem_cons_zero, List.getElem_cons_succ, Act.put, List.setIfInBounds_toArray, List.set_cons_zero, List.set_cons_succ]
                refine wpAnyH_take (i := 1) (v := .bool false) rfl (by kernel_rfl) (by kernel_rfl) (by kernel_rfl) (fun _ _ _ h => h) (Or.inl ⟨by rfl, fun w9 hSw => ?_⟩) hHeld ?_
                · obtain ⟨s0, s1, s2⟩ := hSw
                  go_simp
                simp only [List.getElem_toArray, List.getElem_cons_zero, List.getElem_cons_succ, Act.put, List.setIfInBounds_toArray, List.set_cons_zero, List.set_cons_succ]
                refine wpAnyH_take (i := 2) (v := .bool false) rfl (by kernel_rfl) (by kernel_rfl) (by kernel_rfl) (fun _ _ _ h => h) (Or.inl ⟨by rfl, fun w9 hSw => ?_⟩) hHeld ?_
                · obtain ⟨s0, s1, s2⟩ := hSw
                  go_simp
                simp only [List.getElem_toArray, List.getElem_cons_zero, List.getElem_cons_succ, Act.put, List.setIfInBounds_toArray, List.set_cons_zero, List.set_cons_succ]
                refine wpAnyH_take (i := 3) (v := .int .i64 (i : Int)) rfl (by kernel_rfl) (by kernel_rfl) (by kernel_rfl) (fun _ _ _ h => h) (Or.inl ⟨by rfl, fun w9 hSw => ?_⟩) hHeld ?_
                · obtain ⟨s0, s1, s2⟩ := hSw
                  go_simp
                simp only [List.getElem_toArray, List.getElem_cons_zero, List.getElem_cons_succ, Act.put, List.setIfInBounds_toArray, List.set_cons_zero, List.set_cons_succ]
                refine wpAnyH_take (i := 4) (v := .bool false) rfl (by kernel_rfl) (by kernel_rfl) (by kernel_rfl) (fun _ _ _ h => h) (Or.inl ⟨by rfl, fun w9 hSw => ?_⟩) hHeld ?_
                · obtain ⟨s0, s1, s2⟩ := hSw
                  go_simp
                  all_goals (first | rfl | omega | (simp [*]; done) | (simp; omega))
                simp only [List.getElem_toArray, List.getElem_cons_zero, List.getElem_cons_succ, Act.put, List.setIfInBounds_toArray, List.set_cons_zero, List.set_cons_succ]
                refine wpAnyH_take (i := 5) (v := .bool false) rfl (by kernel_rfl) (by kernel_rfl) (by kernel_rfl) (fun _ _ _ h => h) (Or.inl ⟨by rfl, fun w9 hSw => ?_⟩) hHeld ?_
                · obtain ⟨s0, s1, s2⟩ := hSw
                  go_simp
                simp only [List.getElem_toArray, List.getElem_cons_zero, List.getElem_cons_succ, Act.put, List.setIfInBounds_toArray, List.set_cons_zero, List.set_cons_succ]
                refine wpAnyH_take (i := 6) (v := undef) rfl (by kernel_rfl) (by kernel_rfl) (by kernel_rfl) (fun _ _ _ h => h) (Or.inr ⟨by rfl, rfl⟩) hHeld ?_
                simp only [List.getElem_toArray, List.getElem_cons_zero, List.getElem_cons_succ, Act.put, List.setIfInBounds_toArray, List.set_cons_zero, List.set_cons_succ]
                refine wpAnyH_take (i := 7) (v := undef) rfl (by kernel_rfl) (by kernel_rfl) (by kernel_rfl) (fun _ _ _ h => h) (Or.inr ⟨by rfl, rfl⟩) hHeld ?_
                simp only [List.getElem_toArray, List.getElem_cons_zero, List.getElem_cons_succ, Act.put, List.setIfInBounds_toArray, List.set_cons_zero, List.set_cons_succ]
                refine wpAnyH_take (i := 8) (v := undef) rfl (by kernel_rfl) (by kernel_rfl) (by kernel_rfl) (fun _ _ _ h => h) (Or.inr ⟨by rfl, rfl⟩) hHeld ?_
                simp only [List.getElem_toArray, List.getElem_cons_zero, List.getElem_cons_succ, Act.put, List.setIfInBounds_toArray, List.set_cons_zero, List.set_cons_succ]
                refine wpAnyH_take (i := 9) (v := undef) rfl (by kernel_rfl) (by kernel_rfl) (by kernel_rfl) (fun _ _ _ h => h) (Or.inr ⟨by rfl, rfl⟩) hHeld ?_
                simp only [List.getElem_toArray, List.getElem_cons_zero, List.getElem_cons_succ, Act.put, List.setIfInBounds_toArray, List.set_cons_zero, List.set_cons_succ]
                refine wpAnyH_take (i := 10) (v := undef) rfl (by kernel_rfl) (by kernel_rfl) (by kernel_rfl) (fun _ _ _ h => h) (Or.inr ⟨by rfl, rfl⟩) hHeld ?_
                simp only [List.getElem_toArray, List.getElem_cons_zero, List.getElem_cons_succ, Act.put, List.setIfInBounds_toArray, List.set_cons_zero, List.set_cons_succ]
                refine wpAnyH_take (i := 11) (v := undef) rfl (by kernel_rfl) (by kernel_rfl) (by kernel_rfl) (fun _ _ _ h => h) (Or.inr ⟨by rfl, rfl⟩) hHeld ?_
                simp only [List.getElem_toArray, List.getElem_cons_zero, List.getElem_cons_succ, Act.put, List.setIfInBounds_toArray, List.set_cons_zero, List.set_cons_succ]
                refine wpAnyH_take (i := 12) (v := undef) rfl (by kernel_rfl) (by kernel_rfl) (by kernel_rfl) (fun _ _ _ h => h) (Or.inr ⟨by rfl, rfl⟩) hHeld ?_
                simp only [List.getElem_toArray, List.getElem_cons_zero, List.getElem_cons_succ, Act.put, List.setIfInBounds_toArray, List.set_cons_zero, List.set_cons_succ]
                refine wpAnyH_take (i := 13) (v := undef) rfl (by kernel_rfl) (by kernel_rfl) (by kernel_rfl) (fun _ _ _ h => h) (Or.inr ⟨by rfl, rfl⟩) hHeld ?_
                simp only [List.getElem_toArray, List.getElem_cons_zero, List.getElem_cons_succ, Act.put, List.setIfInBounds_toArray, List.set_cons_zero, List.set_cons_succ]
                refine wpAnyH_take (i := 14) (v := undef) rfl (by kernel_rfl) (by kernel_rfl) (by kernel_rfl) (fun _ _ _ h => h) (Or.inr ⟨by rfl, rfl⟩) hHeld ?_
                simp only [List.getElem_toArray, List.getElem_cons_zero, List.getElem_cons_succ, Act.put, List.setIfInBounds_toArray, List.set_cons_zero, List.set_cons_succ]
                refine wpAnyH_take (i := 15) (v := undef) rfl (by kernel_rfl) (by kernel_rfl) (by kernel_rfl) (fun _ _ _ h => h) (Or.inr ⟨by rfl, rfl⟩) hHeld ?_
                simp only [List.getElem_toArray, List.getElem_cons_zero, List.getElem_cons_succ, Act.put, List.setIfInBounds_toArray, List.set_cons_zero, List.set_cons_succ]
                refine wpAnyH_take (i := 16) (v := .bool false) rfl (by kernel_rfl) (by kernel_rfl) (by kernel_rfl) (fun _ _ _ h => h) (Or.inl ⟨by rfl, fun w9 hSw => ?_⟩) hHeld ?_
                · obtain ⟨s0, s1, s2⟩ := hSw
                  go_simp
                simp only [List.getElem_toArray, List.getElem_cons_zero, List.getElem_cons_succ, Act.put, List.setIfInBounds_toArray, List.set_cons_zero, List.set_cons_succ]
                refine wpAnyH_take (i := 17) (v := .bool false) rfl (by kernel_rfl) (by kernel_rfl) (by kernel_rfl) (fun _ _ _ h => h) (Or.inl ⟨by rfl, fun w9 hSw => ?_⟩) hHeld ?_
                · obtain ⟨s0, s1, s2⟩ := hSw
                  go_simp
                simp only [List.getElem_toArray, List.getElem_cons_zero, List.getElem_cons_succ, Act.put, List.setIfInBounds_toArray, List.set_cons_zero, List.set_cons_succ]
                refine wpAnyH_done (by kernel_rfl) (NoPanic.normal ?_) _
                clear hHeld
                go_wp2
                go_roundw
                case rel => exact ⟨i + 1, by omega, by go_num, q2 + 1, HWd.out⟩
                case measure => simp [intOf]; omega
        · have hli2 : ¬ (i : Int) < (L.length : Int) := by omega
          go_wp2
          go_ret
          refine ⟨rfl, hB.trans ?_⟩
          exact (drew_below w8 q).mono hB.size
    · have HL : Hid (LvN (2 * t) (edS t S) (clN t S) (lvN t S)) := lvn_of ht60 HT.out hc hr
      have HR : Hid (RowAt w3 gf 3 (intsA (fnL t S ((clS t S).take t))) ∧ RowAt w3 gg 3 (intsA (fnL t S ((clS t S).drop t)))) := ⟨r2, r3⟩
      clear r1 r2 r3 hr hg h1 h2
      obtain ⟨W4, hW4⟩ : ∃ W4, W4 = w3.alloc (.cells #[.slice (some ⟨gf, 0, none⟩) t t, .slice (some ⟨gg, 0, none⟩) t t, .slice (some ⟨g, 0, none⟩) (2 * t) (2 * t), .slice none 0 0] 42) := ⟨_, rfl⟩
      have hb4 : Below w3.heap.size w3 W4 := by rw [hW4]; exact (Below.refl _ _).alloc (Nat.le_refl _) _
      have hrx : RowAt W4 w3.heap.size 42 #[.slice (some ⟨gf, 0, none⟩) t t, .slice (some ⟨gg, 0, none⟩) t t, .slice (some ⟨g, 0, none⟩) (2 * t) (2 * t), .slice none 0 0] := by rw [hW4]; exact heap_new _ _
      have hcl := clashF_v (some ⟨M, 0, none⟩) t S W4 ht60 (.inr ⟨M, rfl, HM.out.below hb4 HM.out.lt⟩)
      have HC : Hid (clL t S = []) := hc
      rw [HC.out] at hcl
      rw [hW4] at hcl
      have HW4 : Hid (W4 = w3.alloc (.cells #[.slice (some ⟨gf, 0, none⟩) t t, .slice (some ⟨gg, 0, none⟩) t t, .slice (some ⟨g, 0, none⟩) (2 * t) (2 * t), .slice none 0 0] 42)) := hW4
      have HRX : Hid (RowAt W4 w3.heap.size 42 #[.slice (some ⟨gf, 0, none⟩) t t, .slice (some ⟨gg, 0, none⟩) t t, .slice (some ⟨g, 0, none⟩) (2 * t) (2 * t), .slice none 0 0]) := hrx
      clear hW4 hrx hc
      go_wp2_with fail
      refine hcl.mono ?_
      rw [← HW4.out]
      rintro e w5 ⟨rfl, hb5⟩
      unfold clashO
      obtain ⟨W6, hW6⟩ : ∃ W6, W6 = w5.alloc (.cells #[.int .i64 0, .int .i64 0, .int .i64 0, .int .i64 0] 50) := ⟨_, rfl⟩
      have hb6 : Below w5.heap.size w5 W6 := by rw [hW6]; exact (Below.refl _ _).alloc (Nat.le_refl _) _
      have HW6 : Hid (W6 = w5.alloc (.cells #[.int .i64 0, .int .i64 0, .int .i64 0, .int .i64 0] 50)) := hW6
      have hb36 := (hb4.trans (hb5.mono hb4.size)).trans (hb6.mono (Nat.le_trans hb4.size hb5.size))
      replace hB := hB.trans (hb36.mono hB.size)
      have HRX6 : Hid (RowAt W6 w3.heap.size 42 #[.slice (some ⟨gf, 0, none⟩) t t, .slice (some ⟨gg, 0, none⟩) t t, .slice (some ⟨g, 0, none⟩) (2 * t) (2 * t), .slice none 0 0]) := by have h1 := HRX.out.below hb5 HRX.out.lt; exact h1.below hb6 h1.lt
      have hft := fits_any (some ⟨M, 0, none⟩) t S xa ya xc yc X Y W6 (.inr ⟨M, rfl, HM.out.below hb36 HM.out.lt⟩) ht60 (HX.out.1.below hB (Nat.le_refl _)) (HY.out.1.below hB (Nat.le_refl _))
      have HM6 : Hid (MatAt W6 M (t : Int) S) := HM.out.below hb36 HM.out.lt
      rw [hW6] at hft
      have HB36 : Hid (Below w3.heap.size w3 W6) := hb36
      clear hW6 hcl hb4 hb5 hb6 hb36 HW4 HRX HM
      go_wp2_with fail
      refine hft.mono ?_
      rw [← HW6.out]
      rintro e w7 ⟨rfl, n, rfl⟩
      obtain ⟨fb, hfb⟩ : ∃ fb, fitsB (rY t S) (rQ t S) (rK t S) t X Y = fb := ⟨_, rfl⟩
      have HFB : Hid (fitsB (rY t S) (rQ t S) (rK t S) t X Y = fb) := hfb
      rw [hfb]
      clear hfb hft
      have hbn : Below W6.heap.size W6 (W6.drewN n) := drew_below W6 n
      replace hB := hB.trans (hbn.mono hB.size)
      have hb37 := HB36.out.trans (hbn.mono HB36.out.size)
      have HM7 : Hid (MatAt (W6.drewN n) M (t : Int) S) := HM6.out.below hbn HM6.out.lt
      have HRX7 : Hid (RowAt (W6.drewN n) w3.heap.size 42 #[.slice (some ⟨gf, 0, none⟩) t t, .slice (some ⟨gg, 0, none⟩) t t, .slice (some ⟨g, 0, none⟩) (2 * t) (2 * t), .slice none 0 0]) := HRX6.out.below hbn HRX6.out.lt
      have HR7 : Hid (RowAt (W6.drewN n) gf 3 (intsA (fnL t S ((clS t S).take t))) ∧ RowAt (W6.drewN n) gg 3 (intsA (fnL t S ((clS t S).drop t)))) := ⟨HR.out.1.below hb37 HR.out.1.lt, HR.out.2.below hb37 HR.out.2.lt⟩
      clear hb37 hbn HB36 HRX6 HM6 HR HW6 HC
      generalize W6.drewN n = w7 at *
      have hterms := terms_v (some ⟨M, 0, none⟩) t S w7 (.inr ⟨M, rfl, HM7.out⟩)
      go_wp2_with fail
      refine hterms.mono ?_
      rintro e wz ⟨rfl, hwz⟩
      obtain rfl := hwz.symm
      clear hterms
      obtain ⟨F, hFe⟩ : ∃ F, F = fnL t S ((clS t S).take t) := ⟨_, rfl⟩
      obtain ⟨G, hGe⟩ : ∃ G, G = fnL t S ((clS t S).drop t) := ⟨_, rfl⟩
      have hFl : F.length = t := by rw [hFe, fnL_len, take_len]
      have hGl : G.length = t := by rw [hGe, fnL_len, drop_len]
      have HF : Hid (∀ i, i < t → F[i]? = some (lvN t S i)) := fun i hi => by rw [hFe]; exact fnL_take hi
      have HG : Hid (∀ i, i < t → G[i]? = some (lvN t S (t + i))) := fun i hi => by rw [hGe]; exact fnL_drop hi
      rw [← hFe, ← hGe] at HR7
      clear hFe hGe
      have hFr : IRow w7 (some ⟨gf, 0, none⟩) F := fun i x hx => ⟨gf, 0, rfl, by rw [Nat.zero_add]; exact HR7.out.1.cell (intsA_get hx)⟩
      have hGr : IRow w7 (some ⟨gg, 0, none⟩) G := fun i x hx => ⟨gg, 0, rfl, by rw [Nat.zero_add]; exact HR7.out.2.cell (intsA_get hx)⟩
      have hfit := fits_any (some ⟨M, 0, none⟩) t S (some ⟨gf, 0, none⟩) (some ⟨gg, 0, none⟩) t t F G w7 (.inr ⟨M, rfl, HM7.out⟩) ht60 hFr hGr
      have hyes : fitsB (rY t S) (rQ t S) (rK t S) t F G = true := by
        have h := lv_fit HL.out
        have e1 : ∀ a, a < t → phi t F G a = lvN t S a := fun a ha => by rw [phi_lo F G ha, List.getD_eq_getElem?_getD, HF.out a ha]; rfl
        have e2 : ∀ a, a < t → phi t F G (t + a) = lvN t S (t + a) := fun a ha => by rw [phi_hi, List.getD_eq_getElem?_getD, HG.out a ha]; rfl
        refine fits_iff.2 ⟨hFl, hGl, fun a b ha hb hr => ?_, fun a b ha hb hr => ?_, fun a b ha hb hr => ?_⟩
        · rw [e1 a ha, e2 b hb]; exact h.y a b ha hb hr
        · rw [e1 a ha, e2 b hb]; exact h.q a b ha hb hr
        · rw [e1 a ha, e2 b hb]; exact h.k a b ha hb hr
      rw [hyes, hFl, hGl] at hfit
      have HFL : Hid (F.length = t ∧ G.length = t) := ⟨hFl, hGl⟩
      clear hFr hGr hFl hGl hyes
      have x0 := HRX7.out.cell (q := 0) rfl
      have x1 := HRX7.out.cell (q := 1) rfl
      have x2 := HRX7.out.cell (q := 2) rfl
      have x3 := HRX7.out.cell (q := 3) rfl
      have hne : (2 * (t : Int) != 2 * (t : Int)) = false := by simp
      have h2t : (t : Int) ≤ 60 := by omega
      go_wp2_with fail
      refine hfit.mono ?_
      rintro e wz ⟨rfl, n2, rfl⟩
      clear hfit x0 x1 x2 x3 hne
      have hbn : Below w7.heap.size w7 (w7.drewN n2) := drew_below w7 n2
      replace hB := hB.trans (hbn.mono hB.size)
      replace HRX7 : Hid (RowAt (w7.drewN n2) w3.heap.size 42 #[.slice (some ⟨gf, 0, none⟩) t t, .slice (some ⟨gg, 0, none⟩) t t, .slice (some ⟨g, 0, none⟩) (2 * t) (2 * t), .slice none 0 0]) := HRX7.out.below hbn HRX7.out.lt
      replace HR7 : Hid (RowAt (w7.drewN n2) gf 3 (intsA F) ∧ RowAt (w7.drewN n2) gg 3 (intsA G)) := ⟨HR7.out.1.below hbn HR7.out.1.lt, HR7.out.2.below hbn HR7.out.2.lt⟩
      clear hbn HM7 HE hTG hneq q0
      generalize w7.drewN n2 = w8 at *
      have HC : Hid (∀ i, i < t → (w8.cell? ⟨w3.heap.size, 0, none⟩ = some (.slice (some ⟨gf, 0, none⟩) t t) ∧ w8.cell? ⟨w3.heap.size, 1, none⟩ = some (.slice (some ⟨gg, 0, none⟩) t t)) ∧ w8.cell? ⟨gf, i, none⟩ = some (.int .i64 (lvN t S i)) ∧ w8.cell? ⟨gg, i, none⟩ = some (.int .i64 (lvN t S (t + i)))) := fun i hi => ⟨⟨HRX7.out.cell (q := 0) rfl, HRX7.out.cell (q := 1) rfl⟩, HR7.out.1.cell (intsA_get (HF.out i hi)), HR7.out.2.cell (intsA_get (HG.out i hi))⟩
      clear HRX7 HR7 HF HG HFL
      generalize w3.heap.size = xb at *
      replace HX : Hid (IRow w8 xa X ∧ X.length * 8 ≤ 140737488351232) := ⟨HX.out.1.below hB (Nat.le_refl _), HX.out.2⟩
      replace HY : Hid (IRow w8 ya Y ∧ Y.length * 8 ≤ 140737488351232) := ⟨HY.out.1.below hB (Nat.le_refl _), HY.out.2⟩
      go_wp2
      go_loopw [15] (fun s wr => ∃ i : Nat, i ≤ t ∧ s = .int .i64 (i : Int) ∧ ∃ q, wr = w8.drewN q) (fun s _ => t - (intOf s).toNat)
      case atStart => exact ⟨0, by omega, rfl, 0, rfl⟩
      case round =>
        obtain ⟨i, hi, rfl, q, rfl⟩ := hrel
        by_cases hlt : i < t
        · have hlt2 : (i : Int) < (t : Int) := by omega
          obtain ⟨⟨k0, k1⟩, k2, k3⟩ := HC.out i hlt
          have hp1 := HL.out.pos i
          have hp2 := HL.out.pos (t + i)
          have hu1 := HL.out.few i
          have hu2 := HL.out.few (t + i)
          have HLF : Hid (∀ x y, X[i]? = some x → Y[i]? = some y → fb = true → nonnB X = true → nonnB Y = true → lvN t S i ≤ x ∧ lvN t S (t + i) ≤ y) := fun x y hx hy hf h1 h2 => by
            obtain ⟨l1, l2, hf⟩ := fits_iff.1 (HFB.out.trans hf)
            have h0 : ∀ i, i < 2 * t → 0 ≤ phi t X Y i := fun i hi => by
              by_cases hit : i < t
              · rw [phi_lo X Y hit, List.getD_eq_getElem?_getD, List.getElem?_eq_getElem (by omega)]
                have := List.all_eq_true.1 h1 X[i] (List.getElem_mem _)
                simpa using this
              · rw [show i = t + (i - t) by omega, phi_hi, List.getD_eq_getElem?_getD, List.getElem?_eq_getElem (by omega)]
                have := List.all_eq_true.1 h2 Y[i - t] (List.getElem_mem _)
                simpa using this
            have m1 := hf.least HT.out h0 HL.out _ i (by omega) (Int.self_le_toNat _)
            have m2 := hf.least HT.out h0 HL.out _ (t + i) (by omega) (Int.self_le_toNat _)
            rw [phi_lo X Y hlt, List.getD_eq_getElem?_getD, hx] at m1
            rw [phi_hi, List.getD_eq_getElem?_getD, hy] at m2
            exact ⟨m1, m2⟩
          generalize lvN t S i = fi at *
          generalize lvN t S (t + i) = gi at *
          have hn1 : ¬ fi < 0 := by omega
          have hn2 : ¬ gi < 0 := by omega
          obtain ⟨Wd, hWd⟩ : ∃ Wd, (w8.drewN q).drew = Wd := ⟨_, rfl⟩
          have HWd : Hid (Wd = w8.drewN (q + 1)) := hWd.symm
          have e0 : (w8.drewN q).drew.cell? ⟨xb, 0, none⟩ = some (.slice (some ⟨gf, 0, none⟩) t t) := k0
          have e1 : (w8.drewN q).drew.cell? ⟨xb, 1, none⟩ = some (.slice (some ⟨gg, 0, none⟩) t t) := k1
          have e2 : (w8.drewN q).drew.cell? ⟨gf, i, none⟩ = some (.int .i64 fi) := k2
          have e3 : (w8.drewN q).drew.cell? ⟨gg, i, none⟩ = some (.int .i64 gi) := k3
          clear k0 k1 k2 k3 HL HT
          cases fb with
          | false =>
            clear HLF HFB
            go_wp2_with fail
            refine wp_region_noPanic ?_
            refine wp_region_held_drew (S := (fun w9 => w9.cell? ⟨xb, 0, none⟩ = some (.slice (some ⟨gf, 0, none⟩) t t) ∧ w9.cell? ⟨xb, 1, none⟩ = some (.slice (some ⟨gg, 0, none⟩) t t) ∧ w9.cell? ⟨gf, i, none⟩ = some (.int .i64 fi) ∧ w9.cell? ⟨gg, i, none⟩ = some (.int .i64 gi))) (by kernel_rfl) ⟨e0, e1, e2, e3⟩ (fun hHeld => ?_)
            rw [hWd] at hHeld ⊢
            clear e0 e1 e2 e3 hWd
            refine wpAnyH_take (i := 0) (v := .pointer (some ⟨xb, 0, none⟩)) rfl (by kernel_rfl) (by kernel_rfl) (by kernel_rfl) (fun _ _ _ h => h) (Or.inl ⟨by rfl, fun w9 hSw => ?_⟩) hHeld ?_
            · obtain ⟨s0, s1, s2, s3⟩ := hSw
              go_simp
            simp only [List.getElem_toArray, List.getElem_cons_zero, List.getElem_cons_succ, Act.put, List.setIfInBounds_toArray, List.set_cons_zero, List.set_cons_succ]
            refine wpAnyH_take (i := 1) (v := .slice (some ⟨gf, 0, none⟩) t t) rfl (by kernel_rfl) (by kernel_rfl) (by kernel_rfl) (fun _ _ _ h => h) (Or.inl ⟨by rfl, fun w9 hSw => ?_⟩) hHeld ?_
            · obtain ⟨s0, s1, s2, s3⟩ := hSw
              go_simp
            simp only [List.getElem_toArray, List.getElem_cons_zero, List.getElem_cons_succ, Act.put, List.setIfInBounds_toArray, List.set_cons_zero, List.set_cons_succ]
            refine wpAnyH_take (i := 2) (v := .int .i64 (i : Int)) rfl (by kernel_rfl) (by kernel_rfl) (by kernel_rfl) (fun _ _ _ h => h) (Or.inl ⟨by rfl, fun w9 hSw => ?_⟩) hHeld ?_
            · obtain ⟨s0, s1, s2, s3⟩ := hSw
              go_simp
            simp only [List.getElem_toArray, List.getElem_cons_zero, List.getElem_cons_succ, Act.put, List.setIfInBounds_toArray, List.set_cons_zero, List.set_cons_succ]
            refine wpAnyH_take (i := 3) (v := .pointer (some ⟨gf, i, none⟩)) rfl (by kernel_rfl) (by kernel_rfl) (by kernel_rfl) (fun _ _ _ h => h) (Or.inl ⟨by rfl, fun w9 hSw => ?_⟩) hHeld ?_
            · obtain ⟨s0, s1, s2, s3⟩ := hSw
              go_simp
              all_goals (first | rfl | omega | (simp [*]; done) | (simp; omega))
            simp only [List.getElem_toArray, List.getElem_cons_zero, List.getElem_cons_succ, Act.put, List.setIfInBounds_toArray, List.set_cons_zero, List.set_cons_succ]
            refine wpAnyH_take (i := 4) (v := .int .i64 fi) rfl (by kernel_rfl) (by kernel_rfl) (by kernel_rfl) (fun _ _ _ h => h) (Or.inl ⟨by rfl, fun w9 hSw => ?_⟩) hHeld ?_
            · obtain ⟨s0, s1, s2, s3⟩ := hSw
              go_simp
            simp only [List.getElem_toArray, List.getElem_cons_zero, List.getElem_cons_succ, Act.put, List.setIfInBounds_toArray, List.set_cons_zero, List.set_cons_succ]
            refine wpAnyH_take (i := 5) (v := .bool false) rfl (by kernel_rfl) (by kernel_rfl) (by kernel_rfl) (fun _ _ _ h => h) (Or.inl ⟨by rfl, fun w9 hSw => ?_⟩) hHeld ?_
            · obtain ⟨s0, s1, s2, s3⟩ := hSw
              go_simp
              all_goals (first | rfl | omega | (simp [*]; done) | (simp; omega))
            simp only [List.getElem_toArray, List.getElem_cons_zero, List.getElem_cons_succ, Act.put, List.setIfInBounds_toArray, List.set_cons_zero, List.set_cons_succ]
            refine wpAnyH_take (i := 6) (v := .bool false) rfl (by kernel_rfl) (by kernel_rfl) (by kernel_rfl) (fun _ _ _ h => h) (Or.inl ⟨by rfl, fun w9 hSw => ?_⟩) hHeld ?_
            · obtain ⟨s0, s1, s2, s3⟩ := hSw
              go_simp
            simp only [List.getElem_toArray, List.getElem_cons_zero, List.getElem_cons_succ, Act.put, List.setIfInBounds_toArray, List.set_cons_zero, List.set_cons_succ]
            refine wpAnyH_take (i := 7) (v := .pointer (some ⟨xb, 1, none⟩)) rfl (by kernel_rfl) (by kernel_rfl) (by kernel_rfl) (fun _ _ _ h => h) (Or.inl ⟨by rfl, fun w9 hSw => ?_⟩) hHeld ?_
            · obtain ⟨s0, s1, s2, s3⟩ := hSw
              go_simp
            simp only [List.getElem_toArray, List.getElem_cons_zero, List.getElem_cons_succ, Act.put, List.setIfInBounds_toArray, List.set_cons_zero, List.set_cons_succ]
            refine wpAnyH_take (i := 8) (v := .slice (some ⟨gg, 0, none⟩) t t) rfl (by kernel_rfl) (by kernel_rfl) (by kernel_rfl) (fun _ _ _ h => h) (Or.inl ⟨by rfl, fun w9 hSw => ?_⟩) hHeld ?_
            · obtain ⟨s0, s1, s2, s3⟩ := hSw
              go_simp
            simp only [List.getElem_toArray, List.getElem_cons_zero, List.getElem_cons_succ, Act.put, List.setIfInBounds_toArray, List.set_cons_zero, List.set_cons_succ]
            refine wpAnyH_take (i := 9) (v := .int .i64 (i : Int)) rfl (by kernel_rfl) (by kernel_rfl) (by kernel_rfl) (fun _ _ _ h => h) (Or.inl ⟨by rfl, fun w9 hSw => ?_⟩) hHeld ?_
            · obtain ⟨s0, s1, s2, s3⟩ := hSw
              go_simp
            simp only [List.getElem_toArray, List.getElem_cons_zero, List.getElem_cons_succ, Act.put, List.setIfInBounds_toArray, List.set_cons_zero, List.set_cons_succ]
            refine wpAnyH_take (i := 10) (v := .pointer (some ⟨gg, i, none⟩)) rfl (by kernel_rfl) (by kernel_rfl) (by kernel_rfl) (fun _ _ _ h => h) (Or.inl ⟨by rfl, fun w9 hSw => ?_⟩) hHeld ?_
            · obtain ⟨s0, s1, s2, s3⟩ := hSw
              go_simp
              all_goals (first | rfl | omega | (simp [*]; done) | (simp; omega))
            simp only [List.getElem_toArray, List.getElem_cons_zero, List.getElem_cons_succ, Act.put, List.setIfInBounds_toArray, List.set_cons_zero, List.set_cons_succ]
            refine wpAnyH_take (i := 11) (v := .int .i64 gi) rfl (by kernel_rfl) (by kernel_rfl) (by kernel_rfl) (fun _ _ _ h => h) (Or.inl ⟨by rfl, fun w9 hSw => ?_⟩) hHeld ?_
            · obtain ⟨s0, s1, s2, s3⟩ := hSw
              go_simp
            simp only [List.getElem_toArray, List.getElem_cons_zero, List.getElem_cons_succ, Act.put, List.setIfInBounds_toArray, List.set_cons_zero, List.set_cons_succ]
            refine wpAnyH_take (i := 12) (v := .bool false) rfl (by kernel_rfl) (by kernel_rfl) (by kernel_rfl) (fun _ _ _ h => h) (Or.inl ⟨by rfl, fun w9 hSw => ?_⟩) hHeld ?_
            · obtain ⟨s0, s1, s2, s3⟩ := hSw
              go_simp
              all_goals (first | rfl | omega | (simp [*]; done) | (simp; omega))
            simp only [List.getElem_toArray, List.getElem_cons_zero, List.getElem_cons_succ, Act.put, List.setIfInBounds_toArray, List.set_cons_zero, List.set_cons_succ]
            refine wpAnyH_take (i := 13) (v := .bool false) rfl (by kernel_rfl) (by kernel_rfl) (by kernel_rfl) (fun _ _ _ h => h) (Or.inl ⟨by rfl, fun w9 hSw => ?_⟩) hHeld ?_
            · obtain ⟨s0, s1, s2, s3⟩ := hSw
              go_simp
            simp only [List.getElem_toArray, List.getElem_cons_zero, List.getElem_cons_succ, Act.put, List.setIfInBounds_toArray, List.set_cons_zero, List.set_cons_succ]
            refine wpAnyH_take (i := 14) (v := .bool false) rfl (by kernel_rfl) (by kernel_rfl) (by kernel_rfl) (fun _ _ _ h => h) (Or.inl ⟨by rfl, fun w9 hSw => ?_⟩) hHeld ?_
            · obtain ⟨s0, s1, s2, s3⟩ := hSw
              go_simp
            simp only [List.getElem_toArray, List.getElem_cons_zero, List.getElem_cons_succ, Act.put, List.setIfInBounds_toArray, List.set_cons_zero, List.set_cons_succ]
            refine wpAnyH_take (i := 15) (v := .bool false) rfl (by kernel_rfl) (by kernel_rfl) (by kernel_rfl) (fun _ _ _ h => h) (Or.inl ⟨by rfl, fun w9 hSw => ?_⟩) hHeld ?_
            · obtain ⟨s0, s1, s2, s3⟩ := hSw
              go_simp
            simp only [List.getElem_toArray, List.getElem_cons_zero, List.getElem_cons_succ, Act.put, List.setIfInBounds_toArray, List.set_cons_zero, List.set_cons_succ]
            refine wpAnyH_take (i := 16) (v := .bool false) rfl (by kernel_rfl) (by kernel_rfl) (by kernel_rfl) (fun _ _ _ h => h) (Or.inl ⟨by rfl, fun w9 hSw => ?_⟩) hHeld ?_
            · obtain ⟨s0, s1, s2, s3⟩ := hSw
              go_simp
            simp only [List.getElem_toArray, List.getElem_cons_zero, List.getElem_cons_succ, Act.put, List.setIfInBounds_toArray, List.set_cons_zero, List.set_cons_succ]
            refine wpAnyH_take (i := 17) (v := undef) rfl (by kernel_rfl) (by kernel_rfl) (by kernel_rfl) (fun _ _ _ h => h) (Or.inr ⟨by rfl, rfl⟩) hHeld ?_
            simp only [List.getElem_toArray, List.getElem_cons_zero, List.getElem_cons_succ, Act.put, List.setIfInBounds_toArray, List.set_cons_zero, List.set_cons_succ]
            refine wpAnyH_take (i := 18) (v := undef) rfl (by kernel_rfl) (by kernel_rfl) (by kernel_rfl) (fun _ _ _ h => h) (Or.inr ⟨by rfl, rfl⟩) hHeld ?_
            simp only [List.getElem_toArray, List.getElem_cons_zero, List.getElem_cons_succ, Act.put, List.setIfInBounds_toArray, List.set_cons_zero, List.set_cons_succ]
            refine wpAnyH_take (i := 19) (v := .bool false) rfl (by kernel_rfl) (by kernel_rfl) (by kernel_rfl) (fun _ _ _ h => h) (Or.inl ⟨by rfl, fun w9 hSw => ?_⟩) hHeld ?_
            · obtain ⟨s0, s1, s2, s3⟩ := hSw
              go_simp
            simp only [List.getElem_toArray, List.getElem_cons_zero, List.getElem_cons_succ, Act.put, List.setIfInBounds_toArray, List.set_cons_zero, List.set_cons_succ]
            refine wpAnyH_take (i := 20) (v := .bool false) rfl (by kernel_rfl) (by kernel_rfl) (by kernel_rfl) (fun _ _ _ h => h) (Or.inl ⟨by rfl, fun w9 hSw => ?_⟩) hHeld ?_
            · obtain ⟨s0, s1, s2, s3⟩ := hSw
              go_simp
            simp only [List.getElem_toArray, List.getElem_cons_zero, List.getElem_cons_succ, Act.put, List.setIfInBounds_toArray, List.set_cons_zero, List.set_cons_succ]
            refine wpAnyH_take (i := 21) (v := undef) rfl (by kernel_rfl) (by kernel_rfl) (by kernel_rfl) (fun _ _ _ h => h) (Or.inr ⟨by rfl, rfl⟩) hHeld ?_
            simp only [List.getElem_toArray, List.getElem_cons_zero, List.getElem_cons_succ, Act.put, List.setIfInBounds_toArray, List.set_cons_zero, List.set_cons_succ]
            refine wpAnyH_take (i := 22) (v := undef) rfl (by kernel_rfl) (by kernel_rfl) (by kernel_rfl) (fun _ _ _ h => h) (Or.inr ⟨by rfl, rfl⟩) hHeld ?_
            simp only [List.getElem_toArray, List.getElem_cons_zero, List.getElem_cons_succ, Act.put, List.setIfInBounds_toArray, List.set_cons_zero, List.set_cons_succ]
            refine wpAnyH_take (i := 23) (v := .bool false) rfl (by kernel_rfl) (by kernel_rfl) (by kernel_rfl) (fun _ _ _ h => h) (Or.inl ⟨by rfl, fun w9 hSw => ?_⟩) hHeld ?_
            · obtain ⟨s0, s1, s2, s3⟩ := hSw
              go_simp
            simp only [List.getElem_toArray, List.getElem_cons_zero, List.getElem_cons_succ, Act.put, List.setIfInBounds_toArray, List.set_cons_zero, List.set_cons_succ]
            refine wpAnyH_take (i := 24) (v := .bool false) rfl (by kernel_rfl) (by kernel_rfl) (by kernel_rfl) (fun _ _ _ h => h) (Or.inl ⟨by rfl, fun w9 hSw => ?_⟩) hHeld ?_
            · obtain ⟨s0, s1, s2, s3⟩ := hSw
              go_simp
            simp only [List.getElem_toArray, List.getElem_cons_zero, List.getElem_cons_succ, Act.put, List.setIfInBounds_toArray, List.set_cons_zero, List.set_cons_succ]
            refine wpAnyH_take (i := 25) (v := undef) rfl (by kernel_rfl) (by kernel_rfl) (by kernel_rfl) (fun _ _ _ h => h) (Or.inr ⟨by rfl, rfl⟩) hHeld ?_
            simp only [List.getElem_toArray, List.getElem_cons_zero, List.getElem_cons_succ, Act.put, List.setIfInBounds_toArray, List.set_cons_zero, List.set_cons_succ]
            refine wpAnyH_take (i := 26) (v := undef) rfl (by kernel_rfl) (by kernel_rfl) (by kernel_rfl) (fun _ _ _ h => h) (Or.inr ⟨by rfl, rfl⟩) hHeld ?_
            simp only [List.getElem_toArray, List.getElem_cons_zero, List.getElem_cons_succ, Act.put, List.setIfInBounds_toArray, List.set_cons_zero, List.set_cons_succ]
            refine wpAnyH_take (i := 27) (v := undef) rfl (by kernel_rfl) (by kernel_rfl) (by kernel_rfl) (fun _ _ _ h => h) (Or.inr ⟨by rfl, rfl⟩) hHeld ?_
            simp only [List.getElem_toArray, List.getElem_cons_zero, List.getElem_cons_succ, Act.put, List.setIfInBounds_toArray, List.set_cons_zero, List.set_cons_succ]
            refine wpAnyH_take (i := 28) (v := undef) rfl (by kernel_rfl) (by kernel_rfl) (by kernel_rfl) (fun _ _ _ h => h) (Or.inr ⟨by rfl, rfl⟩) hHeld ?_
            simp only [List.getElem_toArray, List.getElem_cons_zero, List.getElem_cons_succ, Act.put, List.setIfInBounds_toArray, List.set_cons_zero, List.set_cons_succ]
            refine wpAnyH_take (i := 29) (v := undef) rfl (by kernel_rfl) (by kernel_rfl) (by kernel_rfl) (fun _ _ _ h => h) (Or.inr ⟨by rfl, rfl⟩) hHeld ?_
            simp only [List.getElem_toArray, List.getElem_cons_zero, List.getElem_cons_succ, Act.put, List.setIfInBounds_toArray, List.set_cons_zero, List.set_cons_succ]
            refine wpAnyH_take (i := 30) (v := undef) rfl (by kernel_rfl) (by kernel_rfl) (by kernel_rfl) (fun _ _ _ h => h) (Or.inr ⟨by rfl, rfl⟩) hHeld ?_
            simp only [List.getElem_toArray, List.getElem_cons_zero, List.getElem_cons_succ, Act.put, List.setIfInBounds_toArray, List.set_cons_zero, List.set_cons_succ]
            refine wpAnyH_take (i := 31) (v := undef) rfl (by kernel_rfl) (by kernel_rfl) (by kernel_rfl) (fun _ _ _ h => h) (Or.inr ⟨by rfl, rfl⟩) hHeld ?_
            simp only [List.getElem_toArray, List.getElem_cons_zero, List.getElem_cons_succ, Act.put, List.setIfInBounds_toArray, List.set_cons_zero, List.set_cons_succ]
            refine wpAnyH_take (i := 32) (v := undef) rfl (by kernel_rfl) (by kernel_rfl) (by kernel_rfl) (fun _ _ _ h => h) (Or.inr ⟨by rfl, rfl⟩) hHeld ?_
            simp only [List.getElem_toArray, List.getElem_cons_zero, List.getElem_cons_succ, Act.put, List.setIfInBounds_toArray, List.set_cons_zero, List.set_cons_succ]
            refine wpAnyH_take (i := 33) (v := undef) rfl (by kernel_rfl) (by kernel_rfl) (by kernel_rfl) (fun _ _ _ h => h) (Or.inr ⟨by rfl, rfl⟩) hHeld ?_
            simp only [List.getElem_toArray, List.getElem_cons_zero, List.getElem_cons_succ, Act.put, List.setIfInBounds_toArray, List.set_cons_zero, List.set_cons_succ]
            refine wpAnyH_take (i := 34) (v := undef) rfl (by kernel_rfl) (by kernel_rfl) (by kernel_rfl) (fun _ _ _ h => h) (Or.inr ⟨by rfl, rfl⟩) hHeld ?_
            simp only [List.getElem_toArray, List.getElem_cons_zero, List.getElem_cons_succ, Act.put, List.setIfInBounds_toArray, List.set_cons_zero, List.set_cons_succ]
            refine wpAnyH_take (i := 35) (v := undef) rfl (by kernel_rfl) (by kernel_rfl) (by kernel_rfl) (fun _ _ _ h => h) (Or.inr ⟨by rfl, rfl⟩) hHeld ?_
            simp only [List.getElem_toArray, List.getElem_cons_zero, List.getElem_cons_succ, Act.put, List.setIfInBounds_toArray, List.set_cons_zero, List.set_cons_succ]
            refine wpAnyH_take (i := 36) (v := undef) rfl (by kernel_rfl) (by kernel_rfl) (by kernel_rfl) (fun _ _ _ h => h) (Or.inr ⟨by rfl, rfl⟩) hHeld ?_
            simp only [List.getElem_toArray, List.getElem_cons_zero, List.getElem_cons_succ, Act.put, List.setIfInBounds_toArray, List.set_cons_zero, List.set_cons_succ]
            refine wpAnyH_take (i := 37) (v := undef) rfl (by kernel_rfl) (by kernel_rfl) (by kernel_rfl) (fun _ _ _ h => h) (Or.inr ⟨by rfl, rfl⟩) hHeld ?_
            simp only [List.getElem_toArray, List.getElem_cons_zero, List.getElem_cons_succ, Act.put, List.setIfInBounds_toArray, List.set_cons_zero, List.set_cons_succ]
            refine wpAnyH_take (i := 38) (v := undef) rfl (by kernel_rfl) (by kernel_rfl) (by kernel_rfl) (fun _ _ _ h => h) (Or.inr ⟨by rfl, rfl⟩) hHeld ?_
            simp only [List.getElem_toArray, List.getElem_cons_zero, List.getElem_cons_succ, Act.put, List.setIfInBounds_toArray, List.set_cons_zero, List.set_cons_succ]
            refine wpAnyH_take (i := 39) (v := undef) rfl (by kernel_rfl) (by kernel_rfl) (by kernel_rfl) (fun _ _ _ h => h) (Or.inr ⟨by rfl, rfl⟩) hHeld ?_
            simp only [List.getElem_toArray, List.getElem_cons_zero, List.getElem_cons_succ, Act.put, List.setIfInBounds_toArray, List.set_cons_zero, List.set_cons_succ]
            refine wpAnyH_take (i := 40) (v := undef) rfl (by kernel_rfl) (by kernel_rfl) (by kernel_rfl) (fun _ _ _ h => h) (Or.inr ⟨by rfl, rfl⟩) hHeld ?_
            simp only [List.getElem_toArray, List.getElem_cons_zero, List.getElem_cons_succ, Act.put, List.setIfInBounds_toArray, List.set_cons_zero, List.set_cons_succ]
            refine wpAnyH_take (i := 41) (v := undef) rfl (by kernel_rfl) (by kernel_rfl) (by kernel_rfl) (fun _ _ _ h => h) (Or.inr ⟨by rfl, rfl⟩) hHeld ?_
            simp only [List.getElem_toArray, List.getElem_cons_zero, List.getElem_cons_succ, Act.put, List.setIfInBounds_toArray, List.set_cons_zero, List.set_cons_succ]
            refine wpAnyH_take (i := 42) (v := undef) rfl (by kernel_rfl) (by kernel_rfl) (by kernel_rfl) (fun _ _ _ h => h) (Or.inr ⟨by rfl, rfl⟩) hHeld ?_
            simp only [List.getElem_toArray, List.getElem_cons_zero, List.getElem_cons_succ, Act.put, List.setIfInBounds_toArray, List.set_cons_zero, List.set_cons_succ]
            refine wpAnyH_take (i := 43) (v := undef) rfl (by kernel_rfl) (by kernel_rfl) (by kernel_rfl) (fun _ _ _ h => h) (Or.inr ⟨by rfl, rfl⟩) hHeld ?_
            simp only [List.getElem_toArray, List.getElem_cons_zero, List.getElem_cons_succ, Act.put, List.setIfInBounds_toArray, List.set_cons_zero, List.set_cons_succ]
            refine wpAnyH_take (i := 44) (v := undef) rfl (by kernel_rfl) (by kernel_rfl) (by kernel_rfl) (fun _ _ _ h => h) (Or.inr ⟨by rfl, rfl⟩) hHeld ?_
            simp only [List.getElem_toArray, List.getElem_cons_zero, List.getElem_cons_succ, Act.put, List.setIfInBounds_toArray, List.set_cons_zero, List.set_cons_succ]
            refine wpAnyH_take (i := 45) (v := undef) rfl (by kernel_rfl) (by kernel_rfl) (by kernel_rfl) (fun _ _ _ h => h) (Or.inr ⟨by rfl, rfl⟩) hHeld ?_
            simp only [List.getElem_toArray, List.getElem_cons_zero, List.getElem_cons_succ, Act.put, List.setIfInBounds_toArray, List.set_cons_zero, List.set_cons_succ]
            refine wpAnyH_take (i := 46) (v := undef) rfl (by kernel_rfl) (by kernel_rfl) (by kernel_rfl) (fun _ _ _ h => h) (Or.inr ⟨by rfl, rfl⟩) hHeld ?_
            simp only [List.getElem_toArray, List.getElem_cons_zero, List.getElem_cons_succ, Act.put, List.setIfInBounds_toArray, List.set_cons_zero, List.set_cons_succ]
            refine wpAnyH_take (i := 47) (v := .bool false) rfl (by kernel_rfl) (by kernel_rfl) (by kernel_rfl) (fun _ _ _ h => h) (Or.inl ⟨by rfl, fun w9 hSw => ?_⟩) hHeld ?_
            · obtain ⟨s0, s1, s2, s3⟩ := hSw
              go_simp
            simp only [List.getElem_toArray, List.getElem_cons_zero, List.getElem_cons_succ, Act.put, List.setIfInBounds_toArray, List.set_cons_zero, List.set_cons_succ]
            refine wpAnyH_take (i := 48) (v := .bool false) rfl (by kernel_rfl) (by kernel_rfl) (by kernel_rfl) (fun _ _ _ h => h) (Or.inl ⟨by rfl, fun w9 hSw => ?_⟩) hHeld ?_
            · obtain ⟨s0, s1, s2, s3⟩ := hSw
              go_simp
            simp only [List.getElem_toArray, List.getElem_cons_zero, List.getElem_cons_succ, Act.put, List.setIfInBounds_toArray, List.set_cons_zero, List.set_cons_succ]
            refine wpAnyH_done (by kernel_rfl) (NoPanic.normal ?_) _
            clear hHeld
            go_wp2
            go_roundw
            case rel => exact ⟨i + 1, by omega, by go_num, q + 1, HWd.out⟩
            case measure => simp [intOf]; omega
          | true =>
            obtain ⟨l1, l2, _⟩ := fits_iff.1 HFB.out
            obtain ⟨x, hx⟩ : ∃ x, X[i]? = some x := ⟨X[i], List.getElem?_eq_getElem (by omega)⟩
            obtain ⟨y, hy⟩ : ∃ y, Y[i]? = some y := ⟨Y[i], List.getElem?_eq_getElem (by omega)⟩
            obtain ⟨b1, o1, rfl, cx⟩ := HX.out.1 i x hx
            obtain ⟨b2, o2, rfl, cy⟩ := HY.out.1 i y hy
            have e4 : (w8.drewN q).drew.cell? ⟨b1, o1 + i, none⟩ = some (.int .i64 x) := cx
            have e5 : (w8.drewN q).drew.cell? ⟨b2, o2 + i, none⟩ = some (.int .i64 y) := cy
            have hXd : IRow Wd (some ⟨b1, o1, none⟩) X := by rw [← hWd]; exact HX.out.1
            have hYd : IRow Wd (some ⟨b2, o2, none⟩) Y := by rw [← hWd]; exact HY.out.1
            have hl1 := HX.out.2
            have hl2 := HY.out.2
            have H1 := nonnegative_any (some ⟨b1, o1, none⟩) xc X Wd hXd (by omega)
            have H2 := nonnegative_any (some ⟨b2, o2, none⟩) yc Y Wd hYd (by omega)
            have HXY : Hid (X.length = t ∧ Y.length = t ∧ X[i]? = some x ∧ Y[i]? = some y) := ⟨l1, l2, hx, hy⟩
            have HLe : Hid (nonnB X = true → nonnB Y = true → fi ≤ x ∧ gi ≤ y) := fun h1 h2 => HLF.out x y hx hy rfl h1 h2
            rw [l1] at H1
            rw [l2] at H2
            rw [l1, l2]
            generalize nonnB X = bx at *
            generalize nonnB Y = bY at *
            have HH1 : Hid (Calls Tryz.prog 18 #[.slice (some ⟨b1, o1, none⟩) t xc] Wd fun e w' => e = .returned (.bool bx) ∧ w' = Wd) := H1
            have HH2 : Hid (Calls Tryz.prog 18 #[.slice (some ⟨b2, o2, none⟩) t yc] Wd fun e w' => e = .returned (.bool bY) ∧ w' = Wd) := H2
            clear H1 H2 HLF HFB l1 l2 hx hy cx cy hXd hYd hl1 hl2
            go_wp2_with fail
            refine wp_region_noPanic ?_
            refine wp_region_held_drew (S := (fun w9 => w9.cell? ⟨xb, 0, none⟩ = some (.slice (some ⟨gf, 0, none⟩) t t) ∧ w9.cell? ⟨xb, 1, none⟩ = some (.slice (some ⟨gg, 0, none⟩) t t) ∧ w9.cell? ⟨gf, i, none⟩ = some (.int .i64 fi) ∧ w9.cell? ⟨gg, i, none⟩ = some (.int .i64 gi) ∧ w9.cell? ⟨b1, o1 + i, none⟩ = some (.int .i64 x) ∧ w9.cell? ⟨b2, o2 + i, none⟩ = some (.int .i64 y))) (by kernel_rfl) ⟨e0, e1, e2, e3, e4, e5⟩ (fun hHeld => ?_)
            rw [hWd] at hHeld ⊢
            clear e0 e1 e2 e3 e4 e5 hWd
            refine wpAnyH_take (i := 0) (v := .pointer (some ⟨xb, 0, none⟩)) rfl (by kernel_rfl) (by kernel_rfl) (by kernel_rfl) (fun _ _ _ h => h) (Or.inl ⟨by rfl, fun w9 hSw => ?_⟩) hHeld ?_
            · obtain ⟨s0, s1, s2, s3, s4, s5⟩ := hSw
              go_simp
            simp only [List.getElem_toArray, List.getElem_cons_zero, List.getElem_cons_succ, Act.put, List.setIfInBounds_toArray, List.set_cons_zero, List.set_cons_succ]
            refine wpAnyH_take (i := 1) (v := .slice (some ⟨gf, 0, none⟩) t t) rfl (by kernel_rfl) (by kernel_rfl) (by kernel_rfl) (fun _ _ _ h => h) (Or.inl ⟨by rfl, fun w9 hSw => ?_⟩) hHeld ?_
            · obtain ⟨s0, s1, s2, s3, s4, s5⟩ := hSw
              go_simp
            simp only [List.getElem_toArray, List.getElem_cons_zero, List.getElem_cons_succ, Act.put, List.setIfInBounds_toArray, List.set_cons_zero, List.set_cons_succ]
            refine wpAnyH_take (i := 2) (v := .int .i64 (i : Int)) rfl (by kernel_rfl) (by kernel_rfl) (by kernel_rfl) (fun _ _ _ h => h) (Or.inl ⟨by rfl, fun w9 hSw => ?_⟩) hHeld ?_
            · obtain ⟨s0, s1, s2, s3, s4, s5⟩ := hSw
              go_simp
            simp only [List.getElem_toArray, List.getElem_cons_zero, List.getElem_cons_succ, Act.put, List.setIfInBounds_toArray, List.set_cons_zero, List.set_cons_succ]
            refine wpAnyH_take (i := 3) (v := .pointer (some ⟨gf, i, none⟩)) rfl (by kernel_rfl) (by kernel_rfl) (by kernel_rfl) (fun _ _ _ h => h) (Or.inl ⟨by rfl, fun w9 hSw => ?_⟩) hHeld ?_
            · obtain ⟨s0, s1, s2, s3, s4, s5⟩ := hSw
              go_simp
              all_goals (first | rfl | omega | (simp [*]; done) | (simp; omega))
            simp only [List.getElem_toArray, List.getElem_cons_zero, List.getElem_cons_succ, Act.put, List.setIfInBounds_toArray, List.set_cons_zero, List.set_cons_succ]
            refine wpAnyH_take (i := 4) (v := .int .i64 fi) rfl (by kernel_rfl) (by kernel_rfl) (by kernel_rfl) (fun _ _ _ h => h) (Or.inl ⟨by rfl, fun w9 hSw => ?_⟩) hHeld ?_
            · obtain ⟨s0, s1, s2, s3, s4, s5⟩ := hSw
              go_simp
            simp only [List.getElem_toArray, List.getElem_cons_zero, List.getElem_cons_succ, Act.put, List.setIfInBounds_toArray, List.set_cons_zero, List.set_cons_succ]
            refine wpAnyH_take (i := 5) (v := .bool false) rfl (by kernel_rfl) (by kernel_rfl) (by kernel_rfl) (fun _ _ _ h => h) (Or.inl ⟨by rfl, fun w9 hSw => ?_⟩) hHeld ?_
            · obtain ⟨s0, s1, s2, s3, s4, s5⟩ := hSw
              go_simp
              all_goals (first | rfl | omega | (simp [*]; done) | (simp; omega))
            simp only [List.getElem_toArray, List.getElem_cons_zero, List.getElem_cons_succ, Act.put, List.setIfInBounds_toArray, List.set_cons_zero, List.set_cons_succ]
            refine wpAnyH_take (i := 6) (v := .bool false) rfl (by kernel_rfl) (by kernel_rfl) (by kernel_rfl) (fun _ _ _ h => h) (Or.inl ⟨by rfl, fun w9 hSw => ?_⟩) hHeld ?_
            · obtain ⟨s0, s1, s2, s3, s4, s5⟩ := hSw
              go_simp
            simp only [List.getElem_toArray, List.getElem_cons_zero, List.getElem_cons_succ, Act.put, List.setIfInBounds_toArray, List.set_cons_zero, List.set_cons_succ]
            refine wpAnyH_take (i := 7) (v := .pointer (some ⟨xb, 1, none⟩)) rfl (by kernel_rfl) (by kernel_rfl) (by kernel_rfl) (fun _ _ _ h => h) (Or.inl ⟨by rfl, fun w9 hSw => ?_⟩) hHeld ?_
            · obtain ⟨s0, s1, s2, s3, s4, s5⟩ := hSw
              go_simp
            simp only [List.getElem_toArray, List.getElem_cons_zero, List.getElem_cons_succ, Act.put, List.setIfInBounds_toArray, List.set_cons_zero, List.set_cons_succ]
            refine wpAnyH_take (i := 8) (v := .slice (some ⟨gg, 0, none⟩) t t) rfl (by kernel_rfl) (by kernel_rfl) (by kernel_rfl) (fun _ _ _ h => h) (Or.inl ⟨by rfl, fun w9 hSw => ?_⟩) hHeld ?_
            · obtain ⟨s0, s1, s2, s3, s4, s5⟩ := hSw
              go_simp
            simp only [List.getElem_toArray, List.getElem_cons_zero, List.getElem_cons_succ, Act.put, List.setIfInBounds_toArray, List.set_cons_zero, List.set_cons_succ]
            refine wpAnyH_take (i := 9) (v := .int .i64 (i : Int)) rfl (by kernel_rfl) (by kernel_rfl) (by kernel_rfl) (fun _ _ _ h => h) (Or.inl ⟨by rfl, fun w9 hSw => ?_⟩) hHeld ?_
            · obtain ⟨s0, s1, s2, s3, s4, s5⟩ := hSw
              go_simp
            simp only [List.getElem_toArray, List.getElem_cons_zero, List.getElem_cons_succ, Act.put, List.setIfInBounds_toArray, List.set_cons_zero, List.set_cons_succ]
            refine wpAnyH_take (i := 10) (v := .pointer (some ⟨gg, i, none⟩)) rfl (by kernel_rfl) (by kernel_rfl) (by kernel_rfl) (fun _ _ _ h => h) (Or.inl ⟨by rfl, fun w9 hSw => ?_⟩) hHeld ?_
            · obtain ⟨s0, s1, s2, s3, s4, s5⟩ := hSw
              go_simp
              all_goals (first | rfl | omega | (simp [*]; done) | (simp; omega))
            simp only [List.getElem_toArray, List.getElem_cons_zero, List.getElem_cons_succ, Act.put, List.setIfInBounds_toArray, List.set_cons_zero, List.set_cons_succ]
            refine wpAnyH_take (i := 11) (v := .int .i64 gi) rfl (by kernel_rfl) (by kernel_rfl) (by kernel_rfl) (fun _ _ _ h => h) (Or.inl ⟨by rfl, fun w9 hSw => ?_⟩) hHeld ?_
            · obtain ⟨s0, s1, s2, s3, s4, s5⟩ := hSw
              go_simp
            simp only [List.getElem_toArray, List.getElem_cons_zero, List.getElem_cons_succ, Act.put, List.setIfInBounds_toArray, List.set_cons_zero, List.set_cons_succ]
            refine wpAnyH_take (i := 12) (v := .bool false) rfl (by kernel_rfl) (by kernel_rfl) (by kernel_rfl) (fun _ _ _ h => h) (Or.inl ⟨by rfl, fun w9 hSw => ?_⟩) hHeld ?_
            · obtain ⟨s0, s1, s2, s3, s4, s5⟩ := hSw
              go_simp
              all_goals (first | rfl | omega | (simp [*]; done) | (simp; omega))
            simp only [List.getElem_toArray, List.getElem_cons_zero, List.getElem_cons_succ, Act.put, List.setIfInBounds_toArray, List.set_cons_zero, List.set_cons_succ]
            refine wpAnyH_take (i := 13) (v := .bool false) rfl (by kernel_rfl) (by kernel_rfl) (by kernel_rfl) (fun _ _ _ h => h) (Or.inl ⟨by rfl, fun w9 hSw => ?_⟩) hHeld ?_
            · obtain ⟨s0, s1, s2, s3, s4, s5⟩ := hSw
              go_simp
            simp only [List.getElem_toArray, List.getElem_cons_zero, List.getElem_cons_succ, Act.put, List.setIfInBounds_toArray, List.set_cons_zero, List.set_cons_succ]
            refine wpAnyH_take (i := 14) (v := .bool false) rfl (by kernel_rfl) (by kernel_rfl) (by kernel_rfl) (fun _ _ _ h => h) (Or.inl ⟨by rfl, fun w9 hSw => ?_⟩) hHeld ?_
            · obtain ⟨s0, s1, s2, s3, s4, s5⟩ := hSw
              go_simp
            simp only [List.getElem_toArray, List.getElem_cons_zero, List.getElem_cons_succ, Act.put, List.setIfInBounds_toArray, List.set_cons_zero, List.set_cons_succ]
            refine wpAnyH_take (i := 15) (v := .bool true) rfl (by kernel_rfl) (by kernel_rfl) (by kernel_rfl) (fun _ _ _ h => h) (Or.inl ⟨by rfl, fun w9 hSw => ?_⟩) hHeld ?_
            · obtain ⟨s0, s1, s2, s3, s4, s5⟩ := hSw
              go_simp
            simp only [List.getElem_toArray, List.getElem_cons_zero, List.getElem_cons_succ, Act.put, List.setIfInBounds_toArray, List.set_cons_zero, List.set_cons_succ]
            refine wpAnyH_take (i := 16) (v := .bool true) rfl (by kernel_rfl) (by kernel_rfl) (by kernel_rfl) (fun _ _ _ h => h) (Or.inl ⟨by rfl, fun w9 hSw => ?_⟩) hHeld ?_
            · obtain ⟨s0, s1, s2, s3, s4, s5⟩ := hSw
              go_simp
            simp only [List.getElem_toArray, List.getElem_cons_zero, List.getElem_cons_succ, Act.put, List.setIfInBounds_toArray, List.set_cons_zero, List.set_cons_succ]
            refine wpAnyH_take (i := 17) (v := .slice (some ⟨b1, o1, none⟩) t xc) rfl (by kernel_rfl) (by kernel_rfl) (by kernel_rfl) (fun _ _ _ h => h) (Or.inl ⟨by rfl, fun w9 hSw => ?_⟩) hHeld ?_
            · obtain ⟨s0, s1, s2, s3, s4, s5⟩ := hSw
              go_simp
            simp only [List.getElem_toArray, List.getElem_cons_zero, List.getElem_cons_succ, Act.put, List.setIfInBounds_toArray, List.set_cons_zero, List.set_cons_succ]
            refine wpAnyH_ready (rs := [18]) (by kernel_rfl) (by simp) ?_
            refine AllReadyH.cons rfl (fun K hK => ?_) AllReadyH.nil
            go_simp
            refine HH1.out.mono ?_
            rintro e wz ⟨rfl, hwz⟩
            obtain rfl := hwz.symm
            refine hK.out _ _ (hHeld) (fun hHeld => ?_)
            clear hK K
            cases bx with
            | false =>
              clear HH1 HH2
              refine wpAnyH_take (i := 19) (v := .bool false) rfl (by kernel_rfl) (by kernel_rfl) (by kernel_rfl) (fun _ _ _ h => h) (Or.inl ⟨by rfl, fun w9 hSw => ?_⟩) hHeld ?_
              · obtain ⟨s0, s1, s2, s3, s4, s5⟩ := hSw
                go_simp
              simp only [List.getElem_toArray, List.getElem_cons_zero, List.getElem_cons_succ, Act.put, List.setIfInBounds_toArray, List.set_cons_zero, List.set_cons_succ]
              refine wpAnyH_take (i := 20) (v := .bool false) rfl (by kernel_rfl) (by kernel_rfl) (by kernel_rfl) (fun _ _ _ h => h) (Or.inl ⟨by rfl, fun w9 hSw => ?_⟩) hHeld ?_
              · obtain ⟨s0, s1, s2, s3, s4, s5⟩ := hSw
                go_simp
              simp only [List.getElem_toArray, List.getElem_cons_zero, List.getElem_cons_succ, Act.put, List.setIfInBounds_toArray, List.set_cons_zero, List.set_cons_succ]
              refine wpAnyH_take (i := 21) (v := undef) rfl (by kernel_rfl) (by kernel_rfl) (by kernel_rfl) (fun _ _ _ h => h) (Or.inr ⟨by rfl, rfl⟩) hHeld ?_
              simp only [List.getElem_toArray, List.getElem_cons_zero, List.getElem_cons_succ, Act.put, List.setIfInBounds_toArray, List.set_cons_zero, List.set_cons_succ]
              refine wpAnyH_take (i := 22) (v := undef) rfl (by kernel_rfl) (by kernel_rfl) (by kernel_rfl) (fun _ _ _ h => h) (Or.inr ⟨by rfl, rfl⟩) hHeld ?_
              simp only [List.getElem_toArray, List.getElem_cons_zero, List.getElem_cons_succ, Act.put, List.setIfInBounds_toArray, List.set_cons_zero, List.set_cons_succ]
              refine wpAnyH_take (i := 23) (v := .bool false) rfl (by kernel_rfl) (by kernel_rfl) (by kernel_rfl) (fun _ _ _ h => h) (Or.inl ⟨by rfl, fun w9 hSw => ?_⟩) hHeld ?_
              · obtain ⟨s0, s1, s2, s3, s4, s5⟩ := hSw
                go_simp
              simp only [List.getElem_toArray, List.getElem_cons_zero, List.getElem_cons_succ, Act.put, List.setIfInBounds_toArray, List.set_cons_zero, List.set_cons_succ]
              refine wpAnyH_take (i := 24) (v := .bool false) rfl (by kernel_rfl) (by kernel_rfl) (by kernel_rfl) (fun _ _ _ h => h) (Or.inl ⟨by rfl, fun w9 hSw => ?_⟩) hHeld ?_
              · obtain ⟨s0, s1, s2, s3, s4, s5⟩ := hSw
                go_simp
              simp only [List.getElem_toArray, List.getElem_cons_zero, List.getElem_cons_succ, Act.put, List.setIfInBounds_toArray, List.set_cons_zero, List.set_cons_succ]
              refine wpAnyH_take (i := 25) (v := undef) rfl (by kernel_rfl) (by kernel_rfl) (by kernel_rfl) (fun _ _ _ h => h) (Or.inr ⟨by rfl, rfl⟩) hHeld ?_
              simp only [List.getElem_toArray, List.getElem_cons_zero, List.getElem_cons_succ, Act.put, List.setIfInBounds_toArray, List.set_cons_zero, List.set_cons_succ]
              refine wpAnyH_take (i := 26) (v := undef) rfl (by kernel_rfl) (by kernel_rfl) (by kernel_rfl) (fun _ _ _ h => h) (Or.inr ⟨by rfl, rfl⟩) hHeld ?_
              simp only [List.getElem_toArray, List.getElem_cons_zero, List.getElem_cons_succ, Act.put, List.setIfInBounds_toArray, List.set_cons_zero, List.set_cons_succ]
              refine wpAnyH_take (i := 27) (v := undef) rfl (by kernel_rfl) (by kernel_rfl) (by kernel_rfl) (fun _ _ _ h => h) (Or.inr ⟨by rfl, rfl⟩) hHeld ?_
              simp only [List.getElem_toArray, List.getElem_cons_zero, List.getElem_cons_succ, Act.put, List.setIfInBounds_toArray, List.set_cons_zero, List.set_cons_succ]
              refine wpAnyH_take (i := 28) (v := undef) rfl (by kernel_rfl) (by kernel_rfl) (by kernel_rfl) (fun _ _ _ h => h) (Or.inr ⟨by rfl, rfl⟩) hHeld ?_
              simp only [List.getElem_toArray, List.getElem_cons_zero, List.getElem_cons_succ, Act.put, List.setIfInBounds_toArray, List.set_cons_zero, List.set_cons_succ]
              refine wpAnyH_take (i := 29) (v := undef) rfl (by kernel_rfl) (by kernel_rfl) (by kernel_rfl) (fun _ _ _ h => h) (Or.inr ⟨by rfl, rfl⟩) hHeld ?_
              simp only [List.getElem_toArray, List.getElem_cons_zero, List.getElem_cons_succ, Act.put, List.setIfInBounds_toArray, List.set_cons_zero, List.set_cons_succ]
              refine wpAnyH_take (i := 30) (v := undef) rfl (by kernel_rfl) (by kernel_rfl) (by kernel_rfl) (fun _ _ _ h => h) (Or.inr ⟨by rfl, rfl⟩) hHeld ?_
              simp only [List.getElem_toArray, List.getElem_cons_zero, List.getElem_cons_succ, Act.put, List.setIfInBounds_toArray, List.set_cons_zero, List.set_cons_succ]
              refine wpAnyH_take (i := 31) (v := undef) rfl (by kernel_rfl) (by kernel_rfl) (by kernel_rfl) (fun _ _ _ h => h) (Or.inr ⟨by rfl, rfl⟩) hHeld ?_
              simp only [List.getElem_toArray, List.getElem_cons_zero, List.getElem_cons_succ, Act.put, List.setIfInBounds_toArray, List.set_cons_zero, List.set_cons_succ]
              refine wpAnyH_take (i := 32) (v := undef) rfl (by kernel_rfl) (by kernel_rfl) (by kernel_rfl) (fun _ _ _ h => h) (Or.inr ⟨by rfl, rfl⟩) hHeld ?_
              simp only [List.getElem_toArray, List.getElem_cons_zero, List.getElem_cons_succ, Act.put, List.setIfInBounds_toArray, List.set_cons_zero, List.set_cons_succ]
              refine wpAnyH_take (i := 33) (v := undef) rfl (by kernel_rfl) (by kernel_rfl) (by kernel_rfl) (fun _ _ _ h => h) (Or.inr ⟨by rfl, rfl⟩) hHeld ?_
              simp only [List.getElem_toArray, List.getElem_cons_zero, List.getElem_cons_succ, Act.put, List.setIfInBounds_toArray, List.set_cons_zero, List.set_cons_succ]
              refine wpAnyH_take (i := 34) (v := undef) rfl (by kernel_rfl) (by kernel_rfl) (by kernel_rfl) (fun _ _ _ h => h) (Or.inr ⟨by rfl, rfl⟩) hHeld ?_
              simp only [List.getElem_toArray, List.getElem_cons_zero, List.getElem_cons_succ, Act.put, List.setIfInBounds_toArray, List.set_cons_zero, List.set_cons_succ]
              refine wpAnyH_take (i := 35) (v := undef) rfl (by kernel_rfl) (by kernel_rfl) (by kernel_rfl) (fun _ _ _ h => h) (Or.inr ⟨by rfl, rfl⟩) hHeld ?_
              simp only [List.getElem_toArray, List.getElem_cons_zero, List.getElem_cons_succ, Act.put, List.setIfInBounds_toArray, List.set_cons_zero, List.set_cons_succ]
              refine wpAnyH_take (i := 36) (v := undef) rfl (by kernel_rfl) (by kernel_rfl) (by kernel_rfl) (fun _ _ _ h => h) (Or.inr ⟨by rfl, rfl⟩) hHeld ?_
              simp only [List.getElem_toArray, List.getElem_cons_zero, List.getElem_cons_succ, Act.put, List.setIfInBounds_toArray, List.set_cons_zero, List.set_cons_succ]
              refine wpAnyH_take (i := 37) (v := undef) rfl (by kernel_rfl) (by kernel_rfl) (by kernel_rfl) (fun _ _ _ h => h) (Or.inr ⟨by rfl, rfl⟩) hHeld ?_
              simp only [List.getElem_toArray, List.getElem_cons_zero, List.getElem_cons_succ, Act.put, List.setIfInBounds_toArray, List.set_cons_zero, List.set_cons_succ]
              refine wpAnyH_take (i := 38) (v := undef) rfl (by kernel_rfl) (by kernel_rfl) (by kernel_rfl) (fun _ _ _ h => h) (Or.inr ⟨by rfl, rfl⟩) hHeld ?_
              simp only [List.getElem_toArray, List.getElem_cons_zero, List.getElem_cons_succ, Act.put, List.setIfInBounds_toArray, List.set_cons_zero, List.set_cons_succ]
              refine wpAnyH_take (i := 39) (v := undef) rfl (by kernel_rfl) (by kernel_rfl) (by kernel_rfl) (fun _ _ _ h => h) (Or.inr ⟨by rfl, rfl⟩) hHeld ?_
              simp only [List.getElem_toArray, List.getElem_cons_zero, List.getElem_cons_succ, Act.put, List.setIfInBounds_toArray, List.set_cons_zero, List.set_cons_succ]
              refine wpAnyH_take (i := 40) (v := undef) rfl (by kernel_rfl) (by kernel_rfl) (by kernel_rfl) (fun _ _ _ h => h) (Or.inr ⟨by rfl, rfl⟩) hHeld ?_
              simp only [List.getElem_toArray, List.getElem_cons_zero, List.getElem_cons_succ, Act.put, List.setIfInBounds_toArray, List.set_cons_zero, List.set_cons_succ]
              refine wpAnyH_take (i := 41) (v := undef) rfl (by kernel_rfl) (by kernel_rfl) (by kernel_rfl) (fun _ _ _ h => h) (Or.inr ⟨by rfl, rfl⟩) hHeld ?_
              simp only [List.getElem_toArray, List.getElem_cons_zero, List.getElem_cons_succ, Act.put, List.setIfInBounds_toArray, List.set_cons_zero, List.set_cons_succ]
              refine wpAnyH_take (i := 42) (v := undef) rfl (by kernel_rfl) (by kernel_rfl) (by kernel_rfl) (fun _ _ _ h => h) (Or.inr ⟨by rfl, rfl⟩) hHeld ?_
              simp only [List.getElem_toArray, List.getElem_cons_zero, List.getElem_cons_succ, Act.put, List.setIfInBounds_toArray, List.set_cons_zero, List.set_cons_succ]
              refine wpAnyH_take (i := 43) (v := undef) rfl (by kernel_rfl) (by kernel_rfl) (by kernel_rfl) (fun _ _ _ h => h) (Or.inr ⟨by rfl, rfl⟩) hHeld ?_
              simp only [List.getElem_toArray, List.getElem_cons_zero, List.getElem_cons_succ, Act.put, List.setIfInBounds_toArray, List.set_cons_zero, List.set_cons_succ]
              refine wpAnyH_take (i := 44) (v := undef) rfl (by kernel_rfl) (by kernel_rfl) (by kernel_rfl) (fun _ _ _ h => h) (Or.inr ⟨by rfl, rfl⟩) hHeld ?_
              simp only [List.getElem_toArray, List.getElem_cons_zero, List.getElem_cons_succ, Act.put, List.setIfInBounds_toArray, List.set_cons_zero, List.set_cons_succ]
              refine wpAnyH_take (i := 45) (v := undef) rfl (by kernel_rfl) (by kernel_rfl) (by kernel_rfl) (fun _ _ _ h => h) (Or.inr ⟨by rfl, rfl⟩) hHeld ?_
              simp only [List.getElem_toArray, List.getElem_cons_zero, List.getElem_cons_succ, Act.put, List.setIfInBounds_toArray, List.set_cons_zero, List.set_cons_succ]
              refine wpAnyH_take (i := 46) (v := undef) rfl (by kernel_rfl) (by kernel_rfl) (by kernel_rfl) (fun _ _ _ h => h) (Or.inr ⟨by rfl, rfl⟩) hHeld ?_
              simp only [List.getElem_toArray, List.getElem_cons_zero, List.getElem_cons_succ, Act.put, List.setIfInBounds_toArray, List.set_cons_zero, List.set_cons_succ]
              refine wpAnyH_take (i := 47) (v := .bool false) rfl (by kernel_rfl) (by kernel_rfl) (by kernel_rfl) (fun _ _ _ h => h) (Or.inl ⟨by rfl, fun w9 hSw => ?_⟩) hHeld ?_
              · obtain ⟨s0, s1, s2, s3, s4, s5⟩ := hSw
                go_simp
              simp only [List.getElem_toArray, List.getElem_cons_zero, List.getElem_cons_succ, Act.put, List.setIfInBounds_toArray, List.set_cons_zero, List.set_cons_succ]
              refine wpAnyH_take (i := 48) (v := .bool false) rfl (by kernel_rfl) (by kernel_rfl) (by kernel_rfl) (fun _ _ _ h => h) (Or.inl ⟨by rfl, fun w9 hSw => ?_⟩) hHeld ?_
              · obtain ⟨s0, s1, s2, s3, s4, s5⟩ := hSw
                go_simp
              simp only [List.getElem_toArray, List.getElem_cons_zero, List.getElem_cons_succ, Act.put, List.setIfInBounds_toArray, List.set_cons_zero, List.set_cons_succ]
              refine wpAnyH_done (by kernel_rfl) (NoPanic.normal ?_) _
              clear hHeld
              go_wp2
              go_roundw
              case rel => exact ⟨i + 1, by omega, by go_num, q + 1, HWd.out⟩
              case measure => simp [intOf]; omega
            | true =>
              refine wpAnyH_take (i := 19) (v := .bool true) rfl (by kernel_rfl) (by kernel_rfl) (by kernel_rfl) (fun _ _ _ h => h) (Or.inl ⟨by rfl, fun w9 hSw => ?_⟩) hHeld ?_
              · obtain ⟨s0, s1, s2, s3, s4, s5⟩ := hSw
                go_simp
              simp only [List.getElem_toArray, List.getElem_cons_zero, List.getElem_cons_succ, Act.put, List.setIfInBounds_toArray, List.set_cons_zero, List.set_cons_succ]
              refine wpAnyH_take (i := 20) (v := .bool true) rfl (by kernel_rfl) (by kernel_rfl) (by kernel_rfl) (fun _ _ _ h => h) (Or.inl ⟨by rfl, fun w9 hSw => ?_⟩) hHeld ?_
              · obtain ⟨s0, s1, s2, s3, s4, s5⟩ := hSw
                go_simp
              simp only [List.getElem_toArray, List.getElem_cons_zero, List.getElem_cons_succ, Act.put, List.setIfInBounds_toArray, List.set_cons_zero, List.set_cons_succ]
              refine wpAnyH_take (i := 21) (v := .slice (some ⟨b2, o2, none⟩) t yc) rfl (by kernel_rfl) (by kernel_rfl) (by kernel_rfl) (fun _ _ _ h => h) (Or.inl ⟨by rfl, fun w9 hSw => ?_⟩) hHeld ?_
              · obtain ⟨s0, s1, s2, s3, s4, s5⟩ := hSw
                go_simp
              simp only [List.getElem_toArray, List.getElem_cons_zero, List.getElem_cons_succ, Act.put, List.setIfInBounds_toArray, List.set_cons_zero, List.set_cons_succ]
              refine wpAnyH_ready (rs := [22]) (by kernel_rfl) (by simp) ?_
              refine AllReadyH.cons rfl (fun K hK => ?_) AllReadyH.nil
              go_simp
              refine HH2.out.mono ?_
              rintro e wz ⟨rfl, hwz⟩
              obtain rfl := hwz.symm
              refine hK.out _ _ (hHeld) (fun hHeld => ?_)
              clear hK K
              cases bY with
              | false =>
                clear HH1 HH2
                refine wpAnyH_take (i := 23) (v := .bool false) rfl (by kernel_rfl) (by kernel_rfl) (by kernel_rfl) (fun _ _ _ h => h) (Or.inl ⟨by rfl, fun w9 hSw => ?_⟩) hHeld ?_
                · obtain ⟨s0, s1, s2, s3, s4, s5⟩ := hSw
                  go_simp
                simp only [List.getElem_toArray, List.getElem_cons_zero, List.getElem_cons_succ, Act.put, List.setIfInBounds_toArray, List.set_cons_zero, List.set_cons_succ]
                refine wpAnyH_take (i := 24) (v := .bool false) rfl (by kernel_rfl) (by kernel_rfl) (by kernel_rfl) (fun _ _ _ h => h) (Or.inl ⟨by rfl, fun w9 hSw => ?_⟩) hHeld ?_
                · obtain ⟨s0, s1, s2, s3, s4, s5⟩ := hSw
                  go_simp
                simp only [List.getElem_toArray, List.getElem_cons_zero, List.getElem_cons_succ, Act.put, List.setIfInBounds_toArray, List.set_cons_zero, List.set_cons_succ]
                refine wpAnyH_take (i := 25) (v := undef) rfl (by kernel_rfl) (by kernel_rfl) (by kernel_rfl) (fun _ _ _ h => h) (Or.inr ⟨by rfl, rfl⟩) hHeld ?_
                simp only [List.getElem_toArray, List.getElem_cons_zero, List.getElem_cons_succ, Act.put, List.setIfInBounds_toArray, List.set_cons_zero, List.set_cons_succ]
                refine wpAnyH_take (i := 26) (v := undef) rfl (by kernel_rfl) (by kernel_rfl) (by kernel_rfl) (fun _ _ _ h => h) (Or.inr ⟨by rfl, rfl⟩) hHeld ?_
                simp only [List.getElem_toArray, List.getElem_cons_zero, List.getElem_cons_succ, Act.put, List.setIfInBounds_toArray, List.set_cons_zero, List.set_cons_succ]
                refine wpAnyH_take (i := 27) (v := undef) rfl (by kernel_rfl) (by kernel_rfl) (by kernel_rfl) (fun _ _ _ h => h) (Or.inr ⟨by rfl, rfl⟩) hHeld ?_
                simp only [List.getElem_toArray, List.getElem_cons_zero, List.getElem_cons_succ, Act.put, List.setIfInBounds_toArray, List.set_cons_zero, List.set_cons_succ]
                refine wpAnyH_take (i := 28) (v := undef) rfl (by kernel_rfl) (by kernel_rfl) (by kernel_rfl) (fun _ _ _ h => h) (Or.inr ⟨by rfl, rfl⟩) hHeld ?_
                simp only [List.getElem_toArray, List.getElem_cons_zero, List.getElem_cons_succ, Act.put, List.setIfInBounds_toArray, List.set_cons_zero, List.set_cons_succ]
                refine wpAnyH_take (i := 29) (v := undef) rfl (by kernel_rfl) (by kernel_rfl) (by kernel_rfl) (fun _ _ _ h => h) (Or.inr ⟨by rfl, rfl⟩) hHeld ?_
                simp only [List.getElem_toArray, List.getElem_cons_zero, List.getElem_cons_succ, Act.put, List.setIfInBounds_toArray, List.set_cons_zero, List.set_cons_succ]
                refine wpAnyH_take (i := 30) (v := undef) rfl (by kernel_rfl) (by kernel_rfl) (by kernel_rfl) (fun _ _ _ h => h) (Or.inr ⟨by rfl, rfl⟩) hHeld ?_
                simp only [List.getElem_toArray, List.getElem_cons_zero, List.getElem_cons_succ, Act.put, List.setIfInBounds_toArray, List.set_cons_zero, List.set_cons_succ]
                refine wpAnyH_take (i := 31) (v := undef) rfl (by kernel_rfl) (by kernel_rfl) (by kernel_rfl) (fun _ _ _ h => h) (Or.inr ⟨by rfl, rfl⟩) hHeld ?_
                simp only [List.getElem_toArray, List.getElem_cons_zero, List.getElem_cons_succ, Act.put, List.setIfInBounds_toArray, List.set_cons_zero, List.set_cons_succ]
                refine wpAnyH_take (i := 32) (v := undef) rfl (by kernel_rfl) (by kernel_rfl) (by kernel_rfl) (fun _ _ _ h => h) (Or.inr ⟨by rfl, rfl⟩) hHeld ?_
                simp only [List.getElem_toArray, List.getElem_cons_zero, List.getElem_cons_succ, Act.put, List.setIfInBounds_toArray, List.set_cons_zero, List.set_cons_succ]
                refine wpAnyH_take (i := 33) (v := undef) rfl (by kernel_rfl) (by kernel_rfl) (by kernel_rfl) (fun _ _ _ h => h) (Or.inr ⟨by rfl, rfl⟩) hHeld ?_
                simp only [List.getElem_toArray, List.getElem_cons_zero, List.getElem_cons_succ, Act.put, List.setIfInBounds_toArray, List.set_cons_zero, List.set_cons_succ]
                refine wpAnyH_take (i := 34) (v := undef) rfl (by kernel_rfl) (by kernel_rfl) (by kernel_rfl) (fun _ _ _ h => h) (Or.inr ⟨by rfl, rfl⟩) hHeld ?_
                simp only [List.getElem_toArray, List.getElem_cons_zero, List.getElem_cons_succ, Act.put, List.setIfInBounds_toArray, List.set_cons_zero, List.set_cons_succ]
                refine wpAnyH_take (i := 35) (v := undef) rfl (by kernel_rfl) (by kernel_rfl) (by kernel_rfl) (fun _ _ _ h => h) (Or.inr ⟨by rfl, rfl⟩) hHeld ?_
                simp only [List.getElem_toArray, List.getElem_cons_zero, List.getElem_cons_succ, Act.put, List.setIfInBounds_toArray, List.set_cons_zero, List.set_cons_succ]
                refine wpAnyH_take (i := 36) (v := undef) rfl (by kernel_rfl) (by kernel_rfl) (by kernel_rfl) (fun _ _ _ h => h) (Or.inr ⟨by rfl, rfl⟩) hHeld ?_
                simp only [List.getElem_toArray, List.getElem_cons_zero, List.getElem_cons_succ, Act.put, List.setIfInBounds_toArray, List.set_cons_zero, List.set_cons_succ]
                refine wpAnyH_take (i := 37) (v := undef) rfl (by kernel_rfl) (by kernel_rfl) (by kernel_rfl) (fun _ _ _ h => h) (Or.inr ⟨by rfl, rfl⟩) hHeld ?_
                simp only [List.getElem_toArray, List.getElem_cons_zero, List.getElem_cons_succ, Act.put, List.setIfInBounds_toArray, List.set_cons_zero, List.set_cons_succ]
                refine wpAnyH_take (i := 38) (v := undef) rfl (by kernel_rfl) (by kernel_rfl) (by kernel_rfl) (fun _ _ _ h => h) (Or.inr ⟨by rfl, rfl⟩) hHeld ?_
                simp only [List.getElem_toArray, List.getElem_cons_zero, List.getElem_cons_succ, Act.put, List.setIfInBounds_toArray, List.set_cons_zero, List.set_cons_succ]
                refine wpAnyH_take (i := 39) (v := undef) rfl (by kernel_rfl) (by kernel_rfl) (by kernel_rfl) (fun _ _ _ h => h) (Or.inr ⟨by rfl, rfl⟩) hHeld ?_
                simp only [List.getElem_toArray, List.getElem_cons_zero, List.getElem_cons_succ, Act.put, List.setIfInBounds_toArray, List.set_cons_zero, List.set_cons_succ]
                refine wpAnyH_take (i := 40) (v := undef) rfl (by kernel_rfl) (by kernel_rfl) (by kernel_rfl) (fun _ _ _ h => h) (Or.inr ⟨by rfl, rfl⟩) hHeld ?_
                simp only [List.getElem_toArray, List.getElem_cons_zero, List.getElem_cons_succ, Act.put, List.setIfInBounds_toArray, List.set_cons_zero, List.set_cons_succ]
                refine wpAnyH_take (i := 41) (v := undef) rfl (by kernel_rfl) (by kernel_rfl) (by kernel_rfl) (fun _ _ _ h => h) (Or.inr ⟨by rfl, rfl⟩) hHeld ?_
                simp only [List.getElem_toArray, List.getElem_cons_zero, List.getElem_cons_succ, Act.put, List.setIfInBounds_toArray, List.set_cons_zero, List.set_cons_succ]
                refine wpAnyH_take (i := 42) (v := undef) rfl (by kernel_rfl) (by kernel_rfl) (by kernel_rfl) (fun _ _ _ h => h) (Or.inr ⟨by rfl, rfl⟩) hHeld ?_
                simp only [List.getElem_toArray, List.getElem_cons_zero, List.getElem_cons_succ, Act.put, List.setIfInBounds_toArray, List.set_cons_zero, List.set_cons_succ]
                refine wpAnyH_take (i := 43) (v := undef) rfl (by kernel_rfl) (by kernel_rfl) (by kernel_rfl) (fun _ _ _ h => h) (Or.inr ⟨by rfl, rfl⟩) hHeld ?_
                simp only [List.getElem_toArray, List.getElem_cons_zero, List.getElem_cons_succ, Act.put, List.setIfInBounds_toArray, List.set_cons_zero, List.set_cons_succ]
                refine wpAnyH_take (i := 44) (v := undef) rfl (by kernel_rfl) (by kernel_rfl) (by kernel_rfl) (fun _ _ _ h => h) (Or.inr ⟨by rfl, rfl⟩) hHeld ?_
                simp only [List.getElem_toArray, List.getElem_cons_zero, List.getElem_cons_succ, Act.put, List.setIfInBounds_toArray, List.set_cons_zero, List.set_cons_succ]
                refine wpAnyH_take (i := 45) (v := undef) rfl (by kernel_rfl) (by kernel_rfl) (by kernel_rfl) (fun _ _ _ h => h) (Or.inr ⟨by rfl, rfl⟩) hHeld ?_
                simp only [List.getElem_toArray, List.getElem_cons_zero, List.getElem_cons_succ, Act.put, List.setIfInBounds_toArray, List.set_cons_zero, List.set_cons_succ]
                refine wpAnyH_take (i := 46) (v := undef) rfl (by kernel_rfl) (by kernel_rfl) (by kernel_rfl) (fun _ _ _ h => h) (Or.inr ⟨by rfl, rfl⟩) hHeld ?_
                simp only [List.getElem_toArray, List.getElem_cons_zero, List.getElem_cons_succ, Act.put, List.setIfInBounds_toArray, List.set_cons_zero, List.set_cons_succ]
                refine wpAnyH_take (i := 47) (v := .bool false) rfl (by kernel_rfl) (by kernel_rfl) (by kernel_rfl) (fun _ _ _ h => h) (Or.inl ⟨by rfl, fun w9 hSw => ?_⟩) hHeld ?_
                · obtain ⟨s0, s1, s2, s3, s4, s5⟩ := hSw
                  go_simp
                simp only [List.getElem_toArray, List.getElem_cons_zero, List.getElem_cons_succ, Act.put, List.setIfInBounds_toArray, List.set_cons_zero, List.set_cons_succ]
                refine wpAnyH_take (i := 48) (v := .bool false) rfl (by kernel_rfl) (by kernel_rfl) (by kernel_rfl) (fun _ _ _ h => h) (Or.inl ⟨by rfl, fun w9 hSw => ?_⟩) hHeld ?_
                · obtain ⟨s0, s1, s2, s3, s4, s5⟩ := hSw
                  go_simp
                simp only [List.getElem_toArray, List.getElem_cons_zero, List.getElem_cons_succ, Act.put, List.setIfInBounds_toArray, List.set_cons_zero, List.set_cons_succ]
                refine wpAnyH_done (by kernel_rfl) (NoPanic.normal ?_) _
                clear hHeld
                go_wp2
                go_roundw
                case rel => exact ⟨i + 1, by omega, by go_num, q + 1, HWd.out⟩
                case measure => simp [intOf]; omega
              | true =>
                clear HH1 HH2
                obtain ⟨m1, m2⟩ := HLe.out rfl rfl
                have hn3 : ¬ x < fi := by omega
                have hn4 : ¬ y < gi := by omega
                refine wpAnyH_take (i := 23) (v := .bool true) rfl (by kernel_rfl) (by kernel_rfl) (by kernel_rfl) (fun _ _ _ h => h) (Or.inl ⟨by rfl, fun w9 hSw => ?_⟩) hHeld ?_
                · obtain ⟨s0, s1, s2, s3, s4, s5⟩ := hSw
                  go_simp
                simp only [List.getElem_toArray, List.getElem_cons_zero, List.getElem_cons_succ, Act.put, List.setIfInBounds_toArray, List.set_cons_zero, List.set_cons_succ]
                refine wpAnyH_take (i := 24) (v := .bool true) rfl (by kernel_rfl) (by kernel_rfl) (by kernel_rfl) (fun _ _ _ h => h) (Or.inl ⟨by rfl, fun w9 hSw => ?_⟩) hHeld ?_
                · obtain ⟨s0, s1, s2, s3, s4, s5⟩ := hSw
                  go_simp
                simp only [List.getElem_toArray, List.getElem_cons_zero, List.getElem_cons_succ, Act.put, List.setIfInBounds_toArray, List.set_cons_zero, List.set_cons_succ]
                refine wpAnyH_take (i := 25) (v := .slice (some ⟨b1, o1, none⟩) t xc) rfl (by kernel_rfl) (by kernel_rfl) (by kernel_rfl) (fun _ _ _ h => h) (Or.inl ⟨by rfl, fun w9 hSw => ?_⟩) hHeld ?_
                · obtain ⟨s0, s1, s2, s3, s4, s5⟩ := hSw
                  go_simp
                simp only [List.getElem_toArray, List.getElem_cons_zero, List.getElem_cons_succ, Act.put, List.setIfInBounds_toArray, List.set_cons_zero, List.set_cons_succ]
                refine wpAnyH_take (i := 26) (v := .int .i64 (i : Int)) rfl (by kernel_rfl) (by kernel_rfl) (by kernel_rfl) (fun _ _ _ h => h) (Or.inl ⟨by rfl, fun w9 hSw => ?_⟩) hHeld ?_
                · obtain ⟨s0, s1, s2, s3, s4, s5⟩ := hSw
                  go_simp
                simp only [List.getElem_toArray, List.getElem_cons_zero, List.getElem_cons_succ, Act.put, List.setIfInBounds_toArray, List.set_cons_zero, List.set_cons_succ]
                refine wpAnyH_take (i := 27) (v := .pointer (some ⟨b1, o1 + i, none⟩)) rfl (by kernel_rfl) (by kernel_rfl) (by kernel_rfl) (fun _ _ _ h => h) (Or.inl ⟨by rfl, fun w9 hSw => ?_⟩) hHeld ?_
                · obtain ⟨s0, s1, s2, s3, s4, s5⟩ := hSw
                  go_simp
                  all_goals (first | rfl | omega | (simp [*]; done) | (simp; omega))
                simp only [List.getElem_toArray, List.getElem_cons_zero, List.getElem_cons_succ, Act.put, List.setIfInBounds_toArray, List.set_cons_zero, List.set_cons_succ]
                refine wpAnyH_take (i := 28) (v := .int .i64 x) rfl (by kernel_rfl) (by kernel_rfl) (by kernel_rfl) (fun _ _ _ h => h) (Or.inl ⟨by rfl, fun w9 hSw => ?_⟩) hHeld ?_
                · obtain ⟨s0, s1, s2, s3, s4, s5⟩ := hSw
                  go_simp
                simp only [List.getElem_toArray, List.getElem_cons_zero, List.getElem_cons_succ, Act.put, List.setIfInBounds_toArray, List.set_cons_zero, List.set_cons_succ]
                refine wpAnyH_take (i := 29) (v := .pointer (some ⟨xb, 0, none⟩)) rfl (by kernel_rfl) (by kernel_rfl) (by kernel_rfl) (fun _ _ _ h => h) (Or.inl ⟨by rfl, fun w9 hSw => ?_⟩) hHeld ?_
                · obtain ⟨s0, s1, s2, s3, s4, s5⟩ := hSw
                  go_simp
                simp only [List.getElem_toArray, List.getElem_cons_zero, List.getElem_cons_succ, Act.put, List.setIfInBounds_toArray, List.set_cons_zero, List.set_cons_succ]
                refine wpAnyH_take (i := 30) (v := .slice (some ⟨gf, 0, none⟩) t t) rfl (by kernel_rfl) (by kernel_rfl) (by kernel_rfl) (fun _ _ _ h => h) (Or.inl ⟨by rfl, fun w9 hSw => ?_⟩) hHeld ?_
                · obtain ⟨s0, s1, s2, s3, s4, s5⟩ := hSw
                  go_simp
                simp only [List.getElem_toArray, List.getElem_cons_zero, List.getElem_cons_succ, Act.put, List.setIfInBounds_toArray, List.set_cons_zero, List.set_cons_succ]
                refine wpAnyH_take (i := 31) (v := .int .i64 (i : Int)) rfl (by kernel_rfl) (by kernel_rfl) (by kernel_rfl) (fun _ _ _ h => h) (Or.inl ⟨by rfl, fun w9 hSw => ?_⟩) hHeld ?_
                · obtain ⟨s0, s1, s2, s3, s4, s5⟩ := hSw
                  go_simp
                simp only [List.getElem_toArray, List.getElem_cons_zero, List.getElem_cons_succ, Act.put, List.setIfInBounds_toArray, List.set_cons_zero, List.set_cons_succ]
                refine wpAnyH_take (i := 32) (v := .pointer (some ⟨gf, i, none⟩)) rfl (by kernel_rfl) (by kernel_rfl) (by kernel_rfl) (fun _ _ _ h => h) (Or.inl ⟨by rfl, fun w9 hSw => ?_⟩) hHeld ?_
                · obtain ⟨s0, s1, s2, s3, s4, s5⟩ := hSw
                  go_simp
                  all_goals (first | rfl | omega | (simp [*]; done) | (simp; omega))
                simp only [List.getElem_toArray, List.getElem_cons_zero, List.getElem_cons_succ, Act.put, List.setIfInBounds_toArray, List.set_cons_zero, List.set_cons_succ]
                refine wpAnyH_take (i := 33) (v := .int .i64 fi) rfl (by kernel_rfl) (by kernel_rfl) (by kernel_rfl) (fun _ _ _ h => h) (Or.inl ⟨by rfl, fun w9 hSw => ?_⟩) hHeld ?_
                · obtain ⟨s0, s1, s2, s3, s4, s5⟩ := hSw
                  go_simp
                simp only [List.getElem_toArray, List.getElem_cons_zero, List.getElem_cons_succ, Act.put, List.setIfInBounds_toArray, List.set_cons_zero, List.set_cons_succ]
                refine wpAnyH_take (i := 34) (v := .bool false) rfl (by kernel_rfl) (by kernel_rfl) (by kernel_rfl) (fun _ _ _ h => h) (Or.inl ⟨by rfl, fun w9 hSw => ?_⟩) hHeld ?_
                · obtain ⟨s0, s1, s2, s3, s4, s5⟩ := hSw
                  go_simp
                  all_goals (first | rfl | omega | (simp [*]; done) | (simp; omega))
                simp only [List.getElem_toArray, List.getElem_cons_zero, List.getElem_cons_succ, Act.put, List.setIfInBounds_toArray, List.set_cons_zero, List.set_cons_succ]
                refine wpAnyH_take (i := 35) (v := .bool false) rfl (by kernel_rfl) (by kernel_rfl) (by kernel_rfl) (fun _ _ _ h => h) (Or.inl ⟨by rfl, fun w9 hSw => ?_⟩) hHeld ?_
                · obtain ⟨s0, s1, s2, s3, s4, s5⟩ := hSw
                  go_simp
                simp only [List.getElem_toArray, List.getElem_cons_zero, List.getElem_cons_succ, Act.put, List.setIfInBounds_toArray, List.set_cons_zero, List.set_cons_succ]
                refine wpAnyH_take (i := 36) (v := .slice (some ⟨b2, o2, none⟩) t yc) rfl (by kernel_rfl) (by kernel_rfl) (by kernel_rfl) (fun _ _ _ h => h) (Or.inl ⟨by rfl, fun w9 hSw => ?_⟩) hHeld ?_
                · obtain ⟨s0, s1, s2, s3, s4, s5⟩ := hSw
                  go_simp
                simp only [List.getElem_toArray, List.getElem_cons_zero, List.getElem_cons_succ, Act.put, List.setIfInBounds_toArray, List.set_cons_zero, List.set_cons_succ]
                refine wpAnyH_take (i := 37) (v := .int .i64 (i : Int)) rfl (by kernel_rfl) (by kernel_rfl) (by kernel_rfl) (fun _ _ _ h => h) (Or.inl ⟨by rfl, fun w9 hSw => ?_⟩) hHeld ?_
                · obtain ⟨s0, s1, s2, s3, s4, s5⟩ := hSw
                  go_simp
                simp only [List.getElem_toArray, List.getElem_cons_zero, List.getElem_cons_succ, Act.put, List.setIfInBounds_toArray, List.set_cons_zero, List.set_cons_succ]
                refine wpAnyH_take (i := 38) (v := .pointer (some ⟨b2, o2 + i, none⟩)) rfl (by kernel_rfl) (by kernel_rfl) (by kernel_rfl) (fun _ _ _ h => h) (Or.inl ⟨by rfl, fun w9 hSw => ?_⟩) hHeld ?_
                · obtain ⟨s0, s1, s2, s3, s4, s5⟩ := hSw
                  go_simp
                  all_goals (first | rfl | omega | (simp [*]; done) | (simp; omega))
                simp only [List.getElem_toArray, List.getElem_cons_zero, List.getElem_cons_succ, Act.put, List.setIfInBounds_toArray, List.set_cons_zero, List.set_cons_succ]
                refine wpAnyH_take (i := 39) (v := .int .i64 y) rfl (by kernel_rfl) (by kernel_rfl) (by kernel_rfl) (fun _ _ _ h => h) (Or.inl ⟨by rfl, fun w9 hSw => ?_⟩) hHeld ?_
                · obtain ⟨s0, s1, s2, s3, s4, s5⟩ := hSw
                  go_simp
                simp only [List.getElem_toArray, List.getElem_cons_zero, List.getElem_cons_succ, Act.put, List.setIfInBounds_toArray, List.set_cons_zero, List.set_cons_succ]
                refine wpAnyH_take (i := 40) (v := .pointer (some ⟨xb, 1, none⟩)) rfl (by kernel_rfl) (by kernel_rfl) (by kernel_rfl) (fun _ _ _ h => h) (Or.inl ⟨by rfl, fun w9 hSw => ?_⟩) hHeld ?_
                · obtain ⟨s0, s1, s2, s3, s4, s5⟩ := hSw
                  go_simp
                simp only [List.getElem_toArray, List.getElem_cons_zero, List.getElem_cons_succ, Act.put, List.setIfInBounds_toArray, List.set_cons_zero, List.set_cons_succ]
                refine wpAnyH_take (i := 41) (v := .slice (some ⟨gg, 0, none⟩) t t) rfl (by kernel_rfl) (by kernel_rfl) (by kernel_rfl) (fun _ _ _ h => h) (Or.inl ⟨by rfl, fun w9 hSw => ?_⟩) hHeld ?_
                · obtain ⟨s0, s1, s2, s3, s4, s5⟩ := hSw
                  go_simp
                simp only [List.getElem_toArray, List.getElem_cons_zero, List.getElem_cons_succ, Act.put, List.setIfInBounds_toArray, List.set_cons_zero, List.set_cons_succ]
                refine wpAnyH_take (i := 42) (v := .int .i64 (i : Int)) rfl (by kernel_rfl) (by kernel_rfl) (by kernel_rfl) (fun _ _ _ h => h) (Or.inl ⟨by rfl, fun w9 hSw => ?_⟩) hHeld ?_
                · obtain ⟨s0, s1, s2, s3, s4, s5⟩ := hSw
                  go_simp
                simp only [List.getElem_toArray, List.getElem_cons_zero, List.getElem_cons_succ, Act.put, List.setIfInBounds_toArray, List.set_cons_zero, List.set_cons_succ]
                refine wpAnyH_take (i := 43) (v := .pointer (some ⟨gg, i, none⟩)) rfl (by kernel_rfl) (by kernel_rfl) (by kernel_rfl) (fun _ _ _ h => h) (Or.inl ⟨by rfl, fun w9 hSw => ?_⟩) hHeld ?_
                · obtain ⟨s0, s1, s2, s3, s4, s5⟩ := hSw
                  go_simp
                  all_goals (first | rfl | omega | (simp [*]; done) | (simp; omega))
                simp only [List.getElem_toArray, List.getElem_cons_zero, List.getElem_cons_succ, Act.put, List.setIfInBounds_toArray, List.set_cons_zero, List.set_cons_succ]
                refine wpAnyH_take (i := 44) (v := .int .i64 gi) rfl (by kernel_rfl) (by kernel_rfl) (by kernel_rfl) (fun _ _ _ h => h) (Or.inl ⟨by rfl, fun w9 hSw => ?_⟩) hHeld ?_
                · obtain ⟨s0, s1, s2, s3, s4, s5⟩ := hSw
                  go_simp
                simp only [List.getElem_toArray, List.getElem_cons_zero, List.getElem_cons_succ, Act.put, List.setIfInBounds_toArray, List.set_cons_zero, List.set_cons_succ]
                refine wpAnyH_take (i := 45) (v := .bool false) rfl (by kernel_rfl) (by kernel_rfl) (by kernel_rfl) (fun _ _ _ h => h) (Or.inl ⟨by rfl, fun w9 hSw => ?_⟩) hHeld ?_
                · obtain ⟨s0, s1, s2, s3, s4, s5⟩ := hSw
                  go_simp
                  all_goals (first | rfl | omega | (simp [*]; done) | (simp; omega))
                simp only [List.getElem_toArray, List.getElem_cons_zero, List.getElem_cons_succ, Act.put, List.setIfInBounds_toArray, List.set_cons_zero, List.set_cons_succ]
                refine wpAnyH_take (i := 46) (v := .bool false) rfl (by kernel_rfl) (by kernel_rfl) (by kernel_rfl) (fun _ _ _ h => h) (Or.inl ⟨by rfl, fun w9 hSw => ?_⟩) hHeld ?_
                · obtain ⟨s0, s1, s2, s3, s4, s5⟩ := hSw
                  go_simp
                simp only [List.getElem_toArray, List.getElem_cons_zero, List.getElem_cons_succ, Act.put, List.setIfInBounds_toArray, List.set_cons_zero, List.set_cons_succ]
                refine wpAnyH_take (i := 47) (v := .bool false) rfl (by kernel_rfl) (by kernel_rfl) (by kernel_rfl) (fun _ _ _ h => h) (Or.inl ⟨by rfl, fun w9 hSw => ?_⟩) hHeld ?_
                · obtain ⟨s0, s1, s2, s3, s4, s5⟩ := hSw
                  go_simp
                simp only [List.getElem_toArray, List.getElem_cons_zero, List.getElem_cons_succ, Act.put, List.setIfInBounds_toArray, List.set_cons_zero, List.set_cons_succ]
                refine wpAnyH_take (i := 48) (v := .bool false) rfl (by kernel_rfl) (by kernel_rfl) (by kernel_rfl) (fun _ _ _ h => h) (Or.inl ⟨by rfl, fun w9 hSw => ?_⟩) hHeld ?_
                · obtain ⟨s0, s1, s2, s3, s4, s5⟩ := hSw
                  go_simp
                simp only [List.getElem_toArray, List.getElem_cons_zero, List.getElem_cons_succ, Act.put, List.setIfInBounds_toArray, List.set_cons_zero, List.set_cons_succ]
                refine wpAnyH_done (by kernel_rfl) (NoPanic.normal ?_) _
                clear hHeld
                go_wp2
                go_roundw
                case rel => exact ⟨i + 1, by omega, by go_num, q + 1, HWd.out⟩
                case measure => simp [intOf]; omega
        · have hlt2 : ¬ (i : Int) < (t : Int) := by omega
          go_wp2
          go_ret
          refine ⟨rfl, hB.trans ?_⟩
          exact (drew_below w8 q).mono hB.size
  · obtain ⟨tt, yy, rfl⟩ := ck_iface hy h0
    clear hy
    go_wp2_with fail
    refine haw.mono ?_
    rintro e w2 ⟨rfl, hb⟩
    have hBe := hB.trans (hb.mono hB.size)
    go_wp2
    go_ret
    exact ⟨rfl, hBe⟩

end Go.Proofs.YtcoepmpgclndiaaGreatDoor.PrecfunRightW
