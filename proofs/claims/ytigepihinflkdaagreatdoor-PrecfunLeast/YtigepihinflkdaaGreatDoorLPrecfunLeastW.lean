/-
  Texts that stand together: PrecfunLeastW.
-/
import Derived.Test.YtigepihinflkdaaGreatDoorLPrecLeastM
import Derived.Test.YtigepihinflkdaaGreatDoorLPrecAwake3
namespace Go.Proofs.YtigepihinflkdaaGreatDoor.PrecfunLeastW
open Go.RowKit Go.Proofs.YtigepihinflkdaaGreatDoor.GramMath Go.Proofs.YtigepihinflkdaaGreatDoor.GramRow Go.Proofs.YtigepihinflkdaaGreatDoor.GramCheck Go.Proofs.YtigepihinflkdaaGreatDoor.GramErrs Go.Proofs.YtigepihinflkdaaGreatDoor.GramApart Go.Proofs.YtigepihinflkdaaGreatDoor.GramLess Go.Proofs.YtigepihinflkdaaGreatDoor.OpRow Go.Proofs.YtigepihinflkdaaGreatDoor.EndsMath Go.Proofs.YtigepihinflkdaaGreatDoor.EndsFn Go.Proofs.YtigepihinflkdaaGreatDoor.GramOpen Go.Proofs.YtigepihinflkdaaGreatDoor.SetsAlg Go.Proofs.YtigepihinflkdaaGreatDoor.MatrixMath Go.Proofs.YtigepihinflkdaaGreatDoor.MatrixPut Go.Proofs.YtigepihinflkdaaGreatDoor.MatrixOf Go.Proofs.YtigepihinflkdaaGreatDoor.MatrixClash Go.Proofs.YtigepihinflkdaaGreatDoor.GraphMath Go.Proofs.YtigepihinflkdaaGreatDoor.GraphNet Go.Proofs.YtigepihinflkdaaGreatDoor.PrecFn Go.Proofs.YtigepihinflkdaaGreatDoor.PrecAwake
set_option linter.unusedVariables false
set_option linter.unusedSimpArgs false

/-- What the levels' closure reads, and the classes. -/
structure LH (w : World) (nb xb g gf gg t : Nat) (cl : Nat → Nat) (lv : Nat → Int) : Prop where
  n : w.cell? ⟨nb, 0, none⟩ = some (.int .i64 (t : Int))
  x0 : w.cell? ⟨xb, 0, none⟩ = some (.slice (some ⟨gf, 0, none⟩) t t)
  x1 : w.cell? ⟨xb, 1, none⟩ = some (.slice (some ⟨gg, 0, none⟩) t t)
  x2 : w.cell? ⟨xb, 2, none⟩ = some (.slice (some ⟨g, 0, none⟩) (2 * t) (2 * t))
  F : ∀ i, i < t → w.cell? ⟨gf, i, none⟩ = some (.int .i64 (lv i))
  G : ∀ i, i < t → w.cell? ⟨gg, i, none⟩ = some (.int .i64 (lv (t + i)))
  C : ∀ i, i < 2 * t → w.cell? ⟨g, i, none⟩ = some (.int .i64 (cl i : Int))
theorem LH.drewN {w : World} {nb xb g gf gg t : Nat} {cl : Nat → Nat} {lv : Nat → Int} (h : LH w nb xb g gf gg t cl lv) (q : Nat) : LH (w.drewN q) nb xb g gf gg t cl lv :=
  ⟨h.n, h.x0, h.x1, h.x2, h.F, h.G, h.C⟩

set_option maxRecDepth 100000 in
set_option maxHeartbeats 4000000 in
theorem level_any {w : World} {nb xb g gf gg t : Nat} {cl : Nat → Nat} {lv : Nat → Int} (h : LH w nb xb g gf gg t cl lv) (ht : t ≤ 60) (i : Nat) (hi : i < 2 * t) :
    Calls Tryz.prog 31 #[.int .i64 (i : Int), .pointer (some ⟨nb, 0, none⟩), .pointer (some ⟨xb, 0, none⟩)] w fun e w' => e = .returned (.int .i64 (lv i)) ∧ w' = w := by
  have c0 := h.n
  have c1 := h.x0
  have c2 := h.x1
  by_cases hlt : i < t
  · have hl2 : (i : Int) < (t : Int) := by omega
    have c3 := h.F i hlt
    clear h
    go_enter Tryz.func31, Tryz.ntmps31
    go_wp2
    go_ret
    exact ⟨rfl, rfl⟩
  · obtain ⟨k, rfl⟩ : ∃ k, i = t + k := ⟨i - t, by omega⟩
    have hl2 : ¬ ((t + k : Nat) : Int) < (t : Int) := by omega
    have hk : k < t := by omega
    have c3 := h.G k hk
    have hsub : IntKind.i64.wrap (((t + k : Nat) : Int) - (t : Int)) = (k : Int) := by rw [IntKind.wrap_i64] <;> omega
    clear h
    generalize ht2 : ((t + k : Nat) : Int) = tk at *
    generalize lv (t + k) = z at *
    go_enter Tryz.func31, Tryz.ntmps31
    go_wp2
    go_ret
    exact ⟨rfl, rfl⟩

set_option maxRecDepth 100000 in
set_option maxHeartbeats 16000000 in
theorem walk (ta na ra : Option Addr) (tc nc rc : Nat) (g : G) (p : Nat → Addr) (w : World) (hG : GRow w ta na ra g) (hcap : Caps w ra g.rs.length) (hg : okG g) (htc : g.ts.length ≤ tc) (hnc : g.ns.length ≤ nc) (hE : Errs w p) (hT : Tab w) (hTG : 16 < w.heap.size) :
    Calls Tryz.prog 7 #[.agg #[.slice ta g.ts.length tc, .slice na g.ns.length nc, .int .i64 g.ax, .slice ra g.rs.length rc]] w fun e w' => e = .returned (.bool true) ∧ Below w.heap.size w w' := by
  have hneq := neq_nil
  have hB : Below w.heap.size w (w.alloc (.cells #[.slice ta g.ts.length tc, .slice na g.ns.length nc, .int .i64 g.ax, .slice ra g.rs.length rc] 25)) := (Below.refl _ _).alloc (Nat.le_refl _) _
  have hbx : RowAt (w.alloc (.cells #[.slice ta g.ts.length tc, .slice na g.ns.length nc, .int .i64 g.ax, .slice ra g.rs.length rc] 25)) w.heap.size 25 #[.slice ta g.ts.length tc, .slice na g.ns.length nc, .int .i64 g.ax, .slice ra g.rs.length rc] := heap_new _ _
  have hof := MOf_top ta na ra tc nc rc g p _ (hG.below hB (Nat.le_refl _)) (caps_below hG.2.2 hcap hB (Nat.le_refl _)) hg htc hnc (hE.sents.below hB (Nat.le_refl _)) (SetsEach.Tab.from hT hB hTG) (by simp; omega)
  have HE : Hid (Errs w p ∧ Tab w) := ⟨hE, hT⟩
  clear hG hcap hg hE hT htc hnc
  have g0 := hbx.cell (q := 0) rfl
  have g1 := hbx.cell (q := 1) rfl
  have g2 := hbx.cell (q := 2) rfl
  have g3 := hbx.cell (q := 3) rfl
  go_enter Tryz.func7, Tryz.ntmps7
  go_wp2_with fail
  refine hof.mono ?_
  rintro e w1 ⟨⟨u, y, rfl, hO, hy⟩, hb⟩
  replace hB := hB.trans (hb.mono hB.size)
  clear hof hb g0 g1 g2 g3 hbx
  have haw := awake_any p w1 (HE.out.1.below hB (Nat.le_refl _)) (SetsEach.Tab.from HE.out.2 hB hTG) (Nat.lt_of_lt_of_le hTG hB.size)
  rcases hO with ⟨h0, M, S, rfl, hMg, hm, him⟩ | ⟨h0, rfl⟩
  · obtain rfl := ck_nil hy h0
    have hgood := good_of h0
    have hfew := hgood.few
    have hax0 := hgood.ax0
    have hax1 := hgood.ax1
    obtain ⟨t, ht⟩ : ∃ t, t = g.ts.length + 1 := ⟨_, rfl⟩
    have ht60 : t ≤ 60 := by omega
    have HT : Hid (Tame t S) := by rw [ht]; exact tame_of hgood him
    rw [← ht] at hm
    clear hy hgood hfew hax0 hax1 h0 him ht hMg
    go_wp2_with fail
    refine haw.mono ?_
    rintro e w2 ⟨rfl, hb⟩
    have hb12 := hb
    replace hB := hB.trans (hb.mono hB.size)
    replace hm := hm.below hb hm.lt
    clear haw hb hb12
    have HM : Hid (MatAt w2 M (t : Int) S) := hm
    have hof := of_any (some ⟨M, 0, none⟩) t S p w2 (.inr ⟨M, rfl, hm⟩) ht60 HT.out (HE.out.1.below hB (Nat.le_refl _))
    clear hm
    go_wp2_with fail
    refine hof.mono ?_
    rintro e w3 ⟨v, rfl, hF, hb⟩
    replace hB := hB.trans (hb.mono hB.size)
    replace HM : Hid (MatAt w3 M (t : Int) S) := HM.out.below hb HM.out.lt
    clear hof hb
    rcases hF with ⟨h, _⟩ | ⟨_, x, l, ev, hc, rfl, pb, _, rfl, _⟩ | ⟨_, hc, g, ca, cc, hr, rfl, hg, hrow, hown⟩ | ⟨_, hc, g, gf, gg, hr, rfl, hg, h1, h2, r1, r2, r3⟩
    · cases h
    · clear hc HM HT
      have hB2 : Below w.heap.size w (w3.alloc (.cells #[.slice none 0 0, .slice none 0 0, .slice none 0 0, .slice none 0 0] 38)) := hB.alloc hB.size _
      have hrx : RowAt (w3.alloc (.cells #[.slice none 0 0, .slice none 0 0, .slice none 0 0, .slice none 0 0] 38)) w3.heap.size 38 #[.slice none 0 0, .slice none 0 0, .slice none 0 0, .slice none 0 0] := heap_new _ _
      have x0 := hrx.cell (q := 0) rfl
      go_wp2
      go_ret
      exact ⟨rfl, hB2⟩
    · have hB2 : Below w.heap.size w (w3.alloc (.cells #[.slice none 0 0, .slice none 0 0, .slice (some ⟨g, 0, none⟩) (2 * t) (2 * t), .slice ca (rdL ((2 * t : Nat) : Int) (edS t S)).length cc] 38)) := hB.alloc hB.size _
      have hrx : RowAt (w3.alloc (.cells #[.slice none 0 0, .slice none 0 0, .slice (some ⟨g, 0, none⟩) (2 * t) (2 * t), .slice ca (rdL ((2 * t : Nat) : Int) (edS t S)).length cc] 38)) w3.heap.size 38 #[.slice none 0 0, .slice none 0 0, .slice (some ⟨g, 0, none⟩) (2 * t) (2 * t), .slice ca (rdL ((2 * t : Nat) : Int) (edS t S)).length cc] := heap_new _ _
      have x0 := hrx.cell (q := 0) rfl
      have x3 := hrx.cell (q := 3) rfl
      have hpos : 0 < ((rdL ((2 * t : Nat) : Int) (edS t S)).length : Int) := by have := List.length_pos_iff.2 hr; omega
      clear hr hown hrow hc HM HT
      generalize (rdL ((2 * t : Nat) : Int) (edS t S)).length = rl at *
      go_wp2
      go_ret
      exact ⟨rfl, hB2⟩
    · obtain ⟨W4, hW4⟩ : ∃ W4, W4 = w3.alloc (.cells #[.slice (some ⟨gf, 0, none⟩) t t, .slice (some ⟨gg, 0, none⟩) t t, .slice (some ⟨g, 0, none⟩) (2 * t) (2 * t), .slice none 0 0] 38) := ⟨_, rfl⟩
      have hb4 : Below w3.heap.size w3 W4 := by rw [hW4]; exact (Below.refl _ _).alloc (Nat.le_refl _) _
      have hrx : RowAt W4 w3.heap.size 38 #[.slice (some ⟨gf, 0, none⟩) t t, .slice (some ⟨gg, 0, none⟩) t t, .slice (some ⟨g, 0, none⟩) (2 * t) (2 * t), .slice none 0 0] := by rw [hW4]; exact heap_new _ _
      have HL : Hid (LvN (2 * t) (edS t S) (clN t S) (lvN t S)) := lvn_of ht60 HT.out hc hr
      have hterms := terms_v (some ⟨M, 0, none⟩) t S W4 (.inr ⟨M, rfl, HM.out.below hb4 HM.out.lt⟩)
      have x3 := hrx.cell (q := 3) rfl
      rw [hW4] at hterms x3
      clear hrx
      go_wp2_with fail
      refine hterms.mono ?_
      rintro e w5 ⟨rfl, hw5⟩
      rw [← hW4] at hw5
      obtain rfl := hw5
      rw [← hW4] at x3
      clear hterms
      have hrx : RowAt w5 w3.heap.size 38 #[.slice (some ⟨gf, 0, none⟩) t t, .slice (some ⟨gg, 0, none⟩) t t, .slice (some ⟨g, 0, none⟩) (2 * t) (2 * t), .slice none 0 0] := by rw [hW4]; exact heap_new _ _
      obtain ⟨W5, hW5⟩ : ∃ W5, W5 = w5.alloc (.cells #[.int .i64 (t : Int)] 3) := ⟨_, rfl⟩
      have hb5 : Below w5.heap.size w5 W5 := by rw [hW5]; exact (Below.refl _ _).alloc (Nat.le_refl _) _
      have hrn : RowAt W5 w5.heap.size 3 #[.int .i64 (t : Int)] := by rw [hW5]; exact heap_new _ _
      have hb35 := hb4.trans (hb5.mono hb4.size)
      replace hB := hB.trans (hb35.mono hB.size)
      have hgr := graph_any (some ⟨M, 0, none⟩) t S p W5 (.inr ⟨M, rfl, HM.out.below hb35 HM.out.lt⟩) ht60 ((HE.out.1.1 0 (by omega)).1.below hB (Nat.le_refl _)) ((HE.out.1.1 4 (by omega)).1.below hB (Nat.le_refl _))
      rw [hW5] at hgr
      replace hrx := hrx.below hb5 hrx.lt
      have HR : Hid (RowAt w3 g 3 (intsA (ints (clS t S))) ∧ RowAt w3 gf 3 (intsA (fnL t S ((clS t S).take t))) ∧ RowAt w3 gg 3 (intsA (fnL t S ((clS t S).drop t)))) := ⟨r1, r2, r3⟩
      have HX : Hid (RowAt W5 w3.heap.size 38 #[.slice (some ⟨gf, 0, none⟩) t t, .slice (some ⟨gg, 0, none⟩) t t, .slice (some ⟨g, 0, none⟩) (2 * t) (2 * t), .slice none 0 0] ∧ RowAt W5 w5.heap.size 3 #[.int .i64 (t : Int)] ∧ Below w3.heap.size w3 W5) := ⟨hrx, hrn, hb35⟩
      have HW5 : Hid (W5 = w5.alloc (.cells #[.int .i64 (t : Int)] 3)) := hW5
      have HC : Hid (clL t S = [] ∧ mayE ((2 * t : Nat) : Int) (edS t S) = 0) := ⟨hc, edgeL_may ht60 HT.out hc⟩
      have HW4 : Hid (w5.heap.size = w3.heap.size + 1) := by show _ = _; rw [hW4]; simp
      rw [hW4] at x3
      clear hb4 hb5 hrn hb35 hrx r1 r2 r3 hW5 hW4 hc hr hg h1 h2 HM x3
      go_wp2_with fail
      refine hgr.mono ?_
      rw [← HW5.out]
      rintro e w6 ⟨v, rfl, hV, hb⟩
      clear hgr
      rcases hV with ⟨h, _⟩ | ⟨_, x, l, ev, h, _⟩ | ⟨_, _, gc, ev, rfl, hgc, hrc, hEO⟩
      · cases h
      · rw [HC.out.1] at h; cases h
      obtain ⟨ea, ec, rfl, hER⟩ := own_eformP hEO
      replace hB := hB.trans (hb.mono hB.size)
      have hb36 := HX.out.2.2.trans (hb.mono HX.out.2.2.size)
      have HLH : Hid (LH w6 w5.heap.size w3.heap.size g gf gg t (clN t S) (lvN t S)) := by
        have k1 := HX.out.1.below hb HX.out.1.lt
        have k2 := HX.out.2.1.below hb HX.out.2.1.lt
        refine ⟨k2.cell (q := 0) rfl, k1.cell (q := 0) rfl, k1.cell (q := 1) rfl, k1.cell (q := 2) rfl, fun i hi => ?_, fun i hi => ?_, fun i hi => ?_⟩
        · exact (HR.out.2.1.below hb36 HR.out.2.1.lt).cell (intsA_get (fnL_take hi))
        · exact (HR.out.2.2.below hb36 HR.out.2.2.lt).cell (intsA_get (fnL_drop hi))
        · refine (HR.out.1.below hb36 HR.out.1.lt).cell (intsA_get ?_)
          unfold ints
          rw [List.getElem?_map, clN_at hi]
          rfl
      have hes : (edS t S).length ≤ 4096 := by obtain ⟨_, _, _, h, _⟩ := mayE_zero HC.out.2; exact h
      have HER : Hid (ERow w6 ea (edS t S)) := hER
      clear hER hEO hrc hgc hb hb36 HX HR HC HW5 HT
      obtain ⟨es, hes2⟩ : ∃ es, edgeL (rY t S) (rQ t S) (rK t S) t = es := ⟨_, rfl⟩
      replace HL : Hid (LvN (2 * t) es (clN t S) (lvN t S)) := by rw [← hes2]; exact HL
      replace HER : Hid (ERow w6 ea es) := by rw [← hes2]; exact HER
      replace hes : es.length ≤ 4096 := by rw [← hes2]; exact hes
      rw [hes2]
      clear hes2
      generalize clN t S = cl at *
      generalize lvN t S = lv at *
      generalize w5.heap.size = nb at *
      generalize w3.heap.size = xb at *
      have c0 := HLH.out.n
      have c1 := HLH.out.x0
      have c2 := HLH.out.x1
      have hne : ((t : Int) != (t : Int)) = false := by simp
      have h2t : ((2 * t : Nat) : Int) ≤ 120 := by omega
      go_wp2
      clear c1 c2 hne
      go_loopw [12] (fun s wr => ∃ i : Nat, i ≤ 2 * t ∧ s = .int .i64 (i : Int) ∧ ∃ q, wr = w6.drewN q) (fun s _ => 2 * t - (intOf s).toNat)
      case atStart => exact ⟨0, by omega, rfl, 0, rfl⟩
      case round =>
        obtain ⟨i, hi, rfl, q, rfl⟩ := hrel
        by_cases hlt : i < 2 * t
        · have hlt2 : (i : Int) < 2 * (t : Int) := by omega
          have hli := level_any (HLH.out.drewN q) ht60 i hlt
          go_wp2_with fail
          refine hli.mono ?_
          rintro e w7 ⟨rfl, hw7⟩
          obtain rfl := hw7.symm
          clear hli
          have Hz : Hid ((lv i == 0) = hitE (2 * t) cl lv es i 0) := by show _ = _; rw [hitE_zero]; rfl
          go_wp2
          go_loopw [13, 14] (fun h s wr => ∃ k : Nat, k ≤ es.length ∧ s = .int .i64 (k : Int) ∧ h = .bool (hitE (2 * t) cl lv es i k) ∧ ∃ q, wr = w6.drewN q) (fun _ s _ => es.length - (intOf s).toNat)
          case atStart => exact ⟨0, by omega, rfl, by rw [← Hz.out], q, rfl⟩
          case round =>
            obtain ⟨k, hk, rfl, rfl, q, rfl⟩ := hrel
            by_cases hlk : k < es.length
            · have hlk2 : (k : Int) < (es.length : Int) := by omega
              obtain ⟨⟨c, d⟩, hcd⟩ : ∃ e, es[k]? = some e := ⟨es[k], List.getElem?_eq_getElem hlk⟩
              obtain ⟨eb, eo, rfl, d0, d1⟩ := HER.out k (c, d) hcd
              dsimp only at d0 d1
              have HD : Hid (w6.cell? ⟨eb, eo + k * 2 + 1, none⟩ = some (.int .i64 d)) := d1
              have Hcd : Hid (es[k]? = some (c, d)) := hcd
              obtain ⟨Wd, hWd⟩ : ∃ Wd, (w6.drewN q).drew = Wd := ⟨_, rfl⟩
              have HWd : Hid (Wd = w6.drewN (q + 1)) := hWd.symm
              have e0 : (w6.drewN q).drew.cell? ⟨eb, eo + k * 2, none⟩ = some (.int .i64 c) := d0
              have e1 : (w6.drewN q).drew.cell? ⟨xb, 2, none⟩ = some (.slice (some ⟨g, 0, none⟩) (2 * t) (2 * t)) := HLH.out.x2
              have e2 : (w6.drewN q).drew.cell? ⟨g, i, none⟩ = some (.int .i64 (cl i : Int)) := HLH.out.C i hlt
              clear d0 d1 hcd
              go_wp2_with fail
              refine wp_region_noPanic ?_
              refine wp_region_held_drew (S := (fun w9 => w9.cell? ⟨eb, eo + k * 2, none⟩ = some (.int .i64 c) ∧ w9.cell? ⟨xb, 2, none⟩ = some (.slice (some ⟨g, 0, none⟩) (2 * t) (2 * t)) ∧ w9.cell? ⟨g, i, none⟩ = some (.int .i64 (cl i : Int)))) (by kernel_rfl) ⟨e0, e1, e2⟩ (fun hHeld => ?_)
              rw [hWd] at hHeld ⊢
              clear e0 e1 e2 hWd
              by_cases hci : (cl i : Int) = c
              · have hn1 : (c != (cl i : Int)) = false := by rw [hci]; simp
                have Hci : Hid ((cl i : Int) = c) := hci
                clear hci
                refine wpAnyH_take (i := 0) (v := .slice (some ⟨eb, eo, none⟩) es.length ec) rfl (by kernel_rfl) (by kernel_rfl) (by kernel_rfl) (fun _ _ _ h => h) (Or.inl ⟨by rfl, fun w9 hSw => ?_⟩) hHeld ?_
                · obtain ⟨s0, s1, s2⟩ := hSw
                  go_simp
                simp only [List.getElem_toArray, List.getElem_cons_zero, List.getElem_cons_succ, Act.put, List.setIfInBounds_toArray, List.set_cons_zero, List.set_cons_succ]
                refine wpAnyH_take (i := 1) (v := .int .i64 (k : Int)) rfl (by kernel_rfl) (by kernel_rfl) (by kernel_rfl) (fun _ _ _ h => h) (Or.inl ⟨by rfl, fun w9 hSw => ?_⟩) hHeld ?_
                · obtain ⟨s0, s1, s2⟩ := hSw
                  go_simp
                simp only [List.getElem_toArray, List.getElem_cons_zero, List.getElem_cons_succ, Act.put, List.setIfInBounds_toArray, List.set_cons_zero, List.set_cons_succ]
                refine wpAnyH_take (i := 2) (v := .pointer (some ⟨eb, eo + k * 2, none⟩)) rfl (by kernel_rfl) (by kernel_rfl) (by kernel_rfl) (fun _ _ _ h => h) (Or.inl ⟨by rfl, fun w9 hSw => ?_⟩) hHeld ?_
                · obtain ⟨s0, s1, s2⟩ := hSw
                  go_simp
                  all_goals (first | rfl | omega | exact hn1 | (simp [*]; done) | (simp; omega))
                simp only [List.getElem_toArray, List.getElem_cons_zero, List.getElem_cons_succ, Act.put, List.setIfInBounds_toArray, List.set_cons_zero, List.set_cons_succ]
                refine wpAnyH_take (i := 3) (v := .pointer (some ⟨eb, eo + k * 2, none⟩)) rfl (by kernel_rfl) (by kernel_rfl) (by kernel_rfl) (fun _ _ _ h => h) (Or.inl ⟨by rfl, fun w9 hSw => ?_⟩) hHeld ?_
                · obtain ⟨s0, s1, s2⟩ := hSw
                  go_simp
                  all_goals (first | rfl | omega | exact hn1 | (simp [*]; done) | (simp; omega))
                simp only [List.getElem_toArray, List.getElem_cons_zero, List.getElem_cons_succ, Act.put, List.setIfInBounds_toArray, List.set_cons_zero, List.set_cons_succ]
                refine wpAnyH_take (i := 4) (v := .int .i64 c) rfl (by kernel_rfl) (by kernel_rfl) (by kernel_rfl) (fun _ _ _ h => h) (Or.inl ⟨by rfl, fun w9 hSw => ?_⟩) hHeld ?_
                · obtain ⟨s0, s1, s2⟩ := hSw
                  go_simp
                simp only [List.getElem_toArray, List.getElem_cons_zero, List.getElem_cons_succ, Act.put, List.setIfInBounds_toArray, List.set_cons_zero, List.set_cons_succ]
                refine wpAnyH_take (i := 5) (v := .pointer (some ⟨xb, 2, none⟩)) rfl (by kernel_rfl) (by kernel_rfl) (by kernel_rfl) (fun _ _ _ h => h) (Or.inl ⟨by rfl, fun w9 hSw => ?_⟩) hHeld ?_
                · obtain ⟨s0, s1, s2⟩ := hSw
                  go_simp
                simp only [List.getElem_toArray, List.getElem_cons_zero, List.getElem_cons_succ, Act.put, List.setIfInBounds_toArray, List.set_cons_zero, List.set_cons_succ]
                refine wpAnyH_take (i := 6) (v := .slice (some ⟨g, 0, none⟩) (2 * t) (2 * t)) rfl (by kernel_rfl) (by kernel_rfl) (by kernel_rfl) (fun _ _ _ h => h) (Or.inl ⟨by rfl, fun w9 hSw => ?_⟩) hHeld ?_
                · obtain ⟨s0, s1, s2⟩ := hSw
                  go_simp
                simp only [List.getElem_toArray, List.getElem_cons_zero, List.getElem_cons_succ, Act.put, List.setIfInBounds_toArray, List.set_cons_zero, List.set_cons_succ]
                refine wpAnyH_take (i := 7) (v := .int .i64 (i : Int)) rfl (by kernel_rfl) (by kernel_rfl) (by kernel_rfl) (fun _ _ _ h => h) (Or.inl ⟨by rfl, fun w9 hSw => ?_⟩) hHeld ?_
                · obtain ⟨s0, s1, s2⟩ := hSw
                  go_simp
                simp only [List.getElem_toArray, List.getElem_cons_zero, List.getElem_cons_succ, Act.put, List.setIfInBounds_toArray, List.set_cons_zero, List.set_cons_succ]
                refine wpAnyH_take (i := 8) (v := .pointer (some ⟨g, i, none⟩)) rfl (by kernel_rfl) (by kernel_rfl) (by kernel_rfl) (fun _ _ _ h => h) (Or.inl ⟨by rfl, fun w9 hSw => ?_⟩) hHeld ?_
                · obtain ⟨s0, s1, s2⟩ := hSw
                  go_simp
                  all_goals (first | rfl | omega | exact hn1 | (simp [*]; done) | (simp; omega))
                simp only [List.getElem_toArray, List.getElem_cons_zero, List.getElem_cons_succ, Act.put, List.setIfInBounds_toArray, List.set_cons_zero, List.set_cons_succ]
                refine wpAnyH_take (i := 9) (v := .int .i64 (cl i : Int)) rfl (by kernel_rfl) (by kernel_rfl) (by kernel_rfl) (fun _ _ _ h => h) (Or.inl ⟨by rfl, fun w9 hSw => ?_⟩) hHeld ?_
                · obtain ⟨s0, s1, s2⟩ := hSw
                  go_simp
                simp only [List.getElem_toArray, List.getElem_cons_zero, List.getElem_cons_succ, Act.put, List.setIfInBounds_toArray, List.set_cons_zero, List.set_cons_succ]
                refine wpAnyH_take (i := 10) (v := .bool false) rfl (by kernel_rfl) (by kernel_rfl) (by kernel_rfl) (fun _ _ _ h => h) (Or.inl ⟨by rfl, fun w9 hSw => ?_⟩) hHeld ?_
                · obtain ⟨s0, s1, s2⟩ := hSw
                  go_simp
                  all_goals (first | rfl | omega | exact hn1 | (simp [*]; done) | (simp; omega))
                simp only [List.getElem_toArray, List.getElem_cons_zero, List.getElem_cons_succ, Act.put, List.setIfInBounds_toArray, List.set_cons_zero, List.set_cons_succ]
                refine wpAnyH_done (by kernel_rfl) (NoPanic.normal ?_) _
                clear hHeld hn1 c0
                obtain rfl := HWd.out
                have c0 : (w6.drewN (q + 1)).cell? ⟨nb, 0, none⟩ = some (.int .i64 (t : Int)) := HLH.out.n
                go_wp2
                clear c0
                have c0 : w6.cell? ⟨nb, 0, none⟩ = some (.int .i64 (t : Int)) := HLH.out.n
                go_loopw [13, 15] (fun h s wr => ∃ j : Nat, j ≤ 2 * t ∧ s = .int .i64 (j : Int) ∧ h = .bool (hitE (2 * t) cl lv es i k || hitJ cl lv i d j) ∧ ∃ q, wr = w6.drewN q) (fun _ s _ => 2 * t - (intOf s).toNat)
                case atStart => exact ⟨0, by omega, rfl, by rw [hitJ_zero, Bool.or_false], _, rfl⟩
                case round =>
                  obtain ⟨j, hj, rfl, rfl, q', rfl⟩ := hrel
                  by_cases hlj : j < 2 * t
                  · have hlj2 : (j : Int) < 2 * (t : Int) := by omega
                    obtain ⟨Wd, hWd⟩ : ∃ Wd, (w6.drewN q').drew = Wd := ⟨_, rfl⟩
                    have HWd2 : Hid (Wd = w6.drewN (q' + 1)) := hWd.symm
                    have e0 : (w6.drewN q').drew.cell? ⟨eb, eo + k * 2 + 1, none⟩ = some (.int .i64 d) := HD.out
                    have e1 : (w6.drewN q').drew.cell? ⟨xb, 2, none⟩ = some (.slice (some ⟨g, 0, none⟩) (2 * t) (2 * t)) := HLH.out.x2
                    have e2 : (w6.drewN q').drew.cell? ⟨g, j, none⟩ = some (.int .i64 (cl j : Int)) := HLH.out.C j hlj
                    go_wp2_with fail
                    refine wp_region_noPanic ?_
                    refine wp_region_held_drew (S := (fun w9 => w9.cell? ⟨eb, eo + k * 2 + 1, none⟩ = some (.int .i64 d) ∧ w9.cell? ⟨xb, 2, none⟩ = some (.slice (some ⟨g, 0, none⟩) (2 * t) (2 * t)) ∧ w9.cell? ⟨g, j, none⟩ = some (.int .i64 (cl j : Int)))) (by kernel_rfl) ⟨e0, e1, e2⟩ (fun hHeld => ?_)
                    rw [hWd] at hHeld ⊢
                    clear e0 e1 e2 hWd
                    by_cases hcj : (cl j : Int) = d
                    · have hn1 : ((cl j : Int) == d) = true := by rw [hcj]; simp
                      have Hcj : Hid ((cl j : Int) = d) := hcj
                      clear hcj
                      refine wpAnyH_take (i := 0) (v := .pointer (some ⟨xb, 2, none⟩)) rfl (by kernel_rfl) (by kernel_rfl) (by kernel_rfl) (fun _ _ _ h => h) (Or.inl ⟨by rfl, fun w9 hSw => ?_⟩) hHeld ?_
                      · obtain ⟨s0, s1, s2⟩ := hSw
                        go_simp
                      simp only [List.getElem_toArray, List.getElem_cons_zero, List.getElem_cons_succ, Act.put, List.setIfInBounds_toArray, List.set_cons_zero, List.set_cons_succ]
                      refine wpAnyH_take (i := 1) (v := .slice (some ⟨g, 0, none⟩) (2 * t) (2 * t)) rfl (by kernel_rfl) (by kernel_rfl) (by kernel_rfl) (fun _ _ _ h => h) (Or.inl ⟨by rfl, fun w9 hSw => ?_⟩) hHeld ?_
                      · obtain ⟨s0, s1, s2⟩ := hSw
                        go_simp
                      simp only [List.getElem_toArray, List.getElem_cons_zero, List.getElem_cons_succ, Act.put, List.setIfInBounds_toArray, List.set_cons_zero, List.set_cons_succ]
                      refine wpAnyH_take (i := 2) (v := .int .i64 (j : Int)) rfl (by kernel_rfl) (by kernel_rfl) (by kernel_rfl) (fun _ _ _ h => h) (Or.inl ⟨by rfl, fun w9 hSw => ?_⟩) hHeld ?_
                      · obtain ⟨s0, s1, s2⟩ := hSw
                        go_simp
                      simp only [List.getElem_toArray, List.getElem_cons_zero, List.getElem_cons_succ, Act.put, List.setIfInBounds_toArray, List.set_cons_zero, List.set_cons_succ]
                      refine wpAnyH_take (i := 3) (v := .pointer (some ⟨g, j, none⟩)) rfl (by kernel_rfl) (by kernel_rfl) (by kernel_rfl) (fun _ _ _ h => h) (Or.inl ⟨by rfl, fun w9 hSw => ?_⟩) hHeld ?_
                      · obtain ⟨s0, s1, s2⟩ := hSw
                        go_simp
                        all_goals (first | rfl | omega | exact hn1 | (simp [*]; done) | (simp; omega))
                      simp only [List.getElem_toArray, List.getElem_cons_zero, List.getElem_cons_succ, Act.put, List.setIfInBounds_toArray, List.set_cons_zero, List.set_cons_succ]
                      refine wpAnyH_take (i := 4) (v := .int .i64 (cl j : Int)) rfl (by kernel_rfl) (by kernel_rfl) (by kernel_rfl) (fun _ _ _ h => h) (Or.inl ⟨by rfl, fun w9 hSw => ?_⟩) hHeld ?_
                      · obtain ⟨s0, s1, s2⟩ := hSw
                        go_simp
                      simp only [List.getElem_toArray, List.getElem_cons_zero, List.getElem_cons_succ, Act.put, List.setIfInBounds_toArray, List.set_cons_zero, List.set_cons_succ]
                      refine wpAnyH_take (i := 5) (v := .slice (some ⟨eb, eo, none⟩) es.length ec) rfl (by kernel_rfl) (by kernel_rfl) (by kernel_rfl) (fun _ _ _ h => h) (Or.inl ⟨by rfl, fun w9 hSw => ?_⟩) hHeld ?_
                      · obtain ⟨s0, s1, s2⟩ := hSw
                        go_simp
                      simp only [List.getElem_toArray, List.getElem_cons_zero, List.getElem_cons_succ, Act.put, List.setIfInBounds_toArray, List.set_cons_zero, List.set_cons_succ]
                      refine wpAnyH_take (i := 6) (v := .int .i64 (k : Int)) rfl (by kernel_rfl) (by kernel_rfl) (by kernel_rfl) (fun _ _ _ h => h) (Or.inl ⟨by rfl, fun w9 hSw => ?_⟩) hHeld ?_
                      · obtain ⟨s0, s1, s2⟩ := hSw
                        go_simp
                      simp only [List.getElem_toArray, List.getElem_cons_zero, List.getElem_cons_succ, Act.put, List.setIfInBounds_toArray, List.set_cons_zero, List.set_cons_succ]
                      refine wpAnyH_take (i := 7) (v := .pointer (some ⟨eb, eo + k * 2, none⟩)) rfl (by kernel_rfl) (by kernel_rfl) (by kernel_rfl) (fun _ _ _ h => h) (Or.inl ⟨by rfl, fun w9 hSw => ?_⟩) hHeld ?_
                      · obtain ⟨s0, s1, s2⟩ := hSw
                        go_simp
                        all_goals (first | rfl | omega | exact hn1 | (simp [*]; done) | (simp; omega))
                      simp only [List.getElem_toArray, List.getElem_cons_zero, List.getElem_cons_succ, Act.put, List.setIfInBounds_toArray, List.set_cons_zero, List.set_cons_succ]
                      refine wpAnyH_take (i := 8) (v := .pointer (some ⟨eb, eo + k * 2 + 1, none⟩)) rfl (by kernel_rfl) (by kernel_rfl) (by kernel_rfl) (fun _ _ _ h => h) (Or.inl ⟨by rfl, fun w9 hSw => ?_⟩) hHeld ?_
                      · obtain ⟨s0, s1, s2⟩ := hSw
                        go_simp
                        all_goals (first | rfl | omega | exact hn1 | (simp [*]; done) | (simp; omega))
                      simp only [List.getElem_toArray, List.getElem_cons_zero, List.getElem_cons_succ, Act.put, List.setIfInBounds_toArray, List.set_cons_zero, List.set_cons_succ]
                      refine wpAnyH_take (i := 9) (v := .int .i64 d) rfl (by kernel_rfl) (by kernel_rfl) (by kernel_rfl) (fun _ _ _ h => h) (Or.inl ⟨by rfl, fun w9 hSw => ?_⟩) hHeld ?_
                      · obtain ⟨s0, s1, s2⟩ := hSw
                        go_simp
                      simp only [List.getElem_toArray, List.getElem_cons_zero, List.getElem_cons_succ, Act.put, List.setIfInBounds_toArray, List.set_cons_zero, List.set_cons_succ]
                      refine wpAnyH_take (i := 10) (v := .bool true) rfl (by kernel_rfl) (by kernel_rfl) (by kernel_rfl) (fun _ _ _ h => h) (Or.inl ⟨by rfl, fun w9 hSw => ?_⟩) hHeld ?_
                      · obtain ⟨s0, s1, s2⟩ := hSw
                        go_simp
                        all_goals (first | rfl | omega | exact hn1 | (simp [*]; done) | (simp; omega))
                      simp only [List.getElem_toArray, List.getElem_cons_zero, List.getElem_cons_succ, Act.put, List.setIfInBounds_toArray, List.set_cons_zero, List.set_cons_succ]
                      refine wpAnyH_done (by kernel_rfl) (NoPanic.normal ?_) _
                      clear hHeld hn1
                      obtain rfl := HWd2.out
                      have H1 := level_any (HLH.out.drewN (q' + 1)) ht60 j hlj
                      have H2 := level_any (HLH.out.drewN (q' + 1)) ht60 i hlt
                      have hfall := HL.out.falls _ (List.mem_of_getElem? Hcd.out) i j hlt hlj Hci.out Hcj.out
                      have hp1 := HL.out.pos j
                      have hp2 := HL.out.few i
                      have hge : ¬ lv i ≤ lv j := by omega
                      obtain ⟨hb, hhb⟩ : ∃ hb, (hitE (2 * t) cl lv es i k || hitJ cl lv i d j) = hb := ⟨_, rfl⟩
                      have Hhb : Hid ((hitE (2 * t) cl lv es i k || hitJ cl lv i d (j + 1)) = (hb || decide (lv j = lv i - 1))) := by show _ = _; rw [hitJ_succ, decide_eq_true Hcj.out, Bool.true_and, ← Bool.or_assoc, hhb]
                      rw [hhb]
                      clear hhb hfall
                      go_wp2_with fail
                      refine H1.mono ?_
                      rintro e wz ⟨rfl, hwz⟩
                      obtain rfl := hwz.symm
                      go_wp2_with fail
                      refine H2.mono ?_
                      rintro e wz ⟨rfl, hwz⟩
                      obtain rfl := hwz.symm
                      cases hb with
                      | true =>
                        clear H1 H2
                        go_wp2
                        go_roundw
                        case rel => exact ⟨j + 1, by omega, by go_num, by rw [Hhb.out]; rfl, _, rfl⟩
                        case measure => simp [intOf]; omega
                      | false =>
                        go_wp2_with fail
                        refine H1.mono ?_
                        rintro e wz ⟨rfl, hwz⟩
                        obtain rfl := hwz.symm
                        go_wp2_with fail
                        refine H2.mono ?_
                        rintro e wz ⟨rfl, hwz⟩
                        obtain rfl := hwz.symm
                        clear H1 H2
                        go_wp2
                        go_roundw
                        case rel => exact ⟨j + 1, by omega, by go_num, by rw [Hhb.out]; first | rfl | simp, _, rfl⟩
                        case measure => simp [intOf]; omega
                    · have hn1 : ((cl j : Int) == d) = false := by rw [beq_eq_false_iff_ne]; exact hcj
                      have Hhb : Hid ((hitE (2 * t) cl lv es i k || hitJ cl lv i d (j + 1)) = (hitE (2 * t) cl lv es i k || hitJ cl lv i d j)) := by show _ = _; rw [hitJ_succ, decide_eq_false hcj, Bool.false_and, Bool.or_false]
                      clear hcj
                      refine wpAnyH_take (i := 0) (v := .pointer (some ⟨xb, 2, none⟩)) rfl (by kernel_rfl) (by kernel_rfl) (by kernel_rfl) (fun _ _ _ h => h) (Or.inl ⟨by rfl, fun w9 hSw => ?_⟩) hHeld ?_
                      · obtain ⟨s0, s1, s2⟩ := hSw
                        go_simp
                      simp only [List.getElem_toArray, List.getElem_cons_zero, List.getElem_cons_succ, Act.put, List.setIfInBounds_toArray, List.set_cons_zero, List.set_cons_succ]
                      refine wpAnyH_take (i := 1) (v := .slice (some ⟨g, 0, none⟩) (2 * t) (2 * t)) rfl (by kernel_rfl) (by kernel_rfl) (by kernel_rfl) (fun _ _ _ h => h) (Or.inl ⟨by rfl, fun w9 hSw => ?_⟩) hHeld ?_
                      · obtain ⟨s0, s1, s2⟩ := hSw
                        go_simp
                      simp only [List.getElem_toArray, List.getElem_cons_zero, List.getElem_cons_succ, Act.put, List.setIfInBounds_toArray, List.set_cons_zero, List.set_cons_succ]
                      refine wpAnyH_take (i := 2) (v := .int .i64 (j : Int)) rfl (by kernel_rfl) (by kernel_rfl) (by kernel_rfl) (fun _ _ _ h => h) (Or.inl ⟨by rfl, fun w9 hSw => ?_⟩) hHeld ?_
                      · obtain ⟨s0, s1, s2⟩ := hSw
                        go_simp
                      simp only [List.getElem_toArray, List.getElem_cons_zero, List.getElem_cons_succ, Act.put, List.setIfInBounds_toArray, List.set_cons_zero, List.set_cons_succ]
                      refine wpAnyH_take (i := 3) (v := .pointer (some ⟨g, j, none⟩)) rfl (by kernel_rfl) (by kernel_rfl) (by kernel_rfl) (fun _ _ _ h => h) (Or.inl ⟨by rfl, fun w9 hSw => ?_⟩) hHeld ?_
                      · obtain ⟨s0, s1, s2⟩ := hSw
                        go_simp
                        all_goals (first | rfl | omega | exact hn1 | (simp [*]; done) | (simp; omega))
                      simp only [List.getElem_toArray, List.getElem_cons_zero, List.getElem_cons_succ, Act.put, List.setIfInBounds_toArray, List.set_cons_zero, List.set_cons_succ]
                      refine wpAnyH_take (i := 4) (v := .int .i64 (cl j : Int)) rfl (by kernel_rfl) (by kernel_rfl) (by kernel_rfl) (fun _ _ _ h => h) (Or.inl ⟨by rfl, fun w9 hSw => ?_⟩) hHeld ?_
                      · obtain ⟨s0, s1, s2⟩ := hSw
                        go_simp
                      simp only [List.getElem_toArray, List.getElem_cons_zero, List.getElem_cons_succ, Act.put, List.setIfInBounds_toArray, List.set_cons_zero, List.set_cons_succ]
                      refine wpAnyH_take (i := 5) (v := .slice (some ⟨eb, eo, none⟩) es.length ec) rfl (by kernel_rfl) (by kernel_rfl) (by kernel_rfl) (fun _ _ _ h => h) (Or.inl ⟨by rfl, fun w9 hSw => ?_⟩) hHeld ?_
                      · obtain ⟨s0, s1, s2⟩ := hSw
                        go_simp
                      simp only [List.getElem_toArray, List.getElem_cons_zero, List.getElem_cons_succ, Act.put, List.setIfInBounds_toArray, List.set_cons_zero, List.set_cons_succ]
                      refine wpAnyH_take (i := 6) (v := .int .i64 (k : Int)) rfl (by kernel_rfl) (by kernel_rfl) (by kernel_rfl) (fun _ _ _ h => h) (Or.inl ⟨by rfl, fun w9 hSw => ?_⟩) hHeld ?_
                      · obtain ⟨s0, s1, s2⟩ := hSw
                        go_simp
                      simp only [List.getElem_toArray, List.getElem_cons_zero, List.getElem_cons_succ, Act.put, List.setIfInBounds_toArray, List.set_cons_zero, List.set_cons_succ]
                      refine wpAnyH_take (i := 7) (v := .pointer (some ⟨eb, eo + k * 2, none⟩)) rfl (by kernel_rfl) (by kernel_rfl) (by kernel_rfl) (fun _ _ _ h => h) (Or.inl ⟨by rfl, fun w9 hSw => ?_⟩) hHeld ?_
                      · obtain ⟨s0, s1, s2⟩ := hSw
                        go_simp
                        all_goals (first | rfl | omega | exact hn1 | (simp [*]; done) | (simp; omega))
                      simp only [List.getElem_toArray, List.getElem_cons_zero, List.getElem_cons_succ, Act.put, List.setIfInBounds_toArray, List.set_cons_zero, List.set_cons_succ]
                      refine wpAnyH_take (i := 8) (v := .pointer (some ⟨eb, eo + k * 2 + 1, none⟩)) rfl (by kernel_rfl) (by kernel_rfl) (by kernel_rfl) (fun _ _ _ h => h) (Or.inl ⟨by rfl, fun w9 hSw => ?_⟩) hHeld ?_
                      · obtain ⟨s0, s1, s2⟩ := hSw
                        go_simp
                        all_goals (first | rfl | omega | exact hn1 | (simp [*]; done) | (simp; omega))
                      simp only [List.getElem_toArray, List.getElem_cons_zero, List.getElem_cons_succ, Act.put, List.setIfInBounds_toArray, List.set_cons_zero, List.set_cons_succ]
                      refine wpAnyH_take (i := 9) (v := .int .i64 d) rfl (by kernel_rfl) (by kernel_rfl) (by kernel_rfl) (fun _ _ _ h => h) (Or.inl ⟨by rfl, fun w9 hSw => ?_⟩) hHeld ?_
                      · obtain ⟨s0, s1, s2⟩ := hSw
                        go_simp
                      simp only [List.getElem_toArray, List.getElem_cons_zero, List.getElem_cons_succ, Act.put, List.setIfInBounds_toArray, List.set_cons_zero, List.set_cons_succ]
                      refine wpAnyH_take (i := 10) (v := .bool false) rfl (by kernel_rfl) (by kernel_rfl) (by kernel_rfl) (fun _ _ _ h => h) (Or.inl ⟨by rfl, fun w9 hSw => ?_⟩) hHeld ?_
                      · obtain ⟨s0, s1, s2⟩ := hSw
                        go_simp
                        all_goals (first | rfl | omega | exact hn1 | (simp [*]; done) | (simp; omega))
                      simp only [List.getElem_toArray, List.getElem_cons_zero, List.getElem_cons_succ, Act.put, List.setIfInBounds_toArray, List.set_cons_zero, List.set_cons_succ]
                      refine wpAnyH_done (by kernel_rfl) (NoPanic.normal ?_) _
                      clear hHeld hn1
                      go_wp2
                      go_roundw
                      case rel => exact ⟨j + 1, by omega, by go_num, by rw [Hhb.out], q' + 1, HWd2.out⟩
                      case measure => simp [intOf]; omega
                  · obtain rfl : j = 2 * t := by omega
                    have hlj2 : ¬ ((2 * t : Nat) : Int) < 2 * (t : Int) := by omega
                    have Hhb : Hid (hitE (2 * t) cl lv es i (k + 1) = (hitE (2 * t) cl lv es i k || hitJ cl lv i d (2 * t))) := by show _ = _; rw [hitE_succ Hcd.out, decide_eq_true Hci.out, Bool.true_and]
                    go_wp2
                    go_roundw
                    case rel => exact ⟨k + 1, by omega, by go_num, by rw [Hhb.out], q', rfl⟩
                    case measure => simp [intOf]; omega
              · have hn1 : (c != (cl i : Int)) = true := by rw [bne_iff_ne]; omega
                have Hhb : Hid (hitE (2 * t) cl lv es i (k + 1) = hitE (2 * t) cl lv es i k) := by show _ = _; rw [hitE_succ Hcd.out, decide_eq_false hci, Bool.false_and, Bool.or_false]
                clear hci
                refine wpAnyH_take (i := 0) (v := .slice (some ⟨eb, eo, none⟩) es.length ec) rfl (by kernel_rfl) (by kernel_rfl) (by kernel_rfl) (fun _ _ _ h => h) (Or.inl ⟨by rfl, fun w9 hSw => ?_⟩) hHeld ?_
                · obtain ⟨s0, s1, s2⟩ := hSw
                  go_simp
                simp only [List.getElem_toArray, List.getElem_cons_zero, List.getElem_cons_succ, Act.put, List.setIfInBounds_toArray, List.set_cons_zero, List.set_cons_succ]
                refine wpAnyH_take (i := 1) (v := .int .i64 (k : Int)) rfl (by kernel_rfl) (by kernel_rfl) (by kernel_rfl) (fun _ _ _ h => h) (Or.inl ⟨by rfl, fun w9 hSw => ?_⟩) hHeld ?_
                · obtain ⟨s0, s1, s2⟩ := hSw
                  go_simp
                simp only [List.getElem_toArray, List.getElem_cons_zero, List.getElem_cons_succ, Act.put, List.setIfInBounds_toArray, List.set_cons_zero, List.set_cons_succ]
                refine wpAnyH_take (i := 2) (v := .pointer (some ⟨eb, eo + k * 2, none⟩)) rfl (by kernel_rfl) (by kernel_rfl) (by kernel_rfl) (fun _ _ _ h => h) (Or.inl ⟨by rfl, fun w9 hSw => ?_⟩) hHeld ?_
                · obtain ⟨s0, s1, s2⟩ := hSw
                  go_simp
                  all_goals (first | rfl | omega | exact hn1 | (simp [*]; done) | (simp; omega))
                simp only [List.getElem_toArray, List.getElem_cons_zero, List.getElem_cons_succ, Act.put, List.setIfInBounds_toArray, List.set_cons_zero, List.set_cons_succ]
                refine wpAnyH_take (i := 3) (v := .pointer (some ⟨eb, eo + k * 2, none⟩)) rfl (by kernel_rfl) (by kernel_rfl) (by kernel_rfl) (fun _ _ _ h => h) (Or.inl ⟨by rfl, fun w9 hSw => ?_⟩) hHeld ?_
                · obtain ⟨s0, s1, s2⟩ := hSw
                  go_simp
                  all_goals (first | rfl | omega | exact hn1 | (simp [*]; done) | (simp; omega))
                simp only [List.getElem_toArray, List.getElem_cons_zero, List.getElem_cons_succ, Act.put, List.setIfInBounds_toArray, List.set_cons_zero, List.set_cons_succ]
                refine wpAnyH_take (i := 4) (v := .int .i64 c) rfl (by kernel_rfl) (by kernel_rfl) (by kernel_rfl) (fun _ _ _ h => h) (Or.inl ⟨by rfl, fun w9 hSw => ?_⟩) hHeld ?_
                · obtain ⟨s0, s1, s2⟩ := hSw
                  go_simp
                simp only [List.getElem_toArray, List.getElem_cons_zero, List.getElem_cons_succ, Act.put, List.setIfInBounds_toArray, List.set_cons_zero, List.set_cons_succ]
                refine wpAnyH_take (i := 5) (v := .pointer (some ⟨xb, 2, none⟩)) rfl (by kernel_rfl) (by kernel_rfl) (by kernel_rfl) (fun _ _ _ h => h) (Or.inl ⟨by rfl, fun w9 hSw => ?_⟩) hHeld ?_
                · obtain ⟨s0, s1, s2⟩ := hSw
                  go_simp
                simp only [List.getElem_toArray, List.getElem_cons_zero, List.getElem_cons_succ, Act.put, List.setIfInBounds_toArray, List.set_cons_zero, List.set_cons_succ]
                refine wpAnyH_take (i := 6) (v := .slice (some ⟨g, 0, none⟩) (2 * t) (2 * t)) rfl (by kernel_rfl) (by kernel_rfl) (by kernel_rfl) (fun _ _ _ h => h) (Or.inl ⟨by rfl, fun w9 hSw => ?_⟩) hHeld ?_
                · obtain ⟨s0, s1, s2⟩ := hSw
                  go_simp
                simp only [List.getElem_toArray, List.getElem_cons_zero, List.getElem_cons_succ, Act.put, List.setIfInBounds_toArray, List.set_cons_zero, List.set_cons_succ]
                refine wpAnyH_take (i := 7) (v := .int .i64 (i : Int)) rfl (by kernel_rfl) (by kernel_rfl) (by kernel_rfl) (fun _ _ _ h => h) (Or.inl ⟨by rfl, fun w9 hSw => ?_⟩) hHeld ?_
                · obtain ⟨s0, s1, s2⟩ := hSw
                  go_simp
                simp only [List.getElem_toArray, List.getElem_cons_zero, List.getElem_cons_succ, Act.put, List.setIfInBounds_toArray, List.set_cons_zero, List.set_cons_succ]
                refine wpAnyH_take (i := 8) (v := .pointer (some ⟨g, i, none⟩)) rfl (by kernel_rfl) (by kernel_rfl) (by kernel_rfl) (fun _ _ _ h => h) (Or.inl ⟨by rfl, fun w9 hSw => ?_⟩) hHeld ?_
                · obtain ⟨s0, s1, s2⟩ := hSw
                  go_simp
                  all_goals (first | rfl | omega | exact hn1 | (simp [*]; done) | (simp; omega))
                simp only [List.getElem_toArray, List.getElem_cons_zero, List.getElem_cons_succ, Act.put, List.setIfInBounds_toArray, List.set_cons_zero, List.set_cons_succ]
                refine wpAnyH_take (i := 9) (v := .int .i64 (cl i : Int)) rfl (by kernel_rfl) (by kernel_rfl) (by kernel_rfl) (fun _ _ _ h => h) (Or.inl ⟨by rfl, fun w9 hSw => ?_⟩) hHeld ?_
                · obtain ⟨s0, s1, s2⟩ := hSw
                  go_simp
                simp only [List.getElem_toArray, List.getElem_cons_zero, List.getElem_cons_succ, Act.put, List.setIfInBounds_toArray, List.set_cons_zero, List.set_cons_succ]
                refine wpAnyH_take (i := 10) (v := .bool true) rfl (by kernel_rfl) (by kernel_rfl) (by kernel_rfl) (fun _ _ _ h => h) (Or.inl ⟨by rfl, fun w9 hSw => ?_⟩) hHeld ?_
                · obtain ⟨s0, s1, s2⟩ := hSw
                  go_simp
                  all_goals (first | rfl | omega | exact hn1 | (simp [*]; done) | (simp; omega))
                simp only [List.getElem_toArray, List.getElem_cons_zero, List.getElem_cons_succ, Act.put, List.setIfInBounds_toArray, List.set_cons_zero, List.set_cons_succ]
                refine wpAnyH_done (by kernel_rfl) (NoPanic.normal ?_) _
                clear hHeld hn1
                go_wp2
                go_roundw
                case rel => exact ⟨k + 1, by omega, by go_num, by rw [Hhb.out], q + 1, HWd.out⟩
                case measure => simp [intOf]; omega
            · obtain rfl : k = es.length := by omega
              have hhit : hitE (2 * t) cl lv es i es.length = true := HL.out.hit hlt
              rw [hhit]
              clear hhit hlk hk Hz
              have Hes : Hid (es.length ≤ 4096) := hes
              clear hes
              go_wp2
              go_loopw [16] (fun s wr => ∃ j : Nat, j ≤ 2 * t ∧ s = .int .i64 (j : Int) ∧ ∃ q, wr = w6.drewN q) (fun s _ => 2 * t - (intOf s).toNat)
              case atStart => exact ⟨0, by omega, rfl, q, rfl⟩
              case round =>
                obtain ⟨j, hj, rfl, q, rfl⟩ := hrel
                by_cases hlj : j < 2 * t
                · have hlj2 : (j : Int) < 2 * (t : Int) := by omega
                  obtain ⟨Wd, hWd⟩ : ∃ Wd, (w6.drewN q).drew = Wd := ⟨_, rfl⟩
                  have HWd : Hid (Wd = w6.drewN (q + 1)) := hWd.symm
                  have H1 := level_any (HLH.out.drewN (q + 1)) ht60 j hlj
                  have H2 := level_any (HLH.out.drewN (q + 1)) ht60 i hlt
                  rw [← HWd.out] at H1 H2
                  have HH1 : Hid (Calls Tryz.prog 31 #[.int .i64 (j : Int), .pointer (some ⟨nb, 0, none⟩), .pointer (some ⟨xb, 0, none⟩)] Wd fun e w' => e = .returned (.int .i64 (lv j)) ∧ w' = Wd) := H1
                  have HH2 : Hid (Calls Tryz.prog 31 #[.int .i64 (i : Int), .pointer (some ⟨nb, 0, none⟩), .pointer (some ⟨xb, 0, none⟩)] Wd fun e w' => e = .returned (.int .i64 (lv i)) ∧ w' = Wd) := H2
                  have e0 : (w6.drewN q).drew.cell? ⟨xb, 2, none⟩ = some (.slice (some ⟨g, 0, none⟩) (2 * t) (2 * t)) := HLH.out.x2
                  have e1 : (w6.drewN q).drew.cell? ⟨g, j, none⟩ = some (.int .i64 (cl j : Int)) := HLH.out.C j hlj
                  have e2 : (w6.drewN q).drew.cell? ⟨g, i, none⟩ = some (.int .i64 (cl i : Int)) := HLH.out.C i hlt
                  clear H1 H2
                  go_wp2_with fail
                  refine wp_region_noPanic ?_
                  refine wp_region_held_drew (S := (fun w9 => w9.cell? ⟨xb, 2, none⟩ = some (.slice (some ⟨g, 0, none⟩) (2 * t) (2 * t)) ∧ w9.cell? ⟨g, j, none⟩ = some (.int .i64 (cl j : Int)) ∧ w9.cell? ⟨g, i, none⟩ = some (.int .i64 (cl i : Int)))) (by kernel_rfl) ⟨e0, e1, e2⟩ (fun hHeld => ?_)
                  rw [hWd] at hHeld ⊢
                  clear e0 e1 e2 hWd
                  by_cases hcc : cl j = cl i
                  · have hs := HL.out.same j i hcc
                    have hci : ((cl j : Int) == (cl i : Int)) = true := by rw [hcc]; simp
                    have hnn : (lv j != lv i) = false := by rw [hs]; simp
                    have Hcc : Hid (cl j = cl i ∧ lv j = lv i) := ⟨hcc, hs⟩
                    clear hcc hs
                    refine wpAnyH_take (i := 0) (v := .pointer (some ⟨xb, 2, none⟩)) rfl (by kernel_rfl) (by kernel_rfl) (by kernel_rfl) (fun _ _ _ h => h) (Or.inl ⟨by rfl, fun w9 hSw => ?_⟩) hHeld ?_
                    · obtain ⟨s0, s1, s2⟩ := hSw
                      go_simp
                    simp only [List.getElem_toArray, List.getElem_cons_zero, List.getElem_cons_succ, Act.put, List.setIfInBounds_toArray, List.set_cons_zero, List.set_cons_succ]
                    refine wpAnyH_take (i := 1) (v := .slice (some ⟨g, 0, none⟩) (2 * t) (2 * t)) rfl (by kernel_rfl) (by kernel_rfl) (by kernel_rfl) (fun _ _ _ h => h) (Or.inl ⟨by rfl, fun w9 hSw => ?_⟩) hHeld ?_
                    · obtain ⟨s0, s1, s2⟩ := hSw
                      go_simp
                    simp only [List.getElem_toArray, List.getElem_cons_zero, List.getElem_cons_succ, Act.put, List.setIfInBounds_toArray, List.set_cons_zero, List.set_cons_succ]
                    refine wpAnyH_take (i := 2) (v := .int .i64 (j : Int)) rfl (by kernel_rfl) (by kernel_rfl) (by kernel_rfl) (fun _ _ _ h => h) (Or.inl ⟨by rfl, fun w9 hSw => ?_⟩) hHeld ?_
                    · obtain ⟨s0, s1, s2⟩ := hSw
                      go_simp
                    simp only [List.getElem_toArray, List.getElem_cons_zero, List.getElem_cons_succ, Act.put, List.setIfInBounds_toArray, List.set_cons_zero, List.set_cons_succ]
                    refine wpAnyH_take (i := 3) (v := .pointer (some ⟨g, j, none⟩)) rfl (by kernel_rfl) (by kernel_rfl) (by kernel_rfl) (fun _ _ _ h => h) (Or.inl ⟨by rfl, fun w9 hSw => ?_⟩) hHeld ?_
                    · obtain ⟨s0, s1, s2⟩ := hSw
                      go_simp
                      all_goals (first | rfl | omega | exact hci | exact hnn | (simp [*]; done) | (simp; omega))
                    simp only [List.getElem_toArray, List.getElem_cons_zero, List.getElem_cons_succ, Act.put, List.setIfInBounds_toArray, List.set_cons_zero, List.set_cons_succ]
                    refine wpAnyH_take (i := 4) (v := .int .i64 (cl j : Int)) rfl (by kernel_rfl) (by kernel_rfl) (by kernel_rfl) (fun _ _ _ h => h) (Or.inl ⟨by rfl, fun w9 hSw => ?_⟩) hHeld ?_
                    · obtain ⟨s0, s1, s2⟩ := hSw
                      go_simp
                    simp only [List.getElem_toArray, List.getElem_cons_zero, List.getElem_cons_succ, Act.put, List.setIfInBounds_toArray, List.set_cons_zero, List.set_cons_succ]
                    refine wpAnyH_take (i := 5) (v := .pointer (some ⟨xb, 2, none⟩)) rfl (by kernel_rfl) (by kernel_rfl) (by kernel_rfl) (fun _ _ _ h => h) (Or.inl ⟨by rfl, fun w9 hSw => ?_⟩) hHeld ?_
                    · obtain ⟨s0, s1, s2⟩ := hSw
                      go_simp
                    simp only [List.getElem_toArray, List.getElem_cons_zero, List.getElem_cons_succ, Act.put, List.setIfInBounds_toArray, List.set_cons_zero, List.set_cons_succ]
                    refine wpAnyH_take (i := 6) (v := .slice (some ⟨g, 0, none⟩) (2 * t) (2 * t)) rfl (by kernel_rfl) (by kernel_rfl) (by kernel_rfl) (fun _ _ _ h => h) (Or.inl ⟨by rfl, fun w9 hSw => ?_⟩) hHeld ?_
                    · obtain ⟨s0, s1, s2⟩ := hSw
                      go_simp
                    simp only [List.getElem_toArray, List.getElem_cons_zero, List.getElem_cons_succ, Act.put, List.setIfInBounds_toArray, List.set_cons_zero, List.set_cons_succ]
                    refine wpAnyH_take (i := 7) (v := .int .i64 (i : Int)) rfl (by kernel_rfl) (by kernel_rfl) (by kernel_rfl) (fun _ _ _ h => h) (Or.inl ⟨by rfl, fun w9 hSw => ?_⟩) hHeld ?_
                    · obtain ⟨s0, s1, s2⟩ := hSw
                      go_simp
                    simp only [List.getElem_toArray, List.getElem_cons_zero, List.getElem_cons_succ, Act.put, List.setIfInBounds_toArray, List.set_cons_zero, List.set_cons_succ]
                    refine wpAnyH_take (i := 8) (v := .pointer (some ⟨g, i, none⟩)) rfl (by kernel_rfl) (by kernel_rfl) (by kernel_rfl) (fun _ _ _ h => h) (Or.inl ⟨by rfl, fun w9 hSw => ?_⟩) hHeld ?_
                    · obtain ⟨s0, s1, s2⟩ := hSw
                      go_simp
                      all_goals (first | rfl | omega | exact hci | exact hnn | (simp [*]; done) | (simp; omega))
                    simp only [List.getElem_toArray, List.getElem_cons_zero, List.getElem_cons_succ, Act.put, List.setIfInBounds_toArray, List.set_cons_zero, List.set_cons_succ]
                    refine wpAnyH_take (i := 9) (v := .int .i64 (cl i : Int)) rfl (by kernel_rfl) (by kernel_rfl) (by kernel_rfl) (fun _ _ _ h => h) (Or.inl ⟨by rfl, fun w9 hSw => ?_⟩) hHeld ?_
                    · obtain ⟨s0, s1, s2⟩ := hSw
                      go_simp
                    simp only [List.getElem_toArray, List.getElem_cons_zero, List.getElem_cons_succ, Act.put, List.setIfInBounds_toArray, List.set_cons_zero, List.set_cons_succ]
                    refine wpAnyH_take (i := 10) (v := .bool true) rfl (by kernel_rfl) (by kernel_rfl) (by kernel_rfl) (fun _ _ _ h => h) (Or.inl ⟨by rfl, fun w9 hSw => ?_⟩) hHeld ?_
                    · obtain ⟨s0, s1, s2⟩ := hSw
                      go_simp
                      all_goals (first | rfl | omega | exact hci | exact hnn | (simp [*]; done) | (simp; omega))
                    simp only [List.getElem_toArray, List.getElem_cons_zero, List.getElem_cons_succ, Act.put, List.setIfInBounds_toArray, List.set_cons_zero, List.set_cons_succ]
                    refine wpAnyH_take (i := 11) (v := .bool true) rfl (by kernel_rfl) (by kernel_rfl) (by kernel_rfl) (fun _ _ _ h => h) (Or.inl ⟨by rfl, fun w9 hSw => ?_⟩) hHeld ?_
                    · obtain ⟨s0, s1, s2⟩ := hSw
                      go_simp
                    simp only [List.getElem_toArray, List.getElem_cons_zero, List.getElem_cons_succ, Act.put, List.setIfInBounds_toArray, List.set_cons_zero, List.set_cons_succ]
                    refine wpAnyH_take (i := 12) (v := .func (.func 31) #[] #[.pointer (some ⟨nb, 0, none⟩), .pointer (some ⟨xb, 0, none⟩)]) rfl (by kernel_rfl) (by kernel_rfl) (by kernel_rfl) (fun _ _ _ h => h) (Or.inl ⟨by rfl, fun w9 hSw => ?_⟩) hHeld ?_
                    · obtain ⟨s0, s1, s2⟩ := hSw
                      go_simp
                    simp only [List.getElem_toArray, List.getElem_cons_zero, List.getElem_cons_succ, Act.put, List.setIfInBounds_toArray, List.set_cons_zero, List.set_cons_succ]
                    refine wpAnyH_take (i := 13) (v := .int .i64 (j : Int)) rfl (by kernel_rfl) (by kernel_rfl) (by kernel_rfl) (fun _ _ _ h => h) (Or.inl ⟨by rfl, fun w9 hSw => ?_⟩) hHeld ?_
                    · obtain ⟨s0, s1, s2⟩ := hSw
                      go_simp
                    simp only [List.getElem_toArray, List.getElem_cons_zero, List.getElem_cons_succ, Act.put, List.setIfInBounds_toArray, List.set_cons_zero, List.set_cons_succ]
                    refine wpAnyH_take (i := 15) (v := .func (.func 31) #[] #[.pointer (some ⟨nb, 0, none⟩), .pointer (some ⟨xb, 0, none⟩)]) rfl (by kernel_rfl) (by kernel_rfl) (by kernel_rfl) (fun _ _ _ h => h) (Or.inl ⟨by rfl, fun w9 hSw => ?_⟩) hHeld ?_
                    · obtain ⟨s0, s1, s2⟩ := hSw
                      go_simp
                    simp only [List.getElem_toArray, List.getElem_cons_zero, List.getElem_cons_succ, Act.put, List.setIfInBounds_toArray, List.set_cons_zero, List.set_cons_succ]
                    refine wpAnyH_take (i := 16) (v := .int .i64 (i : Int)) rfl (by kernel_rfl) (by kernel_rfl) (by kernel_rfl) (fun _ _ _ h => h) (Or.inl ⟨by rfl, fun w9 hSw => ?_⟩) hHeld ?_
                    · obtain ⟨s0, s1, s2⟩ := hSw
                      go_simp
                    simp only [List.getElem_toArray, List.getElem_cons_zero, List.getElem_cons_succ, Act.put, List.setIfInBounds_toArray, List.set_cons_zero, List.set_cons_succ]
                    refine wpAnyH_ready (rs := [14]) (by kernel_rfl) (by simp) ?_
                    refine AllReadyH.cons rfl (fun K hK => ?_) AllReadyH.nil
                    go_simp
                    refine HH1.out.mono ?_
                    rintro e wz ⟨rfl, hwz⟩
                    obtain rfl := hwz.symm
                    refine hK.out _ _ (hHeld) (fun hHeld => ?_)
                    clear hK K
                    refine wpAnyH_ready (rs := [17]) (by kernel_rfl) (by simp) ?_
                    refine AllReadyH.cons rfl (fun K hK => ?_) AllReadyH.nil
                    go_simp
                    refine HH2.out.mono ?_
                    rintro e wz ⟨rfl, hwz⟩
                    obtain rfl := hwz.symm
                    refine hK.out _ _ (hHeld) (fun hHeld => ?_)
                    clear hK K
                    refine wpAnyH_take (i := 18) (v := .bool false) rfl (by kernel_rfl) (by kernel_rfl) (by kernel_rfl) (fun _ _ _ h => h) (Or.inl ⟨by rfl, fun w9 hSw => ?_⟩) hHeld ?_
                    · obtain ⟨s0, s1, s2⟩ := hSw
                      go_simp
                      all_goals (first | rfl | omega | exact hci | exact hnn | (simp [*]; done) | (simp; omega))
                    simp only [List.getElem_toArray, List.getElem_cons_zero, List.getElem_cons_succ, Act.put, List.setIfInBounds_toArray, List.set_cons_zero, List.set_cons_succ]
                    refine wpAnyH_take (i := 19) (v := .bool false) rfl (by kernel_rfl) (by kernel_rfl) (by kernel_rfl) (fun _ _ _ h => h) (Or.inl ⟨by rfl, fun w9 hSw => ?_⟩) hHeld ?_
                    · obtain ⟨s0, s1, s2⟩ := hSw
                      go_simp
                    simp only [List.getElem_toArray, List.getElem_cons_zero, List.getElem_cons_succ, Act.put, List.setIfInBounds_toArray, List.set_cons_zero, List.set_cons_succ]
                    refine wpAnyH_done (by kernel_rfl) (NoPanic.normal ?_) _
                    clear hHeld HH1 HH2
                    go_wp2
                    go_roundw
                    case rel => exact ⟨j + 1, by omega, by go_num, q + 1, HWd.out⟩
                    case measure => simp [intOf]; omega
                  · have hci : ((cl j : Int) == (cl i : Int)) = false := by rw [beq_eq_false_iff_ne]; omega
                    have hnn := hci
                    refine wpAnyH_take (i := 0) (v := .pointer (some ⟨xb, 2, none⟩)) rfl (by kernel_rfl) (by kernel_rfl) (by kernel_rfl) (fun _ _ _ h => h) (Or.inl ⟨by rfl, fun w9 hSw => ?_⟩) hHeld ?_
                    · obtain ⟨s0, s1, s2⟩ := hSw
                      go_simp
                    simp only [List.getElem_toArray, List.getElem_cons_zero, List.getElem_cons_succ, Act.put, List.setIfInBounds_toArray, List.set_cons_zero, List.set_cons_succ]
                    refine wpAnyH_take (i := 1) (v := .slice (some ⟨g, 0, none⟩) (2 * t) (2 * t)) rfl (by kernel_rfl) (by kernel_rfl) (by kernel_rfl) (fun _ _ _ h => h) (Or.inl ⟨by rfl, fun w9 hSw => ?_⟩) hHeld ?_
                    · obtain ⟨s0, s1, s2⟩ := hSw
                      go_simp
                    simp only [List.getElem_toArray, List.getElem_cons_zero, List.getElem_cons_succ, Act.put, List.setIfInBounds_toArray, List.set_cons_zero, List.set_cons_succ]
                    refine wpAnyH_take (i := 2) (v := .int .i64 (j : Int)) rfl (by kernel_rfl) (by kernel_rfl) (by kernel_rfl) (fun _ _ _ h => h) (Or.inl ⟨by rfl, fun w9 hSw => ?_⟩) hHeld ?_
                    · obtain ⟨s0, s1, s2⟩ := hSw
                      go_simp
                    simp only [List.getElem_toArray, List.getElem_cons_zero, List.getElem_cons_succ, Act.put, List.setIfInBounds_toArray, List.set_cons_zero, List.set_cons_succ]
                    refine wpAnyH_take (i := 3) (v := .pointer (some ⟨g, j, none⟩)) rfl (by kernel_rfl) (by kernel_rfl) (by kernel_rfl) (fun _ _ _ h => h) (Or.inl ⟨by rfl, fun w9 hSw => ?_⟩) hHeld ?_
                    · obtain ⟨s0, s1, s2⟩ := hSw
                      go_simp
                      all_goals (first | rfl | omega | exact hci | exact hnn | (simp [*]; done) | (simp; omega))
                    simp only [List.getElem_toArray, List.getElem_cons_zero, List.getElem_cons_succ, Act.put, List.setIfInBounds_toArray, List.set_cons_zero, List.set_cons_succ]
                    refine wpAnyH_take (i := 4) (v := .int .i64 (cl j : Int)) rfl (by kernel_rfl) (by kernel_rfl) (by kernel_rfl) (fun _ _ _ h => h) (Or.inl ⟨by rfl, fun w9 hSw => ?_⟩) hHeld ?_
                    · obtain ⟨s0, s1, s2⟩ := hSw
                      go_simp
                    simp only [List.getElem_toArray, List.getElem_cons_zero, List.getElem_cons_succ, Act.put, List.setIfInBounds_toArray, List.set_cons_zero, List.set_cons_succ]
                    refine wpAnyH_take (i := 5) (v := .pointer (some ⟨xb, 2, none⟩)) rfl (by kernel_rfl) (by kernel_rfl) (by kernel_rfl) (fun _ _ _ h => h) (Or.inl ⟨by rfl, fun w9 hSw => ?_⟩) hHeld ?_
                    · obtain ⟨s0, s1, s2⟩ := hSw
                      go_simp
                    simp only [List.getElem_toArray, List.getElem_cons_zero, List.getElem_cons_succ, Act.put, List.setIfInBounds_toArray, List.set_cons_zero, List.set_cons_succ]
                    refine wpAnyH_take (i := 6) (v := .slice (some ⟨g, 0, none⟩) (2 * t) (2 * t)) rfl (by kernel_rfl) (by kernel_rfl) (by kernel_rfl) (fun _ _ _ h => h) (Or.inl ⟨by rfl, fun w9 hSw => ?_⟩) hHeld ?_
                    · obtain ⟨s0, s1, s2⟩ := hSw
                      go_simp
                    simp only [List.getElem_toArray, List.getElem_cons_zero, List.getElem_cons_succ, Act.put, List.setIfInBounds_toArray, List.set_cons_zero, List.set_cons_succ]
                    refine wpAnyH_take (i := 7) (v := .int .i64 (i : Int)) rfl (by kernel_rfl) (by kernel_rfl) (by kernel_rfl) (fun _ _ _ h => h) (Or.inl ⟨by rfl, fun w9 hSw => ?_⟩) hHeld ?_
                    · obtain ⟨s0, s1, s2⟩ := hSw
                      go_simp
                    simp only [List.getElem_toArray, List.getElem_cons_zero, List.getElem_cons_succ, Act.put, List.setIfInBounds_toArray, List.set_cons_zero, List.set_cons_succ]
                    refine wpAnyH_take (i := 8) (v := .pointer (some ⟨g, i, none⟩)) rfl (by kernel_rfl) (by kernel_rfl) (by kernel_rfl) (fun _ _ _ h => h) (Or.inl ⟨by rfl, fun w9 hSw => ?_⟩) hHeld ?_
                    · obtain ⟨s0, s1, s2⟩ := hSw
                      go_simp
                      all_goals (first | rfl | omega | exact hci | exact hnn | (simp [*]; done) | (simp; omega))
                    simp only [List.getElem_toArray, List.getElem_cons_zero, List.getElem_cons_succ, Act.put, List.setIfInBounds_toArray, List.set_cons_zero, List.set_cons_succ]
                    refine wpAnyH_take (i := 9) (v := .int .i64 (cl i : Int)) rfl (by kernel_rfl) (by kernel_rfl) (by kernel_rfl) (fun _ _ _ h => h) (Or.inl ⟨by rfl, fun w9 hSw => ?_⟩) hHeld ?_
                    · obtain ⟨s0, s1, s2⟩ := hSw
                      go_simp
                    simp only [List.getElem_toArray, List.getElem_cons_zero, List.getElem_cons_succ, Act.put, List.setIfInBounds_toArray, List.set_cons_zero, List.set_cons_succ]
                    refine wpAnyH_take (i := 10) (v := .bool false) rfl (by kernel_rfl) (by kernel_rfl) (by kernel_rfl) (fun _ _ _ h => h) (Or.inl ⟨by rfl, fun w9 hSw => ?_⟩) hHeld ?_
                    · obtain ⟨s0, s1, s2⟩ := hSw
                      go_simp
                      all_goals (first | rfl | omega | exact hci | exact hnn | (simp [*]; done) | (simp; omega))
                    simp only [List.getElem_toArray, List.getElem_cons_zero, List.getElem_cons_succ, Act.put, List.setIfInBounds_toArray, List.set_cons_zero, List.set_cons_succ]
                    refine wpAnyH_take (i := 11) (v := .bool false) rfl (by kernel_rfl) (by kernel_rfl) (by kernel_rfl) (fun _ _ _ h => h) (Or.inl ⟨by rfl, fun w9 hSw => ?_⟩) hHeld ?_
                    · obtain ⟨s0, s1, s2⟩ := hSw
                      go_simp
                    simp only [List.getElem_toArray, List.getElem_cons_zero, List.getElem_cons_succ, Act.put, List.setIfInBounds_toArray, List.set_cons_zero, List.set_cons_succ]
                    refine wpAnyH_take (i := 12) (v := undef) rfl (by kernel_rfl) (by kernel_rfl) (by kernel_rfl) (fun _ _ _ h => h) (Or.inr ⟨by rfl, rfl⟩) hHeld ?_
                    simp only [List.getElem_toArray, List.getElem_cons_zero, List.getElem_cons_succ, Act.put, List.setIfInBounds_toArray, List.set_cons_zero, List.set_cons_succ]
                    refine wpAnyH_take (i := 13) (v := undef) rfl (by kernel_rfl) (by kernel_rfl) (by kernel_rfl) (fun _ _ _ h => h) (Or.inr ⟨by rfl, rfl⟩) hHeld ?_
                    simp only [List.getElem_toArray, List.getElem_cons_zero, List.getElem_cons_succ, Act.put, List.setIfInBounds_toArray, List.set_cons_zero, List.set_cons_succ]
                    refine wpAnyH_take (i := 14) (v := undef) rfl (by kernel_rfl) (by kernel_rfl) (by kernel_rfl) (fun _ _ _ h => h) (Or.inr ⟨by rfl, rfl⟩) hHeld ?_
                    simp only [List.getElem_toArray, List.getElem_cons_zero, List.getElem_cons_succ, Act.put, List.setIfInBounds_toArray, List.set_cons_zero, List.set_cons_succ]
                    refine wpAnyH_take (i := 15) (v := undef) rfl (by kernel_rfl) (by kernel_rfl) (by kernel_rfl) (fun _ _ _ h => h) (Or.inr ⟨by rfl, rfl⟩) hHeld ?_
                    simp only [List.getElem_toArray, List.getElem_cons_zero, List.getElem_cons_succ, Act.put, List.setIfInBounds_toArray, List.set_cons_zero, List.set_cons_succ]
                    refine wpAnyH_take (i := 16) (v := undef) rfl (by kernel_rfl) (by kernel_rfl) (by kernel_rfl) (fun _ _ _ h => h) (Or.inr ⟨by rfl, rfl⟩) hHeld ?_
                    simp only [List.getElem_toArray, List.getElem_cons_zero, List.getElem_cons_succ, Act.put, List.setIfInBounds_toArray, List.set_cons_zero, List.set_cons_succ]
                    refine wpAnyH_take (i := 17) (v := undef) rfl (by kernel_rfl) (by kernel_rfl) (by kernel_rfl) (fun _ _ _ h => h) (Or.inr ⟨by rfl, rfl⟩) hHeld ?_
                    simp only [List.getElem_toArray, List.getElem_cons_zero, List.getElem_cons_succ, Act.put, List.setIfInBounds_toArray, List.set_cons_zero, List.set_cons_succ]
                    refine wpAnyH_take (i := 18) (v := undef) rfl (by kernel_rfl) (by kernel_rfl) (by kernel_rfl) (fun _ _ _ h => h) (Or.inr ⟨by rfl, rfl⟩) hHeld ?_
                    simp only [List.getElem_toArray, List.getElem_cons_zero, List.getElem_cons_succ, Act.put, List.setIfInBounds_toArray, List.set_cons_zero, List.set_cons_succ]
                    refine wpAnyH_take (i := 19) (v := .bool false) rfl (by kernel_rfl) (by kernel_rfl) (by kernel_rfl) (fun _ _ _ h => h) (Or.inl ⟨by rfl, fun w9 hSw => ?_⟩) hHeld ?_
                    · obtain ⟨s0, s1, s2⟩ := hSw
                      go_simp
                    simp only [List.getElem_toArray, List.getElem_cons_zero, List.getElem_cons_succ, Act.put, List.setIfInBounds_toArray, List.set_cons_zero, List.set_cons_succ]
                    refine wpAnyH_done (by kernel_rfl) (NoPanic.normal ?_) _
                    clear hHeld HH1 HH2
                    go_wp2
                    go_roundw
                    case rel => exact ⟨j + 1, by omega, by go_num, q + 1, HWd.out⟩
                    case measure => simp [intOf]; omega
                · obtain rfl : j = 2 * t := by omega
                  have hlj2 : ¬ ((2 * t : Nat) : Int) < 2 * (t : Int) := by omega
                  go_wp2
                  go_roundw
                  case rel => exact ⟨i + 1, by omega, by go_num, q, rfl⟩
                  case measure => simp [intOf]; omega
        · have hlt2 : ¬ (i : Int) < 2 * (t : Int) := by omega
          go_wp2
          go_ret
          refine ⟨rfl, hB.trans ?_⟩
          exact (drew_below w6 q).mono hB.size
  · obtain ⟨tt, yy, rfl⟩ := ck_iface hy h0
    clear hy
    go_wp2_with fail
    refine haw.mono ?_
    rintro e w2 ⟨rfl, hb⟩
    have hBe := hB.trans (hb.mono hB.size)
    go_wp2
    go_ret
    exact ⟨rfl, hBe⟩

end Go.Proofs.YtigepihinflkdaaGreatDoor.PrecfunLeastW
