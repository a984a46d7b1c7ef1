/-
  Texts that stand together: UsefulOwnWk.
-/
import Derived.Test.YthbbipgngeflnaaGreatDoorBUsefulOwnM
import Derived.Test.YthbbipgngeflnaaGreatDoorBUsefulKnown
import Derived.Test.YthbbipgngeflnaaGreatDoorBGramLentG
import Derived.Test.YthbbipgngeflnaaGreatDoorBGramOpens
namespace Go.Proofs.YthbbipgngeflnaaGreatDoor.UsefulOwnW
open Go.RowKit Go.Proofs.YthbbipgngeflnaaGreatDoor.GramMath Go.Proofs.YthbbipgngeflnaaGreatDoor.GramRow Go.Proofs.YthbbipgngeflnaaGreatDoor.GramOne Go.Proofs.YthbbipgngeflnaaGreatDoor.GramLess Go.Proofs.YthbbipgngeflnaaGreatDoor.GramLent Go.Proofs.YthbbipgngeflnaaGreatDoor.GramApart Go.Proofs.YthbbipgngeflnaaGreatDoor.GramCopy Go.Proofs.YthbbipgngeflnaaGreatDoor.GramAll Go.Proofs.YthbbipgngeflnaaGreatDoor.GramErrs Go.Proofs.YthbbipgngeflnaaGreatDoor.SetsAlg Go.Proofs.YthbbipgngeflnaaGreatDoor.SetsEach Go.Proofs.YthbbipgngeflnaaGreatDoor.UsefulMath Go.Proofs.YthbbipgngeflnaaGreatDoor.UsefulTop Go.Proofs.YthbbipgngeflnaaGreatDoor.UsefulShort Go.Proofs.YthbbipgngeflnaaGreatDoor.UsefulWord Go.Proofs.YthbbipgngeflnaaGreatDoor.UsefulTrimM Go.Proofs.YthbbipgngeflnaaGreatDoor.UsefulTrim Go.Proofs.YthbbipgngeflnaaGreatDoor.LineApartR
set_option linter.unusedVariables false
set_option linter.unusedSimpArgs false

set_option maxRecDepth 100000 in
set_option maxHeartbeats 16000000 in
theorem walk (ta na ra : Option Addr) (tc nc rc : Nat) (g : G) (k : Int) (p : Nat → Addr) (w : World) (hL : Lendable w ta na ra tc nc g) (hg : okG g) (hk : I64 k) (hE : Errs w p) (hT : Tab w) (hGl : 15 < w.heap.size) (hG0 : 1 < w.heap.size) :
    Calls Tryz.prog 3 #[.agg #[.slice ta g.ts.length tc, .slice na g.ns.length nc, .int .i64 g.ax, .slice ra g.rs.length rc], .int .i64 k] w fun e w' => e = .returned (.bool true) ∧ Below w.heap.size w w' := by
  have hG := GramOpen.lendable_row hL
  have hneq := neq_nil
  have hnn : ∀ W : World, (binOp .neq 30 .nilIface .nilIface).run Tryz.prog W = .ok (.bool false) W := fun W => by kernel_rfl
  obtain ⟨i0, hi0, hz0, hz1, hz2⟩ := info_parts infoII
  obtain ⟨W1, hW1⟩ : ∃ W1, W1 = w.alloc (.cells #[.slice ta g.ts.length tc, .slice na g.ns.length nc, .int .i64 g.ax, .slice ra g.rs.length rc] 25) := ⟨_, rfl⟩
  have HW1 : Hid (_) := hW1
  have hB1 : Below w.heap.size w W1 := by rw [hW1]; exact (Below.refl _ _).alloc (Nat.le_refl _) _
  have X1 : RowAt W1 w.heap.size 25 #[.slice ta g.ts.length tc, .slice na g.ns.length nc, .int .i64 g.ax, .slice ra g.rs.length rc] := by rw [hW1]; exact World.alloc_heap_new w _
  have hlX : w.heap.size < W1.heap.size := X1.lt
  have hkn := Go.Proofs.YthbbipgngeflnaaGreatDoor.UsefulKnown.known_any p W1 (hE.below hB1 (Nat.le_refl _)) (Tab.from hT hB1 hGl) (Nat.lt_of_lt_of_le hGl hB1.size)
  clear hW1
  go_enter Tryz.func3, Tryz.ntmps3
  go_wp2_with (rw [← HW1.out])
  refine hkn.mono ?_
  rintro e w2 ⟨rfl, hb⟩
  have hB2 := hB1.trans (hb.mono hB1.size)
  have X2 := X1.below hb X1.lt
  clear hkn hb
  have hL2 : Lendable w2 ta na ra tc nc g := ⟨hL.ts.below hB2 (Nat.le_refl _), hL.ns.below hB2 (Nat.le_refl _), hL.rs.below hB2 (Nat.le_refl _), hL.tn, hL.nn, hL.tm, hL.nm, hL.rm, hL.each⟩
  have hlend := lentG ta na ra tc nc rc g _ hL2
  have x0 := X2.cell (q := 0) rfl
  have x1 := X2.cell (q := 1) rfl
  have x2 := X2.cell (q := 2) rfl
  have x3 := X2.cell (q := 3) rfl
  go_wp2_with fail
  refine hlend.mono ?_
  rintro e w3 ⟨⟨g1, c1, g2, c2, g3, c3, lq, rfl, hlg⟩, hb⟩
  have hB3 := hB2.trans (hb.mono hB2.size)
  have X3 := X2.below hb X2.lt
  clear hlend hL2 hL X1 X2 hB1 hB2 hb x0 x1 x2 x3
  obtain ⟨W4, hW4⟩ : ∃ W4, W4 = w3.alloc (.cells #[.slice (some ⟨g1, 0, none⟩) g.ts.length c1, .slice (some ⟨g2, 0, none⟩) g.ns.length c2, .int .i64 g.ax, .slice (some ⟨g3, 0, none⟩) g.rs.length c3] 25) := ⟨_, rfl⟩
  have HW4 : Hid (_) := hW4
  have hb : Below w3.heap.size w3 W4 := by rw [hW4]; exact (Below.refl _ _).alloc (Nat.le_refl _) _
  have I4 : RowAt W4 w3.heap.size 25 #[.slice (some ⟨g1, 0, none⟩) g.ts.length c1, .slice (some ⟨g2, 0, none⟩) g.ns.length c2, .int .i64 g.ax, .slice (some ⟨g3, 0, none⟩) g.rs.length c3] := by rw [hW4]; exact World.alloc_heap_new w3 _
  have hlg4 := hlg.below hb (Nat.le_refl _)
  have htc := Nat.le_of_lt hlg.tc
  have hnc := Nat.le_of_lt hlg.nc
  have hB4 := hB3.trans (hb.mono hB3.size)
  have X4 := X3.below hb X3.lt
  have hlt4 := I4.lt
  clear hW4 hb hlg X3 hB3
  -- what holds from here on, as long as what lies there stays
  have hP : ∀ W, Below W4.heap.size W4 W → (Below w.heap.size w W ∧ Errs W p ∧ Tab W ∧ 15 < W.heap.size ∧ 1 < W.heap.size ∧ LentG W g1 c1 g2 c2 g3 c3 lq g ∧ RowAt W w3.heap.size 25 #[.slice (some ⟨g1, 0, none⟩) g.ts.length c1, .slice (some ⟨g2, 0, none⟩) g.ns.length c2, .int .i64 g.ax, .slice (some ⟨g3, 0, none⟩) g.rs.length c3] ∧ RowAt W w.heap.size 25 #[.slice ta g.ts.length tc, .slice na g.ns.length nc, .int .i64 g.ax, .slice ra g.rs.length rc]) := fun W hb => by
    have hBw := hB4.trans (hb.mono hB4.size)
    exact ⟨hBw, hE.below hBw (Nat.le_refl _), Tab.from hT hBw hGl, Nat.lt_of_lt_of_le hGl hBw.size, Nat.lt_of_lt_of_le hG0 hBw.size, hlg4.below hb (Nat.le_refl _), I4.below hb I4.lt, X4.below hb X4.lt⟩
  have HP : Hid (_) := hP
  have hb4 : Below W4.heap.size W4 W4 := Below.refl _ _
  clear hP hlg4 I4 X4
  obtain ⟨h1, h2, h3, h4, h5, h6, h7, h8⟩ := HP.out _ hb4
  have hc := shortest_top (some ⟨g1, 0, none⟩) (some ⟨g2, 0, none⟩) (some ⟨g3, 0, none⟩) c1 c2 c3 g p _ h6.row hg htc hnc (fun h => by cases h) h2.sents
  have i0 := h7.cell (q := 0) rfl
  have i1 := h7.cell (q := 1) rfl
  have i2 := h7.cell (q := 2) rfl
  have i3 := h7.cell (q := 3) rfl
  clear h1 h2 h3 h4 h5 h6 h7 h8
  go_wp2_with (rw [← HW4.out])
  refine hc.mono ?_
  rintro e w5 ⟨hv, hbn⟩
  obtain ⟨aA, nA, cA, v0, rfl, OA, K0⟩ := short_own hv
  clear hv
  clear hc i0 i1 i2 i3
  have hs5 := hbn.size
  replace hb4 := hb4.trans (hbn.mono hb4.size)
  clear hbn
  obtain ⟨h1, h2, h3, h4, h5, h6, h7, h8⟩ := HP.out _ hb4
  have hc := shortest_top (some ⟨g1, 0, none⟩) (some ⟨g2, 0, none⟩) (some ⟨g3, 0, none⟩) c1 c2 c3 g p _ h6.row hg htc hnc (fun h => by cases h) h2.sents
  have i0 := h7.cell (q := 0) rfl
  have i1 := h7.cell (q := 1) rfl
  have i2 := h7.cell (q := 2) rfl
  have i3 := h7.cell (q := 3) rfl
  clear h1 h2 h3 h4 h5 h6 h7 h8
  go_wp2_with fail
  refine hc.mono ?_
  rintro e w6 ⟨hv, hbn⟩
  obtain ⟨aB, nB, cB, v1, rfl, OB, _⟩ := short_own hv
  clear hv
  clear hc i0 i1 i2 i3
  replace OA := OA.below hbn
  replace K0 := K0.below hbn (Nat.le_refl _)
  have hs6 := hbn.size
  replace hb4 := hb4.trans (hbn.mono hb4.size)
  clear hbn
  obtain ⟨h1, h2, h3, h4, h5, h6, h7, h8⟩ := HP.out _ hb4
  have hc := word_top2 (some ⟨g1, 0, none⟩) (some ⟨g2, 0, none⟩) (some ⟨g3, 0, none⟩) c1 c2 c3 g k p _ h6.row hg htc hnc (fun h => by cases h) h2 h3 h4 hk
  have i0 := h7.cell (q := 0) rfl
  have i1 := h7.cell (q := 1) rfl
  have i2 := h7.cell (q := 2) rfl
  have i3 := h7.cell (q := 3) rfl
  clear h1 h2 h3 h4 h5 h6 h7 h8
  go_wp2_with fail
  refine hc.mono ?_
  rintro e w7 ⟨hv, hbn⟩
  obtain ⟨aC, nC, cC, v2, rfl, OC⟩ := word_own hv
  clear hv
  clear hc i0 i1 i2 i3
  replace OA := OA.below hbn
  replace K0 := K0.below hbn (Nat.le_refl _)
  replace OB := OB.below hbn
  have hs7 := hbn.size
  replace hb4 := hb4.trans (hbn.mono hb4.size)
  clear hbn
  obtain ⟨h1, h2, h3, h4, h5, h6, h7, h8⟩ := HP.out _ hb4
  have hc := word_top2 (some ⟨g1, 0, none⟩) (some ⟨g2, 0, none⟩) (some ⟨g3, 0, none⟩) c1 c2 c3 g k p _ h6.row hg htc hnc (fun h => by cases h) h2 h3 h4 hk
  have i0 := h7.cell (q := 0) rfl
  have i1 := h7.cell (q := 1) rfl
  have i2 := h7.cell (q := 2) rfl
  have i3 := h7.cell (q := 3) rfl
  clear h1 h2 h3 h4 h5 h6 h7 h8
  go_wp2_with fail
  refine hc.mono ?_
  rintro e w8 ⟨hv, hbn⟩
  obtain ⟨aD, nD, cD, v3, rfl, OD⟩ := word_own hv
  clear hv
  clear hc i0 i1 i2 i3
  replace OA := OA.below hbn
  replace K0 := K0.below hbn (Nat.le_refl _)
  replace OB := OB.below hbn
  replace OC := OC.below hbn
  have hs8 := hbn.size
  replace hb4 := hb4.trans (hbn.mono hb4.size)
  clear hbn
  obtain ⟨h1, h2, h3, h4, h5, h6, h7, h8⟩ := HP.out _ hb4
  have hc := trim_top (some ⟨g1, 0, none⟩) (some ⟨g2, 0, none⟩) (some ⟨g3, 0, none⟩) c1 c2 c3 g p _ h6.row hg htc hnc (fun h => by cases h) h2 h3 h4 h5
  have i0 := h7.cell (q := 0) rfl
  have i1 := h7.cell (q := 1) rfl
  have i2 := h7.cell (q := 2) rfl
  have i3 := h7.cell (q := 3) rfl
  clear h1 h2 h3 h4 h5 h6 h7 h8
  go_wp2_with fail
  refine hc.mono ?_
  rintro e w9 ⟨hv, hbn⟩
  obtain ⟨tt, ttc, tn, tnc, tr, trc, bs, v4, rfl, TT⟩ := trim_own hv
  clear hv
  clear hc i0 i1 i2 i3
  replace OA := OA.below hbn
  replace K0 := K0.below hbn (Nat.le_refl _)
  replace OB := OB.below hbn
  replace OC := OC.below hbn
  replace OD := OD.below hbn
  have hs9 := hbn.size
  replace hb4 := hb4.trans (hbn.mono hb4.size)
  clear hbn
  have hsm := trimO_small g
  obtain ⟨h, hh⟩ : ∃ h, trimO g = h := ⟨_, rfl⟩
  have trim_own2 : ∀ {w0 w' : World} {e : Ending}, TrimV w0 w' p g e → ∃ ta tc na nc ra rc bs v, e = .returned (.tuple #[.agg #[.slice ta h.ts.length tc, .slice na h.ns.length nc, .int .i64 h.ax, .slice ra h.rs.length rc], v]) ∧ TA w' w0.heap.size w'.heap.size h ta na ra tc nc rc bs := by
    rw [← hh]
    exact trim_own
  rw [hh] at hsm TT ⊢
  clear hh
  obtain ⟨Y1, hY⟩ : ∃ Y1, Y1 = w9.alloc (.cells #[.slice tt h.ts.length ttc, .slice tn h.ns.length tnc, .int .i64 h.ax, .slice tr h.rs.length trc] 25) := ⟨_, rfl⟩
  have HY1 : Hid (_) := hY
  have hbn : Below w9.heap.size w9 Y1 := by rw [hY]; exact (Below.refl _ _).alloc (Nat.le_refl _) _
  have RB1 : RowAt Y1 w9.heap.size 25 #[.slice tt h.ts.length ttc, .slice tn h.ns.length tnc, .int .i64 h.ax, .slice tr h.rs.length trc] := by rw [hY]; exact World.alloc_heap_new w9 _
  replace OA := OA.below hbn
  replace K0 := K0.below hbn (Nat.le_refl _)
  replace OB := OB.below hbn
  replace OC := OC.below hbn
  replace OD := OD.below hbn
  replace TT := TT.below hbn
  have hsY1 := hbn.size
  replace hb4 := hb4.trans (hbn.mono hb4.size)
  clear hbn hY
  obtain ⟨h1, h2, h3, h4, h5, h6, h7, h8⟩ := HP.out _ hb4
  have hc := trim_top (some ⟨g1, 0, none⟩) (some ⟨g2, 0, none⟩) (some ⟨g3, 0, none⟩) c1 c2 c3 g p _ h6.row hg htc hnc (fun h => by cases h) h2 h3 h4 h5
  have i0 := h7.cell (q := 0) rfl
  have i1 := h7.cell (q := 1) rfl
  have i2 := h7.cell (q := 2) rfl
  have i3 := h7.cell (q := 3) rfl
  clear h1 h2 h3 h4 h5 h6 h7 h8
  go_wp2_with (rw [← HY1.out])
  refine hc.mono ?_
  rintro e w10 ⟨hv, hbn⟩
  obtain ⟨ut, utc, un, unc, ur, urc, ds, v5, rfl, UU⟩ := trim_own2 hv
  clear hv
  clear hc i0 i1 i2 i3
  replace OA := OA.below hbn
  replace K0 := K0.below hbn (Nat.le_refl _)
  replace OB := OB.below hbn
  replace OC := OC.below hbn
  replace OD := OD.below hbn
  replace TT := TT.below hbn
  replace RB1 := RB1.below hbn RB1.lt
  have hs10 := hbn.size
  replace hb4 := hb4.trans (hbn.mono hb4.size)
  clear hbn
  obtain ⟨Y2, hY⟩ : ∃ Y2, Y2 = w10.alloc (.cells #[.slice ut h.ts.length utc, .slice un h.ns.length unc, .int .i64 h.ax, .slice ur h.rs.length urc] 25) := ⟨_, rfl⟩
  have HY2 : Hid (_) := hY
  have hbn : Below w10.heap.size w10 Y2 := by rw [hY]; exact (Below.refl _ _).alloc (Nat.le_refl _) _
  have RB2 : RowAt Y2 w10.heap.size 25 #[.slice ut h.ts.length utc, .slice un h.ns.length unc, .int .i64 h.ax, .slice ur h.rs.length urc] := by rw [hY]; exact World.alloc_heap_new w10 _
  replace OA := OA.below hbn
  replace K0 := K0.below hbn (Nat.le_refl _)
  replace OB := OB.below hbn
  replace OC := OC.below hbn
  replace OD := OD.below hbn
  replace TT := TT.below hbn
  replace RB1 := RB1.below hbn RB1.lt
  replace UU := UU.below hbn
  have hsY2 := hbn.size
  replace hb4 := hb4.trans (hbn.mono hb4.size)
  clear hbn hY
  clear trim_own2
  by_cases h0 : (checkG g).1 = 0
  case neg =>
    obtain ⟨t, u, rfl⟩ := ck_iface K0 h0
    obtain ⟨h1, _⟩ := HP.out _ hb4
    have H1 : Hid (_) := h1
    clear h1 h0 K0 OA OB OC OD TT UU RB1 RB2
    go_wp2_with (rw [← HY2.out])
    go_ret
    exact ⟨rfl, H1.out⟩
  obtain rfl := ck_nil K0 h0
  clear K0 h0
  obtain ⟨Z, hZ⟩ : ∃ Z, Z = Y2.alloc (.cells #[.slice aA nA cA, .slice aB nB cB, .slice aC nC cC, .slice aD nD cD] 28) := ⟨_, rfl⟩
  have HZ : Hid (_) := hZ
  have hbn : Below Y2.heap.size Y2 Z := by rw [hZ]; exact (Below.refl _ _).alloc (Nat.le_refl _) _
  have RL : RowAt Z Y2.heap.size 28 #[.slice aA nA cA, .slice aB nB cB, .slice aC nC cC, .slice aD nD cD] := by rw [hZ]; exact World.alloc_heap_new Y2 _
  have hA : Y2.heap.size = w10.heap.size + 1 := by rw [HY2.out]; simp
  have hbz0 := hbn
  clear hbn hZ
  have hown : Z.ownsRow Y2.heap.size 28 1 (.slice (some ⟨Y2.heap.size, 0, none⟩) 4 4) 4 [.slice aA nA cA, .slice aB nB cB, .slice aC nC cC, .slice aD nD cD] := ⟨rfl, .inr ⟨Y2.heap.size, 4, _, rfl, Nat.le_refl _, RL, Nat.le_refl _, by unfold maxLen; omega, rfl, rfl⟩⟩
  obtain ⟨L4, hL4⟩ : ∃ L4, L4 = [Value.slice aA nA cA, .slice aB nB cB, .slice aC nC cC, .slice aD nD cD] := ⟨_, rfl⟩
  have hl4 : L4.length = 4 := by rw [hL4]; rfl
  have HL4 : Hid (_) := hL4
  rw [← hL4] at hown
  clear RL hL4
  have hTl := TT.len
  have hUl := UU.len
  have h120 := hsm.2.2.1
  have b10 := RB1.cell (q := 3) rfl
  go_wp2_with (rw [← HY2.out, ← HZ.out])
  go_loopw [18, 19] (fun v i wr => ∃ k : Nat, k ≤ h.rs.length ∧ i = .int .i64 k ∧ wr.ownsRow Y2.heap.size 28 1 v (4 + k) (L4 ++ (sideV bs h.rs).take k) ∧ Below Y2.heap.size Y2 wr) (fun _ i _ => h.rs.length - (intOf i).toNat)
  case atStart => exact ⟨0, Nat.zero_le _, rfl, by rw [List.take_zero, List.append_nil]; rw [← hA]; exact hown, hbz0⟩
  case round =>
    clear hown b10 hbz0
    obtain ⟨k, hk1, rfl, hsv, hbz⟩ := hrel
    obtain ⟨V, rfl⟩ : ∃ V, V = wr := ⟨_, rfl⟩
    have RBv := RB1.below hbz RB1.lt
    have b10 := RBv.cell (q := 3) rfl
    have hsz := hbz.size
    by_cases hlt : k < h.rs.length
    · have hlt2 : (k : Int) < (h.rs.length : Int) := by omega
      obtain ⟨b3, r, x, hra, hb3, hr, hx, hc⟩ := TT.at hlt
      have hcV := (hbz.cell (p := ⟨b3, k * 2 + 1, none⟩) hb3).trans hc
      have hstep : Hid (L4 ++ (sideV bs h.rs).take k ++ [.slice (some ⟨x, 0, none⟩) r.right.length r.right.length] = L4 ++ (sideV bs h.rs).take (k + 1)) := by
        exact (List.append_assoc _ _ _).trans (congrArg (L4 ++ ·) (take_snocU (sideV_get hx hr)))
      subst hra
      have hlen : 4 + k ≤ 100000 := by omega
      clear hr hx hc RBv hb3
      go_wp2_with (at_builtin; refine wpList_append_own _ rfl (.tmp 71) (.tmp 78) 36 rfl Y2.heap.size 28 i0 (.slice none 0 0) 1 24 Tryz.underlying36 hi0 hz0 hz1 hz2 rfl (by decide) _ _ _ rfl (hsv.alloc _) ⟨_, 0, none⟩ 1 1 [.slice (some ⟨x, 0, none⟩) r.right.length r.right.length] rfl rfl (cell_one_new _ _ _) (by simp [Value.oneCell']) (by unfold maxLen; omega) (by omega) (by simp; omega) ?_; intro v7 w7 hown7 hgrow7 _)
      rw [hstep.out] at hown7
      have hbz7 : Below Y2.heap.size Y2 w7 := (hbz.alloc hsz _).grown hgrow7 (by simp; omega) (fun j hj => (hsv.lt j hj).1)
      clear hsv hgrow7 hbz hcV hstep b10
      go_roundw
      case rel => exact ⟨k + 1, by omega, by go_num, hown7, hbz7⟩
      case measure => simp [intOf]; omega
    · obtain rfl : k = h.rs.length := by omega
      have hnl : ¬ (h.rs.length : Int) < (h.rs.length : Int) := by omega
      have hsv1 : V.ownsRow Y2.heap.size 28 1 u18 (4 + h.rs.length) (L4 ++ sideV bs h.rs) := by rw [List.take_of_length_le (by rw [sideV_len hTl]; exact Nat.le_refl _)] at hsv; exact hsv
      have RBw := RB2.below hbz RB2.lt
      have b10 := RBw.cell (q := 3) rfl
      clear hsv RBv
      have hbz1 := hbz
      go_wp2
      go_loopw [18, 20] (fun v i wr => ∃ k : Nat, k ≤ h.rs.length ∧ i = .int .i64 k ∧ wr.ownsRow Y2.heap.size 28 1 v ((4 + h.rs.length) + k) ((L4 ++ sideV bs h.rs) ++ (sideV ds h.rs).take k) ∧ Below Y2.heap.size Y2 wr) (fun _ i _ => h.rs.length - (intOf i).toNat)
      case atStart => exact ⟨0, Nat.zero_le _, rfl, by rw [List.take_zero, List.append_nil]; exact hsv1, hbz⟩
      case round =>
        clear hsv1 b10 hbz
        obtain ⟨k, hk1, rfl, hsv, hbz⟩ := hrel
        obtain ⟨V, rfl⟩ : ∃ V, V = wr := ⟨_, rfl⟩
        have RBv := RB2.below hbz RB2.lt
        have b10 := RBv.cell (q := 3) rfl
        have hsz := hbz.size
        by_cases hlt : k < h.rs.length
        · have hlt2 : (k : Int) < (h.rs.length : Int) := by omega
          obtain ⟨b3, r, x, hra, hb3, hr, hx, hc⟩ := UU.at hlt
          have hcV := (hbz.cell (p := ⟨b3, k * 2 + 1, none⟩) hb3).trans hc
          have hstep : Hid ((L4 ++ sideV bs h.rs) ++ (sideV ds h.rs).take k ++ [.slice (some ⟨x, 0, none⟩) r.right.length r.right.length] = (L4 ++ sideV bs h.rs) ++ (sideV ds h.rs).take (k + 1)) := by
            exact (List.append_assoc _ _ _).trans (congrArg ((L4 ++ sideV bs h.rs) ++ ·) (take_snocU (sideV_get hx hr)))
          subst hra
          have hlen : (4 + h.rs.length) + k ≤ 100000 := by omega
          clear hr hx hc RBv hb3
          go_wp2_with (at_builtin; refine wpList_append_own _ rfl (.tmp 87) (.tmp 94) 36 rfl Y2.heap.size 28 i0 (.slice none 0 0) 1 24 Tryz.underlying36 hi0 hz0 hz1 hz2 rfl (by decide) _ _ _ rfl (hsv.alloc _) ⟨_, 0, none⟩ 1 1 [.slice (some ⟨x, 0, none⟩) r.right.length r.right.length] rfl rfl (cell_one_new _ _ _) (by simp [Value.oneCell']) (by unfold maxLen; omega) (by omega) (by simp; omega) ?_; intro v7 w7 hown7 hgrow7 _)
          rw [hstep.out] at hown7
          have hbz7 : Below Y2.heap.size Y2 w7 := (hbz.alloc hsz _).grown hgrow7 (by simp; omega) (fun j hj => (hsv.lt j hj).1)
          clear hsv hgrow7 hbz hcV hstep b10
          go_roundw
          case rel => exact ⟨k + 1, by omega, by go_num, hown7, hbz7⟩
          case measure => simp [intOf]; omega
        · obtain rfl : k = h.rs.length := by omega
          have hnl : ¬ (h.rs.length : Int) < (h.rs.length : Int) := by omega
          have hlenS := sideV_len (rs := h.rs) hTl
          have hlenU := sideV_len (rs := h.rs) hUl
          have hsv2 : V.ownsRow Y2.heap.size 28 1 u18 ((3 + h.rs.length + h.rs.length) + 1) ((L4 ++ sideV bs h.rs) ++ sideV ds h.rs) := by
            rw [List.take_of_length_le (by rw [hlenU]; exact Nat.le_refl _)] at hsv
            rw [show (3 + h.rs.length + h.rs.length) + 1 = 4 + h.rs.length + h.rs.length by omega]
            exact hsv
          obtain ⟨A, cA9, rfl⟩ := ownsRow_succ hsv2
          obtain ⟨curA, hRA, _, _, hAb, hAx⟩ := own_at hsv2
          have hA2 := hRA.lt
          have OA' : OwnV Y2 W4.heap.size w5.heap.size _ := OA
          have hVL : ((L4 ++ sideV bs h.rs) ++ sideV ds h.rs).length = (3 + h.rs.length + h.rs.length) + 1 := by rw [List.length_append, List.length_append, hlenS, hlenU, hl4]; omega
          obtain ⟨TS1, TS2⟩ := TT.sides hsm.2.2.2
          obtain ⟨US1, US2⟩ := UU.sides hsm.2.2.2
          obtain ⟨tn1, tn2, tn3, tn4, tn5, tn6, tn7, tn8⟩ := TT.nums
          obtain ⟨un1, un2, un3, un4, un5, un6, un7, un8⟩ := UU.nums
          have m4 : ∀ v ∈ L4, ListV Y2 W4.heap.size v ∧ In W4.heap.size w8.heap.size v := fun v hv => by
            rw [HL4.out] at hv
            simp only [List.mem_cons, List.not_mem_nil, or_false] at hv
            rcases hv with rfl | rfl | rfl | rfl
            · exact ⟨OA.1, fun b hb => by have := OA.2 b hb; omega⟩
            · exact ⟨listV_base OB.1 (by omega), fun b hb => by have := OB.2 b hb; omega⟩
            · exact ⟨listV_base OC.1 (by omega), fun b hb => by have := OC.2 b hb; omega⟩
            · exact ⟨listV_base OD.1 (by omega), fun b hb => by have := OD.2 b hb; omega⟩
          have p4 : L4.Pairwise AptV := by
            rw [HL4.out]
            refine List.Pairwise.cons (fun v hv => ?_) (List.Pairwise.cons (fun v hv => ?_) (List.Pairwise.cons (fun v hv => ?_) (List.Pairwise.cons (fun v hv => by cases hv) List.Pairwise.nil)))
            · simp only [List.mem_cons, List.not_mem_nil, or_false] at hv
              rcases hv with rfl | rfl | rfl
              · exact (In.pair OA.2 OB.2 (by omega)).1
              · exact (In.pair OA.2 OC.2 (by omega)).1
              · exact (In.pair OA.2 OD.2 (by omega)).1
            · simp only [List.mem_cons, List.not_mem_nil, or_false] at hv
              rcases hv with rfl | rfl
              · exact (In.pair OB.2 OC.2 (by omega)).1
              · exact (In.pair OB.2 OD.2 (by omega)).1
            · obtain rfl := List.mem_singleton.1 hv
              exact (In.pair OC.2 OD.2 (by omega)).1
          have hall : ∀ v ∈ (L4 ++ sideV bs h.rs) ++ sideV ds h.rs, ListV V W4.heap.size v := fun v hv => by
            rcases List.mem_append.1 hv with hv | hv
            · rcases List.mem_append.1 hv with hv | hv
              · exact listV_below (m4 v hv).1 hbz
              · exact listV_below (listV_base (TS1 v hv).1 (by omega)) hbz
            · exact listV_below (listV_base (US1 v hv).1 (by omega)) hbz
          have hpw : ((L4 ++ sideV bs h.rs) ++ sideV ds h.rs).Pairwise AptV := by
            rw [List.pairwise_append, List.pairwise_append]
            refine ⟨⟨p4, TS2, fun u hu v hv => (In.pair (m4 u hu).2 (TS1 v hv).2 (by omega)).1⟩, US2, fun u hu v hv => ?_⟩
            rcases List.mem_append.1 hu with hu | hu
            · exact (In.pair (m4 u hu).2 (US1 v hv).2 (by omega)).1
            · exact (In.pair (TS1 u hu).2 (US1 v hv).2 (by omega)).1
          -- the rules' lists lie apart from all of them
          have hrt : ∀ v ∈ (L4 ++ sideV bs h.rs) ++ sideV ds h.rs, AptV (.slice tr h.rs.length trc) v ∧ AptV (.slice ur h.rs.length urc) v := fun v hv => by
            rcases List.mem_append.1 hv with hv | hv
            · rcases List.mem_append.1 hv with hv | hv
              · exact ⟨(In.pair (m4 v hv).2 tn3 (by omega)).2, (In.pair (m4 v hv).2 un3 (by omega)).2⟩
              · exact ⟨tn7 v hv, (In.pair (TS1 v hv).2 un3 (by omega)).2⟩
            · exact ⟨(In.pair tn3 (US1 v hv).2 (by omega)).1, un7 v hv⟩
          have hai := apart_vals W4.heap.size A cA9 ((L4 ++ sideV bs h.rs) ++ sideV ds h.rs) curA V (by omega) (by omega) hRA (fun j v hv => (hAx j (by have := (List.getElem?_eq_some_iff.1 hv).1; omega)).trans hv) hall hpw (fun v hv => listV_not (hall v hv) hRA (by decide)) (by have := hb4.size; omega)
          rw [hVL] at hai
          have HRT : Hid (_) := hrt
          have HALL : Hid (_) := hall
          have hstr := (TT.below hbz).strV hsm.1 hsm.2.1
          have hstu := (UU.below hbz).strV hsm.1 hsm.2.1
          have hrut := (TT.below hbz).rulV hsm.2.2.1
          have hruu := (UU.below hbz).rulV hsm.2.2.1
          have RA1 := RB1.below hbz RB1.lt
          have RA2 := RB2.below hbz RB2.lt
          have hbV := hb4.trans (hbz.mono hb4.size)
          have hszV := hbz.size
          clear hsv hsv2 hRA hAx hVL TS1 TS2 US1 US2 m4 p4 hall hpw hrt TT UU RB1 RB2 RBv RBw OA OA' OB OC OD hbz hbz1
          go_wp2_with fail
          clear b10
          refine hai.mono ?_
          rintro e w11 ⟨rfl, hbI, hbut⟩
          have hs11 := hbI.size
          have hbW := hbV.trans hbI
          have hst1 : StrV w11 _ ∧ StrV w11 _ := ⟨hstr.1.but hbut (fun b cur hr ⟨v, hv, e⟩ => listV_not (HALL.out v hv) hr (by decide) e), hstr.2.but hbut (fun b cur hr ⟨v, hv, e⟩ => listV_not (HALL.out v hv) hr (by decide) e)⟩
          have hsu1 : StrV w11 _ ∧ StrV w11 _ := ⟨hstu.1.but hbut (fun b cur hr ⟨v, hv, e⟩ => listV_not (HALL.out v hv) hr (by decide) e), hstu.2.but hbut (fun b cur hr ⟨v, hv, e⟩ => listV_not (HALL.out v hv) hr (by decide) e)⟩
          have hrt1 : RulV w11 _ := hrut.but hbut (fun b hb => ⟨by have := tn8 b hb; omega, fun ⟨v, hv, e⟩ => (HRT.out v hv).1 b hb e⟩)
          have hru1 : RulV w11 _ := hruu.but hbut (fun b hb => ⟨by have := un8 b hb; omega, fun ⟨v, hv, e⟩ => (HRT.out v hv).2 b hb e⟩)
          have RC1 := RA1.but hbut (fun ⟨v, hv, e⟩ => listV_not (HALL.out v hv) RA1 (by decide) e)
          have RC2 := RA2.but hbut (fun ⟨v, hv, e⟩ => listV_not (HALL.out v hv) RA2 (by decide) e)
          clear hai hbI hbut hstr hstu hrut hruu RA1 RA2 hbV
          obtain ⟨W12, hW12⟩ : ∃ W12, W12 = w11.alloc (.cells #[.slice tt h.ts.length ttc, .slice ut h.ts.length utc, .slice tn h.ns.length tnc, .slice un h.ns.length unc] 22) := ⟨_, rfl⟩
          have HW12 : Hid (_) := hW12
          have hbn : Below w11.heap.size w11 W12 := by rw [hW12]; exact (Below.refl _ _).alloc (Nat.le_refl _) _
          have RS : RowAt W12 w11.heap.size 22 #[.slice tt h.ts.length ttc, .slice ut h.ts.length utc, .slice tn h.ns.length tnc, .slice un h.ns.length unc] := by rw [hW12]; exact World.alloc_heap_new w11 _
          have hs12 := hbn.size
          have hb0 := But.of (S := fun _ => False) hbn
          have hsall : ∀ v ∈ [Value.slice tt h.ts.length ttc, .slice ut h.ts.length utc, .slice tn h.ns.length tnc, .slice un h.ns.length unc], StrV W12 v ∧ In w8.heap.size w10.heap.size v ∧ AptV (.slice tr h.rs.length trc) v ∧ AptV (.slice ur h.rs.length urc) v := fun v hv => by
            simp only [List.mem_cons, List.not_mem_nil, or_false] at hv
            rcases hv with rfl | rfl | rfl | rfl
            · exact ⟨hst1.1.but hb0 (fun _ _ _ h => h), fun b hb => (by have := tn1 b hb; omega), tn5, (In.pair tn1 un3 (by omega)).2⟩
            · exact ⟨hsu1.1.but hb0 (fun _ _ _ h => h), fun b hb => (by have := un1 b hb; omega), (In.pair tn3 un1 (by omega)).1, un5⟩
            · exact ⟨hst1.2.but hb0 (fun _ _ _ h => h), fun b hb => (by have := tn2 b hb; omega), tn6, (In.pair tn2 un3 (by omega)).2⟩
            · exact ⟨hsu1.2.but hb0 (fun _ _ _ h => h), fun b hb => (by have := un2 b hb; omega), (In.pair tn3 un2 (by omega)).1, un6⟩
          have hspw : [Value.slice tt h.ts.length ttc, .slice ut h.ts.length utc, .slice tn h.ns.length tnc, .slice un h.ns.length unc].Pairwise AptV := by
            refine List.Pairwise.cons (fun v hv => ?_) (List.Pairwise.cons (fun v hv => ?_) (List.Pairwise.cons (fun v hv => ?_) (List.Pairwise.cons (fun v hv => by cases hv) List.Pairwise.nil)))
            · simp only [List.mem_cons, List.not_mem_nil, or_false] at hv
              rcases hv with rfl | rfl | rfl
              · exact (In.pair tn1 un1 (by omega)).1
              · exact tn4
              · exact (In.pair tn1 un2 (by omega)).1
            · simp only [List.mem_cons, List.not_mem_nil, or_false] at hv
              rcases hv with rfl | rfl
              · exact (In.pair tn2 un1 (by omega)).2
              · exact un4
            · obtain rfl := List.mem_singleton.1 hv
              exact (In.pair tn2 un2 (by omega)).1
          have hss := strs_vals w11.heap.size 4 _ _ W12 (by simp) RS (fun j v hj => by
            match j, hj with
            | 0, hj => exact hj
            | 1, hj => exact hj
            | 2, hj => exact hj
            | 3, hj => exact hj
            | j + 4, hj => simp at hj) (fun v hv => (hsall v hv).1) hspw (fun v hv e => by have := (hsall v hv).2.1 _ e; omega)
          have HSA : Hid (_) := hsall
          have hrt2 : RulV W12 _ := hrt1.but hb0 (fun b hb => ⟨by have := tn8 b hb; omega, fun h => h⟩)
          have hru2 : RulV W12 _ := hru1.but hb0 (fun b hb => ⟨by have := un8 b hb; omega, fun h => h⟩)
          have RD1 := RC1.below hbn RC1.lt
          have RD2 := RC2.below hbn RC2.lt
          replace hbW := hbW.trans (hbn.mono hbW.size)
          have c10 := RC1.cell (q := 0) rfl
          have c11 := RC1.cell (q := 1) rfl
          have c20 := RC2.cell (q := 0) rfl
          have c21 := RC2.cell (q := 1) rfl
          clear hW12 hbn hb0 hst1 hsu1 hrt1 hru1 hsall hspw RS
          go_wp2_with (rw [← HW12.out])
          clear c10 c11 c20 c21 RC1 RC2
          refine hss.mono ?_
          rintro e w13 ⟨rfl, hbut⟩
          have hs13 := hbut.size
          have hrt3 : RulV w13 _ := hrt2.but hbut (fun b hb => ⟨by have := tn8 b hb; omega, fun ⟨v, hv, e⟩ => (HSA.out v hv).2.2.1 b hb e⟩)
          have hru3 : RulV w13 _ := hru2.but hbut (fun b hb => ⟨by have := un8 b hb; omega, fun ⟨v, hv, e⟩ => (HSA.out v hv).2.2.2 b hb e⟩)
          have hno : ∀ (b : Nat) (cur : Array Value), RowAt W12 b 25 cur → ¬ ∃ v ∈ [Value.slice tt h.ts.length ttc, .slice ut h.ts.length utc, .slice tn h.ns.length tnc, .slice un h.ns.length unc], v.ownBlock = some b := fun b cur hr ⟨v, hv, e⟩ => by
            rcases (HSA.out v hv).1 with rfl | ⟨g, n, cur2, rfl, _, hr2, _⟩
            · simp [Value.ownBlock] at e
            · have e2 : g = b := by simpa [Value.ownBlock] using e
              subst e2
              exact hr.ne hr2 (by decide) rfl
          have RE1 := RD1.but hbut (hno _ _ RD1)
          have RE2 := RD2.but hbut (hno _ _ RD2)
          replace hbW := hbW.trans (hbut.below (B := W4.heap.size) (by omega) (fun b ⟨v, hv, e⟩ => by have := (HSA.out v hv).2.1 b e; omega))
          clear hss hbut hrt2 hru2 hno RD1 RD2
          obtain ⟨W14, hW14⟩ : ∃ W14, W14 = w13.alloc (.cells #[.slice tr h.rs.length trc, .slice ur h.rs.length urc] 23) := ⟨_, rfl⟩
          have HW14 : Hid (_) := hW14
          have hbn : Below w13.heap.size w13 W14 := by rw [hW14]; exact (Below.refl _ _).alloc (Nat.le_refl _) _
          have RR : RowAt W14 w13.heap.size 23 #[.slice tr h.rs.length trc, .slice ur h.rs.length urc] := by rw [hW14]; exact World.alloc_heap_new w13 _
          have hs14 := hbn.size
          have hb0 := But.of (S := fun _ => False) hbn
          have hrall : ∀ v ∈ [Value.slice tr h.rs.length trc, .slice ur h.rs.length urc], RulV W14 v ∧ In w8.heap.size w10.heap.size v := fun v hv => by
            simp only [List.mem_cons, List.not_mem_nil, or_false] at hv
            rcases hv with rfl | rfl
            · exact ⟨hrt3.but hb0 (fun b hb => ⟨by have := tn8 b hb; omega, fun h => h⟩), fun b hb => (by have := tn3 b hb; omega)⟩
            · exact ⟨hru3.but hb0 (fun b hb => ⟨by have := un8 b hb; omega, fun h => h⟩), fun b hb => (by have := un3 b hb; omega)⟩
          have hrr := rules_vals w13.heap.size 2 _ _ W14 (by simp) RR (fun j v hj => by
            match j, hj with
            | 0, hj => exact hj
            | 1, hj => exact hj
            | j + 2, hj => simp at hj) (fun v hv => (hrall v hv).1) (List.Pairwise.cons (fun v hv => by obtain rfl := List.mem_singleton.1 hv; exact (In.pair tn3 un3 (by omega)).1) (List.Pairwise.cons (fun v hv => by cases hv) List.Pairwise.nil)) (fun v hv e => by have := (hrall v hv).2 _ e; omega)
          have HRA : Hid (_) := hrall
          replace hbW := hbW.trans (hbn.mono hbW.size)
          have c13 := RE1.cell (q := 3) rfl
          have c23 := RE2.cell (q := 3) rfl
          clear hW14 hbn hb0 hrt3 hru3 hrall RR
          go_wp2_with (rw [← HW14.out])
          clear c13 c23 RE1 RE2
          refine hrr.mono ?_
          rintro e w15 ⟨rfl, hbut⟩
          replace hbW := hbW.trans (hbut.below (B := W4.heap.size) (by omega) (fun b ⟨v, hv, e⟩ => by have := (HRA.out v hv).2 b e; omega))
          clear hrr hbut
          obtain ⟨h1, h2, h3, h4, h5, h6, h7, h8⟩ := HP.out _ hbW
          have hkp := keptG g1 c1 g2 c2 g3 c3 lq ta na ra tc nc rc g w15 h6 (hG.below h1 (Nat.le_refl _)) hg
          have i0 := h7.cell (q := 0) rfl
          have i1 := h7.cell (q := 1) rfl
          have i2 := h7.cell (q := 2) rfl
          have i3 := h7.cell (q := 3) rfl
          have j0 := h8.cell (q := 0) rfl
          have j1 := h8.cell (q := 1) rfl
          have j2 := h8.cell (q := 2) rfl
          have j3 := h8.cell (q := 3) rfl
          have H1 : Hid (_) := h1
          clear h1 h2 h3 h4 h5 h6 h7 h8
          go_wp2_with fail
          refine hkp.mono ?_
          rintro e w16 ⟨rfl, hb⟩
          have hend := H1.out.trans (hb.mono H1.out.size)
          clear hkp hb
          go_wp2
          go_ret
          exact ⟨rfl, hend⟩

end Go.Proofs.YthbbipgngeflnaaGreatDoor.UsefulOwnW
