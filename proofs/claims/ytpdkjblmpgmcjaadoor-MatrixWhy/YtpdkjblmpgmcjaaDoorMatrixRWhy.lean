/-
  What the document's Why answers.
-/
import Derived.Test.YtpdkjblmpgmcjaaDoorMatrixRPlaces
import Derived.Test.YtpdkjblmpgmcjaaDoorEndsRChain
namespace Go.Proofs.YtpdkjblmpgmcjaaDoor.MatrixRWhy
open Go.RowKit Go.Proofs.YtpdkjblmpgmcjaaDoor.GramMath Go.Proofs.YtpdkjblmpgmcjaaDoor.GramRow Go.Proofs.YtpdkjblmpgmcjaaDoor.GramApart Go.Proofs.YtpdkjblmpgmcjaaDoor.GramAwake Go.Proofs.YtpdkjblmpgmcjaaDoor.SetsMath Go.Proofs.YtpdkjblmpgmcjaaDoor.MatrixMath Go.Proofs.YtpdkjblmpgmcjaaDoor.MatrixKeep Go.Proofs.YtpdkjblmpgmcjaaDoor.EndsMath Go.Proofs.YtpdkjblmpgmcjaaDoor.EndsFn Go.Proofs.YtpdkjblmpgmcjaaDoor.EndsChain Go.Proofs.YtpdkjblmpgmcjaaDoor.MatrixRMath Go.Proofs.YtpdkjblmpgmcjaaDoor.MatrixWhyMath Go.Proofs.YtpdkjblmpgmcjaaDoor.MatrixReasonsMath Go.Proofs.YtpdkjblmpgmcjaaDoor.MatrixRHolds Go.Proofs.YtpdkjblmpgmcjaaDoor.EndsRef Go.Proofs.YtpdkjblmpgmcjaaDoor.EndsRRing Go.Proofs.YtpdkjblmpgmcjaaDoor.GramRef
set_option linter.unusedVariables false
set_option linter.unusedSimpArgs false

/-- A place with a nonterminal lies in a rule. -/
theorem symI_neg {g : G} {i k : Int} (h : symI g i k < 0) : ∃ i' k' : Nat, i = i' ∧ k = k' ∧ i' < g.rs.length ∧ k' < (rightOf g.rs i').length ∧ symI g i k = (rightOf g.rs i').getD k' 0 := by
  unfold symI at h ⊢
  split at h
  · rename_i hc
    refine ⟨i.toNat, k.toNat, by omega, by omega, by omega, by omega, ?_⟩
    rw [if_pos hc]
  · omega

set_option maxRecDepth 100000 in
set_option maxHeartbeats 8000000 in
theorem rwhy_any (ta na ra : Option Addr) (tc nc rc : Nat) (g : G) (a b x : Int) (w : World) (hG : GRow w ta na ra g) (ho : okG g) :
    Calls Tryd.prog 9 #[.agg #[.slice ta g.ts.length tc, .slice na g.ns.length nc, .int .i64 g.ax, .slice ra g.rs.length rc], .int .i64 a, .int .i64 b, .int .i64 x] w fun e w' => (∃ rule at_ va vc z o, e = .returned (.tuple #[.int .i64 rule, .int .i64 at_, .slice va (o.getD []).length vc, .int .i64 (z.1 : Int), .int .i64 (ruI z.2)]) ∧ IRow w' va (o.getD []) ∧ WhyR g a b x z rule at_ o) ∧ Below w.heap.size w w' := by
  obtain ⟨W1, hW1⟩ : ∃ W1, W1 = w.alloc (.cells #[.slice ta g.ts.length tc, .slice na g.ns.length nc, .int .i64 g.ax, .slice ra g.rs.length rc] 25) := ⟨_, rfl⟩
  have hB : Below w.heap.size w W1 := by rw [hW1]; exact (Below.refl _ _).alloc (Nat.le_refl _) _
  have hbx : RowAt W1 w.heap.size 25 #[.slice ta g.ts.length tc, .slice na g.ns.length nc, .int .i64 g.ax, .slice ra g.rs.length rc] := by rw [hW1]; exact heap_new _ _
  have hof := rof_any ta na ra tc nc rc g W1 (hG.below hB (Nat.le_refl _)) ho
  rw [hW1] at hof
  go_enter Tryd.func9, Tryd.ntmps9
  go_wp2_with fail
  refine hof.mono ?_
  rw [← hW1]
  clear hof hW1
  rintro e w2 ⟨⟨u, v, rfl, hO⟩, hb⟩
  replace hB := hB.trans (hb.mono hB.size)
  replace hbx := hbx.below hb hbx.lt
  clear hb
  have g0 := hbx.cell (q := 0) rfl
  rcases hO with ⟨h0, La, cl, Ra, cr, rfl, rfl, hL, hR⟩ | ⟨h0, rfl, rfl⟩
  · have hgood := good_of h0
    have hfew := hgood.few
    have hax0 := hgood.ax0
    have hax1 := hgood.ax1
    have hck := check_none h0
    have heL := putE_ends (b := false) hgood
    have heR := putE_ends (b := true) hgood
    rw [hck]
    have hTi : (g.ts.length : Int) ≤ 60 := by omega
    by_cases hin : InW g a b x
    · obtain ⟨⟨ha0, ha1⟩, ⟨hb0, hb1⟩, ⟨hx1, hx3⟩⟩ := id hin
      have x1 : decide (a < 0) = false := by simpa using ha0
      have x2 : decide ((g.ts.length : Int) < a) = false := by simpa using ha1
      have x3 : decide (b < 0) = false := by simpa using hb0
      have x4 : decide ((g.ts.length : Int) < b) = false := by simpa using hb1
      have x5 : decide (x < 1) = false := by simp; omega
      have x6 : decide (3 < x) = false := by simpa using hx3
      have y1 : ¬ a < 0 := by omega
      have y2 : ¬ (g.ts.length : Int) < a := by omega
      have y3 : ¬ b < 0 := by omega
      have y4 : ¬ (g.ts.length : Int) < b := by omega
      have y5 : ¬ x < 1 := by omega
      have y6 : ¬ 3 < x := by omega
      obtain ⟨a', rfl⟩ : ∃ a' : Nat, a = (a' : Int) := ⟨a.toNat, by omega⟩
      obtain ⟨b', rfl⟩ : ∃ b' : Nat, b = (b' : Int) := ⟨b.toNat, by omega⟩
      have hpl := rplace_any ta na ra tc nc rc g La Ra cl cr (putE false g) (putE true g) a' b' x w2 (hG.below hB (Nat.le_refl _)).2.2 hgood hL hR heL heR (by omega) (by omega) (by omega)
      have g1 := hbx.cell (q := 1) rfl
      have g2 := hbx.cell (q := 2) rfl
      have g3 := hbx.cell (q := 3) rfl
      go_wp2_with fail
      refine hpl.mono ?_
      rintro e w3 ⟨⟨i, k, ok, rfl, hP⟩, hb⟩
      replace hB := hB.trans (hb.mono hB.size)
      replace hbx := hbx.below hb hbx.lt
      clear hb hpl g0 g1 g2 g3 hL hR
      have g0 := hbx.cell (q := 0) rfl
      have g1 := hbx.cell (q := 1) rfl
      have g2 := hbx.cell (q := 2) rfl
      have g3 := hbx.cell (q := 3) rfl
      rcases hP with ⟨rfl, f, hf, rfl, rfl⟩ | ⟨rfl, hf⟩
      · obtain ⟨hfm, hfr, hfa, hfb⟩ := first_in hf
        obtain ⟨hn1, hn3⟩ := finds_non hgood heL heR hfm
        obtain ⟨pl1, pl2, pl3, ⟨hr0, hr1⟩, ⟨hA0, hA1⟩⟩ := finds_place hgood heL heR hfm
        rw [hfr] at pl1 pl2 pl3 hn1 hn3
        rw [hfa] at pl1 hn3
        rw [hfb] at pl3 hn1
        have HF : Hid (∀ o, ((x = 2 ∧ o = none) ∨ (x = 1 ∧ ∃ c, o = some c ∧ ChainR g f.p.non b' false (0, none) (some c)) ∨ (x = 3 ∧ ∃ c, o = some c ∧ ChainR g f.p.non a' true (0, none) (some c))) → WhyR g a' b' x (0, none) f.p.rule f.p.at_ o) := fun o hh => .inr (.inr ⟨h0, hin, _, _, heL, heR, .inr ⟨f, hf, rfl, rfl, rfl, hh⟩⟩)
        clear hf hfm hfr hfa hfb hin pl2
        have HI : Hid (f.p = ⟨-1, 0, g.ax⟩ → f.p.rule = -1) := fun h => by rw [h]
        generalize f.p.rule = i at *
        generalize f.p.at_ = k at *
        have hx123 : x = 1 ∨ x = 2 ∨ x = 3 := by omega
        rcases hx123 with rfl | rfl | rfl
        · rcases pl1 rfl with ⟨he, hp⟩ | ⟨hlt3, hs1, hng, hnon⟩
          · have hii : i < 0 := by have := HI.out hp; omega
            have hin0 : ¬ 0 ≤ i := by omega
            have hnn : f.p.non = g.ax := by rw [hp]
            obtain ⟨hin2, hlf⟩ := hn1 rfl
            rw [hnn] at hin2 hlf HF
            clear hnn hp he
            have hch := rchain_any false ta na _ tc nc rc g (g.ax) b' w3 (hG.below hB (Nat.le_refl _)) ho
            clear pl1 pl3 hn1 hn3
            go_wp2_with fail
            refine hch.mono ?_
            rintro e w4 ⟨⟨va, vc, z, o, rfl, hI, hC⟩, hb⟩
            replace hB := hB.trans (hb.mono hB.size)
            obtain ⟨rfl, c, rfl⟩ := chain_there h0 hin2 hlf hC
            have hR9 := HF.out (some c) (.inr (.inl ⟨by trivial, c, rfl, hC⟩))
            clear hch hb HF hC
            go_wp2
            refine bodyPost_ret (v := .tuple #[.int .i64 (i), .int .i64 (k), .slice va (Option.getD (some c) []).length vc, .int .i64 (0), .int .i64 (-1)]) (by simp [results, Tryd.results9, go_sem]; try rfl) rfl ?_
            exact ⟨⟨_, _, _, _, _, some c, rfl, hI, hR9⟩, hB⟩
          · obtain ⟨i', k', hi', hk', hil, hkl, hsv⟩ := symI_neg hng
            rw [hsv] at hng hnon
            obtain ⟨r, hr, hrk, hro⟩ := rightOf_mem hil
            obtain ⟨b1, off1, qa, qc, hra, e0, e1, hIq⟩ := (hG.below hB (Nat.le_refl _)).2.2 i' r hrk
            rw [hro] at hng hnon hkl
            obtain ⟨b2, off2, hqa, q2⟩ := irow_at hIq hkl
            subst hra
            subst hqa
            obtain ⟨nx, hnx⟩ : ∃ nx, r.right.getD k' 0 = nx := ⟨_, rfl⟩
            rw [hnx] at q2 hng hnon
            have hii : 0 ≤ i := by omega
            have hil2 : i < (g.rs.length : Int) := by omega
            have hkl2 : k + 1 < (r.right.length : Int) := by omega
            have hit : i.toNat = i' := by omega
            have hkt : (k + 1).toNat = k' := by omega
            subst hi'
            have hnx60 : -1 - nx < 60 := by have := (hn1 rfl).1.2.1; omega
            obtain ⟨ln, hln⟩ : ∃ ln, r.right.length = ln := ⟨_, rfl⟩
            rw [hln] at e1 hkl2 hkl
            clear hro hrk hnx hs1 hsv hIq hln
            obtain ⟨hin2, hlf⟩ := hn1 rfl
            rw [← hnon] at hin2 hlf HF
            clear hnon
            have hch := rchain_any false ta na _ tc nc rc g (-1 - nx) b' w3 (hG.below hB (Nat.le_refl _)) ho
            clear pl1 pl3 hn1 hn3
            go_wp2_with fail
            refine hch.mono ?_
            rintro e w4 ⟨⟨va, vc, z, o, rfl, hI, hC⟩, hb⟩
            replace hB := hB.trans (hb.mono hB.size)
            obtain ⟨rfl, c, rfl⟩ := chain_there h0 hin2 hlf hC
            have hR9 := HF.out (some c) (.inr (.inl ⟨by trivial, c, rfl, hC⟩))
            clear hch hb HF hC
            go_wp2
            refine bodyPost_ret (v := .tuple #[.int .i64 ((i' : Int)), .int .i64 (k), .slice va (Option.getD (some c) []).length vc, .int .i64 (0), .int .i64 (-1)]) (by simp [results, Tryd.results9, go_sem]; try rfl) rfl ?_
            exact ⟨⟨_, _, _, _, _, some c, rfl, hI, hR9⟩, hB⟩
        · have hR9 := HF.out none (.inl ⟨rfl, rfl⟩)
          clear pl1 pl3 hn1 hn3 HF
          go_wp2
          refine bodyPost_ret (v := .tuple #[.int .i64 (i), .int .i64 (k), .slice none 0 0, .int .i64 (0), .int .i64 (-1)]) (by simp [results, Tryd.results9, go_sem]; try rfl) rfl ?_
          exact ⟨⟨_, _, _, _, _, none, rfl, (fun i x hx => by simp at hx), hR9⟩, hB⟩
        · rcases pl3 rfl with ⟨he, hp⟩ | ⟨hlt3, hs1, hng, hnon⟩
          · have hii : i < 0 := by have := HI.out hp; omega
            have hin0 : ¬ 0 ≤ i := by omega
            have hnn : f.p.non = g.ax := by rw [hp]
            obtain ⟨hin2, hlf⟩ := hn3 rfl
            rw [hnn] at hin2 hlf HF
            clear hnn hp he
            have hch := rchain_any true ta na _ tc nc rc g (g.ax) a' w3 (hG.below hB (Nat.le_refl _)) ho
            clear pl1 pl3 hn1 hn3
            go_wp2_with fail
            refine hch.mono ?_
            rintro e w4 ⟨⟨va, vc, z, o, rfl, hI, hC⟩, hb⟩
            replace hB := hB.trans (hb.mono hB.size)
            obtain ⟨rfl, c, rfl⟩ := chain_there h0 hin2 hlf hC
            have hR9 := HF.out (some c) (.inr (.inr ⟨by trivial, c, rfl, hC⟩))
            clear hch hb HF hC
            go_wp2
            refine bodyPost_ret (v := .tuple #[.int .i64 (i), .int .i64 (k), .slice va (Option.getD (some c) []).length vc, .int .i64 (0), .int .i64 (-1)]) (by simp [results, Tryd.results9, go_sem]; try rfl) rfl ?_
            exact ⟨⟨_, _, _, _, _, some c, rfl, hI, hR9⟩, hB⟩
          · obtain ⟨i', k', hi', hk', hil, hkl, hsv⟩ := symI_neg hng
            rw [hsv] at hng hnon
            obtain ⟨r, hr, hrk, hro⟩ := rightOf_mem hil
            obtain ⟨b1, off1, qa, qc, hra, e0, e1, hIq⟩ := (hG.below hB (Nat.le_refl _)).2.2 i' r hrk
            rw [hro] at hng hnon hkl
            obtain ⟨b2, off2, hqa, q2⟩ := irow_at hIq hkl
            subst hra
            subst hqa
            obtain ⟨nx, hnx⟩ : ∃ nx, r.right.getD k' 0 = nx := ⟨_, rfl⟩
            rw [hnx] at q2 hng hnon
            have hii : 0 ≤ i := by omega
            have hil2 : i < (g.rs.length : Int) := by omega
            have hkl2 : k - 1 < (r.right.length : Int) := by omega
            have hit : i.toNat = i' := by omega
            have hkt : (k - 1).toNat = k' := by omega
            subst hi'
            have hnx60 : -1 - nx < 60 := by have := (hn3 rfl).1.2.1; omega
            obtain ⟨ln, hln⟩ : ∃ ln, r.right.length = ln := ⟨_, rfl⟩
            rw [hln] at e1 hkl2 hkl
            clear hro hrk hnx hs1 hsv hIq hln
            obtain ⟨hin2, hlf⟩ := hn3 rfl
            rw [← hnon] at hin2 hlf HF
            clear hnon
            have hch := rchain_any true ta na _ tc nc rc g (-1 - nx) a' w3 (hG.below hB (Nat.le_refl _)) ho
            clear pl1 pl3 hn1 hn3
            go_wp2_with fail
            refine hch.mono ?_
            rintro e w4 ⟨⟨va, vc, z, o, rfl, hI, hC⟩, hb⟩
            replace hB := hB.trans (hb.mono hB.size)
            obtain ⟨rfl, c, rfl⟩ := chain_there h0 hin2 hlf hC
            have hR9 := HF.out (some c) (.inr (.inr ⟨by trivial, c, rfl, hC⟩))
            clear hch hb HF hC
            go_wp2
            refine bodyPost_ret (v := .tuple #[.int .i64 ((i' : Int)), .int .i64 (k), .slice va (Option.getD (some c) []).length vc, .int .i64 (0), .int .i64 (-1)]) (by simp [results, Tryd.results9, go_sem]; try rfl) rfl ?_
            exact ⟨⟨_, _, _, _, _, some c, rfl, hI, hR9⟩, hB⟩
      · have hR9 : WhyR g a' b' x (15, none) 0 0 none := .inr (.inr ⟨h0, hin, _, _, heL, heR, .inl ⟨hf, rfl, rfl, rfl, rfl⟩⟩)
        clear hf hin
        go_wp2
        refine bodyPost_ret (v := .tuple #[.int .i64 (0), .int .i64 (0), .slice none 0 0, .int .i64 (15), .int .i64 (-1)]) (by simp [results, Tryd.results9, go_sem]; try rfl) rfl ?_
        exact ⟨⟨_, _, _, _, _, none, rfl, (fun i x hx => by simp at hx), hR9⟩, hB⟩
    · have hR9 : WhyR g a b x (1, none) 0 0 none := .inr (.inl ⟨h0, hin, rfl, rfl, rfl, rfl⟩)
      unfold InW at hin
      clear hL hR
      by_cases x1 : a < 0
      · have dx1 : decide (a < 0) = true := by simpa using x1
        clear hin
        go_wp2
        refine bodyPost_ret (v := .tuple #[.int .i64 (0), .int .i64 (0), .slice none 0 0, .int .i64 (1), .int .i64 (-1)]) (by simp [results, Tryd.results9, go_sem]; try rfl) rfl ?_
        exact ⟨⟨_, _, _, _, _, none, rfl, (fun i x hx => by simp at hx), hR9⟩, hB⟩
      · have dx1 : decide (a < 0) = false := by simpa using x1
        by_cases x2 : (g.ts.length : Int) < a
        · have dx2 : decide ((g.ts.length : Int) < a) = true := by simpa using x2
          clear hin
          go_wp2
          refine bodyPost_ret (v := .tuple #[.int .i64 (0), .int .i64 (0), .slice none 0 0, .int .i64 (1), .int .i64 (-1)]) (by simp [results, Tryd.results9, go_sem]; try rfl) rfl ?_
          exact ⟨⟨_, _, _, _, _, none, rfl, (fun i x hx => by simp at hx), hR9⟩, hB⟩
        · have dx2 : decide ((g.ts.length : Int) < a) = false := by simpa using x2
          by_cases x3 : b < 0
          · have dx3 : decide (b < 0) = true := by simpa using x3
            clear hin
            go_wp2
            refine bodyPost_ret (v := .tuple #[.int .i64 (0), .int .i64 (0), .slice none 0 0, .int .i64 (1), .int .i64 (-1)]) (by simp [results, Tryd.results9, go_sem]; try rfl) rfl ?_
            exact ⟨⟨_, _, _, _, _, none, rfl, (fun i x hx => by simp at hx), hR9⟩, hB⟩
          · have dx3 : decide (b < 0) = false := by simpa using x3
            by_cases x4 : (g.ts.length : Int) < b
            · have dx4 : decide ((g.ts.length : Int) < b) = true := by simpa using x4
              clear hin
              go_wp2
              refine bodyPost_ret (v := .tuple #[.int .i64 (0), .int .i64 (0), .slice none 0 0, .int .i64 (1), .int .i64 (-1)]) (by simp [results, Tryd.results9, go_sem]; try rfl) rfl ?_
              exact ⟨⟨_, _, _, _, _, none, rfl, (fun i x hx => by simp at hx), hR9⟩, hB⟩
            · have dx4 : decide ((g.ts.length : Int) < b) = false := by simpa using x4
              by_cases x5 : x < 1
              · have dx5 : decide (x < 1) = true := by simpa using x5
                clear hin
                go_wp2
                refine bodyPost_ret (v := .tuple #[.int .i64 (0), .int .i64 (0), .slice none 0 0, .int .i64 (1), .int .i64 (-1)]) (by simp [results, Tryd.results9, go_sem]; try rfl) rfl ?_
                exact ⟨⟨_, _, _, _, _, none, rfl, (fun i x hx => by simp at hx), hR9⟩, hB⟩
              · have dx5 : decide (x < 1) = false := by simpa using x5
                have x6 : 3 < x := by omega
                have dx6 : decide (3 < x) = true := by simpa using x6
                clear hin
                go_wp2
                refine bodyPost_ret (v := .tuple #[.int .i64 (0), .int .i64 (0), .slice none 0 0, .int .i64 (1), .int .i64 (-1)]) (by simp [results, Tryd.results9, go_sem]; try rfl) rfl ?_
                exact ⟨⟨_, _, _, _, _, none, rfl, (fun i x hx => by simp at hx), hR9⟩, hB⟩
  · have hR9 : WhyR g a b x (checkG g) 0 0 none := .inl ⟨h0, rfl, rfl, rfl, rfl⟩
    have hz0 : (((checkG g).1 : Int) != 0) = true := by simpa using h0
    generalize checkG g = z at *
    clear h0
    go_wp2
    refine bodyPost_ret (v := .tuple #[.int .i64 (0), .int .i64 (0), .slice none 0 0, .int .i64 (z.1), .int .i64 (ruI z.2)]) (by simp [results, Tryd.results9, go_sem]; try rfl) rfl ?_
    exact ⟨⟨_, _, _, _, _, none, rfl, (fun i x hx => by simp at hx), hR9⟩, hB⟩

end Go.Proofs.YtpdkjblmpgmcjaaDoor.MatrixRWhy
