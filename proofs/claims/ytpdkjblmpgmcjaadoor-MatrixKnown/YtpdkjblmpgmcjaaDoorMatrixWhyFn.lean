/-
  Why, whole: the reason of every relation that holds, and what is wrong with the others.
-/
import Derived.Test.YtpdkjblmpgmcjaaDoorMatrixOf
import Derived.Test.YtpdkjblmpgmcjaaDoorMatrixReason
import Derived.Test.YtpdkjblmpgmcjaaDoorMatrixTurnM
namespace Go.Proofs.YtpdkjblmpgmcjaaDoor.MatrixWhyFn
open Go.RowKit Go.Proofs.YtpdkjblmpgmcjaaDoor.GramMath Go.Proofs.YtpdkjblmpgmcjaaDoor.GramRow Go.Proofs.YtpdkjblmpgmcjaaDoor.GramCheck Go.Proofs.YtpdkjblmpgmcjaaDoor.GramErrs Go.Proofs.YtpdkjblmpgmcjaaDoor.SetsMath Go.Proofs.YtpdkjblmpgmcjaaDoor.UsefulMath Go.Proofs.YtpdkjblmpgmcjaaDoor.GramApart Go.Proofs.YtpdkjblmpgmcjaaDoor.MatrixMath Go.Proofs.YtpdkjblmpgmcjaaDoor.GramAboveFn Go.Proofs.YtpdkjblmpgmcjaaDoor.SetsAlg Go.Proofs.YtpdkjblmpgmcjaaDoor.EndsFn Go.Proofs.YtpdkjblmpgmcjaaDoor.EndsMath Go.Proofs.YtpdkjblmpgmcjaaDoor.EndsSearch Go.Proofs.YtpdkjblmpgmcjaaDoor.EndsChain Go.Proofs.YtpdkjblmpgmcjaaDoor.GramOpen Go.Proofs.YtpdkjblmpgmcjaaDoor.MatrixOf Go.Proofs.YtpdkjblmpgmcjaaDoor.MatrixTell Go.Proofs.YtpdkjblmpgmcjaaDoor.MatrixKeep Go.Proofs.YtpdkjblmpgmcjaaDoor.MatrixReason Go.Proofs.YtpdkjblmpgmcjaaDoor.MatrixWhyMath
set_option linter.unusedVariables false
set_option linter.unusedSimpArgs false

set_option maxRecDepth 100000 in
set_option maxHeartbeats 4000000 in
theorem Why_top (ta na ra : Option Addr) (tc nc rc : Nat) (g : G) (a b x : Int) (p : Nat → Addr) (w : World) (hG : GRow w ta na ra g) (hcap : Caps w ra g.rs.length) (hg : okG g) (htc : g.ts.length ≤ tc) (hnc : g.ns.length ≤ nc) (hE : Errs w p) (hT : Tab w) (hTG : 16 < w.heap.size) :
    Calls Tryd.prog 8 #[.agg #[.slice ta g.ts.length tc, .slice na g.ns.length nc, .int .i64 g.ax, .slice ra g.rs.length rc], .int .i64 a, .int .i64 b, .int .i64 x] w fun e w' => (∃ rule at_ v y z o, e = .returned (.tuple #[.agg #[.int .i64 rule, .int .i64 at_, v], y]) ∧ ChV w.heap.size w' v o ∧ CkV w.heap.size p z w' y ∧ WhyR g a b x z rule at_ o) ∧ Below w.heap.size w w' := by
  have hneq := neq_nil
  have heq0 : ∀ W : World, (binOp .neq 31 .nilIface .nilIface).run Tryd.prog W = .ok (.bool false) W := fun W => by kernel_rfl
  have hmf : ∀ (fn : Fn) (first cap : Array Value) (w : World), (Instr.makeFunc fn first cap).run Tryd.prog w = .ok (.func fn first cap) w := fun _ _ _ _ => rfl
  have a1 : w.cell? ⟨0, 0, none⟩ = some (.iface 189 (.pointer (some (p 1)))) := (hE.1 0 (by omega)).1
  have a15 : w.cell? ⟨1, 0, none⟩ = some (.iface 189 (.pointer (some (p 15)))) := (hE.1 14 (by omega)).1
  obtain ⟨W1, hW1⟩ : ∃ W1, W1 = (w.alloc (.cells #[.slice ta g.ts.length tc, .slice na g.ns.length nc, .int .i64 g.ax, .slice ra g.rs.length rc] 25)).alloc (.cells #[.int .i64 0, .int .i64 0, .slice none 0 0] 29) := ⟨_, rfl⟩
  have hB1 : Below w.heap.size w W1 := by rw [hW1]; exact ((Below.refl _ _).alloc (Nat.le_refl _) _).alloc (by simp) _
  have hz1 : W1.heap.size = w.heap.size + 2 := by rw [hW1]; simp
  have hg1 : RowAt W1 w.heap.size 25 #[.slice ta g.ts.length tc, .slice na g.ns.length nc, .int .i64 g.ax, .slice ra g.rs.length rc] := by
    rw [hW1]
    exact (rowN w _ _).alloc _
  have hq1 : RowAt W1 (w.heap.size + 1) 29 #[.int .i64 0, .int .i64 0, .slice none 0 0] := by
    have h := rowN (w.alloc (.cells #[.slice ta g.ts.length tc, .slice na g.ns.length nc, .int .i64 g.ax, .slice ra g.rs.length rc] 25)) #[.int .i64 0, .int .i64 0, .slice none 0 0] 29
    rw [World.size_alloc] at h
    rw [hW1]
    exact h
  have hof := Of_top ta na ra tc nc rc g p W1 (hG.below hB1 (Nat.le_refl _)) hg htc hnc (hE.sents.below hB1 (Nat.le_refl _))
  rw [hW1] at hof
  go_enter Tryd.func8, Tryd.ntmps8
  go_wp2_with fail
  refine hof.mono ?_
  rw [← hW1]
  clear hof
  rintro e w2 ⟨⟨u, v, y, rfl, huv, hx⟩, hb2⟩
  have hg2 := hg1.below hb2 hg1.lt
  have hq2 := hq1.below hb2 hq1.lt
  have hs2 := hb2.size
  have hB2 : Below w.heap.size w w2 := hB1.trans (hb2.mono (by omega))
  have HW : Hid (_) := hW1
  clear hW1 hg1 hq1
  rcases huv with ⟨hc, bl, br, Vl, Vr, rfl, rfl, hL, hR, hlr⟩ | ⟨hc, rfl, rfl⟩
  · obtain rfl := ck_nil hx hc
    have hgood := good_of hc
    have hfew := hgood.few
    have hax0 := hgood.ax0
    have hax1 := hgood.ax1
    have Hc : Hid ((checkG g).1 = 0) := hc
    obtain ⟨W3, hW3⟩ : ∃ W3, W3 = w2.alloc (.cells #[.slice (some ⟨bl, 0, none⟩) g.ns.length g.ns.length, .slice (some ⟨br, 0, none⟩) g.ns.length g.ns.length] 70) := ⟨_, rfl⟩
    have hb3 : Below w2.heap.size w2 W3 := by rw [hW3]; exact (Below.refl _ _).alloc (Nat.le_refl _) _
    have hz3 : W3.heap.size = w2.heap.size + 1 := by rw [hW3]; simp
    have hB3 : Below w.heap.size w W3 := hB2.trans (hb3.mono (by omega))
    have hg3 := hg2.below hb3 hg2.lt
    have hq3 := hq2.below hb3 hq2.lt
    have he3 : RowAt W3 w2.heap.size 70 #[.slice (some ⟨bl, 0, none⟩) g.ns.length g.ns.length, .slice (some ⟨br, 0, none⟩) g.ns.length g.ns.length] := by rw [hW3]; exact rowN _ _ _
    have g0 := hg3.cell (q := 0) rfl
    have l1 := (hB3.cell (cell_lt a1)).trans a1
    have hts : (g.ts.length : Int) ≤ 60 := by omega
    clear hc hx hq2 hg2
    have g0' := g0
    have l1' := l1
    rw [hW3] at g0' l1'
    by_cases hin : InW g a b x
    · skip
      obtain ⟨⟨ha0, ha1⟩, ⟨hb0, hb1⟩, ⟨hx1, hx3⟩⟩ := id hin
      have Hin : Hid (InW g a b x) := hin
      have x1 : decide (a < 0) = false := by simpa using ha0
      have x2 : decide ((g.ts.length : Int) < a) = false := by simpa using ha1
      have x3 : decide (b < 0) = false := by simpa using hb0
      have x4 : decide ((g.ts.length : Int) < b) = false := by simpa using hb1
      have x5 : decide (x < 1) = false := by simp; omega
      have x6 : decide (3 < x) = false := by simpa using hx3
      have y1 : ¬ a < 0 := by omega
      have y2 : ¬ (g.ts.length : Int) < a := by omega
      have y3 : ¬ b < 0 := by omega
      have y4 : ¬ (g.ts.length : Int) < b := by omega
      have y5 : ¬ x < 1 := by omega
      have y6 : ¬ 3 < x := by omega
      obtain ⟨W4, hW4⟩ : ∃ W4, W4 = W3.alloc (.cells #[.int .i64 a, .int .i64 b, .int .i64 x, .bool false, .int .i64 0, .int .i64 0, .int .i64 0] 76) := ⟨_, rfl⟩
      have hb4 : Below W3.heap.size W3 W4 := by rw [hW4]; exact (Below.refl _ _).alloc (Nat.le_refl _) _
      have hz4 : W4.heap.size = W3.heap.size + 1 := by rw [hW4]; simp
      have hr4 : RowAt W4 W3.heap.size 76 #[.int .i64 a, .int .i64 b, .int .i64 x, .bool false, .int .i64 0, .int .i64 0, .int .i64 0] := by rw [hW4]; exact rowN _ _ _
      have hL3 : SetsAt 0 W3 false g bl Vl := hL.below hb3 (Nat.le_refl _) |> fun h => ⟨Nat.zero_le _, h.lt, h.row, h.ends⟩
      have hR3 : SetsAt 0 W3 true g br Vr := hR.below hb3 (Nat.le_refl _) |> fun h => ⟨Nat.zero_le _, h.lt, h.row, h.ends⟩
      have hcap3 : Caps W3 ra g.rs.length := caps_below hG.2.2 hcap hB3 (Nat.le_refl _)
      have hrel := relate_any ta na ra tc nc rc g (keep_teller W3.heap.size g.ts.length x a b) W3 bl br Vl Vr [] W4 (hG.2.2.below hB3 (Nat.le_refl _)) hcap3 hgood hg hL3 hR3 (SetsEach.Tab.from hT hB3 hTG) (by have := hB3.size; omega) hb4 (Nat.le_refl _) ⟨_, hr4, rfl⟩
      have hg4 := hg3.below hb4 hg3.lt
      have hq4 := hq3.below hb4 hq3.lt
      have he4 := he3.below hb4 he3.lt
      have HL := hL.ends
      have HR := hR.ends
      have hB4 : Below w.heap.size w W4 := hB3.trans (hb4.mono (by have := hB3.size; omega))
      have k0 := hg4.cell (q := 0) rfl
      have k1 := hg4.cell (q := 1) rfl
      have k2 := hg4.cell (q := 2) rfl
      have k3 := hg4.cell (q := 3) rfl
      have m0 := he4.cell (q := 0) rfl
      have m1 := he4.cell (q := 1) rfl
      unfold tellV at hrel
      have hM3 : Hid (w.heap.size + 2 ≤ W3.heap.size ∧ w2.heap.size < W3.heap.size ∧ W3.heap.size < W4.heap.size) := ⟨by omega, by omega, by omega⟩
      rw [hz3] at hrel hr4
      have HW3 : Hid (_) := hW3
      have HW4 : Hid (_) := hW4
      rw [hW4, hW3] at k0 k1 k2 k3 m0 m1 hrel
      clear hin hW3 hW4 g0 l1 hr4
      go_wp2_with fail
      refine hrel.mono ?_
      rw [← HW3.out, ← HW4.out]
      clear hrel k0 k1 k2 k3 m0 m1 g0' l1' HW3 HW4
      rintro e w5 ⟨⟨vv, rfl⟩, ⟨cur, hr5, hJ5⟩, hb5⟩
      have hK5 : ∀ k, k < w2.heap.size + 1 → w5.heap[k]? = W4.heap[k]? := fun k hk => hb5.block k (by omega) (by omega)
      have hB5 : Below w.heap.size w w5 := hB4.trans (hb5.below (by have := hB4.size; omega) (fun k hk => by omega))
      have hq5 := hq4.but hb5 (show ¬ w.heap.size + 1 = w2.heap.size + 1 by omega)
      have hg5 := hg4.but hb5 (show ¬ w.heap.size = w2.heap.size + 1 by omega)
      have l15 := (hB5.cell (cell_lt a15)).trans a15
      have hM5 := hr5.lt
      clear hb5 hK5 hB4 hq4 hg4 he4 hL3 hR3 hcap3 hb4 hb3 hb2 he3 hg3 hq3
      unfold KeepJ at hJ5
      rw [List.nil_append] at hJ5
      cases hf : firstF x a b (findsF Vl Vr g) with
      | none =>
        rw [hf] at hJ5
        have Hr : Hid (WhyR g a b x (15, none) 0 0 none) := .inr (.inr ⟨Hc.out, Hin.out, Vl, Vr, HL, HR, .inl ⟨hf, rfl, rfl, rfl, rfl⟩⟩)
        unfold srchC at hJ5
        subst hJ5
        have n3 := hr5.cell (q := 3) rfl
        have s0 := hq5.cell (q := 0) rfl
        have t0 := hq5.frozen 0
        have s1 := hq5.cell (q := 1) rfl
        have t1 := hq5.frozen 1
        have s2 := hq5.cell (q := 2) rfl
        have t2 := hq5.frozen 2
        have hq9 := ((hq5.set 0 (.int .i64 0)).set 1 (.int .i64 0)).set 2 (.slice none 0 0)
        have z0 := hq9.cell (q := 0) rfl
        have z1 := hq9.cell (q := 1) rfl
        have z2 := hq9.cell (q := 2) rfl
        have hB9 := ((hB5.setCell (p := ⟨w.heap.size + 1, 0, none⟩) (by simp) (.int .i64 0)).setCell (p := ⟨w.heap.size + 1, 1, none⟩) (by simp) (.int .i64 0)).setCell (p := ⟨w.heap.size + 1, 2, none⟩) (by simp) (.slice none 0 0)
        go_wp2
        go_region
        go_wp2
        refine bodyPost_ret (v := .tuple #[.agg #[.int .i64 (0), .int .i64 (0), .slice none 0 0], .iface 189 (.pointer (some (p 15)))]) (by simp [results, Tryd.results8, go_sem, z0, z1, z2]; try rfl) rfl ?_
        exact ⟨⟨_, _, _, _, (15, none), none, rfl, rfl, rfl, Hr.out⟩, ⟨hB9.os, hB9.tape, hB9.output, hB9.size, hB9.block⟩⟩
      | some f =>
        rw [hf] at hJ5
        subst hJ5
        obtain ⟨hfm, hfr, hfa, hfb⟩ := first_in hf
        obtain ⟨hn1, hn3⟩ := finds_non hgood HL HR hfm
        have hr6 := hr5
        unfold srchC at hr6
        have n3 := hr6.cell (q := 3) rfl
        have k0 := hg5.cell (q := 0) rfl
        have k1 := hg5.cell (q := 1) rfl
        have k2 := hg5.cell (q := 2) rfl
        have k3 := hg5.cell (q := 3) rfl
        have hx123 : x = 1 ∨ x = 2 ∨ x = 3 := by omega
        rcases hx123 with hxx | hxx | hxx
        · have hre := reason_yield ta na ra tc nc rc g (w2.heap.size + 1) a b f p w5 (by rw [← hxx]; exact hr5) (hG.below hB5 (Nat.le_refl _)) hg htc hnc (hE.below hB5 (Nat.le_refl _)) (fun z o h => by
            obtain ⟨h1, h2⟩ := hn1 (hfr.trans hxx)
            rw [hfb] at h1 h2
            exact chain_there Hc.out h1 h2 h)
          have Hr : Hid (∀ c, ChainR g f.p.non b false (0, none) (some c) → WhyR g a b x (0, none) f.p.rule f.p.at_ (some c)) := fun c hc => .inr (.inr ⟨Hc.out, Hin.out, Vl, Vr, HL, HR, .inr ⟨f, hf, rfl, rfl, rfl, .inr (.inl ⟨hxx, c, rfl, hc⟩)⟩⟩)
          clear hxx hn1 hn3 hfr hfa hfb hfm hf hr6 hr5
          go_wp2_with fail
          refine hre.mono ?_
          rintro e w6 ⟨⟨v, c, rfl, hv, hc⟩, hb6⟩
          have Hr2 : Hid (WhyR g a b x (0, none) f.p.rule f.p.at_ (some c)) := Hr.out c hc
          obtain ⟨g', cap', rfl, hown⟩ := hv
          have hB6 : Below w.heap.size w w6 := hB5.trans (hb6.mono (by have := hB5.size; omega))
          have hq6 := hq5.below hb6 hq5.lt
          have s0 := hq6.cell (q := 0) rfl
          have t0 := hq6.frozen 0
          have s1 := hq6.cell (q := 1) rfl
          have t1 := hq6.frozen 1
          have s2 := hq6.cell (q := 2) rfl
          have t2 := hq6.frozen 2
          have hq9 := ((hq6.set 0 (.int .i64 f.p.rule)).set 1 (.int .i64 f.p.at_)).set 2 (.slice (some ⟨g', 0, none⟩) c.length cap')
          have z0 := hq9.cell (q := 0) rfl
          have z1 := hq9.cell (q := 1) rfl
          have z2 := hq9.cell (q := 2) rfl
          have hB9 := ((hB6.setCell (p := ⟨w.heap.size + 1, 0, none⟩) (by simp) (.int .i64 f.p.rule)).setCell (p := ⟨w.heap.size + 1, 1, none⟩) (by simp) (.int .i64 f.p.at_)).setCell (p := ⟨w.heap.size + 1, 2, none⟩) (by simp) (.slice (some ⟨g', 0, none⟩) c.length cap')
          have hv9 : Hid (ChV w.heap.size (((w6.setCell ⟨w.heap.size + 1, 0, none⟩ (.int .i64 f.p.rule)).setCell ⟨w.heap.size + 1, 1, none⟩ (.int .i64 f.p.at_)).setCell ⟨w.heap.size + 1, 2, none⟩ (.slice (some ⟨g', 0, none⟩) c.length cap')) (.slice (some ⟨g', 0, none⟩) c.length cap') (some c)) := by
            refine ⟨g', cap', rfl, own_base (base := w5.heap.size) (ownsRow_setCell_below (ownsRow_setCell_below (ownsRow_setCell_below hown ?_ _) ?_ _) ?_ _) (by have := hB5.size; omega)⟩ <;> (show _ < w5.heap.size; simp only; omega)
          clear hown hc
          clear hre k0 k1 k2 k3 n3
          go_wp2
          refine bodyPost_ret (v := .tuple #[.agg #[.int .i64 (f.p.rule), .int .i64 (f.p.at_), .slice (some ⟨g', 0, none⟩) c.length cap'], .nilIface]) (by simp [results, Tryd.results8, go_sem, z0, z1, z2]; try rfl) rfl ?_
          exact ⟨⟨_, _, _, _, (0, none), some c, rfl, hv9.out, rfl, Hr2.out⟩, hB9⟩
        · have hre := reason_eq ta na ra tc nc rc g (w2.heap.size + 1) a b f w5 (by rw [← hxx]; exact hr5)
          have Hr2 : Hid (WhyR g a b x (0, none) f.p.rule f.p.at_ none) := .inr (.inr ⟨Hc.out, Hin.out, Vl, Vr, HL, HR, .inr ⟨f, hf, rfl, rfl, rfl, .inl ⟨hxx, rfl⟩⟩⟩)
          clear hxx hn1 hn3 hfr hfa hfb hfm hf hr6 hr5
          go_wp2_with fail
          refine hre.mono ?_
          rintro e w6 ⟨rfl, hb6⟩
          have hB6 : Below w.heap.size w w6 := hB5.trans (hb6.mono (by have := hB5.size; omega))
          have hq6 := hq5.below hb6 hq5.lt
          have s0 := hq6.cell (q := 0) rfl
          have t0 := hq6.frozen 0
          have s1 := hq6.cell (q := 1) rfl
          have t1 := hq6.frozen 1
          have s2 := hq6.cell (q := 2) rfl
          have t2 := hq6.frozen 2
          have hq9 := ((hq6.set 0 (.int .i64 f.p.rule)).set 1 (.int .i64 f.p.at_)).set 2 (.slice none 0 0)
          have z0 := hq9.cell (q := 0) rfl
          have z1 := hq9.cell (q := 1) rfl
          have z2 := hq9.cell (q := 2) rfl
          have hB9 := ((hB6.setCell (p := ⟨w.heap.size + 1, 0, none⟩) (by simp) (.int .i64 f.p.rule)).setCell (p := ⟨w.heap.size + 1, 1, none⟩) (by simp) (.int .i64 f.p.at_)).setCell (p := ⟨w.heap.size + 1, 2, none⟩) (by simp) (.slice none 0 0)
          clear hre k0 k1 k2 k3 n3
          go_wp2
          refine bodyPost_ret (v := .tuple #[.agg #[.int .i64 (f.p.rule), .int .i64 (f.p.at_), .slice none 0 0], .nilIface]) (by simp [results, Tryd.results8, go_sem, z0, z1, z2]; try rfl) rfl ?_
          exact ⟨⟨_, _, _, _, (0, none), none, rfl, rfl, rfl, Hr2.out⟩, hB9⟩
        · have hre := reason_take ta na ra tc nc rc g (w2.heap.size + 1) a b f p w5 (by rw [← hxx]; exact hr5) (hG.below hB5 (Nat.le_refl _)) hg htc hnc (hE.below hB5 (Nat.le_refl _)) (fun z o h => by
            obtain ⟨h1, h2⟩ := hn3 (hfr.trans hxx)
            rw [hfa] at h1 h2
            exact chain_there Hc.out h1 h2 h)
          have Hr : Hid (∀ c, ChainR g f.p.non a true (0, none) (some c) → WhyR g a b x (0, none) f.p.rule f.p.at_ (some c)) := fun c hc => .inr (.inr ⟨Hc.out, Hin.out, Vl, Vr, HL, HR, .inr ⟨f, hf, rfl, rfl, rfl, .inr (.inr ⟨hxx, c, rfl, hc⟩)⟩⟩)
          clear hxx hn1 hn3 hfr hfa hfb hfm hf hr6 hr5
          go_wp2_with fail
          refine hre.mono ?_
          rintro e w6 ⟨⟨v, c, rfl, hv, hc⟩, hb6⟩
          have Hr2 : Hid (WhyR g a b x (0, none) f.p.rule f.p.at_ (some c)) := Hr.out c hc
          obtain ⟨g', cap', rfl, hown⟩ := hv
          have hB6 : Below w.heap.size w w6 := hB5.trans (hb6.mono (by have := hB5.size; omega))
          have hq6 := hq5.below hb6 hq5.lt
          have s0 := hq6.cell (q := 0) rfl
          have t0 := hq6.frozen 0
          have s1 := hq6.cell (q := 1) rfl
          have t1 := hq6.frozen 1
          have s2 := hq6.cell (q := 2) rfl
          have t2 := hq6.frozen 2
          have hq9 := ((hq6.set 0 (.int .i64 f.p.rule)).set 1 (.int .i64 f.p.at_)).set 2 (.slice (some ⟨g', 0, none⟩) c.length cap')
          have z0 := hq9.cell (q := 0) rfl
          have z1 := hq9.cell (q := 1) rfl
          have z2 := hq9.cell (q := 2) rfl
          have hB9 := ((hB6.setCell (p := ⟨w.heap.size + 1, 0, none⟩) (by simp) (.int .i64 f.p.rule)).setCell (p := ⟨w.heap.size + 1, 1, none⟩) (by simp) (.int .i64 f.p.at_)).setCell (p := ⟨w.heap.size + 1, 2, none⟩) (by simp) (.slice (some ⟨g', 0, none⟩) c.length cap')
          have hv9 : Hid (ChV w.heap.size (((w6.setCell ⟨w.heap.size + 1, 0, none⟩ (.int .i64 f.p.rule)).setCell ⟨w.heap.size + 1, 1, none⟩ (.int .i64 f.p.at_)).setCell ⟨w.heap.size + 1, 2, none⟩ (.slice (some ⟨g', 0, none⟩) c.length cap')) (.slice (some ⟨g', 0, none⟩) c.length cap') (some c)) := by
            refine ⟨g', cap', rfl, own_base (base := w5.heap.size) (ownsRow_setCell_below (ownsRow_setCell_below (ownsRow_setCell_below hown ?_ _) ?_ _) ?_ _) (by have := hB5.size; omega)⟩ <;> (show _ < w5.heap.size; simp only; omega)
          clear hown hc
          clear hre k0 k1 k2 k3 n3
          go_wp2
          refine bodyPost_ret (v := .tuple #[.agg #[.int .i64 (f.p.rule), .int .i64 (f.p.at_), .slice (some ⟨g', 0, none⟩) c.length cap'], .nilIface]) (by simp [results, Tryd.results8, go_sem, z0, z1, z2]; try rfl) rfl ?_
          exact ⟨⟨_, _, _, _, (0, none), some c, rfl, hv9.out, rfl, Hr2.out⟩, hB9⟩
    · have Hr : Hid (WhyR g a b x (1, none) 0 0 none) := .inr (.inl ⟨Hc.out, hin, rfl, rfl, rfl, rfl⟩)
      unfold InW at hin
      by_cases x1 : a < 0
      · have dx1 : decide (a < 0) = true := by simpa using x1
        clear hin
        have s0 := hq3.cell (q := 0) rfl
        have t0 := hq3.frozen 0
        have s1 := hq3.cell (q := 1) rfl
        have t1 := hq3.frozen 1
        have s2 := hq3.cell (q := 2) rfl
        have t2 := hq3.frozen 2
        have hq9 := ((hq3.set 0 (.int .i64 0)).set 1 (.int .i64 0)).set 2 (.slice none 0 0)
        have z0 := hq9.cell (q := 0) rfl
        have z1 := hq9.cell (q := 1) rfl
        have z2 := hq9.cell (q := 2) rfl
        have hB9 := ((hB3.setCell (p := ⟨w.heap.size + 1, 0, none⟩) (by simp) (.int .i64 0)).setCell (p := ⟨w.heap.size + 1, 1, none⟩) (by simp) (.int .i64 0)).setCell (p := ⟨w.heap.size + 1, 2, none⟩) (by simp) (.slice none 0 0)
        go_wp2
        rw [← hW3]
        clear hW3 g0' l1'
        go_region
        go_wp2
        refine bodyPost_ret (v := .tuple #[.agg #[.int .i64 (0), .int .i64 (0), .slice none 0 0], .iface 189 (.pointer (some (p 1)))]) (by simp [results, Tryd.results8, go_sem, z0, z1, z2]; try rfl) rfl ?_
        exact ⟨⟨_, _, _, _, (1, none), none, rfl, rfl, rfl, Hr.out⟩, ⟨hB9.os, hB9.tape, hB9.output, hB9.size, hB9.block⟩⟩
      · have dx1 : decide (a < 0) = false := by simpa using x1
        by_cases x2 : (g.ts.length : Int) < a
        · have dx2 : decide ((g.ts.length : Int) < a) = true := by simpa using x2
          clear hin
          have s0 := hq3.cell (q := 0) rfl
          have t0 := hq3.frozen 0
          have s1 := hq3.cell (q := 1) rfl
          have t1 := hq3.frozen 1
          have s2 := hq3.cell (q := 2) rfl
          have t2 := hq3.frozen 2
          have hq9 := ((hq3.set 0 (.int .i64 0)).set 1 (.int .i64 0)).set 2 (.slice none 0 0)
          have z0 := hq9.cell (q := 0) rfl
          have z1 := hq9.cell (q := 1) rfl
          have z2 := hq9.cell (q := 2) rfl
          have hB9 := ((hB3.setCell (p := ⟨w.heap.size + 1, 0, none⟩) (by simp) (.int .i64 0)).setCell (p := ⟨w.heap.size + 1, 1, none⟩) (by simp) (.int .i64 0)).setCell (p := ⟨w.heap.size + 1, 2, none⟩) (by simp) (.slice none 0 0)
          go_wp2
          rw [← hW3]
          clear hW3 g0' l1'
          go_region
          go_wp2
          refine bodyPost_ret (v := .tuple #[.agg #[.int .i64 (0), .int .i64 (0), .slice none 0 0], .iface 189 (.pointer (some (p 1)))]) (by simp [results, Tryd.results8, go_sem, z0, z1, z2]; try rfl) rfl ?_
          exact ⟨⟨_, _, _, _, (1, none), none, rfl, rfl, rfl, Hr.out⟩, ⟨hB9.os, hB9.tape, hB9.output, hB9.size, hB9.block⟩⟩
        · have dx2 : decide ((g.ts.length : Int) < a) = false := by simpa using x2
          by_cases x3 : b < 0
          · have dx3 : decide (b < 0) = true := by simpa using x3
            clear hin
            have s0 := hq3.cell (q := 0) rfl
            have t0 := hq3.frozen 0
            have s1 := hq3.cell (q := 1) rfl
            have t1 := hq3.frozen 1
            have s2 := hq3.cell (q := 2) rfl
            have t2 := hq3.frozen 2
            have hq9 := ((hq3.set 0 (.int .i64 0)).set 1 (.int .i64 0)).set 2 (.slice none 0 0)
            have z0 := hq9.cell (q := 0) rfl
            have z1 := hq9.cell (q := 1) rfl
            have z2 := hq9.cell (q := 2) rfl
            have hB9 := ((hB3.setCell (p := ⟨w.heap.size + 1, 0, none⟩) (by simp) (.int .i64 0)).setCell (p := ⟨w.heap.size + 1, 1, none⟩) (by simp) (.int .i64 0)).setCell (p := ⟨w.heap.size + 1, 2, none⟩) (by simp) (.slice none 0 0)
            go_wp2
            rw [← hW3]
            clear hW3 g0' l1'
            go_region
            go_wp2
            refine bodyPost_ret (v := .tuple #[.agg #[.int .i64 (0), .int .i64 (0), .slice none 0 0], .iface 189 (.pointer (some (p 1)))]) (by simp [results, Tryd.results8, go_sem, z0, z1, z2]; try rfl) rfl ?_
            exact ⟨⟨_, _, _, _, (1, none), none, rfl, rfl, rfl, Hr.out⟩, ⟨hB9.os, hB9.tape, hB9.output, hB9.size, hB9.block⟩⟩
          · have dx3 : decide (b < 0) = false := by simpa using x3
            by_cases x4 : (g.ts.length : Int) < b
            · have dx4 : decide ((g.ts.length : Int) < b) = true := by simpa using x4
              clear hin
              have s0 := hq3.cell (q := 0) rfl
              have t0 := hq3.frozen 0
              have s1 := hq3.cell (q := 1) rfl
              have t1 := hq3.frozen 1
              have s2 := hq3.cell (q := 2) rfl
              have t2 := hq3.frozen 2
              have hq9 := ((hq3.set 0 (.int .i64 0)).set 1 (.int .i64 0)).set 2 (.slice none 0 0)
              have z0 := hq9.cell (q := 0) rfl
              have z1 := hq9.cell (q := 1) rfl
              have z2 := hq9.cell (q := 2) rfl
              have hB9 := ((hB3.setCell (p := ⟨w.heap.size + 1, 0, none⟩) (by simp) (.int .i64 0)).setCell (p := ⟨w.heap.size + 1, 1, none⟩) (by simp) (.int .i64 0)).setCell (p := ⟨w.heap.size + 1, 2, none⟩) (by simp) (.slice none 0 0)
              go_wp2
              rw [← hW3]
              clear hW3 g0' l1'
              go_region
              go_wp2
              refine bodyPost_ret (v := .tuple #[.agg #[.int .i64 (0), .int .i64 (0), .slice none 0 0], .iface 189 (.pointer (some (p 1)))]) (by simp [results, Tryd.results8, go_sem, z0, z1, z2]; try rfl) rfl ?_
              exact ⟨⟨_, _, _, _, (1, none), none, rfl, rfl, rfl, Hr.out⟩, ⟨hB9.os, hB9.tape, hB9.output, hB9.size, hB9.block⟩⟩
            · have dx4 : decide ((g.ts.length : Int) < b) = false := by simpa using x4
              by_cases x5 : x < 1
              · have dx5 : decide (x < 1) = true := by simpa using x5
                clear hin
                have s0 := hq3.cell (q := 0) rfl
                have t0 := hq3.frozen 0
                have s1 := hq3.cell (q := 1) rfl
                have t1 := hq3.frozen 1
                have s2 := hq3.cell (q := 2) rfl
                have t2 := hq3.frozen 2
                have hq9 := ((hq3.set 0 (.int .i64 0)).set 1 (.int .i64 0)).set 2 (.slice none 0 0)
                have z0 := hq9.cell (q := 0) rfl
                have z1 := hq9.cell (q := 1) rfl
                have z2 := hq9.cell (q := 2) rfl
                have hB9 := ((hB3.setCell (p := ⟨w.heap.size + 1, 0, none⟩) (by simp) (.int .i64 0)).setCell (p := ⟨w.heap.size + 1, 1, none⟩) (by simp) (.int .i64 0)).setCell (p := ⟨w.heap.size + 1, 2, none⟩) (by simp) (.slice none 0 0)
                go_wp2
                rw [← hW3]
                clear hW3 g0' l1'
                go_region
                go_wp2
                refine bodyPost_ret (v := .tuple #[.agg #[.int .i64 (0), .int .i64 (0), .slice none 0 0], .iface 189 (.pointer (some (p 1)))]) (by simp [results, Tryd.results8, go_sem, z0, z1, z2]; try rfl) rfl ?_
                exact ⟨⟨_, _, _, _, (1, none), none, rfl, rfl, rfl, Hr.out⟩, ⟨hB9.os, hB9.tape, hB9.output, hB9.size, hB9.block⟩⟩
              · have dx5 : decide (x < 1) = false := by simpa using x5
                have x6 : 3 < x := by omega
                have dx6 : decide (3 < x) = true := by simpa using x6
                clear hin
                have s0 := hq3.cell (q := 0) rfl
                have t0 := hq3.frozen 0
                have s1 := hq3.cell (q := 1) rfl
                have t1 := hq3.frozen 1
                have s2 := hq3.cell (q := 2) rfl
                have t2 := hq3.frozen 2
                have hq9 := ((hq3.set 0 (.int .i64 0)).set 1 (.int .i64 0)).set 2 (.slice none 0 0)
                have z0 := hq9.cell (q := 0) rfl
                have z1 := hq9.cell (q := 1) rfl
                have z2 := hq9.cell (q := 2) rfl
                have hB9 := ((hB3.setCell (p := ⟨w.heap.size + 1, 0, none⟩) (by simp) (.int .i64 0)).setCell (p := ⟨w.heap.size + 1, 1, none⟩) (by simp) (.int .i64 0)).setCell (p := ⟨w.heap.size + 1, 2, none⟩) (by simp) (.slice none 0 0)
                go_wp2
                rw [← hW3]
                clear hW3 g0' l1'
                go_region
                go_wp2
                refine bodyPost_ret (v := .tuple #[.agg #[.int .i64 (0), .int .i64 (0), .slice none 0 0], .iface 189 (.pointer (some (p 1)))]) (by simp [results, Tryd.results8, go_sem, z0, z1, z2]; try rfl) rfl ?_
                exact ⟨⟨_, _, _, _, (1, none), none, rfl, rfl, rfl, Hr.out⟩, ⟨hB9.os, hB9.tape, hB9.output, hB9.size, hB9.block⟩⟩
  · obtain ⟨tt, yy, rfl⟩ := ck_iface hx hc
    have hb3 : Below w2.heap.size w2 (w2.alloc (.cells #[.slice none 0 0, .slice none 0 0] 70)) := (Below.refl _ _).alloc (Nat.le_refl _) _
    have hz3 : (w2.alloc (.cells #[.slice none 0 0, .slice none 0 0] 70)).heap.size = w2.heap.size + 1 := by simp
    have hB3 := hB2.trans (hb3.mono (by omega))
    have hq3 := hq2.below hb3 hq2.lt
    have hx3 : Hid (CkV w.heap.size p (checkG g) (((w2.alloc (.cells #[.slice none 0 0, .slice none 0 0] 70)).setCell ⟨w.heap.size + 1, 0, none⟩ (.int .i64 0)).setCell ⟨w.heap.size + 1, 1, none⟩ (.int .i64 0) |>.setCell ⟨w.heap.size + 1, 2, none⟩ (.slice none 0 0)) (.iface tt yy)) := ((((hx.below hb3 (Nat.le_refl _)).far (b := w.heap.size + 1) (hB := by omega)).far (b := w.heap.size + 1) (hB := by omega)).far (b := w.heap.size + 1) (hB := by omega)).mono (base' := w.heap.size) (by omega)
    have Hc : Hid (WhyR g a b x (checkG g) 0 0 none) := .inl ⟨hc, rfl, rfl, rfl, rfl⟩
    clear hc hx hq2 hB2 hb3
    have s0 := hq3.cell (q := 0) rfl
    have t0 := hq3.frozen 0
    have s1 := hq3.cell (q := 1) rfl
    have t1 := hq3.frozen 1
    have s2 := hq3.cell (q := 2) rfl
    have t2 := hq3.frozen 2
    have hq9 := ((hq3.set 0 (.int .i64 0)).set 1 (.int .i64 0)).set 2 (.slice none 0 0)
    have z0 := hq9.cell (q := 0) rfl
    have z1 := hq9.cell (q := 1) rfl
    have z2 := hq9.cell (q := 2) rfl
    have hB9 := ((hB3.setCell (p := ⟨w.heap.size + 1, 0, none⟩) (by simp) (.int .i64 0)).setCell (p := ⟨w.heap.size + 1, 1, none⟩) (by simp) (.int .i64 0)).setCell (p := ⟨w.heap.size + 1, 2, none⟩) (by simp) (.slice none 0 0)
    go_wp2
    refine bodyPost_ret (v := .tuple #[.agg #[.int .i64 (0), .int .i64 (0), .slice none 0 0], .iface tt yy]) (by simp [results, Tryd.results8, go_sem, z0, z1, z2]; try rfl) rfl ?_
    exact ⟨⟨_, _, _, _, _, none, rfl, rfl, hx3.out, Hc.out⟩, hB9⟩

end Go.Proofs.YtpdkjblmpgmcjaaDoor.MatrixWhyFn
