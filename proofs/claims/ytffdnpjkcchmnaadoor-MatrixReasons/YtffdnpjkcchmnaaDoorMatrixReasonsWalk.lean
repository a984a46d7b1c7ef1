/-
  The walk of MatrixReasons: it answers true for every grammar, pair and relation, and writes nothing that was there.
-/
import Derived.Test.YtffdnpjkcchmnaaDoorMatrixAwake
import Derived.Test.YtffdnpjkcchmnaaDoorMatrixSymbol
namespace Go.Proofs.YtffdnpjkcchmnaaDoor.MatrixReasonsW
open Go.RowKit Go.Proofs.YtffdnpjkcchmnaaDoor.GramMath Go.Proofs.YtffdnpjkcchmnaaDoor.GramRow Go.Proofs.YtffdnpjkcchmnaaDoor.GramCheck Go.Proofs.YtffdnpjkcchmnaaDoor.GramErrs Go.Proofs.YtffdnpjkcchmnaaDoor.GramApart Go.Proofs.YtffdnpjkcchmnaaDoor.EndsMath Go.Proofs.YtffdnpjkcchmnaaDoor.EndsFn Go.Proofs.YtffdnpjkcchmnaaDoor.EndsSearch Go.Proofs.YtffdnpjkcchmnaaDoor.EndsChain Go.Proofs.YtffdnpjkcchmnaaDoor.GramOpen Go.Proofs.YtffdnpjkcchmnaaDoor.SetsAlg Go.Proofs.YtffdnpjkcchmnaaDoor.MatrixMath Go.Proofs.YtffdnpjkcchmnaaDoor.MatrixPut Go.Proofs.YtffdnpjkcchmnaaDoor.MatrixOf Go.Proofs.YtffdnpjkcchmnaaDoor.MatrixAwake Go.Proofs.YtffdnpjkcchmnaaDoor.MatrixKeep Go.Proofs.YtffdnpjkcchmnaaDoor.MatrixReason Go.Proofs.YtffdnpjkcchmnaaDoor.MatrixWhyMath Go.Proofs.YtffdnpjkcchmnaaDoor.MatrixWhyFn Go.Proofs.YtffdnpjkcchmnaaDoor.MatrixReasonsMath Go.Proofs.YtffdnpjkcchmnaaDoor.MatrixSymbol
set_option linter.unusedVariables false
set_option linter.unusedSimpArgs false

theorem chain_in {g : G} {n t : Int} {b : Bool} {c : List Int} (h : ChainR g n t b (0, none) (some c)) : InG g n t := by
  rcases h with ⟨_, _, h⟩ | ⟨_, _, _, h⟩ | ⟨_, h, _⟩
  · cases h
  · cases h
  · exact h

set_option maxRecDepth 100000 in
set_option maxHeartbeats 16000000 in
theorem walk (ta na ra : Option Addr) (tc nc rc : Nat) (g : G) (a b x : Int) (p : Nat → Addr) (w : World) (hG : GRow w ta na ra g) (hcap : Caps w ra g.rs.length) (hg : okG g) (htc : g.ts.length ≤ tc) (hnc : g.ns.length ≤ nc) (hE : Errs w p) (hT : Tab w) (hTG : 16 < w.heap.size) :
    Calls Tryd.prog 6 #[.agg #[.slice ta g.ts.length tc, .slice na g.ns.length nc, .int .i64 g.ax, .slice ra g.rs.length rc], .int .i64 a, .int .i64 b, .int .i64 x] w fun e w' => e = .returned (.bool true) ∧ Below w.heap.size w w' := by
  have hneq := neq_nil
  have heql := eql_nil
  have hneq0 : ∀ W : World, (binOp .neq 31 .nilIface .nilIface).run Tryd.prog W = .ok (.bool false) W := fun W => by kernel_rfl
  have hB : Below w.heap.size w (w.alloc (.cells #[.slice ta g.ts.length tc, .slice na g.ns.length nc, .int .i64 g.ax, .slice ra g.rs.length rc] 25)) := (Below.refl _ _).alloc (Nat.le_refl _) _
  have hbx := rowN w #[.slice ta g.ts.length tc, .slice na g.ns.length nc, .int .i64 g.ax, .slice ra g.rs.length rc] 25
  have hof := MOf_top ta na ra tc nc rc g p _ (hG.below hB (Nat.le_refl _)) (caps_below hG.2.2 hcap hB (Nat.le_refl _)) hg htc hnc (hE.sents.below hB (Nat.le_refl _)) (SetsEach.Tab.from hT hB hTG) (by simp; omega)
  go_enter Tryd.func6, Tryd.ntmps6
  go_wp2_with fail
  refine hof.mono ?_
  rintro e w1 ⟨⟨u, y, rfl, hO, hy⟩, hb⟩
  replace hB := hB.trans (hb.mono hB.size)
  replace hbx := hbx.below hb hbx.lt
  have hsz := hB.size
  clear hof hb
  have g0 := hbx.cell (q := 0) rfl
  have g1 := hbx.cell (q := 1) rfl
  have g2 := hbx.cell (q := 2) rfl
  have g3 := hbx.cell (q := 3) rfl
  have hwh := Why_top ta na ra tc nc rc g a b x p w1 (hG.below hB (Nat.le_refl _)) (caps_below hG.2.2 hcap hB (Nat.le_refl _)) hg htc hnc (hE.below hB (Nat.le_refl _)) (SetsEach.Tab.from hT hB hTG) (by omega)
  rcases hO with ⟨h0, M, S, rfl, hMg, hm, him⟩ | ⟨h0, rfl⟩
  · obtain rfl := ck_nil hy h0
    have hgood := good_of h0
    have hfew := hgood.few
    have hax0 := hgood.ax0
    have hax1 := hgood.ax1
    clear hy
    go_wp2_with fail
    refine hwh.mono ?_
    rintro e w2 ⟨⟨rule, at_, v, y2, z, o, rfl, hv, hy2, hR⟩, hb⟩
    obtain ⟨va, vc, rfl, hla⟩ := EndsTurnedW.chv_row hv
    replace hB := hB.trans (hb.mono hB.size)
    replace hbx := hbx.below hb hbx.lt
    replace hm := hm.below hb hm.lt
    clear hwh hb hv g0 g1 g2 g3
    obtain ⟨W3, hW3⟩ : ∃ W3, W3 = w2.alloc (.cells #[.int .i64 rule, .int .i64 at_, .slice va (o.getD []).length vc] 29) := ⟨_, rfl⟩
    have hb : Below w2.heap.size w2 W3 := by rw [hW3]; exact (Below.refl _ _).alloc (Nat.le_refl _) _
    have hrx : RowAt W3 w2.heap.size 29 #[.int .i64 rule, .int .i64 at_, .slice va (o.getD []).length vc] := by rw [hW3]; exact rowN _ _ _
    replace hB := hB.trans (hb.mono hB.size)
    replace hbx := hbx.below hb hbx.lt
    replace hm := hm.below hb hm.lt
    replace hla := hla.below hb (Nat.le_refl _)
    replace hy2 := hy2.below hb (Nat.le_refl _)
    have hsz2 := hB.size
    have haw := awake_any p W3 (hE.sents.below hB (Nat.le_refl _)) (SetsEach.Tab.from hT hB hTG) (by omega)
    rw [hW3] at haw
    go_wp2_with fail
    refine haw.mono ?_
    rw [← hW3]
    clear hW3 haw
    rintro e w4 ⟨rfl, hb⟩
    replace hB := hB.trans (hb.mono hB.size)
    replace hbx := hbx.below hb hbx.lt
    replace hrx := hrx.below hb hrx.lt
    replace hm := hm.below hb hm.lt
    replace hla := hla.below hb (Nat.le_refl _)
    replace hy2 := hy2.below hb (Nat.le_refl _)
    clear hb
    have g0 := hbx.cell (q := 0) rfl
    have HN : Hid (∀ t : Int, holdsB ((g.ts.length + 1 : Nat) : Int) S g.ts.length t 2 = false ∧ holdsB ((g.ts.length + 1 : Nat) : Int) S g.ts.length t 3 = false ∧ holdsB ((g.ts.length + 1 : Nat) : Int) S t g.ts.length 1 = false ∧ holdsB ((g.ts.length + 1 : Nat) : Int) S t g.ts.length 2 = false) := fun t => by
      obtain ⟨e1, e2, e3, e4⟩ := rel_end hgood (t := t)
      have key : ∀ (a b x : Int), 1 ≤ x → x ≤ 3 → ¬ Rel g x a b → holdsB ((g.ts.length + 1 : Nat) : Int) S a b x = false := fun a b x h1 h3 hn => by
        cases hh : holdsB ((g.ts.length + 1 : Nat) : Int) S a b x with
        | false => rfl
        | true => exact absurd ((holds_iff hgood him h1 h3).1 hh) hn
      exact ⟨key _ _ _ (by decide) (by decide) e1, key _ _ _ (by decide) (by decide) e2, key _ _ _ (by decide) (by decide) e3, key _ _ _ (by decide) (by decide) e4⟩
    have HH : Hid (∀ a b x : Int, Calls Tryd.prog 27 #[.pointer (some ⟨M, 0, none⟩), .int .i64 a, .int .i64 b, .int .i64 x] w4 fun e w' => e = .returned (.bool (holdsB ((g.ts.length + 1 : Nat) : Int) S a b x)) ∧ w' = w4) := fun a b x => holds_any M _ S a b x w4 hm (by omega)
    have hTi : (g.ts.length : Int) ≤ 60 := by omega
    go_wp2_with fail
    go_loopw [14] (fun i wr => ∃ k : Nat, k ≤ g.ts.length + 1 ∧ i = .int .i64 k ∧ wr = w4) (fun i _ => g.ts.length + 1 - (intOf i).toNat)
    case atStart => exact ⟨0, by omega, rfl, rfl⟩
    case round =>
      obtain ⟨k, hk, rfl, hwr⟩ := hrel
      replace hwr := hwr.symm
      subst hwr
      by_cases hlt : k ≤ g.ts.length
      · have hlt2 : (k : Int) ≤ (g.ts.length : Int) := by omega
        obtain ⟨n1, n2, n3, n4⟩ := HN.out k
        have q1 := HH.out g.ts.length k 2
        have q2 := HH.out g.ts.length k 3
        have q3 := HH.out k g.ts.length 1
        have q4 := HH.out k g.ts.length 2
        rw [n1] at q1
        rw [n2] at q2
        rw [n3] at q3
        rw [n4] at q4
        clear n1 n2 n3 n4
        go_wp2_with fail
        refine q1.mono ?_
        rintro e w6 ⟨rfl, hw6⟩
        obtain rfl := hw6.symm
        clear q1
        go_wp2_with fail
        refine q2.mono ?_
        rintro e w6 ⟨rfl, hw6⟩
        obtain rfl := hw6.symm
        clear q2
        go_wp2_with fail
        refine q3.mono ?_
        rintro e w6 ⟨rfl, hw6⟩
        obtain rfl := hw6.symm
        clear q3
        go_wp2_with fail
        refine q4.mono ?_
        rintro e w6 ⟨rfl, hw6⟩
        obtain rfl := hw6.symm
        clear q4
        go_wp2
        go_roundw
        case rel => exact ⟨k + 1, by omega, by go_num, trivial⟩
        case measure => simp [intOf]; omega
      · have hnk : ¬ (k : Int) ≤ (g.ts.length : Int) := by omega
        by_cases hin : InW g a b x
        · obtain ⟨⟨ha0, ha1⟩, ⟨hb0, hb1⟩, ⟨hx1, hx3⟩⟩ := id hin
          have x1 : decide (a < 0) = false := by simpa using ha0
          have x2 : decide ((g.ts.length : Int) < a) = false := by simpa using ha1
          have x3 : decide (b < 0) = false := by simpa using hb0
          have x4 : decide ((g.ts.length : Int) < b) = false := by simpa using hb1
          have x5 : decide (x < 1) = false := by simp; omega
          have x6 : decide (3 < x) = false := by simpa using hx3
          have y1 : ¬ a < 0 := by omega
          have y2' : ¬ (g.ts.length : Int) < a := by omega
          have y3 : ¬ b < 0 := by omega
          have y4 : ¬ (g.ts.length : Int) < b := by omega
          have y5 : ¬ x < 1 := by omega
          have y6 : ¬ 3 < x := by omega
          have hh := HH.out a b x
          have hii := holds_iff hgood him (a := a) (b := b) hx1 hx3
          obtain ⟨VL, VR, HL, HR, hW⟩ : ∃ VL VR, IsEnds false g VL ∧ IsEnds true g VR ∧ ((firstF x a b (findsF VL VR g) = none ∧ z = (15, none) ∧ rule = 0 ∧ at_ = 0 ∧ o = none) ∨
     ∃ f, firstF x a b (findsF VL VR g) = some f ∧ z = (0, none) ∧ rule = f.p.rule ∧ at_ = f.p.at_ ∧
       ((x = 2 ∧ o = none) ∨ (x = 1 ∧ ∃ c, o = some c ∧ ChainR g f.p.non b false (0, none) (some c)) ∨ (x = 3 ∧ ∃ c, o = some c ∧ ChainR g f.p.non a true (0, none) (some c)))) := by
            rcases hR with ⟨h1, _⟩ | ⟨_, h1, _⟩ | ⟨_, _, h1⟩
            · exact absurd h0 h1
            · exact absurd hin h1
            · exact h1
          rcases hW with ⟨hf, rfl, rfl, rfl, rfl⟩ | ⟨f, hf, rfl, hru, hat, hcs⟩
          · have hno : holdsB ((g.ts.length + 1 : Nat) : Int) S a b x = false := by
              cases hh2 : holdsB ((g.ts.length + 1 : Nat) : Int) S a b x with
              | false => rfl
              | true => exact absurd ((finds_iff hgood HL HR).2 (hii.1 hh2)) (first_not hf)
            rw [hno] at hh
            clear hii hno HN HH hR hin
            go_wp2_with fail
            refine hh.mono ?_
            rintro e w6 ⟨rfl, hw6⟩
            obtain rfl := hw6.symm
            have hkk := kind_ck _ p (15, none) w4 y2 (hE.below hB (Nat.le_refl _)) (by decide) hy2
            clear hh
            go_wp2_with fail
            refine hkk.mono ?_
            rintro e w7 ⟨rfl, hb⟩
            replace hB := hB.trans (hb.mono hB.size)
            replace hrx := hrx.below hb hrx.lt
            have r2 := hrx.cell (q := 2) rfl
            clear hkk hb
            go_wp2
            go_ret
            exact ⟨rfl, hB⟩
          · have hyes : holdsB ((g.ts.length + 1 : Nat) : Int) S a b x = true := hii.2 ((finds_iff hgood HL HR).1 ⟨f, (first_in hf).1, (first_in hf).2⟩)
            rw [hyes] at hh
            obtain ⟨hfm, hfr, hfa, hfb⟩ := first_in hf
            obtain ⟨pl1, pl2, pl3, ⟨hr0, hr1⟩, ⟨hA0, hA1⟩⟩ := finds_place hgood HL HR hfm
            rw [hfr] at pl1 pl2 pl3
            rw [hfa] at pl1 pl2
            rw [hfb] at pl2 pl3
            rw [← hru, ← hat] at pl1 pl2 pl3
            rw [← hru] at hr0 hr1
            rw [← hat] at hA0 hA1
            have hpz : f.p = ⟨-1, 0, g.ax⟩ → rule = -1 ∧ at_ = 0 ∧ f.p.non = g.ax := fun h => by rw [hru, hat, h]; exact ⟨rfl, rfl, rfl⟩
            obtain rfl : y2 = .nilIface := hy2
            clear hii hyes HN HH hR hin hfr hfa hfb hfm hf hru hat
            go_wp2_with fail
            refine hh.mono ?_
            rintro e w6 ⟨rfl, hw6⟩
            obtain rfl := hw6.symm
            clear hh
            obtain ⟨s1, hs1⟩ : ∃ s1, symI g rule at_ = s1 := ⟨_, rfl⟩
            obtain ⟨s2, hs2⟩ : ∃ s2, symI g rule (at_ + 1) = s2 := ⟨_, rfl⟩
            have hsy := symbol_any ta na ra tc nc rc g rule at_ w4 ((hG.below hB (Nat.le_refl _)).2.2)
            rw [hs1] at hsy pl1 pl2 pl3
            rw [hs2] at pl1 pl2
            have g1 := hbx.cell (q := 1) rfl
            have g2 := hbx.cell (q := 2) rfl
            have g3 := hbx.cell (q := 3) rfl
            have r0 := hrx.cell (q := 0) rfl
            have r1 := hrx.cell (q := 1) rfl
            go_wp2_with fail
            refine hsy.mono ?_
            rintro e w7 ⟨rfl, hb⟩
            replace hB := hB.trans (hb.mono hB.size)
            replace hbx := hbx.below hb hbx.lt
            replace hrx := hrx.below hb hrx.lt
            replace hla := hla.below hb (Nat.le_refl _)
            clear hsy hb g0 g1 g2 g3 r0 r1
            have hsy := symbol_any ta na ra tc nc rc g rule (at_ + 1) w7 ((hG.below hB (Nat.le_refl _)).2.2)
            rw [hs2] at hsy
            have g0 := hbx.cell (q := 0) rfl
            have g1 := hbx.cell (q := 1) rfl
            have g2 := hbx.cell (q := 2) rfl
            have g3 := hbx.cell (q := 3) rfl
            have r0 := hrx.cell (q := 0) rfl
            have r1 := hrx.cell (q := 1) rfl
            go_wp2_with fail
            refine hsy.mono ?_
            rintro e w8 ⟨rfl, hb⟩
            replace hB := hB.trans (hb.mono hB.size)
            replace hbx := hbx.below hb hbx.lt
            replace hrx := hrx.below hb hrx.lt
            replace hla := hla.below hb (Nat.le_refl _)
            clear hsy hb g0 g1 g2 g3 r0 r1
            have g0 := hbx.cell (q := 0) rfl
            have g1 := hbx.cell (q := 1) rfl
            have g2 := hbx.cell (q := 2) rfl
            have g3 := hbx.cell (q := 3) rfl
            have r0 := hrx.cell (q := 0) rfl
            have r1 := hrx.cell (q := 1) rfl
            have r2 := hrx.cell (q := 2) rfl
            rcases hcs with ⟨rfl, rfl⟩ | ⟨rfl, c, rfl, hch⟩ | ⟨rfl, c, rfl, hch⟩
            · obtain ⟨rfl, hne⟩ := pl2 rfl
              clear pl1 pl2 pl3 hpz
              have e2 : (s1 == s1) = true := by simp
              have r2 : w8.cell? ⟨w2.heap.size, 2, none⟩ = some (.slice va 0 vc) := r2
              rcases hne with ⟨hn0, rfl⟩ | ⟨hn0, hn2⟩
              · have e3 : (s2 == s2) = true := by simp
                go_wp2
                go_ret
                exact ⟨rfl, hB⟩
              · have e3 : (s2 == b) = false := by rw [beq_eq_false_iff_ne]; omega
                have hsy := symbol_any ta na ra tc nc rc g rule (at_ + 2) w8 ((hG.below hB (Nat.le_refl _)).2.2)
                rw [hn2] at hsy
                have e4 : (b == b) = true := by simp
                go_wp2_with fail
                refine hsy.mono ?_
                rintro e w9 ⟨rfl, hb⟩
                replace hB := hB.trans (hb.mono hB.size)
                clear hsy
                go_wp2
                go_ret
                exact ⟨rfl, hB⟩
            · rcases pl1 rfl with ⟨he, hp⟩ | ⟨hlt3, rfl, hn1, hn2⟩
              · obtain ⟨rfl, rfl, hno⟩ := hpz hp
                rw [hno] at hch
                have e1 : (a == (g.ts.length : Int)) = true := by rw [beq_iff_eq]; exact he
                clear he hp hpz pl1 pl2 pl3
                have hsm : c.length ≤ 60 := EndsTurnedW.found_small hch
                have hcc := chained_any ta na ra tc nc rc g (g.ax) b false c va vc p w8 (hG.below hB (Nat.le_refl _)) hg htc hnc (hE.below hB (Nat.le_refl _)) hla (by omega) hch
                clear hch hla
                have r2 : w8.cell? ⟨w2.heap.size, 2, none⟩ = some (.slice va c.length vc) := r2
                go_wp2_with fail
                refine hcc.mono ?_
                rintro e w9 ⟨rfl, hb⟩
                replace hB := hB.trans (hb.mono hB.size)
                go_wp2
                go_ret
                exact ⟨rfl, hB⟩
              · rw [← hn2] at hch
                have e1 : (s1 == (g.ts.length : Int)) = false := by rw [beq_eq_false_iff_ne]; omega
                have e2 : (s1 == s1) = true := by simp
                have hs64 : -1 - s2 < 60 := by have := (chain_in hch).2.1; omega
                clear hpz pl1 pl2 pl3 hn2
                have hsm : c.length ≤ 60 := EndsTurnedW.found_small hch
                have hcc := chained_any ta na ra tc nc rc g (-1 - s2) b false c va vc p w8 (hG.below hB (Nat.le_refl _)) hg htc hnc (hE.below hB (Nat.le_refl _)) hla (by omega) hch
                clear hch hla
                have r2 : w8.cell? ⟨w2.heap.size, 2, none⟩ = some (.slice va c.length vc) := r2
                go_wp2_with fail
                refine hcc.mono ?_
                rintro e w9 ⟨rfl, hb⟩
                replace hB := hB.trans (hb.mono hB.size)
                go_wp2
                go_ret
                exact ⟨rfl, hB⟩
            · rcases pl3 rfl with ⟨he, hp⟩ | ⟨hlt3, rfl, hn1, hn2⟩
              · obtain ⟨rfl, rfl, hno⟩ := hpz hp
                rw [hno] at hch
                have e1 : (b == (g.ts.length : Int)) = true := by rw [beq_iff_eq]; exact he
                clear he hp hpz pl1 pl2 pl3
                have hsm : c.length ≤ 60 := EndsTurnedW.found_small hch
                have hcc := chained_any ta na ra tc nc rc g (g.ax) a true c va vc p w8 (hG.below hB (Nat.le_refl _)) hg htc hnc (hE.below hB (Nat.le_refl _)) hla (by omega) hch
                clear hch hla
                have r2 : w8.cell? ⟨w2.heap.size, 2, none⟩ = some (.slice va c.length vc) := r2
                go_wp2_with fail
                refine hcc.mono ?_
                rintro e w9 ⟨rfl, hb⟩
                replace hB := hB.trans (hb.mono hB.size)
                go_wp2
                go_ret
                exact ⟨rfl, hB⟩
              · rw [← hn2] at hch
                obtain ⟨s3, hs3⟩ : ∃ s3, symI g rule (at_ - 1) = s3 := ⟨_, rfl⟩
                rw [hs3] at hn1 hch
                have e1 : (s1 == (g.ts.length : Int)) = false := by rw [beq_eq_false_iff_ne]; omega
                have e2 : (s1 == s1) = true := by simp
                have hs64 : -1 - s3 < 60 := by have := (chain_in hch).2.1; omega
                have hsy := symbol_any ta na ra tc nc rc g rule (at_ - 1) w8 ((hG.below hB (Nat.le_refl _)).2.2)
                rw [hs3] at hsy
                clear hpz pl1 pl2 pl3 hn2
                go_wp2_with fail
                refine hsy.mono ?_
                rintro e w8 ⟨rfl, hb⟩
                replace hB := hB.trans (hb.mono hB.size)
                replace hbx := hbx.below hb hbx.lt
                replace hrx := hrx.below hb hrx.lt
                replace hla := hla.below hb (Nat.le_refl _)
                clear hsy hb g0 g1 g2 g3 r0 r1 r2
                have g0 := hbx.cell (q := 0) rfl
                have g1 := hbx.cell (q := 1) rfl
                have g2 := hbx.cell (q := 2) rfl
                have g3 := hbx.cell (q := 3) rfl
                have r2 := hrx.cell (q := 2) rfl
                have hsm : c.length ≤ 60 := EndsTurnedW.found_small hch
                have hcc := chained_any ta na ra tc nc rc g (-1 - s3) a true c va vc p w8 (hG.below hB (Nat.le_refl _)) hg htc hnc (hE.below hB (Nat.le_refl _)) hla (by omega) hch
                clear hch hla
                have r2 : w8.cell? ⟨w2.heap.size, 2, none⟩ = some (.slice va c.length vc) := r2
                go_wp2_with fail
                refine hcc.mono ?_
                rintro e w9 ⟨rfl, hb⟩
                replace hB := hB.trans (hb.mono hB.size)
                go_wp2
                go_ret
                exact ⟨rfl, hB⟩
        · have hz : z = (1, none) := by
            rcases hR with ⟨h1, _⟩ | ⟨_, _, h1, _⟩ | ⟨_, h1, _⟩
            · exact absurd h0 h1
            · exact h1
            · exact absurd h1 hin
          subst hz
          unfold InW at hin
          have hkk := kind_ck _ p (1, none) w4 y2 (hE.below hB (Nat.le_refl _)) (by decide) hy2
          clear HN HH hR
          by_cases x1 : a < 0
          · have dx1 : decide (a < 0) = true := by simpa using x1
            clear hin
            go_wp2_with fail
            refine hkk.mono ?_
            rintro e w6 ⟨rfl, hb⟩
            replace hB := hB.trans (hb.mono hB.size)
            clear hkk hb
            go_wp2
            go_ret
            exact ⟨rfl, hB⟩
          · have dx1 : decide (a < 0) = false := by simpa using x1
            by_cases x2 : (g.ts.length : Int) < a
            · have dx2 : decide ((g.ts.length : Int) < a) = true := by simpa using x2
              clear hin
              go_wp2_with fail
              refine hkk.mono ?_
              rintro e w6 ⟨rfl, hb⟩
              replace hB := hB.trans (hb.mono hB.size)
              clear hkk hb
              go_wp2
              go_ret
              exact ⟨rfl, hB⟩
            · have dx2 : decide ((g.ts.length : Int) < a) = false := by simpa using x2
              by_cases x3 : b < 0
              · have dx3 : decide (b < 0) = true := by simpa using x3
                clear hin
                go_wp2_with fail
                refine hkk.mono ?_
                rintro e w6 ⟨rfl, hb⟩
                replace hB := hB.trans (hb.mono hB.size)
                clear hkk hb
                go_wp2
                go_ret
                exact ⟨rfl, hB⟩
              · have dx3 : decide (b < 0) = false := by simpa using x3
                by_cases x4 : (g.ts.length : Int) < b
                · have dx4 : decide ((g.ts.length : Int) < b) = true := by simpa using x4
                  clear hin
                  go_wp2_with fail
                  refine hkk.mono ?_
                  rintro e w6 ⟨rfl, hb⟩
                  replace hB := hB.trans (hb.mono hB.size)
                  clear hkk hb
                  go_wp2
                  go_ret
                  exact ⟨rfl, hB⟩
                · have dx4 : decide ((g.ts.length : Int) < b) = false := by simpa using x4
                  by_cases x5 : x < 1
                  · have dx5 : decide (x < 1) = true := by simpa using x5
                    clear hin
                    go_wp2_with fail
                    refine hkk.mono ?_
                    rintro e w6 ⟨rfl, hb⟩
                    replace hB := hB.trans (hb.mono hB.size)
                    clear hkk hb
                    go_wp2
                    go_ret
                    exact ⟨rfl, hB⟩
                  · have dx5 : decide (x < 1) = false := by simpa using x5
                    have x6 : 3 < x := by omega
                    have dx6 : decide (3 < x) = true := by simpa using x6
                    clear hin
                    go_wp2_with fail
                    refine hkk.mono ?_
                    rintro e w6 ⟨rfl, hb⟩
                    replace hB := hB.trans (hb.mono hB.size)
                    clear hkk hb
                    go_wp2
                    go_ret
                    exact ⟨rfl, hB⟩
  · obtain ⟨tt, yy, rfl⟩ := ck_iface hy h0
    clear hy
    go_wp2_with fail
    refine hwh.mono ?_
    rintro e w2 ⟨⟨rule, at_, v, y2, z, o, rfl, hv, hy2, hR⟩, hb⟩
    obtain ⟨va, vc, rfl, hla⟩ := EndsTurnedW.chv_row hv
    replace hB := hB.trans (hb.mono hB.size)
    obtain ⟨t3, y3, rfl⟩ : ∃ t3 y3, y2 = .iface t3 y3 := by
      rcases hR with ⟨h1, rfl, _⟩ | ⟨h1, _⟩ | ⟨h1, _⟩
      · exact ck_iface hy2 h1
      · exact absurd h1 h0
      · exact absurd h1 h0
    have hb3 : Below w2.heap.size w2 (w2.alloc (.cells #[.int .i64 rule, .int .i64 at_, .slice va (o.getD []).length vc] 29)) := (Below.refl _ _).alloc (Nat.le_refl _) _
    replace hB := hB.trans (hb3.mono hB.size)
    have hsz2 := hB.size
    have haw := awake_any p _ (hE.sents.below hB (Nat.le_refl _)) (SetsEach.Tab.from hT hB hTG) (by omega)
    clear hR hy2 hwh hb hv hb3
    go_wp2_with fail
    refine haw.mono ?_
    rintro e w4 ⟨rfl, hb⟩
    replace hB := hB.trans (hb.mono hB.size)
    clear haw
    go_wp2
    go_ret
    exact ⟨rfl, hB⟩

end Go.Proofs.YtffdnpjkcchmnaaDoor.MatrixReasonsW
