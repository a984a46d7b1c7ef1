/-
  Two grammars: are they the same, by the program and by the statements' own look.
-/
import Derived.Test.YtcmjneabcdpmoaaDoorGramEq
namespace Go.Proofs.YtcmjneabcdpmoaaDoor.GramSame
open Go.RowKit Go.Proofs.YtcmjneabcdpmoaaDoor.GramMath Go.Proofs.YtcmjneabcdpmoaaDoor.GramRow Go.Proofs.YtcmjneabcdpmoaaDoor.GramOne
set_option linter.unusedVariables false

set_option maxRecDepth 100000 in
set_option maxHeartbeats 4000000 in
theorem grammar_any (ta na ra tb nb rb : Option Addr) (tc nc rc td nd rd : Nat) (g h : G) (w : World) (hG : GRow w ta na ra g) (hH : GRow w tb nb rb h) (og : okG g) (oh : okG h) :
    Calls Tryd.prog 24 #[.agg #[.slice ta g.ts.length tc, .slice na g.ns.length nc, .int .i64 g.ax, .slice ra g.rs.length rc], .agg #[.slice tb h.ts.length td, .slice nb h.ns.length nd, .int .i64 h.ax, .slice rb h.rs.length rd]] w fun e w' => e = .returned (.bool (eqG g h)) ∧ Below w.heap.size w w' := by
  have hB : Below w.heap.size w ((w.alloc (.cells #[.slice ta g.ts.length tc, .slice na g.ns.length nc, .int .i64 g.ax, .slice ra g.rs.length rc] 35)).alloc (.cells #[.slice tb h.ts.length td, .slice nb h.ns.length nd, .int .i64 h.ax, .slice rb h.rs.length rd] 35)) := ((Below.refl _ _).alloc (Nat.le_refl _) _).alloc (by simp) _
  obtain ⟨G1, G2, G3⟩ := hG.below hB (Nat.le_refl _)
  obtain ⟨H1, H2, H3⟩ := hH.below hB (Nat.le_refl _)
  obtain ⟨p1, p2, p3, _, p5, _⟩ := og
  obtain ⟨q1, q2, q3, _, q5, _⟩ := oh
  have hand := eqG_and g h
  have ht := fun q => strs_any ta tb tc td g.ts h.ts (World.drewN ((w.alloc (.cells #[.slice ta g.ts.length tc, .slice na g.ns.length nc, .int .i64 g.ax, .slice ra g.rs.length rc] 35)).alloc (.cells #[.slice tb h.ts.length td, .slice nb h.ns.length nd, .int .i64 h.ax, .slice rb h.rs.length rd] 35)) q) G1 H1 p1 q1
  have hn := fun q => strs_any na nb nc nd g.ns h.ns (World.drewN ((w.alloc (.cells #[.slice ta g.ts.length tc, .slice na g.ns.length nc, .int .i64 g.ax, .slice ra g.rs.length rc] 35)).alloc (.cells #[.slice tb h.ts.length td, .slice nb h.ns.length nd, .int .i64 h.ax, .slice rb h.rs.length rd] 35)) q) G2 H2 p2 q2
  have hr := fun q => rules_any ra rb rc rd g.rs h.rs (World.drewN ((w.alloc (.cells #[.slice ta g.ts.length tc, .slice na g.ns.length nc, .int .i64 g.ax, .slice ra g.rs.length rc] 35)).alloc (.cells #[.slice tb h.ts.length td, .slice nb h.ns.length nd, .int .i64 h.ax, .slice rb h.rs.length rd] 35)) q) G3 H3 p3 q3 p5 q5
  cases ht1 : eqS g.ts h.ts with
  | false =>
    rw [ht1, Bool.false_and, Bool.false_and, Bool.false_and] at hand
    have E : Hid (eqG g h = false) := hand
    rw [ht1] at ht
    clear hand ht1
    go_enter Tryd.func24, Tryd.ntmps24
    go_wp2_with fail
    refine (ht 0).mono ?_
    rintro e w1 ⟨rfl, q, rfl⟩
    go_wp2
    go_ret
    exact ⟨ret_bool E.out.symm, hB.os, hB.tape, hB.output, hB.size, hB.block⟩
  | true =>
    rw [ht1, Bool.true_and] at hand
    rw [ht1] at ht
    cases hn1 : eqS g.ns h.ns with
    | false =>
      rw [hn1, Bool.false_and, Bool.false_and] at hand
      have E : Hid (eqG g h = false) := hand
      rw [hn1] at hn
      clear hand ht1 hn1
      go_enter Tryd.func24, Tryd.ntmps24
      go_wp2_with fail
      refine (ht 0).mono ?_
      rintro e w1 ⟨rfl, q, rfl⟩
      go_wp2_with fail
      refine (hn _).mono ?_
      rintro e w1 ⟨rfl, q2, rfl⟩
      go_wp2
      go_ret
      exact ⟨ret_bool E.out.symm, hB.os, hB.tape, hB.output, hB.size, hB.block⟩
    | true =>
      rw [hn1, Bool.true_and] at hand
      rw [hn1] at hn
      by_cases hax : g.ax = h.ax
      · have hf : (g.ax == h.ax) = true := by simpa using hax
        rw [decide_eq_true hax, Bool.true_and] at hand
        have E : Hid (eqG g h = eqRs g.rs h.rs) := hand
        clear hand hax ht1 hn1
        go_enter Tryd.func24, Tryd.ntmps24
        go_wp2_with fail
        refine (ht 0).mono ?_
        rintro e w1 ⟨rfl, q, rfl⟩
        go_wp2_with fail
        refine (hn _).mono ?_
        rintro e w1 ⟨rfl, q2, rfl⟩
        rw [World.drewN_drewN]
        go_wp2_with fail
        refine (hr _).mono ?_
        rintro e w1 ⟨rfl, q3, rfl⟩
        go_wp2
        go_ret
        exact ⟨ret_bool E.out.symm, hB.os, hB.tape, hB.output, hB.size, hB.block⟩
      · have hf : (g.ax == h.ax) = false := by simpa using hax
        rw [decide_eq_false hax, Bool.false_and] at hand
        have E : Hid (eqG g h = false) := hand
        clear hand hax ht1 hn1 hr
        go_enter Tryd.func24, Tryd.ntmps24
        go_wp2_with fail
        refine (ht 0).mono ?_
        rintro e w1 ⟨rfl, q, rfl⟩
        go_wp2_with fail
        refine (hn _).mono ?_
        rintro e w1 ⟨rfl, q2, rfl⟩
        go_wp2
        go_ret
        exact ⟨ret_bool E.out.symm, hB.os, hB.tape, hB.output, hB.size, hB.block⟩

end Go.Proofs.YtcmjneabcdpmoaaDoor.GramSame
