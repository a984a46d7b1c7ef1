/-
  The walk of GramSame: it answers true for every two grammars, and writes nothing that was there.
-/
import Derived.Test.YtjcagdbepcjbiaaDoorGramEq2
namespace Go.Proofs.YtjcagdbepcjbiaaDoor.GramSameW
open Go.RowKit Go.Proofs.YtjcagdbepcjbiaaDoor.GramMath Go.Proofs.YtjcagdbepcjbiaaDoor.GramRow Go.Proofs.YtjcagdbepcjbiaaDoor.GramOne Go.Proofs.YtjcagdbepcjbiaaDoor.GramSame Go.Proofs.YtjcagdbepcjbiaaDoor.GramAwake
set_option linter.unusedVariables false

theorem In.step {W w' : World} (u : In W) (hb : Below u.w.heap.size u.w w') : ∃ v : In W, w' = v.w := ⟨⟨w', u.h.trans (hb.mono u.h.size)⟩, rfl⟩

set_option maxRecDepth 100000 in
set_option maxHeartbeats 4000000 in
theorem walk (ta na ra tb nb rb : Option Addr) (tc nc rc td nd rd : Nat) (g h : G) (p : Nat → Addr) (w : World) (hG : GRow w ta na ra g) (hH : GRow w tb nb rb h) (og : okG g) (oh : okG h) (hS : Sents w p) :
    Calls Tryd.prog 5 #[.agg #[.slice ta g.ts.length tc, .slice na g.ns.length nc, .int .i64 g.ax, .slice ra g.rs.length rc], .agg #[.slice tb h.ts.length td, .slice nb h.ns.length nd, .int .i64 h.ax, .slice rb h.rs.length rd]] w fun e w' => e = .returned (.bool true) ∧ Below w.heap.size w w' := by
  have hB : Below w.heap.size w ((w.alloc (.cells #[.slice ta g.ts.length tc, .slice na g.ns.length nc, .int .i64 g.ax, .slice ra g.rs.length rc] 25)).alloc (.cells #[.slice tb h.ts.length td, .slice nb h.ns.length nd, .int .i64 h.ax, .slice rb h.rs.length rd] 25)) := ((Below.refl _ _).alloc (Nat.le_refl _) _).alloc (by simp) _
  have hG1 := hG.below hB (Nat.le_refl _)
  have hH1 := hH.below hB (Nat.le_refl _)
  have hS1 := hS.below hB (Nat.le_refl _)
  have a0 : ((w.alloc (.cells #[.slice ta g.ts.length tc, .slice na g.ns.length nc, .int .i64 g.ax, .slice ra g.rs.length rc] 25)).alloc (.cells #[.slice tb h.ts.length td, .slice nb h.ns.length nd, .int .i64 h.ax, .slice rb h.rs.length rd] 25)).cell? ⟨w.heap.size, 0, none⟩ = some (.slice ta g.ts.length tc) := by simp [go_sem]
  have a1 : ((w.alloc (.cells #[.slice ta g.ts.length tc, .slice na g.ns.length nc, .int .i64 g.ax, .slice ra g.rs.length rc] 25)).alloc (.cells #[.slice tb h.ts.length td, .slice nb h.ns.length nd, .int .i64 h.ax, .slice rb h.rs.length rd] 25)).cell? ⟨w.heap.size, 1, none⟩ = some (.slice na g.ns.length nc) := by simp [go_sem]
  have a2 : ((w.alloc (.cells #[.slice ta g.ts.length tc, .slice na g.ns.length nc, .int .i64 g.ax, .slice ra g.rs.length rc] 25)).alloc (.cells #[.slice tb h.ts.length td, .slice nb h.ns.length nd, .int .i64 h.ax, .slice rb h.rs.length rd] 25)).cell? ⟨w.heap.size, 2, none⟩ = some (.int .i64 g.ax) := by simp [go_sem]
  have a3 : ((w.alloc (.cells #[.slice ta g.ts.length tc, .slice na g.ns.length nc, .int .i64 g.ax, .slice ra g.rs.length rc] 25)).alloc (.cells #[.slice tb h.ts.length td, .slice nb h.ns.length nd, .int .i64 h.ax, .slice rb h.rs.length rd] 25)).cell? ⟨w.heap.size, 3, none⟩ = some (.slice ra g.rs.length rc) := by simp [go_sem]
  have b0 : ((w.alloc (.cells #[.slice ta g.ts.length tc, .slice na g.ns.length nc, .int .i64 g.ax, .slice ra g.rs.length rc] 25)).alloc (.cells #[.slice tb h.ts.length td, .slice nb h.ns.length nd, .int .i64 h.ax, .slice rb h.rs.length rd] 25)).cell? ⟨w.heap.size + 1, 0, none⟩ = some (.slice tb h.ts.length td) := by simp [go_sem]
  have b1 : ((w.alloc (.cells #[.slice ta g.ts.length tc, .slice na g.ns.length nc, .int .i64 g.ax, .slice ra g.rs.length rc] 25)).alloc (.cells #[.slice tb h.ts.length td, .slice nb h.ns.length nd, .int .i64 h.ax, .slice rb h.rs.length rd] 25)).cell? ⟨w.heap.size + 1, 1, none⟩ = some (.slice nb h.ns.length nd) := by simp [go_sem]
  have b2 : ((w.alloc (.cells #[.slice ta g.ts.length tc, .slice na g.ns.length nc, .int .i64 g.ax, .slice ra g.rs.length rc] 25)).alloc (.cells #[.slice tb h.ts.length td, .slice nb h.ns.length nd, .int .i64 h.ax, .slice rb h.rs.length rd] 25)).cell? ⟨w.heap.size + 1, 2, none⟩ = some (.int .i64 h.ax) := by simp [go_sem]
  have b3 : ((w.alloc (.cells #[.slice ta g.ts.length tc, .slice na g.ns.length nc, .int .i64 g.ax, .slice ra g.rs.length rc] 25)).alloc (.cells #[.slice tb h.ts.length td, .slice nb h.ns.length nd, .int .i64 h.ax, .slice rb h.rs.length rd] 25)).cell? ⟨w.heap.size + 1, 3, none⟩ = some (.slice rb h.rs.length rd) := by simp [go_sem]
  have e1 := eqG_refl g
  have e2 := eqG_comm g h
  clear hG hH hS
  go_enter Tryd.func5, Tryd.ntmps5
  go_wp2
  generalize (w.alloc (.cells #[.slice ta g.ts.length tc, .slice na g.ns.length nc, .int .i64 g.ax, .slice ra g.rs.length rc] 25)).alloc (.cells #[.slice tb h.ts.length td, .slice nb h.ns.length nd, .int .i64 h.ax, .slice rb h.rs.length rd] 25) = W at *
  have hne : Nonempty (In W) := ⟨⟨W, Below.refl _ _⟩⟩
  have a0' := In.cell a0
  have a1' := In.cell a1
  have a2' := In.cell a2
  have a3' := In.cell a3
  have b0' := In.cell b0
  have b1' := In.cell b1
  have b2' := In.cell b2
  have b3' := In.cell b3
  clear a0 a1 a2 a3 b0 b1 b2 b3
  cases e3 : eqG g h
  all_goals
    rw [e3] at e2
    refine wp_region_in (by kernel_rfl) (by kernel_rfl) ?_
    repeat (go_big_quiet_step ((first
      | (go_at_call 17; refine (same_any _ _ _ _ _ _ _ _ _ _ _ _ _ _ _ ?_ ?_ ?_ ?_).mono ?_; (first | exact hG1.below (In.h _) (Nat.le_refl _) | exact hH1.below (In.h _) (Nat.le_refl _)); (first | exact hG1.below (In.h _) (Nat.le_refl _) | exact hH1.below (In.h _) (Nat.le_refl _)); (first | exact og | exact oh); (first | exact og | exact oh); rintro e w6 ⟨rfl, hb6⟩; exact ⟨rfl, In.step _ hb6⟩)
      | (go_at_call 15; refine (grammar_any _ _ _ _ _ _ _ _ _ _ _ _ _ _ _ ?_ ?_ ?_ ?_).mono ?_; (first | exact hG1.below (In.h _) (Nat.le_refl _) | exact hH1.below (In.h _) (Nat.le_refl _)); (first | exact hG1.below (In.h _) (Nat.le_refl _) | exact hH1.below (In.h _) (Nat.le_refl _)); (first | exact og | exact oh); (first | exact og | exact oh); rintro e w6 ⟨rfl, hb6⟩; exact ⟨rfl, In.step _ hb6⟩)
      | (go_at_call 19; refine (awake_any p _ (hS1.below (In.h _) (Nat.le_refl _))).mono ?_; rintro e w6 ⟨rfl, hb6⟩; exact ⟨rfl, In.step _ hb6⟩))))
    refine wpQuiet_nil ?_
    rintro _ ⟨u, rfl⟩
    go_wp2
    go_ret
    exact ⟨rfl, hB.trans (u.h.mono hB.size)⟩

end Go.Proofs.YtjcagdbepcjbiaaDoor.GramSameW
