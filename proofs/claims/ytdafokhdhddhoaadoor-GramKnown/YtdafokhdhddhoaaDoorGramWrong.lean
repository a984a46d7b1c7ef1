/-
  The helpers of GramKnown: many names, and what Check finds of a grammar.
-/
import Derived.Test.YtdafokhdhddhoaaDoorGramBuild4
import Derived.Test.YtdafokhdhddhoaaDoorGramKinds
import Derived.Laws.BytesString
namespace Go.Proofs.YtdafokhdhddhoaaDoor.GramKnown
open Go.RowKit Go.Proofs.YtdafokhdhddhoaaDoor.GramMath Go.Proofs.YtdafokhdhddhoaaDoor.GramRow Go.Proofs.YtdafokhdhddhoaaDoor.GramOne Go.Proofs.YtdafokhdhddhoaaDoor.GramApart Go.Proofs.YtdafokhdhddhoaaDoor.GramCheck Go.Proofs.YtdafokhdhddhoaaDoor.GramErrs
set_option linter.unusedVariables false

set_option maxRecDepth 100000 in
set_option maxHeartbeats 1000000 in
theorem wrong_any (ta na ra : Option Addr) (tc nc rc : Nat) (g : G) (p : Nat → Addr) (w : World) (hG : GRow w ta na ra g) (hg : okG g) (htc : g.ts.length ≤ tc) (hnc : g.ns.length ≤ nc) (hE : Errs w p) (hT : ErrType w) (hk : (checkG g).1 ≤ 15) :
    Calls Tryd.prog 19 #[.agg #[.slice ta g.ts.length tc, .slice na g.ns.length nc, .int .i64 g.ax, .slice ra g.rs.length rc]] w fun e w' => e = .returned (.agg #[.int .i64 ((checkG g).1 : Int), .int .i64 (ruleZ (checkG g))]) ∧ Below w.heap.size w w' := by
  have hB0 : Below w.heap.size w ((w.alloc (.cells #[.slice ta g.ts.length tc, .slice na g.ns.length nc, .int .i64 g.ax, .slice ra g.rs.length rc] 35)).alloc (.cells #[.int .i64 0, .int .i64 0] 54)) := ((Below.refl _ _).alloc (Nat.le_refl _) _).alloc (by simp) _
  have rW : RowAt ((w.alloc (.cells #[.slice ta g.ts.length tc, .slice na g.ns.length nc, .int .i64 g.ax, .slice ra g.rs.length rc] 35)).alloc (.cells #[.int .i64 0, .int .i64 0] 54)) (w.heap.size + 1) 54 #[.int .i64 0, .int .i64 0] := by
    have : RowAt ((w.alloc (.cells #[.slice ta g.ts.length tc, .slice na g.ns.length nc, .int .i64 g.ax, .slice ra g.rs.length rc] 35)).alloc (.cells #[.int .i64 0, .int .i64 0] 54)) (w.alloc (.cells #[.slice ta g.ts.length tc, .slice na g.ns.length nc, .int .i64 g.ax, .slice ra g.rs.length rc] 35)).heap.size 54 #[.int .i64 0, .int .i64 0] := World.alloc_heap_new _ _
    rwa [World.size_alloc] at this
  have hck := check_any ta na ra tc nc rc g p _ (hG.below hB0 (Nat.le_refl _)) hg htc hnc (hE.sents.below hB0 (Nat.le_refl _))
  go_enter Tryd.func19, Tryd.ntmps19
  go_wp2_with fail
  refine hck.mono ?_
  generalize ((w.alloc (.cells #[.slice ta g.ts.length tc, .slice na g.ns.length nc, .int .i64 g.ax, .slice ra g.rs.length rc] 35)).alloc (.cells #[.int .i64 0, .int .i64 0] 54)) = w0 at *
  rintro e w1 ⟨⟨v, rfl, hv⟩, hb1⟩
  have hB1 := hB0.trans (hb1.mono (by have := hB0.size; omega))
  have rW1 := rW.below hb1 rW.lt
  clear hck hB0 rW
  go_wp2_with fail
  refine (kind_ck _ p _ w1 v (hE.below hB1 (Nat.le_refl _)) hk hv).mono ?_
  rintro e w2 ⟨rfl, hb2⟩
  have hB2 := hB1.trans (hb2.mono hB1.size)
  have hv2 := hv.below hb2 (Nat.le_refl _)
  have rW2 := rW1.below hb2 rW1.lt
  clear hv rW1 hB1
  go_wp2_with fail
  refine (rule_ck _ p _ w2 v (hT.below hB2 (Nat.le_refl _)) hv2).mono ?_
  rintro e w3 ⟨rfl, hb3⟩
  have hB3 := hB2.trans (hb3.mono hB2.size)
  have rW3 := rW2.below hb3 rW2.lt
  have c0 : w3.cell? ⟨w.heap.size + 1, 0, none⟩ = some (.int .i64 0) := rW3.cell rfl
  have c1 : w3.cell? ⟨w.heap.size + 1, 1, none⟩ = some (.int .i64 0) := rW3.cell rfl
  have f0 := rW3.frozen 0
  have f1 := rW3.frozen 1
  have r4 : RowAt ((w3.setCell ⟨w.heap.size + 1, 0, none⟩ (.int .i64 ((checkG g).1 : Int))).setCell ⟨w.heap.size + 1, 1, none⟩ (.int .i64 (ruleZ (checkG g)))) (w.heap.size + 1) 54 #[.int .i64 ((checkG g).1 : Int), .int .i64 (ruleZ (checkG g))] := (rW3.set 0 _).set 1 _
  have hB4 : Below w.heap.size w ((w3.setCell ⟨w.heap.size + 1, 0, none⟩ (.int .i64 ((checkG g).1 : Int))).setCell ⟨w.heap.size + 1, 1, none⟩ (.int .i64 (ruleZ (checkG g)))) := (hB3.setCell (p := ⟨w.heap.size + 1, 0, none⟩) (show w.heap.size ≤ w.heap.size + 1 by omega) _).setCell (p := ⟨w.heap.size + 1, 1, none⟩) (show w.heap.size ≤ w.heap.size + 1 by omega) _
  clear hv2 rW2 rW3
  go_wp2_with fail
  generalize ((w3.setCell ⟨w.heap.size + 1, 0, none⟩ (.int .i64 ((checkG g).1 : Int))).setCell ⟨w.heap.size + 1, 1, none⟩ (.int .i64 (ruleZ (checkG g)))) = w4 at *
  have d0 : w4.cell? ⟨w.heap.size + 1, 0, none⟩ = some (.int .i64 ((checkG g).1 : Int)) := r4.cell rfl
  have d1 : w4.cell? ⟨w.heap.size + 1, 1, none⟩ = some (.int .i64 (ruleZ (checkG g))) := r4.cell rfl
  refine bodyPost_ret (v := .agg #[.int .i64 ((checkG g).1 : Int), .int .i64 (ruleZ (checkG g))]) (by simp [results, Tryd.results19, go_sem, d0, d1]; try rfl) rfl ?_
  exact ⟨rfl, hB4⟩

end Go.Proofs.YtdafokhdhddhoaaDoor.GramKnown
