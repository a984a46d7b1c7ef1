/-
  What 'wrong' answers of a grammar in a variable.
-/
import Derived.Test.YtdafokhdhddhoaaDoorGramKnownMath2
namespace Go.Proofs.YtdafokhdhddhoaaDoor.GramKnown
open Go.RowKit Go.Proofs.YtdafokhdhddhoaaDoor.GramMath Go.Proofs.YtdafokhdhddhoaaDoor.GramRow Go.Proofs.YtdafokhdhddhoaaDoor.GramOne Go.Proofs.YtdafokhdhddhoaaDoor.GramApart Go.Proofs.YtdafokhdhddhoaaDoor.GramErrs Go.Proofs.YtdafokhdhddhoaaDoor.GramLent Go.Proofs.YtdafokhdhddhoaaDoor.GramAwake Go.Proofs.YtdafokhdhddhoaaDoor.GramLess Go.Proofs.YtdafokhdhddhoaaDoor.GramCopy
set_option linter.unusedVariables false

def i64B (x : Int) : Bool := decide (-9223372036854775808 ≤ x) && decide (x < 9223372036854775808)
def okRB (r : R) : Bool := i64B r.left && r.right.all i64B && decide (r.right.length ≤ 1125899906842624)
def okB (g : G) : Bool := decide (g.ts.length ≤ 1125899906842624) && decide (g.ns.length ≤ 1125899906842624) && decide (g.rs.length ≤ 1125899906842624) && i64B g.ax && g.rs.all okRB && g.ts.all (fun s => decide (s.size ≤ 281474976710656)) && g.ns.all (fun s => decide (s.size ≤ 281474976710656))

theorem ok_of {g : G} (h : okB g = true) : okG g := by
  simp only [okB, okRB, i64B, Bool.and_eq_true, List.all_eq_true, decide_eq_true_eq] at h
  obtain ⟨⟨⟨⟨⟨⟨h1, h2⟩, h3⟩, h4⟩, h5⟩, h6⟩, h7⟩ := h
  exact ⟨h1, h2, h3, h4, fun r hr => ⟨(h5 r hr).1.1, (h5 r hr).1.2, (h5 r hr).2⟩, h6, h7⟩

theorem ok_A : okG gA := ok_of (by kernel_rfl)
theorem ok_B : okG (gM [2]) := ok_of (by kernel_rfl)
theorem ok_C : okG gC := ok_of (by kernel_rfl)
theorem ok_D : okG gD := ok_of (by kernel_rfl)
theorem ok_E : okG gE := ok_of (by kernel_rfl)
theorem ok_F : okG gF := ok_of (by kernel_rfl)
theorem ok_R : okG (gM (List.replicate 32 0)) := ok_of (by kernel_rfl)
theorem ok_R3 : okG (gM (List.replicate 33 0)) := ok_of (by kernel_rfl)
theorem ok_N : okG (gN 120) := ok_of (by kernel_rfl)
theorem ok_N1 : okG (gN 121) := ok_of (by kernel_rfl)

theorem wrong_is (ta na ra : Option Addr) (tc nc rc : Nat) (g : G) (p : Nat → Addr) (w : World) (a b : Int) (hG : GRow w ta na ra g) (hg : okG g) (htc : g.ts.length ≤ tc) (hnc : g.ns.length ≤ nc) (hE : Errs w p) (hT : ErrType w) (hk : (checkG g).1 ≤ 15) (ha : ((checkG g).1 : Int) = a) (hb : ruleZ (checkG g) = b) :
    Calls Tryd.prog 19 #[.agg #[.slice ta g.ts.length tc, .slice na g.ns.length nc, .int .i64 g.ax, .slice ra g.rs.length rc]] w fun e w' => e = .returned (.agg #[.int .i64 a, .int .i64 b]) ∧ Below w.heap.size w w' := by
  subst ha hb
  exact wrong_any ta na ra tc nc rc g p w hG hg htc hnc hE hT hk

/-- The call as it stands in the law: a variable's four parts. -/
theorem wrong_box {W : World} {b : Nat} {g : G} (kb : KBox W b g) (p : Nat → Addr) (x y : Int) (hg : okG g) (hk : (checkG g).1 ≤ 15) (ha : ((checkG g).1 : Int) = x) (hb : ruleZ (checkG g) = y) :
    ∃ v0 v1 v2 v3, W.cell? ⟨b, 0, none⟩ = some v0 ∧ W.cell? ⟨b, 1, none⟩ = some v1 ∧ W.cell? ⟨b, 2, none⟩ = some v2 ∧ W.cell? ⟨b, 3, none⟩ = some v3 ∧
      ∀ w', Below W.heap.size W w' → Errs w' p → ErrType w' → Calls Tryd.prog 19 #[.agg #[v0, v1, v2, v3]] w' fun e w'' => e = .returned (.agg #[.int .i64 x, .int .i64 y]) ∧ Below w'.heap.size w' w'' := by
  obtain ⟨ta, tc, na, nc, ra, rc, hrow, hG, h1, h2⟩ := kb
  exact ⟨_, _, _, _, hrow.cell rfl, hrow.cell rfl, hrow.cell rfl, hrow.cell rfl, fun w' hb' hE hT => wrong_is ta na ra tc nc rc g p w' x y (hG.below hb' (Nat.le_refl _)) hg h1 h2 hE hT hk ha hb⟩

theorem neqA (w : World) : (binOp .neq 54 (.agg #[.int .i64 1, .int .i64 (-1)]) (.agg #[.int .i64 1, .int .i64 (-1)])).run Tryd.prog w = .ok (.bool false) w := by kernel_rfl
theorem neqB (w : World) : (binOp .neq 54 (.agg #[.int .i64 1, .int .i64 2]) (.agg #[.int .i64 1, .int .i64 2])).run Tryd.prog w = .ok (.bool false) w := by kernel_rfl
theorem neqC (w : World) : (binOp .neq 54 (.agg #[.int .i64 10, .int .i64 (-1)]) (.agg #[.int .i64 10, .int .i64 (-1)])).run Tryd.prog w = .ok (.bool false) w := by kernel_rfl
theorem neqE (w : World) : (binOp .neq 54 (.agg #[.int .i64 0, .int .i64 (-1)]) (.agg #[.int .i64 0, .int .i64 (-1)])).run Tryd.prog w = .ok (.bool false) w := by kernel_rfl
theorem neqF (w : World) : (binOp .neq 54 (.agg #[.int .i64 3, .int .i64 (-1)]) (.agg #[.int .i64 3, .int .i64 (-1)])).run Tryd.prog w = .ok (.bool false) w := by kernel_rfl
theorem neqH (w : World) : (binOp .neq 54 (.agg #[.int .i64 3, .int .i64 2]) (.agg #[.int .i64 3, .int .i64 2])).run Tryd.prog w = .ok (.bool false) w := by kernel_rfl

end Go.Proofs.YtdafokhdhddhoaaDoor.GramKnown
