/-
  What the statement's helpers symbol and chained answer.
-/
import Derived.Test.YtffdnpjkcchmnaaDoorMatrixWhyM
import Derived.Test.YtffdnpjkcchmnaaDoorMatrixWhyFn
import Derived.Test.YtffdnpjkcchmnaaDoorEndsTurnedWalk
namespace Go.Proofs.YtffdnpjkcchmnaaDoor.MatrixSymbol
open Go.RowKit Go.Proofs.YtffdnpjkcchmnaaDoor.GramMath Go.Proofs.YtffdnpjkcchmnaaDoor.GramRow Go.Proofs.YtffdnpjkcchmnaaDoor.GramApart Go.Proofs.YtffdnpjkcchmnaaDoor.GramErrs Go.Proofs.YtffdnpjkcchmnaaDoor.GramSame Go.Proofs.YtffdnpjkcchmnaaDoor.MatrixMath Go.Proofs.YtffdnpjkcchmnaaDoor.MatrixReasonsMath Go.Proofs.YtffdnpjkcchmnaaDoor.MatrixWhyMath Go.Proofs.YtffdnpjkcchmnaaDoor.MatrixReason Go.Proofs.YtffdnpjkcchmnaaDoor.EndsMath Go.Proofs.YtffdnpjkcchmnaaDoor.EndsFn Go.Proofs.YtffdnpjkcchmnaaDoor.EndsSearch Go.Proofs.YtffdnpjkcchmnaaDoor.EndsChain
set_option linter.unusedVariables false
set_option linter.unusedSimpArgs false

set_option maxRecDepth 100000 in
set_option maxHeartbeats 2000000 in
theorem symbol_any (ta na ra : Option Addr) (tc nc rc : Nat) (g : G) (rule at_ : Int) (w : World) (hR : RRow w ra g.rs) :
    Calls Tryd.prog 28 #[.agg #[.slice ta g.ts.length tc, .slice na g.ns.length nc, .int .i64 g.ax, .slice ra g.rs.length rc], .int .i64 rule, .int .i64 at_] w fun e w' => e = .returned (.int .i64 (symI g rule at_)) ∧ Below w.heap.size w w' := by
  obtain ⟨W1, hW1⟩ : ∃ W1, W1 = w.alloc (.cells #[.slice ta g.ts.length tc, .slice na g.ns.length nc, .int .i64 g.ax, .slice ra g.rs.length rc] 25) := ⟨_, rfl⟩
  have hB1 : Below w.heap.size w W1 := by rw [hW1]; exact (Below.refl _ _).alloc (Nat.le_refl _) _
  have hg1 : RowAt W1 w.heap.size 25 #[.slice ta g.ts.length tc, .slice na g.ns.length nc, .int .i64 g.ax, .slice ra g.rs.length rc] := by rw [hW1]; exact rowN w _ _
  have g0 := hg1.cell (q := 0) rfl
  have g3 := hg1.cell (q := 3) rfl
  have hR1 := hR.below hB1 (Nat.le_refl _)
  rw [hW1] at hB1 g0 g3 hR1
  clear hg1 hW1 W1
  by_cases h1 : rule < 0
  · have d1 : decide (rule < 0) = true := by simpa using h1
    have E : Hid (symI g rule at_ = g.ts.length) := by show _ = _; unfold symI; rw [if_neg (by omega)]
    go_enter Tryd.func28, Tryd.ntmps28
    go_wp2
    go_ret
    exact ⟨SetsOne.ret_int E.out.symm, hB1⟩
  · have d1 : decide (rule < 0) = false := by simpa using h1
    by_cases h2 : (g.rs.length : Int) ≤ rule
    · have d2 : decide ((g.rs.length : Int) ≤ rule) = true := by simpa using h2
      have E : Hid (symI g rule at_ = g.ts.length) := by show _ = _; unfold symI; rw [if_neg (by omega)]
      go_enter Tryd.func28, Tryd.ntmps28
      go_wp2
      go_ret
      exact ⟨SetsOne.ret_int E.out.symm, hB1⟩
    · have d2 : decide ((g.rs.length : Int) ≤ rule) = false := by simpa using h2
      by_cases h3 : at_ < 0
      · have d3 : decide (at_ < 0) = true := by simpa using h3
        have E : Hid (symI g rule at_ = g.ts.length) := by show _ = _; unfold symI; rw [if_neg (by omega)]
        go_enter Tryd.func28, Tryd.ntmps28
        go_wp2
        go_ret
        exact ⟨SetsOne.ret_int E.out.symm, hB1⟩
      · have d3 : decide (at_ < 0) = false := by simpa using h3
        obtain ⟨i, rfl⟩ : ∃ i : Nat, rule = (i : Int) := ⟨rule.toNat, by omega⟩
        obtain ⟨k, rfl⟩ : ∃ k : Nat, at_ = (k : Int) := ⟨at_.toNat, by omega⟩
        have hi : i < g.rs.length := by omega
        have hii : (i : Int) < (g.rs.length : Int) := by omega
        obtain ⟨r, hr, hri, er⟩ := rightOf_mem hi
        obtain ⟨b, off, qa, qc, rfl, e0, e1, hI⟩ := hR1 i r hri
        have E0 : Hid (symI g i k = if (k : Int) < (r.right.length : Int) then r.right.getD k 0 else g.ts.length) := by
          show _ = _
          unfold symI
          rw [Int.toNat_natCast, Int.toNat_natCast, er]
          by_cases h4 : (k : Int) < (r.right.length : Int)
          · rw [if_pos ⟨by omega, by omega, by omega, h4⟩, if_pos h4]
          · rw [if_neg (by omega), if_neg h4]
        obtain ⟨l, hl⟩ : ∃ l, r.right = l := ⟨_, rfl⟩
        rw [hl] at e1 hI E0
        clear er hri hl
        by_cases h4 : k < l.length
        · have h4i : (k : Int) < (l.length : Int) := by omega
          have d4 : decide ((l.length : Int) ≤ (k : Int)) = false := by simp; omega
          have h4n : ¬ (l.length : Int) ≤ (k : Int) := by omega
          obtain ⟨b2, off2, rfl, q⟩ := irow_at hI h4
          have E : Hid (symI g i k = l.getD k 0) := by show _ = _; rw [E0.out, if_pos h4i]
          generalize l.getD k 0 = v at *
          clear E0
          go_enter Tryd.func28, Tryd.ntmps28
          go_wp2
          go_ret
          exact ⟨SetsOne.ret_int E.out.symm, hB1⟩
        · have h4i : (l.length : Int) ≤ (k : Int) := by omega
          have d4 : decide ((l.length : Int) ≤ (k : Int)) = true := by simp; omega
          have E : Hid (symI g i k = g.ts.length) := by show _ = _; rw [E0.out, if_neg (by omega)]
          clear E0
          go_enter Tryd.func28, Tryd.ntmps28
          go_wp2
          go_ret
          exact ⟨SetsOne.ret_int E.out.symm, hB1⟩

set_option maxRecDepth 100000 in
set_option maxHeartbeats 2000000 in
theorem chained_any (ta na ra : Option Addr) (tc nc rc : Nat) (g : G) (n t : Int) (b : Bool) (c : List Int) (a : Option Addr) (cap : Nat) (p : Nat → Addr) (w : World) (hG : GRow w ta na ra g) (hg : okG g) (htc : g.ts.length ≤ tc) (hnc : g.ns.length ≤ nc) (hE : Errs w p) (hI : IRow w a c) (hc : c.length ≤ 1000) (hR : ChainR g n t b (0, none) (some c)) :
    Calls Tryd.prog 29 #[.agg #[.slice ta g.ts.length tc, .slice na g.ns.length nc, .int .i64 g.ax, .slice ra g.rs.length rc], .int .i64 n, .int .i64 t, .bool b, .slice a c.length cap] w fun e w' => e = .returned (.bool true) ∧ Below w.heap.size w w' := by
  have heq0 : ∀ W : World, (binOp .eql 31 .nilIface .nilIface).run Tryd.prog W = .ok (.bool true) W := fun W => by kernel_rfl
  have hb1 : Below w.heap.size w (w.alloc (.cells #[.slice ta g.ts.length tc, .slice na g.ns.length nc, .int .i64 g.ax, .slice ra g.rs.length rc] 25)) := (Below.refl _ _).alloc (Nat.le_refl _) _
  have hch := Chain_top ta na ra tc nc rc g n t b p _ (hG.below hb1 (Nat.le_refl _)) hg htc hnc (hE.below hb1 (Nat.le_refl _))
  go_enter Tryd.func29, Tryd.ntmps29
  go_wp2_with fail
  refine hch.mono ?_
  rintro e w2 ⟨⟨v, x, z, o, rfl, hv, hx, hR2⟩, hb2⟩
  have hB2 := hb1.trans (hb2.mono hb1.size)
  obtain ⟨rfl, rfl⟩ := hR2.det hR
  obtain rfl : x = .nilIface := hx
  obtain ⟨g', cap', rfl, h2⟩ := hv
  have hrow := GramLent.lent_rowI h2 rfl
  have hq := ints_any (some ⟨g', 0, none⟩) a cap' cap c c w2 hrow (hI.below hB2 (Nat.le_refl _)) (by omega) (by omega)
  rw [EndsTurnedW.eqI_self] at hq
  clear h2 hR2 hrow hch hG hR
  go_wp2_with fail
  refine hq.mono ?_
  rintro e w3 ⟨rfl, q, rfl⟩
  go_wp2
  go_ret
  exact ⟨rfl, GramRow.bdrew hB2 _⟩

end Go.Proofs.YtffdnpjkcchmnaaDoor.MatrixSymbol
