/-
  What lies before the laws of this layer: a grammar in a box, and the one that was lent.
-/
import Derived.Test.YtbnajikkogdelaaDoorGramLentG
import Derived.Test.YtbnajikkogdelaaDoorGramOpens
import Derived.Test.YtbnajikkogdelaaDoorGramKinds
import Derived.Test.YtbnajikkogdelaaDoorLineMath
namespace Go.Proofs.YtbnajikkogdelaaDoor.LineSt
open Go.RowKit Go.Proofs.YtbnajikkogdelaaDoor.GramMath Go.Proofs.YtbnajikkogdelaaDoor.GramRow Go.Proofs.YtbnajikkogdelaaDoor.GramOne Go.Proofs.YtbnajikkogdelaaDoor.GramCheck Go.Proofs.YtbnajikkogdelaaDoor.GramErrs Go.Proofs.YtbnajikkogdelaaDoor.GramLent Go.Proofs.YtbnajikkogdelaaDoor.GramLess
set_option linter.unusedVariables false

/-- A grammar in a box. -/
def GBox (w : World) (b : Nat) (ta na ra : Option Addr) (tc nc rc : Nat) (g : G) : Prop :=
  w.cell? ⟨b, 0, none⟩ = some (.slice ta g.ts.length tc) ∧ w.cell? ⟨b, 1, none⟩ = some (.slice na g.ns.length nc) ∧ w.cell? ⟨b, 2, none⟩ = some (.int .i64 g.ax) ∧ w.cell? ⟨b, 3, none⟩ = some (.slice ra g.rs.length rc)
theorem GBox.new (w : World) (ta na ra : Option Addr) (tc nc rc : Nat) (g : G) (t : TypeId) : GBox (w.alloc (.cells #[.slice ta g.ts.length tc, .slice na g.ns.length nc, .int .i64 g.ax, .slice ra g.rs.length rc] t)) w.heap.size ta na ra tc nc rc g := by
  refine ⟨?_, ?_, ?_, ?_⟩ <;> simp [go_sem]
theorem GBox.below {w w' : World} {b B : Nat} {ta na ra : Option Addr} {tc nc rc : Nat} {g : G} (h : GBox w b ta na ra tc nc rc g) (hb : Below B w w') (hB : w.heap.size ≤ B) : GBox w' b ta na ra tc nc rc g :=
  ⟨(hb.cell (p := ⟨b, 0, none⟩) (Nat.lt_of_lt_of_le (cell_lt h.1) hB)).trans h.1, (hb.cell (p := ⟨b, 1, none⟩) (Nat.lt_of_lt_of_le (cell_lt h.2.1) hB)).trans h.2.1, (hb.cell (p := ⟨b, 2, none⟩) (Nat.lt_of_lt_of_le (cell_lt h.2.2.1) hB)).trans h.2.2.1, (hb.cell (p := ⟨b, 3, none⟩) (Nat.lt_of_lt_of_le (cell_lt h.2.2.2) hB)).trans h.2.2.2⟩

structure St (w : World) (b1 b2 : Nat) (ta na ra : Option Addr) (tc nc rc : Nat) (g1 c1 g2 c2 g3 c3 : Nat) (lq : List Q) (g : G) (p : Nat → Addr) : Prop where
  own : GBox w b1 ta na ra tc nc rc g
  lent : GBox w b2 (some ⟨g1, 0, none⟩) (some ⟨g2, 0, none⟩) (some ⟨g3, 0, none⟩) c1 c2 c3 g
  row : GRow w ta na ra g
  lrow : LentG w g1 c1 g2 c2 g3 c3 lq g
  errs : Errs w p

theorem St.below {w w' : World} {b1 b2 : Nat} {ta na ra : Option Addr} {tc nc rc : Nat} {g1 c1 g2 c2 g3 c3 : Nat} {lq : List Q} {g : G} {p : Nat → Addr} (h : St w b1 b2 ta na ra tc nc rc g1 c1 g2 c2 g3 c3 lq g p) (hb : Below w.heap.size w w') : St w' b1 b2 ta na ra tc nc rc g1 c1 g2 c2 g3 c3 lq g p :=
  ⟨h.own.below hb (Nat.le_refl _), h.lent.below hb (Nat.le_refl _), h.row.below hb (Nat.le_refl _), h.lrow.below hb (Nat.le_refl _), h.errs.below hb (Nat.le_refl _)⟩

theorem Lendable.below {w w' : World} {ta na ra : Option Addr} {tc nc : Nat} {g : G} {B : Nat} (h : Lendable w ta na ra tc nc g) (hb : Below B w w') (hB : w.heap.size ≤ B) : Lendable w' ta na ra tc nc g :=
  ⟨h.ts.below hb hB, h.ns.below hb hB, h.rs.below hb hB, h.tn, h.nn, h.tm, h.nm, h.rm, h.each⟩

theorem wrZ_le (g : G) (zs : List Int) (h : (checkG g).1 ≤ 15) : (LineMath.wrZ g zs).1 ≤ 15 := by
  unfold LineMath.wrZ
  split
  · exact h
  · split
    · decide
    · split
      · decide
      · split <;> decide

end Go.Proofs.YtbnajikkogdelaaDoor.LineSt
