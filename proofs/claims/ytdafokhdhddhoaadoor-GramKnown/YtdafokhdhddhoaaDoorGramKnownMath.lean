/-
  The grammars of GramKnown, what Check finds of each, and how one lies in a variable.
-/
import Derived.Test.YtdafokhdhddhoaaDoorGramMany
import Derived.Test.YtdafokhdhddhoaaDoorGramAwakes
namespace Go.Proofs.YtdafokhdhddhoaaDoor.GramKnown
open Go.RowKit Go.Proofs.YtdafokhdhddhoaaDoor.GramMath Go.Proofs.YtdafokhdhddhoaaDoor.GramRow Go.Proofs.YtdafokhdhddhoaaDoor.GramOne Go.Proofs.YtdafokhdhddhoaaDoor.GramApart Go.Proofs.YtdafokhdhddhoaaDoor.GramCheck Go.Proofs.YtdafokhdhddhoaaDoor.GramErrs Go.Proofs.YtdafokhdhddhoaaDoor.GramLent Go.Proofs.YtdafokhdhddhoaaDoor.GramAwake
set_option linter.unusedVariables false

def gA : G := ⟨givenG.ts, givenG.ns, 1, givenG.rs⟩
def gB : G := ⟨givenG.ts, givenG.ns, 0, givenG.rs ++ [⟨0, [2]⟩]⟩
def gC : G := ⟨[⟨#[43]⟩, ⟨#[]⟩], givenG.ns, 0, givenG.rs⟩
def gD : G := ⟨givenG.ts, [], 0, givenG.rs⟩
def gE : G := ⟨manyN 59, [⟨#[69]⟩], 0, []⟩
def gF : G := ⟨manyN 60, [⟨#[69]⟩], 0, []⟩
def gR (n : Nat) : G := ⟨givenG.ts, givenG.ns, 0, givenG.rs ++ [⟨0, List.replicate n 0⟩]⟩
def gN (n : Nat) : G := ⟨givenG.ts, givenG.ns, 0, List.replicate n ⟨0, []⟩⟩

theorem ck_A : checkG gA = (1, none) := by kernel_rfl
theorem ck_B : checkG gB = (1, some 2) := by kernel_rfl
theorem ck_C : checkG gC = (10, none) := by kernel_rfl
theorem ck_D : checkG gD = (1, none) := by kernel_rfl
theorem ck_E : (checkG gE).1 = 0 := by kernel_rfl
theorem ck_F : checkG gF = (3, none) := by kernel_rfl
theorem ck_R : (checkG (gR 32)).1 = 0 := by kernel_rfl
theorem ck_R3 : checkG (gR 33) = (3, some 2) := by kernel_rfl
theorem ck_N : (checkG (gN 120)).1 = 0 := by kernel_rfl
theorem ck_N1 : checkG (gN 121) = (3, none) := by kernel_rfl
theorem rz_0 {z : Nat × Option Nat} (h : z.1 = 0) : ruleZ z = -1 := by
  obtain ⟨k, o⟩ := z
  cases h
  cases o <;> rfl

/-- A grammar in a variable. -/
def KBox (W : World) (b : Nat) (g : G) : Prop := ∃ ta tc na nc ra rc, RowAt W b 35 #[.slice ta g.ts.length tc, .slice na g.ns.length nc, .int .i64 g.ax, .slice ra g.rs.length rc] ∧ GRow W ta na ra g ∧ g.ts.length ≤ tc ∧ g.ns.length ≤ nc

theorem KBox.below {W W' : World} {b C : Nat} {g : G} (h : KBox W b g) (hb : Below C W W') (hC : W.heap.size ≤ C) : KBox W' b g := by
  obtain ⟨ta, tc, na, nc, ra, rc, h1, h2, h3⟩ := h
  exact ⟨ta, tc, na, nc, ra, rc, h1.below hb (Nat.lt_of_lt_of_le h1.lt hC), h2.below hb hC, h3⟩
theorem KBox.lt {W : World} {b : Nat} {g : G} (h : KBox W b g) : b < W.heap.size := by
  obtain ⟨_, _, _, _, _, _, h1, _⟩ := h
  exact h1.lt
theorem KBox.new {W : World} {ta na ra : Option Addr} {tc nc rc : Nat} {g : G} {ax : Int} (h : GRow W ta na ra g) (h1 : g.ts.length ≤ tc) (h2 : g.ns.length ≤ nc) (hax : ax = g.ax) : KBox (W.alloc (.cells #[.slice ta g.ts.length tc, .slice na g.ns.length nc, .int .i64 ax, .slice ra g.rs.length rc] 35)) W.heap.size g := by
  subst hax
  exact ⟨ta, tc, na, nc, ra, rc, World.alloc_heap_new W _, h.below ((Below.refl _ _).alloc (Nat.le_refl _) _) (Nat.le_refl _), h1, h2⟩
theorem bAlloc (W : World) (o : Obj) : Below W.heap.size W (W.alloc o) := (Below.refl _ _).alloc (Nat.le_refl _) _

end Go.Proofs.YtdafokhdhddhoaaDoor.GramKnown
