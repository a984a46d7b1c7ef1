/-
  Texts that stand together: EndsSearch, EndsChain, EndsAwake, MatrixAwake.
-/
import Derived.Test.YtcoepmpgclndiaaGreatDoorBEndsConcats
import Derived.Deep.AppendLies
import Derived.Test.YtcoepmpgclndiaaGreatDoorBEndsOfs
import Derived.Test.YtcoepmpgclndiaaGreatDoorBGramErrs
import Derived.Test.YtcoepmpgclndiaaGreatDoorBagGramAboveFn
import Derived.Test.YtcoepmpgclndiaaGreatDoorBagGramEq
import Derived.Test.YtcoepmpgclndiaaGreatDoorBMatrixOf
namespace Go.Proofs.YtcoepmpgclndiaaGreatDoor.EndsSearch
open Go.RowKit Go.Proofs.YtcoepmpgclndiaaGreatDoor.GramMath Go.Proofs.YtcoepmpgclndiaaGreatDoor.GramRow Go.Proofs.YtcoepmpgclndiaaGreatDoor.EndsMath Go.Proofs.YtcoepmpgclndiaaGreatDoor.EndsConcat Go.Proofs.YtcoepmpgclndiaaGreatDoor.EndsFn Go.Proofs.YtcoepmpgclndiaaGreatDoor.EndsWays Go.Proofs.YtcoepmpgclndiaaGreatDoor.GramApart Go.Proofs.YtcoepmpgclndiaaGreatDoor.GramAboveFn
set_option linter.unusedVariables false

/-- What search answers. -/
def ChV (base : Nat) (w : World) (v : Value) : Option (List Int) → Prop
  | none => v = .slice none 0 0
  | some c => ∃ g cap, v = .slice (some ⟨g, 0, none⟩) c.length cap ∧ w.ownsRow base 3 1 (.slice (some ⟨g, 0, none⟩) c.length cap) c.length (intsL c)

theorem take_len {α : Type} {l : List α} {k : Nat} {r : α} (h : l[k]? = some r) : (l.take k).length = k := by
  obtain ⟨hk, _⟩ := List.getElem?_eq_some_iff.1 h
  simp
  omega

end Go.Proofs.YtcoepmpgclndiaaGreatDoor.EndsSearch

namespace Go.Proofs.YtcoepmpgclndiaaGreatDoor.EndsChain
open Go.RowKit Go.Proofs.YtcoepmpgclndiaaGreatDoor.GramMath Go.Proofs.YtcoepmpgclndiaaGreatDoor.GramRow Go.Proofs.YtcoepmpgclndiaaGreatDoor.GramCheck Go.Proofs.YtcoepmpgclndiaaGreatDoor.GramErrs Go.Proofs.YtcoepmpgclndiaaGreatDoor.EndsMath Go.Proofs.YtcoepmpgclndiaaGreatDoor.EndsFn Go.Proofs.YtcoepmpgclndiaaGreatDoor.EndsSearch
set_option linter.unusedVariables false

/-- A nonterminal and a terminal of a grammar. -/
def InG (g : G) (n t : Int) : Prop := 0 ≤ n ∧ n < g.ns.length ∧ 0 ≤ t ∧ t < g.ts.length

/-- What Chain finds, and what is wrong. -/
def ChainR (g : G) (n t : Int) (b : Bool) (z : Nat × Option Nat) (o : Option (List Int)) : Prop :=
  ((checkG g).1 ≠ 0 ∧ z = checkG g ∧ o = none) ∨ ((checkG g).1 = 0 ∧ ¬ InG g n t ∧ z = (1, none) ∧ o = none) ∨
  ((checkG g).1 = 0 ∧ InG g n t ∧ FoundE b g.rs n.toNat t.toNat o ∧ z = ((if o.isSome = true then 0 else 15), none))

theorem ChainR.det {g : G} {n t : Int} {b : Bool} {z z' : Nat × Option Nat} {o o' : Option (List Int)} (h : ChainR g n t b z o) (h' : ChainR g n t b z' o') : z = z' ∧ o = o' := by
  rcases h with ⟨a1, rfl, rfl⟩ | ⟨a1, a2, rfl, rfl⟩ | ⟨a1, a2, a3, rfl⟩
  · rcases h' with ⟨b1, rfl, rfl⟩ | ⟨b1, b2, rfl, rfl⟩ | ⟨b1, b2, b3, rfl⟩
    · exact ⟨rfl, rfl⟩
    · exact absurd b1 a1
    · exact absurd b1 a1
  · rcases h' with ⟨b1, rfl, rfl⟩ | ⟨b1, b2, rfl, rfl⟩ | ⟨b1, b2, b3, rfl⟩
    · exact absurd a1 b1
    · exact ⟨rfl, rfl⟩
    · exact absurd b2 a2
  · rcases h' with ⟨b1, rfl, rfl⟩ | ⟨b1, b2, rfl, rfl⟩ | ⟨b1, b2, b3, rfl⟩
    · exact absurd a1 b1
    · exact absurd a2 b2
    · obtain rfl := a3.det b3
      exact ⟨rfl, rfl⟩

end Go.Proofs.YtcoepmpgclndiaaGreatDoor.EndsChain

namespace Go.Proofs.YtcoepmpgclndiaaGreatDoor.EndsAwake
open Go.RowKit Go.Proofs.YtcoepmpgclndiaaGreatDoor.GramMath Go.Proofs.YtcoepmpgclndiaaGreatDoor.GramRow Go.Proofs.YtcoepmpgclndiaaGreatDoor.GramCheck Go.Proofs.YtcoepmpgclndiaaGreatDoor.GramErrs Go.Proofs.YtcoepmpgclndiaaGreatDoor.GramAwake Go.Proofs.YtcoepmpgclndiaaGreatDoor.GramAboveFn Go.Proofs.YtcoepmpgclndiaaGreatDoor.GramSame Go.Proofs.YtcoepmpgclndiaaGreatDoor.EndsMath Go.Proofs.YtcoepmpgclndiaaGreatDoor.EndsFn Go.Proofs.YtcoepmpgclndiaaGreatDoor.EndsSearch Go.Proofs.YtcoepmpgclndiaaGreatDoor.EndsChain
set_option linter.unusedVariables false

def gG : G := ⟨[⟨#[43]⟩, ⟨#[42]⟩, ⟨#[40]⟩, ⟨#[41]⟩, ⟨#[105]⟩], [⟨#[69]⟩, ⟨#[84]⟩, ⟨#[70]⟩], 0, [⟨0, [-1, 0, -2]⟩, ⟨0, [-2]⟩, ⟨1, [-2, 1, -3]⟩, ⟨1, [-3]⟩, ⟨2, [2, -1, 3]⟩, ⟨2, [4]⟩]⟩

/-- Does a terminal come within so many steps? -/
def LftB (b : Bool) (rs : List R) : Nat → Nat → Nat → Bool
  | 0, _, _ => false
  | k + 1, n, t => rs.any (fun r => r.left.toNat == n && (shO b r == some t || (match ldO b r with | some m => LftB b rs k m t | none => false)))

theorem LftB.lft {b : Bool} {rs : List R} : ∀ {k n t : Nat}, LftB b rs k n t = true → Lft b rs n t
  | 0, _, _, h => by cases h
  | k + 1, n, t, h => by
    unfold LftB at h
    rw [List.any_eq_true] at h
    obtain ⟨r, hr, h⟩ := h
    rw [Bool.and_eq_true, Bool.or_eq_true, beq_iff_eq, beq_iff_eq] at h
    obtain ⟨rfl, h⟩ := h
    rcases h with h | h
    · exact .shows hr h
    · cases hl : ldO b r with
      | none => rw [hl] at h; cases h
      | some m => rw [hl] at h; exact .leads hr hl (LftB.lft h)

def endsB (b : Bool) (g : G) (V : Nat → Nat) (k : Nat) : Bool :=
  (List.range g.ns.length).all (fun i => decide (V i < 2 ^ g.ts.length) && (List.range g.ts.length).all (fun t => !(V i).testBit t || LftB b g.rs k i t)) && g.rs.all (fun r => wid b V r == V r.left.toNat)

theorem ends_of_B {b : Bool} {g : G} (hg : GoodG g) {V : Nat → Nat} {k : Nat} (h : endsB b g V k = true) : IsEnds b g V := by
  unfold endsB at h
  rw [Bool.and_eq_true, List.all_eq_true, List.all_eq_true] at h
  refine ends_of hg (fun i hi => ?_) (fun r hr => by have := h.2 r hr; rw [beq_iff_eq] at this; exact this)
  have h1 := h.1 i (List.mem_range.2 hi)
  rw [Bool.and_eq_true, decide_eq_true_iff, List.all_eq_true] at h1
  refine ⟨h1.1, fun t ht => ?_⟩
  have htl : t < g.ts.length := by
    rcases Nat.lt_or_ge t g.ts.length with h | h
    · exact h
    · rw [Nat.testBit_lt_two_pow (Nat.lt_of_lt_of_le h1.1 (Nat.pow_le_pow_right (by omega) h))] at ht
      cases ht
  have h2 := h1.2 t (List.mem_range.2 htl)
  rw [ht] at h2
  exact LftB.lft (by simpa using h2)

def VL : Nat → Nat
  | 0 => 23
  | 1 => 22
  | 2 => 20
  | _ => 0
def VR : Nat → Nat
  | 0 => 27
  | 1 => 26
  | 2 => 24
  | _ => 0

end Go.Proofs.YtcoepmpgclndiaaGreatDoor.EndsAwake

namespace Go.Proofs.YtcoepmpgclndiaaGreatDoor.MatrixAwake
open Go.RowKit Go.Proofs.YtcoepmpgclndiaaGreatDoor.GramMath Go.Proofs.YtcoepmpgclndiaaGreatDoor.GramRow Go.Proofs.YtcoepmpgclndiaaGreatDoor.GramCheck Go.Proofs.YtcoepmpgclndiaaGreatDoor.GramErrs Go.Proofs.YtcoepmpgclndiaaGreatDoor.GramAwake Go.Proofs.YtcoepmpgclndiaaGreatDoor.GramAboveFn Go.Proofs.YtcoepmpgclndiaaGreatDoor.GramSame Go.Proofs.YtcoepmpgclndiaaGreatDoor.EndsMath Go.Proofs.YtcoepmpgclndiaaGreatDoor.EndsFn Go.Proofs.YtcoepmpgclndiaaGreatDoor.EndsAwake Go.Proofs.YtcoepmpgclndiaaGreatDoor.SetsMath Go.Proofs.YtcoepmpgclndiaaGreatDoor.SetsAlg Go.Proofs.YtcoepmpgclndiaaGreatDoor.MatrixMath Go.Proofs.YtcoepmpgclndiaaGreatDoor.MatrixPut Go.Proofs.YtcoepmpgclndiaaGreatDoor.MatrixOf Go.Proofs.YtcoepmpgclndiaaGreatDoor.GramOpen
set_option linter.unusedVariables false
set_option linter.unusedSimpArgs false

def hG : G := ⟨[⟨#[97]⟩, ⟨#[98]⟩], [⟨#[83]⟩], 0, [⟨0, [0, -1, 1]⟩, ⟨0, [0, 1]⟩]⟩
def sG : G := ⟨[⟨#[43]⟩, ⟨#[105]⟩], [⟨#[69]⟩], 0, [⟨0, [-1, 0, -1]⟩, ⟨0, [1]⟩]⟩

theorem two_int {w : World} {b : Nat} {x z : Int} (h0 : w.cell? ⟨b, 0, none⟩ = some (.int .i64 x)) (h1 : w.cell? ⟨b, 1, none⟩ = some (.int .i64 z)) : IRow w (some ⟨b, 0, none⟩) [x, z] := fun i y hy => by
  match i, hy with
  | 0, hy => obtain rfl : x = y := by simpa using hy
             exact ⟨b, 0, rfl, by simpa using h0⟩
  | 1, hy => obtain rfl : z = y := by simpa using hy
             exact ⟨b, 0, rfl, by simpa using h1⟩
  | n + 2, hy => simp at hy

def hVL : Nat → Nat | 0 => 1 | _ => 0
def hVR : Nat → Nat | 0 => 2 | _ => 0
def sV : Nat → Nat | 0 => 3 | _ => 0
theorem s_check : checkG sG = (0, none) := by kernel_rfl
theorem s_good : GoodG sG := good_of (by rw [s_check])
theorem s_left : IsEnds false sG sV := ends_of_B s_good (k := 3) (by kernel_rfl)
theorem s_right : IsEnds true sG sV := ends_of_B s_good (k := 3) (by kernel_rfl)

theorem s_ok : okG sG := by
  refine ⟨by decide, by decide, by decide, ⟨by decide, by decide⟩, ?_, ?_, ?_⟩
  · intro r hr
    simp only [sG, List.mem_cons, List.not_mem_nil, or_false] at hr
    rcases hr with rfl | rfl <;> exact ⟨⟨by decide, by decide⟩, by intro x hx; simp only [List.mem_cons, List.not_mem_nil, or_false] at hx; first | (subst hx; exact ⟨by decide, by decide⟩) | (rcases hx with rfl | rfl | rfl <;> exact ⟨by decide, by decide⟩), by decide⟩
  · intro s hs
    simp only [sG, List.mem_cons, List.not_mem_nil, or_false] at hs
    rcases hs with rfl | rfl <;> decide
  · intro s hs
    simp only [sG, List.mem_cons, List.not_mem_nil, or_false] at hs
    rcases hs with rfl <;> decide

/-- A relation, looked up among all that are found. -/
def relB (VL VR : Nat → Nat) (g : G) (x a b : Int) : Bool := (findsF VL VR g).any (fun f => f.rel == x && f.a == a && f.b == b)
theorem relB_iff {VL VR : Nat → Nat} {g : G} (hg : GoodG g) (hL : IsEnds false g VL) (hR : IsEnds true g VR) {x a b : Int} : relB VL VR g x a b = true ↔ Rel g x a b := by
  unfold relB
  rw [List.any_eq_true, ← finds_iff hg hL hR]
  constructor
  · rintro ⟨f, hf, h⟩
    simp at h
    exact ⟨f, hf, h.1.1, h.1.2, h.2⟩
  · rintro ⟨f, hf, h1, h2, h3⟩
    exact ⟨f, hf, by simp [h1, h2, h3]⟩
theorem holds_B {VL VR : Nat → Nat} {g : G} (hg : GoodG g) (hL : IsEnds false g VL) (hR : IsEnds true g VR) {S : Nat → Nat → Int} (h : IsMat g S) {x a b : Int} (h1 : 1 ≤ x) (h3 : x ≤ 3) : holdsB ((g.ts.length + 1 : Nat) : Int) S a b x = relB VL VR g x a b := by
  rw [Bool.eq_iff_iff, holds_iff hg h h1 h3, relB_iff hg hL hR]
def atB (VL VR : Nat → Nat) (g : G) (a b : Int) : Int := if relB VL VR g 1 a b = true then 1 else if relB VL VR g 2 a b = true then 2 else if relB VL VR g 3 a b = true then 3 else 0
end Go.Proofs.YtcoepmpgclndiaaGreatDoor.MatrixAwake
