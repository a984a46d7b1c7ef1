/-
  Texts that stand together: EndsChain, EndsAwake, MatrixAwake.
-/
import Derived.Test.YtcoepmpgclndiaaGreatDoorBEndsSearch
import Derived.Test.YtcoepmpgclndiaaGreatDoorBEndsOfs
import Derived.Test.YtcoepmpgclndiaaGreatDoorGramErrs
import Derived.Test.YtcoepmpgclndiaaGreatDoorBagMatrixTabs
import Derived.Test.YtcoepmpgclndiaaGreatDoorBagGramEq
import Derived.Test.YtcoepmpgclndiaaGreatDoorBMatrixOf
namespace Go.Proofs.YtcoepmpgclndiaaGreatDoor.EndsChain
open Go.RowKit Go.Proofs.YtcoepmpgclndiaaGreatDoor.GramMath Go.Proofs.YtcoepmpgclndiaaGreatDoor.GramRow Go.Proofs.YtcoepmpgclndiaaGreatDoor.GramCheck Go.Proofs.YtcoepmpgclndiaaGreatDoor.GramErrs Go.Proofs.YtcoepmpgclndiaaGreatDoor.EndsMath Go.Proofs.YtcoepmpgclndiaaGreatDoor.EndsFn Go.Proofs.YtcoepmpgclndiaaGreatDoor.EndsSearch
set_option linter.unusedVariables false

/-- A nonterminal and a terminal of a grammar. -/
def InG (g : G) (n t : Int) : Prop := 0 ≤ n ∧ n < g.ns.length ∧ 0 ≤ t ∧ t < g.ts.length

/-- What Chain finds, and what is wrong. -/
def ChainR (g : G) (n t : Int) (b : Bool) (z : Nat × Option Nat) (o : Option (List Int)) : Prop :=
  ((checkG g).1 ≠ 0 ∧ z = checkG g ∧ o = none) ∨ ((checkG g).1 = 0 ∧ ¬ InG g n t ∧ z = (1, none) ∧ o = none) ∨
  ((checkG g).1 = 0 ∧ InG g n t ∧ FoundE b g.rs n.toNat t.toNat o ∧ z = ((if o.isSome = true then 0 else 15), none))

theorem ChainR.det {g : G} {n t : Int} {b : Bool} {z z' : Nat × Option Nat} {o o' : Option (List Int)} (h : ChainR g n t b z o) (h' : ChainR g n t b z' o') : z = z' ∧ o = o' := by
  rcases h with ⟨a1, rfl, rfl⟩ | ⟨a1, a2, rfl, rfl⟩ | ⟨a1, a2, a3, rfl⟩
  · rcases h' with ⟨b1, rfl, rfl⟩ | ⟨b1, b2, rfl, rfl⟩ | ⟨b1, b2, b3, rfl⟩
    · exact ⟨rfl, rfl⟩
    · exact absurd b1 a1
    · exact absurd b1 a1
  · rcases h' with ⟨b1, rfl, rfl⟩ | ⟨b1, b2, rfl, rfl⟩ | ⟨b1, b2, b3, rfl⟩
    · exact absurd a1 b1
    · exact ⟨rfl, rfl⟩
    · exact absurd b2 a2
  · rcases h' with ⟨b1, rfl, rfl⟩ | ⟨b1, b2, rfl, rfl⟩ | ⟨b1, b2, b3, rfl⟩
    · exact absurd a1 b1
    · exact absurd a2 b2
    · obtain rfl := a3.det b3
      exact ⟨rfl, rfl⟩

theorem chv_len {base : Nat} {w : World} {v : Value} {o : Option (List Int)} (h : ChV base w v o) : ∃ a l c, v = .slice a l c ∧ (∀ x, o = some x → l = x.length) ∧ (o = none → a = none ∧ l = 0 ∧ c = 0) := by
  match o, h with
  | none, h => exact ⟨none, 0, 0, h, fun x hx => (by cases hx), fun _ => ⟨rfl, rfl, rfl⟩⟩
  | some x, ⟨g, cap, h, _⟩ => exact ⟨_, _, _, h, fun y hy => (by cases hy; rfl), fun h => by cases h⟩

/-- A chain has a rule at least. -/
theorem found_pos {b : Bool} {t : Nat} {rs : List R} {ring : List Wy} {S : Nat → Bool} {o : Option (List Int)} (h : Search b t rs ring S o) : ∀ c, o = some c → 0 < c.length := by
  induction h with
  | none S => intro c hc; cases hc
  | hit hh =>
    intro c hc
    cases hc
    rename_i ring S c'
    revert hh
    generalize ring = ys
    induction ys with
    | nil => intro hh; cases hh
    | cons y ys ih =>
      intro hh
      unfold hitW at hh
      cases hy : hitR b t y.rules y.to 0 rs with
      | none => rw [hy] at hh; exact ih hh
      | some d =>
        rw [hy] at hh
        cases hh
        have := EndsWays.hitR_len hy
        omega
  | step _ _ _ ih => exact ih

end Go.Proofs.YtcoepmpgclndiaaGreatDoor.EndsChain

namespace Go.Proofs.YtcoepmpgclndiaaGreatDoor.EndsAwake
open Go.RowKit Go.Proofs.YtcoepmpgclndiaaGreatDoor.GramMath Go.Proofs.YtcoepmpgclndiaaGreatDoor.GramRow Go.Proofs.YtcoepmpgclndiaaGreatDoor.GramCheck Go.Proofs.YtcoepmpgclndiaaGreatDoor.GramErrs Go.Proofs.YtcoepmpgclndiaaGreatDoor.GramAwake Go.Proofs.YtcoepmpgclndiaaGreatDoor.GramAboveFn Go.Proofs.YtcoepmpgclndiaaGreatDoor.GramSame Go.Proofs.YtcoepmpgclndiaaGreatDoor.EndsMath Go.Proofs.YtcoepmpgclndiaaGreatDoor.EndsFn Go.Proofs.YtcoepmpgclndiaaGreatDoor.EndsSearch Go.Proofs.YtcoepmpgclndiaaGreatDoor.EndsChain
set_option linter.unusedVariables false

def gG : G := ⟨[⟨#[43]⟩, ⟨#[42]⟩, ⟨#[40]⟩, ⟨#[41]⟩, ⟨#[105]⟩], [⟨#[69]⟩, ⟨#[84]⟩, ⟨#[70]⟩], 0, [⟨0, [-1, 0, -2]⟩, ⟨0, [-2]⟩, ⟨1, [-2, 1, -3]⟩, ⟨1, [-3]⟩, ⟨2, [2, -1, 3]⟩, ⟨2, [4]⟩]⟩

theorem five_str {w : World} {a : Option Addr} {b : Nat} {x0 x1 x2 x3 x4 : ByteArray} (ha : a = some ⟨b, 0, none⟩) (h0 : w.cell? ⟨b, 0, none⟩ = some (.string x0)) (h1 : w.cell? ⟨b, 1, none⟩ = some (.string x1)) (h2 : w.cell? ⟨b, 2, none⟩ = some (.string x2)) (h3 : w.cell? ⟨b, 3, none⟩ = some (.string x3)) (h4 : w.cell? ⟨b, 4, none⟩ = some (.string x4)) : SRow w a [x0, x1, x2, x3, x4] := fun i y hy => by
  match i, hy with
  | 0, hy => obtain rfl : x0 = y := by simpa using hy
             exact ⟨b, 0, ha, h0⟩
  | 1, hy => obtain rfl : x1 = y := by simpa using hy
             exact ⟨b, 0, ha, h1⟩
  | 2, hy => obtain rfl : x2 = y := by simpa using hy
             exact ⟨b, 0, ha, h2⟩
  | 3, hy => obtain rfl : x3 = y := by simpa using hy
             exact ⟨b, 0, ha, h3⟩
  | 4, hy => obtain rfl : x4 = y := by simpa using hy
             exact ⟨b, 0, ha, h4⟩
  | n + 5, hy => simp at hy

theorem six_rule {w : World} {a q0 q1 q2 q3 q4 q5 : Option Addr} {b k0 k1 k2 k3 k4 k5 : Nat} {x0 x1 x2 x3 x4 x5 : R} (ha : a = some ⟨b, 0, none⟩) (a0 : w.cell? ⟨b, 0, none⟩ = some (.int .i64 x0.left)) (c0 : w.cell? ⟨b, 1, none⟩ = some (.slice q0 x0.right.length k0)) (i0 : IRow w q0 x0.right) (a1 : w.cell? ⟨b, 2, none⟩ = some (.int .i64 x1.left)) (c1 : w.cell? ⟨b, 3, none⟩ = some (.slice q1 x1.right.length k1)) (i1 : IRow w q1 x1.right) (a2 : w.cell? ⟨b, 4, none⟩ = some (.int .i64 x2.left)) (c2 : w.cell? ⟨b, 5, none⟩ = some (.slice q2 x2.right.length k2)) (i2 : IRow w q2 x2.right) (a3 : w.cell? ⟨b, 6, none⟩ = some (.int .i64 x3.left)) (c3 : w.cell? ⟨b, 7, none⟩ = some (.slice q3 x3.right.length k3)) (i3 : IRow w q3 x3.right) (a4 : w.cell? ⟨b, 8, none⟩ = some (.int .i64 x4.left)) (c4 : w.cell? ⟨b, 9, none⟩ = some (.slice q4 x4.right.length k4)) (i4 : IRow w q4 x4.right) (a5 : w.cell? ⟨b, 10, none⟩ = some (.int .i64 x5.left)) (c5 : w.cell? ⟨b, 11, none⟩ = some (.slice q5 x5.right.length k5)) (i5 : IRow w q5 x5.right) : RRow w a [x0, x1, x2, x3, x4, x5] := fun i y hy => by
  match i, hy with
  | 0, hy => obtain rfl : x0 = y := by simpa using hy
             exact ⟨b, 0, _, _, ha, a0, c0, i0⟩
  | 1, hy => obtain rfl : x1 = y := by simpa using hy
             exact ⟨b, 0, _, _, ha, a1, c1, i1⟩
  | 2, hy => obtain rfl : x2 = y := by simpa using hy
             exact ⟨b, 0, _, _, ha, a2, c2, i2⟩
  | 3, hy => obtain rfl : x3 = y := by simpa using hy
             exact ⟨b, 0, _, _, ha, a3, c3, i3⟩
  | 4, hy => obtain rfl : x4 = y := by simpa using hy
             exact ⟨b, 0, _, _, ha, a4, c4, i4⟩
  | 5, hy => obtain rfl : x5 = y := by simpa using hy
             exact ⟨b, 0, _, _, ha, a5, c5, i5⟩
  | n + 6, hy => simp at hy

/-- Does a terminal come within so many steps? -/
def LftB (b : Bool) (rs : List R) : Nat → Nat → Nat → Bool
  | 0, _, _ => false
  | k + 1, n, t => rs.any (fun r => r.left.toNat == n && (shO b r == some t || (match ldO b r with | some m => LftB b rs k m t | none => false)))

theorem LftB.lft {b : Bool} {rs : List R} : ∀ {k n t : Nat}, LftB b rs k n t = true → Lft b rs n t
  | 0, _, _, h => by cases h
  | k + 1, n, t, h => by
    unfold LftB at h
    rw [List.any_eq_true] at h
    obtain ⟨r, hr, h⟩ := h
    rw [Bool.and_eq_true, Bool.or_eq_true, beq_iff_eq, beq_iff_eq] at h
    obtain ⟨rfl, h⟩ := h
    rcases h with h | h
    · exact .shows hr h
    · cases hl : ldO b r with
      | none => rw [hl] at h; cases h
      | some m => rw [hl] at h; exact .leads hr hl (LftB.lft h)

def endsB (b : Bool) (g : G) (V : Nat → Nat) (k : Nat) : Bool :=
  (List.range g.ns.length).all (fun i => decide (V i < 2 ^ g.ts.length) && (List.range g.ts.length).all (fun t => !(V i).testBit t || LftB b g.rs k i t)) && g.rs.all (fun r => wid b V r == V r.left.toNat)

theorem ends_of_B {b : Bool} {g : G} (hg : GoodG g) {V : Nat → Nat} {k : Nat} (h : endsB b g V k = true) : IsEnds b g V := by
  unfold endsB at h
  rw [Bool.and_eq_true, List.all_eq_true, List.all_eq_true] at h
  refine ends_of hg (fun i hi => ?_) (fun r hr => by have := h.2 r hr; rw [beq_iff_eq] at this; exact this)
  have h1 := h.1 i (List.mem_range.2 hi)
  rw [Bool.and_eq_true, decide_eq_true_iff, List.all_eq_true] at h1
  refine ⟨h1.1, fun t ht => ?_⟩
  have htl : t < g.ts.length := by
    rcases Nat.lt_or_ge t g.ts.length with h | h
    · exact h
    · rw [Nat.testBit_lt_two_pow (Nat.lt_of_lt_of_le h1.1 (Nat.pow_le_pow_right (by omega) h))] at ht
      cases ht
  have h2 := h1.2 t (List.mem_range.2 htl)
  rw [ht] at h2
  exact LftB.lft (by simpa using h2)

def VL : Nat → Nat
  | 0 => 23
  | 1 => 22
  | 2 => 20
  | _ => 0
def VR : Nat → Nat
  | 0 => 27
  | 1 => 26
  | 2 => 24
  | _ => 0

theorem g_check : checkG gG = (0, none) := by kernel_rfl
theorem g_good : GoodG gG := good_of (by rw [g_check])
theorem g_left : IsEnds false gG VL := ends_of_B g_good (k := 4) (by kernel_rfl)
theorem g_right : IsEnds true gG VR := ends_of_B g_good (k := 4) (by kernel_rfl)

theorem g_ok : okG gG := by
  refine ⟨by decide, by decide, by decide, ⟨by decide, by decide⟩, ?_, ?_, ?_⟩
  · intro r hr
    simp only [gG, List.mem_cons, List.not_mem_nil, or_false] at hr
    rcases hr with rfl | rfl | rfl | rfl | rfl | rfl <;> exact ⟨⟨by decide, by decide⟩, by intro x hx; simp only [List.mem_cons, List.not_mem_nil, or_false] at hx; first | (subst hx; exact ⟨by decide, by decide⟩) | (rcases hx with rfl | rfl | rfl <;> exact ⟨by decide, by decide⟩), by decide⟩
  · intro s hs
    simp only [gG, List.mem_cons, List.not_mem_nil, or_false] at hs
    rcases hs with rfl | rfl | rfl | rfl | rfl <;> decide
  · intro s hs
    simp only [gG, List.mem_cons, List.not_mem_nil, or_false] at hs
    rcases hs with rfl | rfl | rfl <;> decide

theorem urow_three {w : World} {b x y z : Nat} {V : Nat → Nat} (h0 : w.cell? ⟨b, 0, none⟩ = some (.int .u64 (V 0 : Int))) (h1 : w.cell? ⟨b, 1, none⟩ = some (.int .u64 (V 1 : Int))) (h2 : w.cell? ⟨b, 2, none⟩ = some (.int .u64 (V 2 : Int))) : URow w (some ⟨b, 0, none⟩) 3 V := fun i hi => ⟨b, 0, rfl, by
  rw [Nat.zero_add]
  match i, hi with
  | 0, _ => exact h0
  | 1, _ => exact h1
  | 2, _ => exact h2⟩

theorem _root_.Go.Proofs.YtcoepmpgclndiaaGreatDoor.EndsFn.SetsAt.row_eq {base : Nat} {w : World} {bb : Bool} {g : G} {b : Nat} {V U : Nat → Nat} (h : SetsAt base w bb g b V) (hU : IsEnds bb g U) : URow w (some ⟨b, 0, none⟩) g.ns.length U := vrow_row (h.row.congr (fun i hi => h.ends.eq hU hi hi (fun _ => Iff.rfl)))

end Go.Proofs.YtcoepmpgclndiaaGreatDoor.EndsAwake

namespace Go.Proofs.YtcoepmpgclndiaaGreatDoor.MatrixAwake
open Go.RowKit Go.Proofs.YtcoepmpgclndiaaGreatDoor.GramMath Go.Proofs.YtcoepmpgclndiaaGreatDoor.GramRow Go.Proofs.YtcoepmpgclndiaaGreatDoor.GramCheck Go.Proofs.YtcoepmpgclndiaaGreatDoor.GramErrs Go.Proofs.YtcoepmpgclndiaaGreatDoor.GramAwake Go.Proofs.YtcoepmpgclndiaaGreatDoor.GramAboveFn Go.Proofs.YtcoepmpgclndiaaGreatDoor.GramSame Go.Proofs.YtcoepmpgclndiaaGreatDoor.EndsMath Go.Proofs.YtcoepmpgclndiaaGreatDoor.EndsFn Go.Proofs.YtcoepmpgclndiaaGreatDoor.EndsAwake Go.Proofs.YtcoepmpgclndiaaGreatDoor.SetsMath Go.Proofs.YtcoepmpgclndiaaGreatDoor.SetsAlg Go.Proofs.YtcoepmpgclndiaaGreatDoor.MatrixMath Go.Proofs.YtcoepmpgclndiaaGreatDoor.MatrixPut Go.Proofs.YtcoepmpgclndiaaGreatDoor.MatrixOf Go.Proofs.YtcoepmpgclndiaaGreatDoor.GramOpen
set_option linter.unusedVariables false
set_option linter.unusedSimpArgs false

def hG : G := ⟨[⟨#[97]⟩, ⟨#[98]⟩], [⟨#[83]⟩], 0, [⟨0, [0, -1, 1]⟩, ⟨0, [0, 1]⟩]⟩
def sG : G := ⟨[⟨#[43]⟩, ⟨#[105]⟩], [⟨#[69]⟩], 0, [⟨0, [-1, 0, -1]⟩, ⟨0, [1]⟩]⟩

theorem two_int {w : World} {b : Nat} {x z : Int} (h0 : w.cell? ⟨b, 0, none⟩ = some (.int .i64 x)) (h1 : w.cell? ⟨b, 1, none⟩ = some (.int .i64 z)) : IRow w (some ⟨b, 0, none⟩) [x, z] := fun i y hy => by
  match i, hy with
  | 0, hy => obtain rfl : x = y := by simpa using hy
             exact ⟨b, 0, rfl, by simpa using h0⟩
  | 1, hy => obtain rfl : z = y := by simpa using hy
             exact ⟨b, 0, rfl, by simpa using h1⟩
  | n + 2, hy => simp at hy

theorem caps_two {w : World} {b n0 n1 k0 k1 : Nat} {q0 q1 : Option Addr} (c0 : w.cell? ⟨b, 1, none⟩ = some (.slice q0 n0 k0)) (c1 : w.cell? ⟨b, 3, none⟩ = some (.slice q1 n1 k1)) (h0 : n0 ≤ k0) (h1 : n1 ≤ k1) : Caps w (some ⟨b, 0, none⟩) 2 := by
  rintro i hi b' off' he qa n qc hq
  obtain ⟨rfl, rfl⟩ : b = b' ∧ 0 = off' := by simpa using he
  match i, hi with
  | 0, _ =>
    have : some (Value.slice q0 n0 k0) = some (.slice qa n qc) := c0.symm.trans hq
    simp at this
    omega
  | 1, _ =>
    have : some (Value.slice q1 n1 k1) = some (.slice qa n qc) := c1.symm.trans hq
    simp at this
    omega

def hVL : Nat → Nat | 0 => 1 | _ => 0
def hVR : Nat → Nat | 0 => 2 | _ => 0
def sV : Nat → Nat | 0 => 3 | _ => 0
theorem h_check : checkG hG = (0, none) := by kernel_rfl
theorem s_check : checkG sG = (0, none) := by kernel_rfl
theorem h_good : GoodG hG := good_of (by rw [h_check])
theorem s_good : GoodG sG := good_of (by rw [s_check])
theorem h_left : IsEnds false hG hVL := ends_of_B h_good (k := 3) (by kernel_rfl)
theorem h_right : IsEnds true hG hVR := ends_of_B h_good (k := 3) (by kernel_rfl)
theorem s_left : IsEnds false sG sV := ends_of_B s_good (k := 3) (by kernel_rfl)
theorem s_right : IsEnds true sG sV := ends_of_B s_good (k := 3) (by kernel_rfl)

theorem h_ok : okG hG := by
  refine ⟨by decide, by decide, by decide, ⟨by decide, by decide⟩, ?_, ?_, ?_⟩
  · intro r hr
    simp only [hG, List.mem_cons, List.not_mem_nil, or_false] at hr
    rcases hr with rfl | rfl <;> exact ⟨⟨by decide, by decide⟩, by intro x hx; simp only [List.mem_cons, List.not_mem_nil, or_false] at hx; first | (rcases hx with rfl | rfl | rfl <;> exact ⟨by decide, by decide⟩) | (rcases hx with rfl | rfl <;> exact ⟨by decide, by decide⟩), by decide⟩
  · intro s hs
    simp only [hG, List.mem_cons, List.not_mem_nil, or_false] at hs
    rcases hs with rfl | rfl <;> decide
  · intro s hs
    simp only [hG, List.mem_cons, List.not_mem_nil, or_false] at hs
    rcases hs with rfl <;> decide
theorem s_ok : okG sG := by
  refine ⟨by decide, by decide, by decide, ⟨by decide, by decide⟩, ?_, ?_, ?_⟩
  · intro r hr
    simp only [sG, List.mem_cons, List.not_mem_nil, or_false] at hr
    rcases hr with rfl | rfl <;> exact ⟨⟨by decide, by decide⟩, by intro x hx; simp only [List.mem_cons, List.not_mem_nil, or_false] at hx; first | (subst hx; exact ⟨by decide, by decide⟩) | (rcases hx with rfl | rfl | rfl <;> exact ⟨by decide, by decide⟩), by decide⟩
  · intro s hs
    simp only [sG, List.mem_cons, List.not_mem_nil, or_false] at hs
    rcases hs with rfl | rfl <;> decide
  · intro s hs
    simp only [sG, List.mem_cons, List.not_mem_nil, or_false] at hs
    rcases hs with rfl <;> decide

/-- A relation, looked up among all that are found. -/
def relB (VL VR : Nat → Nat) (g : G) (x a b : Int) : Bool := (findsF VL VR g).any (fun f => f.rel == x && f.a == a && f.b == b)
theorem relB_iff {VL VR : Nat → Nat} {g : G} (hg : GoodG g) (hL : IsEnds false g VL) (hR : IsEnds true g VR) {x a b : Int} : relB VL VR g x a b = true ↔ Rel g x a b := by
  unfold relB
  rw [List.any_eq_true, ← finds_iff hg hL hR]
  constructor
  · rintro ⟨f, hf, h⟩
    simp at h
    exact ⟨f, hf, h.1.1, h.1.2, h.2⟩
  · rintro ⟨f, hf, h1, h2, h3⟩
    exact ⟨f, hf, by simp [h1, h2, h3]⟩
theorem holds_B {VL VR : Nat → Nat} {g : G} (hg : GoodG g) (hL : IsEnds false g VL) (hR : IsEnds true g VR) {S : Nat → Nat → Int} (h : IsMat g S) {x a b : Int} (h1 : 1 ≤ x) (h3 : x ≤ 3) : holdsB ((g.ts.length + 1 : Nat) : Int) S a b x = relB VL VR g x a b := by
  rw [Bool.eq_iff_iff, holds_iff hg h h1 h3, relB_iff hg hL hR]
def atB (VL VR : Nat → Nat) (g : G) (a b : Int) : Int := if relB VL VR g 1 a b = true then 1 else if relB VL VR g 2 a b = true then 2 else if relB VL VR g 3 a b = true then 3 else 0
theorem at_B {VL VR : Nat → Nat} {g : G} (hg : GoodG g) (hL : IsEnds false g VL) (hR : IsEnds true g VR) {S : Nat → Nat → Int} (h : IsMat g S) {a b : Int} : atI ((g.ts.length + 1 : Nat) : Int) S a b = atB VL VR g a b := by
  unfold atI atB
  rw [holds_B hg hL hR h (by decide) (by decide), holds_B hg hL hR h (by decide) (by decide), holds_B hg hL hR h (by decide) (by decide)]

theorem nested_of (p : Nat → Addr) (w : World) (hS : Sents w p) (hT : Tab w) (hTG : 16 < w.heap.size) (ta na ra : Option Addr) (hG' : GRow w ta na ra hG) (hc : Caps w ra 2) :
    Calls Tryz.prog 5 #[.agg #[.slice ta 2 2, .slice na 1 1, .int .i64 0, .slice ra 2 2]] w fun e w' => (∃ M S, e = .returned (.tuple #[.pointer (some ⟨M, 0, none⟩), .nilIface]) ∧ MatAt w' M 3 S ∧ IsMat hG S) ∧ Below w.heap.size w w' := by
  refine (MOf_top ta na ra 2 1 2 hG p w hG' hc h_ok (by decide) (by decide) hS hT hTG).mono ?_
  rintro e w' ⟨⟨u, x, rfl, hO, hx⟩, hb⟩
  rw [h_check] at hx
  obtain rfl : x = .nilIface := hx
  rcases hO with ⟨_, M, S, rfl, _, hm, hi⟩ | ⟨hno, _⟩
  · exact ⟨⟨M, S, rfl, hm, hi⟩, hb⟩
  · exact absurd (by rw [h_check]) hno
theorem sums_of (p : Nat → Addr) (w : World) (hS : Sents w p) (hT : Tab w) (hTG : 16 < w.heap.size) (ta na ra : Option Addr) (hG' : GRow w ta na ra sG) (hc : Caps w ra 2) :
    Calls Tryz.prog 5 #[.agg #[.slice ta 2 2, .slice na 1 1, .int .i64 0, .slice ra 2 2]] w fun e w' => (∃ M S, e = .returned (.tuple #[.pointer (some ⟨M, 0, none⟩), .nilIface]) ∧ MatAt w' M 3 S ∧ IsMat sG S) ∧ Below w.heap.size w w' := by
  refine (MOf_top ta na ra 2 1 2 sG p w hG' hc s_ok (by decide) (by decide) hS hT hTG).mono ?_
  rintro e w' ⟨⟨u, x, rfl, hO, hx⟩, hb⟩
  rw [s_check] at hx
  obtain rfl : x = .nilIface := hx
  rcases hO with ⟨_, M, S, rfl, _, hm, hi⟩ | ⟨hno, _⟩
  · exact ⟨⟨M, S, rfl, hm, hi⟩, hb⟩
  · exact absurd (by rw [s_check]) hno

end Go.Proofs.YtcoepmpgclndiaaGreatDoor.MatrixAwake
