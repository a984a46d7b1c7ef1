/-
  The chapter of layer 3: its grammars, and what is answered of them.
-/
import Derived.Test.YtcmjneabcdpmoaaDoorGramAboveFn
namespace Go.Proofs.YtcmjneabcdpmoaaDoor.GramAwake
open Go.RowKit Go.Proofs.YtcmjneabcdpmoaaDoor.GramMath Go.Proofs.YtcmjneabcdpmoaaDoor.GramRow Go.Proofs.YtcmjneabcdpmoaaDoor.GramOne Go.Proofs.YtcmjneabcdpmoaaDoor.GramCheck Go.Proofs.YtcmjneabcdpmoaaDoor.GramAboveFn
set_option linter.unusedVariables false

def givenG : G := ⟨[⟨#[43]⟩, ⟨#[105]⟩], [⟨#[69]⟩], 0, [⟨0, [-1, 0, -1]⟩, ⟨0, [1]⟩]⟩
def chainG : G := ⟨[⟨#[116]⟩], [⟨#[65]⟩, ⟨#[66]⟩, ⟨#[67]⟩], 0, [⟨0, [-2]⟩, ⟨1, [-3]⟩, ⟨2, [0]⟩]⟩

theorem one_str {w : World} {a : Option Addr} {b : Nat} {x : ByteArray} (ha : a = some ⟨b, 0, none⟩) (h0 : w.cell? ⟨b, 0, none⟩ = some (.string x)) : SRow w a [x] := fun i y hy => by
  match i, hy with
  | 0, hy => obtain rfl : x = y := by simpa using hy
             exact ⟨b, 0, ha, h0⟩
  | n + 1, hy => simp at hy

theorem two_str {w : World} {a : Option Addr} {b : Nat} {x z : ByteArray} (ha : a = some ⟨b, 0, none⟩) (h0 : w.cell? ⟨b, 0, none⟩ = some (.string x)) (h1 : w.cell? ⟨b, 1, none⟩ = some (.string z)) : SRow w a [x, z] := fun i y hy => by
  match i, hy with
  | 0, hy => obtain rfl : x = y := by simpa using hy
             exact ⟨b, 0, ha, h0⟩
  | 1, hy => obtain rfl : z = y := by simpa using hy
             exact ⟨b, 0, ha, h1⟩
  | n + 2, hy => simp at hy

theorem three_str {w : World} {a : Option Addr} {b : Nat} {x z u : ByteArray} (ha : a = some ⟨b, 0, none⟩) (h0 : w.cell? ⟨b, 0, none⟩ = some (.string x)) (h1 : w.cell? ⟨b, 1, none⟩ = some (.string z)) (h2 : w.cell? ⟨b, 2, none⟩ = some (.string u)) : SRow w a [x, z, u] := fun i y hy => by
  match i, hy with
  | 0, hy => obtain rfl : x = y := by simpa using hy
             exact ⟨b, 0, ha, h0⟩
  | 1, hy => obtain rfl : z = y := by simpa using hy
             exact ⟨b, 0, ha, h1⟩
  | 2, hy => obtain rfl : u = y := by simpa using hy
             exact ⟨b, 0, ha, h2⟩
  | n + 3, hy => simp at hy

theorem one_int {w : World} {b : Nat} {x : Int} (h0 : w.cell? ⟨b, 0, none⟩ = some (.int .i64 x)) : IRow w (some ⟨b, 0, none⟩) [x] := fun i y hy => by
  match i, hy with
  | 0, hy => obtain rfl : x = y := by simpa using hy
             exact ⟨b, 0, rfl, h0⟩
  | n + 1, hy => simp at hy

theorem three_int {w : World} {b : Nat} {x z u : Int} (h0 : w.cell? ⟨b, 0, none⟩ = some (.int .i64 x)) (h1 : w.cell? ⟨b, 1, none⟩ = some (.int .i64 z)) (h2 : w.cell? ⟨b, 2, none⟩ = some (.int .i64 u)) : IRow w (some ⟨b, 0, none⟩) [x, z, u] := fun i y hy => by
  match i, hy with
  | 0, hy => obtain rfl : x = y := by simpa using hy
             exact ⟨b, 0, rfl, h0⟩
  | 1, hy => obtain rfl : z = y := by simpa using hy
             exact ⟨b, 0, rfl, h1⟩
  | 2, hy => obtain rfl : u = y := by simpa using hy
             exact ⟨b, 0, rfl, h2⟩
  | n + 3, hy => simp at hy

theorem two_rule {w : World} {a qa qb : Option Addr} {b ca cb : Nat} {x z : R} (ha : a = some ⟨b, 0, none⟩) (h0 : w.cell? ⟨b, 0, none⟩ = some (.int .i64 x.left)) (h1 : w.cell? ⟨b, 1, none⟩ = some (.slice qa x.right.length ca)) (i0 : IRow w qa x.right)
    (h2 : w.cell? ⟨b, 2, none⟩ = some (.int .i64 z.left)) (h3 : w.cell? ⟨b, 3, none⟩ = some (.slice qb z.right.length cb)) (i1 : IRow w qb z.right) : RRow w a [x, z] := fun i y hy => by
  match i, hy with
  | 0, hy => obtain rfl : x = y := by simpa using hy
             exact ⟨b, 0, _, _, ha, h0, h1, i0⟩
  | 1, hy => obtain rfl : z = y := by simpa using hy
             exact ⟨b, 0, _, _, ha, h2, h3, i1⟩
  | n + 2, hy => simp at hy

theorem three_rule {w : World} {a qa qb qc : Option Addr} {b ca cb cc : Nat} {x z u : R} (ha : a = some ⟨b, 0, none⟩) (h0 : w.cell? ⟨b, 0, none⟩ = some (.int .i64 x.left)) (h1 : w.cell? ⟨b, 1, none⟩ = some (.slice qa x.right.length ca)) (i0 : IRow w qa x.right)
    (h2 : w.cell? ⟨b, 2, none⟩ = some (.int .i64 z.left)) (h3 : w.cell? ⟨b, 3, none⟩ = some (.slice qb z.right.length cb)) (i1 : IRow w qb z.right)
    (h4 : w.cell? ⟨b, 4, none⟩ = some (.int .i64 u.left)) (h5 : w.cell? ⟨b, 5, none⟩ = some (.slice qc u.right.length cc)) (i2 : IRow w qc u.right) : RRow w a [x, z, u] := fun i y hy => by
  match i, hy with
  | 0, hy => obtain rfl : x = y := by simpa using hy
             exact ⟨b, 0, _, _, ha, h0, h1, i0⟩
  | 1, hy => obtain rfl : z = y := by simpa using hy
             exact ⟨b, 0, _, _, ha, h2, h3, i1⟩
  | 2, hy => obtain rfl : u = y := by simpa using hy
             exact ⟨b, 0, _, _, ha, h4, h5, i2⟩
  | n + 3, hy => simp at hy

/-- Sets in a row. -/
def URow (w : World) (a : Option Addr) (n : Nat) (V : Nat → Nat) : Prop := ∀ i, i < n → ∃ b off, a = some ⟨b, off, none⟩ ∧ w.cell? ⟨b, off + i, none⟩ = some (.int .u64 (V i : Int))

theorem vrow_row {w : World} {b n : Nat} {V : Nat → Nat} (h : VRow w b n V) : URow w (some ⟨b, 0, none⟩) n V := fun i hi => ⟨b, 0, rfl, by rw [Nat.zero_add]; exact (h i hi).1⟩
theorem URow.below {w w' : World} {a : Option Addr} {n B : Nat} {V : Nat → Nat} (h : URow w a n V) (hb : Below B w w') (hB : w.heap.size ≤ B) : URow w' a n V := fun i hi => by
  obtain ⟨b, off, ha, hc⟩ := h i hi
  exact ⟨b, off, ha, by rw [hb.cell (Nat.lt_of_lt_of_le (cell_lt hc) hB)]; exact hc⟩

theorem above_one {g : G} {V U : Nat → Nat} (hV : IsAbove g V) (hU : IsAbove g U) (i : Nat) (hi : i < g.ns.length) : V i = U i := by
  apply Nat.eq_of_testBit_eq
  intro k
  rw [Bool.eq_iff_iff, (hV i hi).2 k, (hU i hi).2 k]

def chainV : Nat → Nat
  | 0 => 1
  | 1 => 3
  | 2 => 7
  | _ => 0

theorem chain_ok : okG chainG := by
  refine ⟨by decide, by decide, by decide, ⟨by decide, by decide⟩, ?_, ?_, ?_⟩
  · intro r hr
    simp only [chainG, List.mem_cons, List.not_mem_nil, or_false] at hr
    rcases hr with rfl | rfl | rfl <;> exact ⟨⟨by decide, by decide⟩, by intro x hx; simp only [List.mem_cons, List.not_mem_nil, or_false] at hx; subst hx; exact ⟨by decide, by decide⟩, by decide⟩
  · intro s hs
    simp only [chainG, List.mem_cons, List.not_mem_nil, or_false] at hs
    subst hs
    decide
  · intro s hs
    simp only [chainG, List.mem_cons, List.not_mem_nil, or_false] at hs
    rcases hs with rfl | rfl | rfl <;> decide

theorem given_ok : okG givenG := by
  refine ⟨by decide, by decide, by decide, ⟨by decide, by decide⟩, ?_, ?_, ?_⟩
  · intro r hr
    simp only [givenG, List.mem_cons, List.not_mem_nil, or_false] at hr
    rcases hr with rfl | rfl
    · exact ⟨⟨by decide, by decide⟩, by intro x hx; simp only [List.mem_cons, List.not_mem_nil, or_false] at hx; rcases hx with rfl | rfl | rfl <;> exact ⟨by decide, by decide⟩, by decide⟩
    · exact ⟨⟨by decide, by decide⟩, by intro x hx; simp only [List.mem_cons, List.not_mem_nil, or_false] at hx; subst hx; exact ⟨by decide, by decide⟩, by decide⟩
  · intro s hs
    simp only [givenG, List.mem_cons, List.not_mem_nil, or_false] at hs
    rcases hs with rfl | rfl <;> decide
  · intro s hs
    simp only [givenG, List.mem_cons, List.not_mem_nil, or_false] at hs
    subst hs
    decide

theorem chain_check : checkG chainG = (0, none) := by decide
theorem given_check : checkG givenG = (0, none) := by decide
theorem given_term : idxN givenG.ts ⟨#[105]⟩ = 1 ∧ idxB givenG.ts ⟨#[105]⟩ = true := by decide

theorem chain_r01 : Ren chainG 0 1 := ⟨⟨0, [-2]⟩, by simp [chainG], by decide, by decide, by decide⟩
theorem chain_r12 : Ren chainG 1 2 := ⟨⟨1, [-3]⟩, by simp [chainG], by decide, by decide, by decide⟩

theorem bits7 {v k : Nat} (hv : v < 8) (h : v.testBit k = true) : k < 3 := by
  rcases Nat.lt_or_ge k 3 with h3 | h3
  · exact h3
  · have : v < 2 ^ k := Nat.lt_of_lt_of_le (show v < 2 ^ 3 by simpa using hv) (Nat.pow_le_pow_right (by omega) h3)
    rw [Nat.testBit_lt_two_pow this] at h
    cases h

theorem chain_above : IsAbove chainG chainV := by
  refine shut_above (good_of (by rw [chain_check])) ?_ ?_
  · intro i hi
    have hi3 : i < 3 := hi
    match i, hi3 with
    | 0, _ =>
      refine ⟨by decide, by decide, fun k hk => ?_⟩
      have := bits7 (v := 1) (by omega) hk
      match k, this, hk with
      | 0, _, _ => exact .refl _
      | 1, _, hk => exact absurd hk (by decide)
      | 2, _, hk => exact absurd hk (by decide)
    | 1, _ =>
      refine ⟨by decide, by decide, fun k hk => ?_⟩
      have := bits7 (v := 3) (by omega) hk
      match k, this, hk with
      | 0, _, _ => exact .step chain_r01 (.refl _)
      | 1, _, _ => exact .refl _
      | 2, _, hk => exact absurd hk (by decide)
    | 2, _ =>
      refine ⟨by decide, by decide, fun k hk => ?_⟩
      have := bits7 (v := 7) (by omega) hk
      match k, this, hk with
      | 0, _, _ => exact .step chain_r01 (.step chain_r12 (.refl _))
      | 1, _, _ => exact .step chain_r12 (.refl _)
      | 2, _, _ => exact .refl _
  · intro r hr
    simp only [chainG, List.mem_cons, List.not_mem_nil, or_false] at hr
    rcases hr with rfl | rfl | rfl <;> (intro h; first | decide | exact absurd h (by decide))

end Go.Proofs.YtcmjneabcdpmoaaDoor.GramAwake

namespace Go.Proofs.YtcmjneabcdpmoaaDoor.GramAwake
open Go.RowKit Go.Proofs.YtcmjneabcdpmoaaDoor.GramMath Go.Proofs.YtcmjneabcdpmoaaDoor.GramRow Go.Proofs.YtcmjneabcdpmoaaDoor.GramOne Go.Proofs.YtcmjneabcdpmoaaDoor.GramCheck Go.Proofs.YtcmjneabcdpmoaaDoor.GramAboveFn
set_option linter.unusedVariables false

end Go.Proofs.YtcmjneabcdpmoaaDoor.GramAwake
