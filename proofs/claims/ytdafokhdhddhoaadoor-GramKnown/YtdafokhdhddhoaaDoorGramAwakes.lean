/-
  The chapter of layer 3: its grammars, and what is answered of them.
-/
import Derived.Test.YtdafokhdhddhoaaDoorGramAboveFn
namespace Go.Proofs.YtdafokhdhddhoaaDoor.GramAwake
open Go.RowKit Go.Proofs.YtdafokhdhddhoaaDoor.GramMath Go.Proofs.YtdafokhdhddhoaaDoor.GramRow Go.Proofs.YtdafokhdhddhoaaDoor.GramOne Go.Proofs.YtdafokhdhddhoaaDoor.GramCheck Go.Proofs.YtdafokhdhddhoaaDoor.GramAboveFn
set_option linter.unusedVariables false

def givenG : G := ⟨[⟨#[43]⟩, ⟨#[105]⟩], [⟨#[69]⟩], 0, [⟨0, [-1, 0, -1]⟩, ⟨0, [1]⟩]⟩
def chainG : G := ⟨[⟨#[116]⟩], [⟨#[65]⟩, ⟨#[66]⟩, ⟨#[67]⟩], 0, [⟨0, [-2]⟩, ⟨1, [-3]⟩, ⟨2, [0]⟩]⟩

theorem one_str {w : World} {a : Option Addr} {b : Nat} {x : ByteArray} (ha : a = some ⟨b, 0, none⟩) (h0 : w.cell? ⟨b, 0, none⟩ = some (.string x)) : SRow w a [x] := fun i y hy => by
  match i, hy with
  | 0, hy => obtain rfl : x = y := by simpa using hy
             exact ⟨b, 0, ha, h0⟩
  | n + 1, hy => simp at hy

theorem two_str {w : World} {a : Option Addr} {b : Nat} {x z : ByteArray} (ha : a = some ⟨b, 0, none⟩) (h0 : w.cell? ⟨b, 0, none⟩ = some (.string x)) (h1 : w.cell? ⟨b, 1, none⟩ = some (.string z)) : SRow w a [x, z] := fun i y hy => by
  match i, hy with
  | 0, hy => obtain rfl : x = y := by simpa using hy
             exact ⟨b, 0, ha, h0⟩
  | 1, hy => obtain rfl : z = y := by simpa using hy
             exact ⟨b, 0, ha, h1⟩
  | n + 2, hy => simp at hy

theorem three_str {w : World} {a : Option Addr} {b : Nat} {x z u : ByteArray} (ha : a = some ⟨b, 0, none⟩) (h0 : w.cell? ⟨b, 0, none⟩ = some (.string x)) (h1 : w.cell? ⟨b, 1, none⟩ = some (.string z)) (h2 : w.cell? ⟨b, 2, none⟩ = some (.string u)) : SRow w a [x, z, u] := fun i y hy => by
  match i, hy with
  | 0, hy => obtain rfl : x = y := by simpa using hy
             exact ⟨b, 0, ha, h0⟩
  | 1, hy => obtain rfl : z = y := by simpa using hy
             exact ⟨b, 0, ha, h1⟩
  | 2, hy => obtain rfl : u = y := by simpa using hy
             exact ⟨b, 0, ha, h2⟩
  | n + 3, hy => simp at hy

theorem one_int {w : World} {b : Nat} {x : Int} (h0 : w.cell? ⟨b, 0, none⟩ = some (.int .i64 x)) : IRow w (some ⟨b, 0, none⟩) [x] := fun i y hy => by
  match i, hy with
  | 0, hy => obtain rfl : x = y := by simpa using hy
             exact ⟨b, 0, rfl, h0⟩
  | n + 1, hy => simp at hy

theorem three_int {w : World} {b : Nat} {x z u : Int} (h0 : w.cell? ⟨b, 0, none⟩ = some (.int .i64 x)) (h1 : w.cell? ⟨b, 1, none⟩ = some (.int .i64 z)) (h2 : w.cell? ⟨b, 2, none⟩ = some (.int .i64 u)) : IRow w (some ⟨b, 0, none⟩) [x, z, u] := fun i y hy => by
  match i, hy with
  | 0, hy => obtain rfl : x = y := by simpa using hy
             exact ⟨b, 0, rfl, h0⟩
  | 1, hy => obtain rfl : z = y := by simpa using hy
             exact ⟨b, 0, rfl, h1⟩
  | 2, hy => obtain rfl : u = y := by simpa using hy
             exact ⟨b, 0, rfl, h2⟩
  | n + 3, hy => simp at hy

theorem two_rule {w : World} {a qa qb : Option Addr} {b ca cb : Nat} {x z : R} (ha : a = some ⟨b, 0, none⟩) (h0 : w.cell? ⟨b, 0, none⟩ = some (.int .i64 x.left)) (h1 : w.cell? ⟨b, 1, none⟩ = some (.slice qa x.right.length ca)) (i0 : IRow w qa x.right)
    (h2 : w.cell? ⟨b, 2, none⟩ = some (.int .i64 z.left)) (h3 : w.cell? ⟨b, 3, none⟩ = some (.slice qb z.right.length cb)) (i1 : IRow w qb z.right) : RRow w a [x, z] := fun i y hy => by
  match i, hy with
  | 0, hy => obtain rfl : x = y := by simpa using hy
             exact ⟨b, 0, _, _, ha, h0, h1, i0⟩
  | 1, hy => obtain rfl : z = y := by simpa using hy
             exact ⟨b, 0, _, _, ha, h2, h3, i1⟩
  | n + 2, hy => simp at hy

theorem three_rule {w : World} {a qa qb qc : Option Addr} {b ca cb cc : Nat} {x z u : R} (ha : a = some ⟨b, 0, none⟩) (h0 : w.cell? ⟨b, 0, none⟩ = some (.int .i64 x.left)) (h1 : w.cell? ⟨b, 1, none⟩ = some (.slice qa x.right.length ca)) (i0 : IRow w qa x.right)
    (h2 : w.cell? ⟨b, 2, none⟩ = some (.int .i64 z.left)) (h3 : w.cell? ⟨b, 3, none⟩ = some (.slice qb z.right.length cb)) (i1 : IRow w qb z.right)
    (h4 : w.cell? ⟨b, 4, none⟩ = some (.int .i64 u.left)) (h5 : w.cell? ⟨b, 5, none⟩ = some (.slice qc u.right.length cc)) (i2 : IRow w qc u.right) : RRow w a [x, z, u] := fun i y hy => by
  match i, hy with
  | 0, hy => obtain rfl : x = y := by simpa using hy
             exact ⟨b, 0, _, _, ha, h0, h1, i0⟩
  | 1, hy => obtain rfl : z = y := by simpa using hy
             exact ⟨b, 0, _, _, ha, h2, h3, i1⟩
  | 2, hy => obtain rfl : u = y := by simpa using hy
             exact ⟨b, 0, _, _, ha, h4, h5, i2⟩
  | n + 3, hy => simp at hy

set_option maxRecDepth 100000 in
set_option maxHeartbeats 4000000 in
theorem given_any (w : World) : Calls Tryd.prog 17 #[] w fun e w' => (∃ ta na ra, e = .returned (.agg #[.slice ta 2 2, .slice na 1 1, .int .i64 0, .slice ra 2 2]) ∧ GRow w' ta na ra givenG) ∧ Below w.heap.size w w' := by
  go_enter Tryd.func17, Tryd.ntmps17
  go_wp2
  refine bodyPost_ret (v := .agg #[.slice (some ⟨w.heap.size + 1, 0, none⟩) 2 2, .slice (some ⟨w.heap.size + 1 + 1, 0, none⟩) 1 1, .int .i64 0, .slice (some ⟨w.heap.size + 1 + 1 + 1 + 1 + 1, 0, none⟩) 2 2]) (by simp [results, Tryd.results17, go_sem]) rfl ⟨⟨_, _, _, rfl, ?_, ?_, ?_⟩, ?_⟩
  · exact two_str rfl (by simp [go_sem]) (by simp [go_sem])
  · exact one_str rfl (by simp [go_sem])
  · exact two_rule (x := ⟨0, [-1, 0, -1]⟩) (z := ⟨0, [1]⟩) (b := w.heap.size + 1 + 1 + 1 + 1 + 1) (qa := some ⟨w.heap.size + 1 + 1 + 1, 0, none⟩) (ca := 3) (qb := some ⟨w.heap.size + 1 + 1 + 1 + 1, 0, none⟩) (cb := 1) rfl (by simp [go_sem]) (by simp [go_sem]) (three_int (by simp [go_sem]) (by simp [go_sem]) (by simp [go_sem])) (by simp [go_sem]) (by simp [go_sem]) (one_int (by simp [go_sem]))
  · exact ((((((Below.refl _ _).alloc (Nat.le_refl _) _).alloc (by simp) _).alloc (by simp; omega) _).alloc (by simp; omega) _).alloc (by simp; omega) _).alloc (by simp; omega) _

set_option maxRecDepth 100000 in
set_option maxHeartbeats 4000000 in
theorem chain_any (w : World) : Calls Tryd.prog 25 #[] w fun e w' => (∃ ta na ra, e = .returned (.agg #[.slice ta 1 1, .slice na 3 3, .int .i64 0, .slice ra 3 3]) ∧ GRow w' ta na ra chainG) ∧ Below w.heap.size w w' := by
  go_enter Tryd.func25, Tryd.ntmps25
  go_wp2
  refine bodyPost_ret (v := .agg #[.slice (some ⟨w.heap.size + 1, 0, none⟩) 1 1, .slice (some ⟨w.heap.size + 1 + 1, 0, none⟩) 3 3, .int .i64 0, .slice (some ⟨w.heap.size + 1 + 1 + 1 + 1 + 1 + 1, 0, none⟩) 3 3]) (by simp [results, Tryd.results25, go_sem]) rfl ⟨⟨_, _, _, rfl, ?_, ?_, ?_⟩, ?_⟩
  · exact one_str rfl (by simp [go_sem])
  · exact three_str rfl (by simp [go_sem]) (by simp [go_sem]) (by simp [go_sem])
  · exact three_rule (x := ⟨0, [-2]⟩) (z := ⟨1, [-3]⟩) (u := ⟨2, [0]⟩) (b := w.heap.size + 1 + 1 + 1 + 1 + 1 + 1) (qa := some ⟨w.heap.size + 1 + 1 + 1, 0, none⟩) (ca := 1) (qb := some ⟨w.heap.size + 1 + 1 + 1 + 1, 0, none⟩) (cb := 1) (qc := some ⟨w.heap.size + 1 + 1 + 1 + 1 + 1, 0, none⟩) (cc := 1) rfl (by simp [go_sem]) (by simp [go_sem]) (one_int (by simp [go_sem])) (by simp [go_sem]) (by simp [go_sem]) (one_int (by simp [go_sem])) (by simp [go_sem]) (by simp [go_sem]) (one_int (by simp [go_sem]))
  · exact (((((((Below.refl _ _).alloc (Nat.le_refl _) _).alloc (by simp) _).alloc (by simp; omega) _).alloc (by simp; omega) _).alloc (by simp; omega) _).alloc (by simp; omega) _).alloc (by simp; omega) _

/-- Sets in a row. -/
def URow (w : World) (a : Option Addr) (n : Nat) (V : Nat → Nat) : Prop := ∀ i, i < n → ∃ b off, a = some ⟨b, off, none⟩ ∧ w.cell? ⟨b, off + i, none⟩ = some (.int .u64 (V i : Int))

theorem vrow_row {w : World} {b n : Nat} {V : Nat → Nat} (h : VRow w b n V) : URow w (some ⟨b, 0, none⟩) n V := fun i hi => ⟨b, 0, rfl, by rw [Nat.zero_add]; exact (h i hi).1⟩
theorem URow.below {w w' : World} {a : Option Addr} {n B : Nat} {V : Nat → Nat} (h : URow w a n V) (hb : Below B w w') (hB : w.heap.size ≤ B) : URow w' a n V := fun i hi => by
  obtain ⟨b, off, ha, hc⟩ := h i hi
  exact ⟨b, off, ha, by rw [hb.cell (Nat.lt_of_lt_of_le (cell_lt hc) hB)]; exact hc⟩

set_option maxRecDepth 100000 in
set_option maxHeartbeats 2000000 in
theorem sets_same (a b : Option Addr) (n ca cb : Nat) (V : Nat → Nat) (w : World) (ha : URow w a n V) (hb : URow w b n V) (hm : n ≤ 1125899906842624) :
    Calls Tryd.prog 37 #[.slice a n ca, .slice b n cb] w fun e w' => e = .returned (.bool true) ∧ Below w.heap.size w w' := by
  go_enter Tryd.func37, Tryd.ntmps37
  go_wp2
  go_loopw [5] (fun i wr => ∃ k q : Nat, k ≤ n ∧ i = .int .i64 k ∧ wr = w.drewN q) (fun i _ => n - (intOf i).toNat)
  case atStart => exact ⟨0, 0, by omega, rfl, rfl⟩
  case round =>
    obtain ⟨k, q, hk, rfl, rfl⟩ := hrel
    by_cases hlt : k < n
    · obtain ⟨b1, off1, rfl, c1⟩ := ha k hlt
      obtain ⟨b2, off2, rfl, d1⟩ := hb k hlt
      have hlt2 : (k : Int) < (n : Int) := by omega
      clear ha hb
      generalize V k = v at *
      go_wp2
      go_quiet (fail)
      go_wp2
      go_roundw
      case rel => exact ⟨k + 1, _, by omega, by go_num, rfl⟩
      case measure => simp [intOf]; omega
    · go_wp2
      go_ret
      exact ⟨rfl, bdrew (Below.refl _ _) _⟩

theorem above_one {g : G} {V U : Nat → Nat} (hV : IsAbove g V) (hU : IsAbove g U) (i : Nat) (hi : i < g.ns.length) : V i = U i := by
  apply Nat.eq_of_testBit_eq
  intro k
  rw [Bool.eq_iff_iff, (hV i hi).2 k, (hU i hi).2 k]

def chainV : Nat → Nat
  | 0 => 1
  | 1 => 3
  | 2 => 7
  | _ => 0

theorem chain_ok : okG chainG := by
  refine ⟨by decide, by decide, by decide, ⟨by decide, by decide⟩, ?_, ?_, ?_⟩
  · intro r hr
    simp only [chainG, List.mem_cons, List.not_mem_nil, or_false] at hr
    rcases hr with rfl | rfl | rfl <;> exact ⟨⟨by decide, by decide⟩, by intro x hx; simp only [List.mem_cons, List.not_mem_nil, or_false] at hx; subst hx; exact ⟨by decide, by decide⟩, by decide⟩
  · intro s hs
    simp only [chainG, List.mem_cons, List.not_mem_nil, or_false] at hs
    subst hs
    decide
  · intro s hs
    simp only [chainG, List.mem_cons, List.not_mem_nil, or_false] at hs
    rcases hs with rfl | rfl | rfl <;> decide

theorem given_ok : okG givenG := by
  refine ⟨by decide, by decide, by decide, ⟨by decide, by decide⟩, ?_, ?_, ?_⟩
  · intro r hr
    simp only [givenG, List.mem_cons, List.not_mem_nil, or_false] at hr
    rcases hr with rfl | rfl
    · exact ⟨⟨by decide, by decide⟩, by intro x hx; simp only [List.mem_cons, List.not_mem_nil, or_false] at hx; rcases hx with rfl | rfl | rfl <;> exact ⟨by decide, by decide⟩, by decide⟩
    · exact ⟨⟨by decide, by decide⟩, by intro x hx; simp only [List.mem_cons, List.not_mem_nil, or_false] at hx; subst hx; exact ⟨by decide, by decide⟩, by decide⟩
  · intro s hs
    simp only [givenG, List.mem_cons, List.not_mem_nil, or_false] at hs
    rcases hs with rfl | rfl <;> decide
  · intro s hs
    simp only [givenG, List.mem_cons, List.not_mem_nil, or_false] at hs
    subst hs
    decide

theorem chain_check : checkG chainG = (0, none) := by decide
theorem given_check : checkG givenG = (0, none) := by decide
theorem given_term : idxN givenG.ts ⟨#[105]⟩ = 1 ∧ idxB givenG.ts ⟨#[105]⟩ = true := by decide

theorem chain_r01 : Ren chainG 0 1 := ⟨⟨0, [-2]⟩, by simp [chainG], by decide, by decide, by decide⟩
theorem chain_r12 : Ren chainG 1 2 := ⟨⟨1, [-3]⟩, by simp [chainG], by decide, by decide, by decide⟩

theorem bits7 {v k : Nat} (hv : v < 8) (h : v.testBit k = true) : k < 3 := by
  rcases Nat.lt_or_ge k 3 with h3 | h3
  · exact h3
  · have : v < 2 ^ k := Nat.lt_of_lt_of_le (show v < 2 ^ 3 by simpa using hv) (Nat.pow_le_pow_right (by omega) h3)
    rw [Nat.testBit_lt_two_pow this] at h
    cases h

theorem chain_above : IsAbove chainG chainV := by
  refine shut_above (good_of (by rw [chain_check])) ?_ ?_
  · intro i hi
    have hi3 : i < 3 := hi
    match i, hi3 with
    | 0, _ =>
      refine ⟨by decide, by decide, fun k hk => ?_⟩
      have := bits7 (v := 1) (by omega) hk
      match k, this, hk with
      | 0, _, _ => exact .refl _
      | 1, _, hk => exact absurd hk (by decide)
      | 2, _, hk => exact absurd hk (by decide)
    | 1, _ =>
      refine ⟨by decide, by decide, fun k hk => ?_⟩
      have := bits7 (v := 3) (by omega) hk
      match k, this, hk with
      | 0, _, _ => exact .step chain_r01 (.refl _)
      | 1, _, _ => exact .refl _
      | 2, _, hk => exact absurd hk (by decide)
    | 2, _ =>
      refine ⟨by decide, by decide, fun k hk => ?_⟩
      have := bits7 (v := 7) (by omega) hk
      match k, this, hk with
      | 0, _, _ => exact .step chain_r01 (.step chain_r12 (.refl _))
      | 1, _, _ => exact .step chain_r12 (.refl _)
      | 2, _, _ => exact .refl _
  · intro r hr
    simp only [chainG, List.mem_cons, List.not_mem_nil, or_false] at hr
    rcases hr with rfl | rfl | rfl <;> (intro h; first | decide | exact absurd h (by decide))

end Go.Proofs.YtdafokhdhddhoaaDoor.GramAwake

namespace Go.Proofs.YtdafokhdhddhoaaDoor.GramAwake
open Go.RowKit Go.Proofs.YtdafokhdhddhoaaDoor.GramMath Go.Proofs.YtdafokhdhddhoaaDoor.GramRow Go.Proofs.YtdafokhdhddhoaaDoor.GramOne Go.Proofs.YtdafokhdhddhoaaDoor.GramCheck Go.Proofs.YtdafokhdhddhoaaDoor.GramAboveFn
set_option linter.unusedVariables false

set_option maxRecDepth 100000 in
set_option maxHeartbeats 4000000 in
theorem awake_any (p : Nat → Addr) (w : World) (hS : Sents w p) :
    Calls Tryd.prog 18 #[] w fun e w' => e = .returned (.bool true) ∧ Below w.heap.size w w' := by
  go_enter Tryd.func18, Tryd.ntmps18
  go_wp2_with fail
  refine (given_any _).mono ?_
  rintro e w1 ⟨⟨ta, na, ra, rfl, hG1⟩, hb1⟩
  have hS1 := hS.below hb1 (Nat.le_refl _)
  have hck := check_any ta na ra 2 1 2 givenG p w1 hG1 given_ok (by decide) (by decide) hS1
  rw [given_check] at hck
  go_wp2_with fail
  refine hck.mono ?_
  rintro e w2 ⟨⟨v, rfl, hv⟩, hb2⟩
  obtain rfl : v = .nilIface := hv
  clear hck
  go_wp2_with fail
  refine (given_any _).mono ?_
  rintro e w3 ⟨⟨ta3, na3, ra3, rfl, hG3⟩, hb3⟩
  have htm := term_any ta3 na3 ra3 2 1 2 givenG ⟨#[105]⟩ w3 hG3.1 (by decide)
  rw [given_term.1, given_term.2] at htm
  go_wp2_with fail
  refine htm.mono ?_
  rintro e w4 ⟨rfl, hb4⟩
  clear htm
  have B4 : Below w.heap.size w w4 := hb1.trans ((hb2.trans ((hb3.trans (hb4.mono hb3.size)).mono hb2.size)).mono hb1.size)
  have hS4 := hS.below B4 (Nat.le_refl _)
  go_wp2_with fail
  refine (chain_any _).mono ?_
  rintro e w5 ⟨⟨ta5, na5, ra5, rfl, hG5⟩, hb5⟩
  have hS5 := hS4.below hb5 (Nat.le_refl _)
  have hab := above_good ta5 na5 ra5 1 3 3 chainG p w5 hG5 chain_ok (by decide) (by decide) hS5 chain_check
  have e3 : chainG.ns.length = 3 := rfl
  rw [e3] at hab
  go_wp2_with fail
  refine hab.mono ?_
  rintro e w6 ⟨⟨b, V, rfl, hlo, hhi, hrow, hV⟩, hb6⟩
  have B6 : Below w.heap.size w w6 := B4.trans ((hb5.trans (hb6.mono hb5.size)).mono B4.size)
  have hs6 := B6.size
  have hr1 : URow w6 (some ⟨b, 0, none⟩) 3 chainV := vrow_row (hrow.congr (fun i hi => above_one hV chain_above i hi))
  have hB7 : Below w6.heap.size w6 (w6.alloc (.cells #[.int .u64 1, .int .u64 3, .int .u64 7] 79)) := (Below.refl _ _).alloc (Nat.le_refl _) _
  have hr2 : URow (w6.alloc (.cells #[.int .u64 1, .int .u64 3, .int .u64 7] 79)) (some ⟨w6.heap.size, 0, none⟩) 3 chainV := fun i hi => by
    match i, hi with
    | 0, _ => exact ⟨_, 0, rfl, by simp; rfl⟩
    | 1, _ => exact ⟨_, 0, rfl, by simp; rfl⟩
    | 2, _ => exact ⟨_, 0, rfl, by simp; rfl⟩
  have hss := sets_same (some ⟨b, 0, none⟩) (some ⟨w6.heap.size, 0, none⟩) 3 3 3 chainV _ (hr1.below hB7 (Nat.le_refl _)) hr2 (by omega)
  clear hab
  go_wp2_with fail
  refine hss.mono ?_
  rintro e w7 ⟨rfl, hb7⟩
  go_wp2
  go_ret
  exact ⟨rfl, (B6.alloc hs6 _).trans (hb7.mono (by simp; omega))⟩

end Go.Proofs.YtdafokhdhddhoaaDoor.GramAwake
