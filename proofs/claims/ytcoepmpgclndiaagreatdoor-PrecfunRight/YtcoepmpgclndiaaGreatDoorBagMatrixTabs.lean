/-
  Texts that stand together: MatrixTabs, GramAboveFn, GramAwakes.
-/
import Derived.Test.YtcoepmpgclndiaaGreatDoorUsefulTabs
import Derived.Test.YtcoepmpgclndiaaGreatDoorGramErrs15
import Derived.Test.YtcoepmpgclndiaaGreatDoorGramBase
import Derived.Test.YtcoepmpgclndiaaGreatDoorBaseMath
import Derived.Laws.BitsAllLaws
import Derived.Laws.OwnMore
namespace Go.Proofs.YtcoepmpgclndiaaGreatDoor.MatrixTabs
open Go.RowKit Go.Proofs.YtcoepmpgclndiaaGreatDoor.SetsAlg Go.Proofs.YtcoepmpgclndiaaGreatDoor.GramErrs Go.Proofs.YtcoepmpgclndiaaGreatDoor.GramErrs15 Go.Proofs.YtcoepmpgclndiaaGreatDoor.GramRow Go.Proofs.YtcoepmpgclndiaaGreatDoor.UsefulTabs
set_option linter.unusedVariables false

def tab3 : List (String × DataW Unit) := ("math/bits.deBruijn64tab", Rows.laid_math_bits_deBruijn64tab) :: errLaid3
def tab15 : List (String × DataW Unit) := ("math/bits.deBruijn64tab", Rows.laid_math_bits_deBruijn64tab) :: laid15

theorem tab_one {W : World} (h : laidMetH Tryz.prog [("math/bits.deBruijn64tab", Lib.tabData .u8 valsTz)] W) : Tab W ∧ 16 < W.heap.size := by
  have ht : Lib.TabIs Tryz.prog W "math/bits.deBruijn64tab" .u8 valsTz := Lib.tabIs_of_head (rest := []) gTz gtTz Tryz.underlying180 Tryz.underlying5 (by kernel_rfl) gcTz h
  have hc : ∀ i, i < valsTz.length → W.cell? ⟨16, i, none⟩ = some (.int .u8 (valsTz.getD i 0)) := fun i hi => ht.cell gTz i hi
  refine ⟨fun j hj => ?_, cell_lt (hc 0 (by decide))⟩
  have e : ∀ j, j < 64 → valsTz.getD j 0 = ((Lib.deBruijn64tab.getD j 0 : Nat) : Int) := by decide +kernel
  rw [hc j hj, e j hj]

theorem errs3_laid {W : World} (h : laidMetH Tryz.prog tab3 W) : laidMetH Tryz.prog errLaid3 W := by
  have h2 := laidMetH.filter (fun x => !decide (x.1 = "math/bits.deBruijn64tab")) h
  have e : tab3.filter (fun x => !decide (x.1 = "math/bits.deBruijn64tab")) = errLaid3 := by kernel_rfl
  rw [e] at h2
  exact h2
theorem tab3_laid {W : World} (h : laidMetH Tryz.prog tab3 W) : Tab W ∧ 16 < W.heap.size := by
  have h2 := laidMetH.filter (fun x => decide (x.1 = "math/bits.deBruijn64tab")) h
  have e : tab3.filter (fun x => decide (x.1 = "math/bits.deBruijn64tab")) = [("math/bits.deBruijn64tab", Lib.tabData .u8 valsTz)] := by kernel_rfl
  rw [e] at h2
  exact tab_one h2
theorem errs15_laid {W : World} (h : laidMetH Tryz.prog tab15 W) : laidMetH Tryz.prog laid15 W := by
  have h2 := laidMetH.filter (fun x => !decide (x.1 = "math/bits.deBruijn64tab")) h
  have e : tab15.filter (fun x => !decide (x.1 = "math/bits.deBruijn64tab")) = laid15 := by kernel_rfl
  rw [e] at h2
  exact h2
theorem tab15_laid {W : World} (h : laidMetH Tryz.prog tab15 W) : Tab W ∧ 16 < W.heap.size := by
  have h2 := laidMetH.filter (fun x => decide (x.1 = "math/bits.deBruijn64tab")) h
  have e : tab15.filter (fun x => decide (x.1 = "math/bits.deBruijn64tab")) = [("math/bits.deBruijn64tab", Lib.tabData .u8 valsTz)] := by kernel_rfl
  rw [e] at h2
  exact tab_one h2

end Go.Proofs.YtcoepmpgclndiaaGreatDoor.MatrixTabs

namespace Go.Proofs.YtcoepmpgclndiaaGreatDoor.GramAboveFn
open Go.RowKit Go.Proofs.YtcoepmpgclndiaaGreatDoor.GramMath Go.Proofs.YtcoepmpgclndiaaGreatDoor.GramRow Go.Proofs.YtcoepmpgclndiaaGreatDoor.GramOne Go.Proofs.YtcoepmpgclndiaaGreatDoor.GramCheck
set_option linter.unusedVariables false

/-- Sets in a row of their own. -/
def VRow (w : World) (b n : Nat) (V : Nat → Nat) : Prop := ∀ i, i < n → w.cell? ⟨b, i, none⟩ = some (.int .u64 (V i : Int)) ∧ w.frozen? ⟨b, i, none⟩ = false

theorem VRow.below {w w' : World} {b n B : Nat} {V : Nat → Nat} (h : VRow w b n V) (hb : Below B w w') (hB : b < B) : VRow w' b n V := fun i hi =>
  ⟨(hb.cell (p := ⟨b, i, none⟩) hB).trans (h i hi).1, (hb.frozen (p := ⟨b, i, none⟩) hB).trans (h i hi).2⟩

theorem VRow.congr {w : World} {b n : Nat} {V U : Nat → Nat} (h : VRow w b n V) (e : ∀ i, i < n → V i = U i) : VRow w b n U := fun i hi => by rw [← e i hi]; exact h i hi

theorem VRow.set {w : World} {b n t x : Nat} {V : Nat → Nat} (h : VRow w b n V) (ht : t < n) : VRow (w.setCell ⟨b, t, none⟩ (.int .u64 (x : Int))) b n (upd V t x) := fun i hi => by
  refine ⟨?_, by rw [World.frozen?_setCell]; exact (h i hi).2⟩
  by_cases e : i = t
  · subst e
    rw [upd_at]
    exact World.cell?_setCell_same (h := (h i hi).1) ..
  · rw [upd_ne _ _ e, World.cell?_setCell_other (h := show (⟨b, t, none⟩ : Addr) ≠ ⟨b, i, none⟩ from fun h => e (by cases h; rfl))]
    exact (h i hi).1

theorem infoU : (Tryz.prog.info? 83).map (fun i => (i.zero, i.size, i.bytes)) = some (some (.int .u64 0), 1, 8) := by kernel_rfl

theorem made_any (n : Nat) (hn : n ≤ 60) (w : World) : (Instr.makeSlice 58 (.int .i64 (n : Int)) (.int .i64 (n : Int))).run Tryz.prog w = .ok (.slice (some ⟨w.heap.size, 0, none⟩) n n) (w.alloc (.cells (madeCells #[.int .u64 0] n) 83)) := by
  obtain ⟨i0, hi, hz0, hz1, hz2⟩ := info_parts infoU
  have h := run_makeSlice (P := Tryz.prog) w 58 83 i0 (.int .u64 0) Tryz.underlying58 hi hz0 .i64 .i64 (n : Int) (n : Int) (by omega) (by omega) (by rw [hz1]; omega) (by rw [hz2]; omega) (by omega)
  rw [hz1] at h
  simpa [Value.cells] using h

theorem made_row (n : Nat) (w : World) : VRow (w.alloc (.cells (madeCells #[.int .u64 0] n) 83)) w.heap.size n (fun i => if i < 0 then 2 ^ i else 0) := fun i hi => by
  refine ⟨?_, by simp⟩
  have h := World.cell?_alloc_mark w (madeCells #[.int .u64 0] n) 83 (0, 0) i
  rw [show (w.alloc (.cells (madeCells #[.int .u64 0] n) 83)).cell? ⟨w.heap.size, i, none⟩ = (madeCells #[.int .u64 0] n)[i]? from h]
  rw [← Array.getElem?_toList, toList_madeCells_one, List.getElem?_replicate, if_pos hi]
  simp

theorem wrap_pow {k : Nat} (h : k < 60) : IntKind.u64.wrap (2 ^ k) = ((2 ^ k : Nat) : Int) := by
  have h1 : 2 ^ k < 2 ^ 60 := Nat.pow_lt_pow_right (by omega) h
  have h2 : 2 ^ 60 = 1152921504606846976 := by decide
  have h3 : ((2 ^ k : Nat) : Int) = (2 : Int) ^ k := by simp
  rw [← h3, IntKind.wrap_u64]
  generalize 2 ^ k = y at *
  omega

def cellN (w : World) (b i : Nat) : Nat :=
  match w.cell? ⟨b, i, none⟩ with
  | some (.int _ z) => z.toNat
  | _ => 0

theorem cellN_row {w : World} {b n : Nat} {V : Nat → Nat} (h : VRow w b n V) (i : Nat) (hi : i < n) : cellN w b i = V i := by
  unfold cellN
  rw [(h i hi).1]
  simp

end Go.Proofs.YtcoepmpgclndiaaGreatDoor.GramAboveFn

namespace Go.Proofs.YtcoepmpgclndiaaGreatDoor.GramAwake
open Go.RowKit Go.Proofs.YtcoepmpgclndiaaGreatDoor.GramMath Go.Proofs.YtcoepmpgclndiaaGreatDoor.GramRow Go.Proofs.YtcoepmpgclndiaaGreatDoor.GramOne Go.Proofs.YtcoepmpgclndiaaGreatDoor.GramCheck Go.Proofs.YtcoepmpgclndiaaGreatDoor.GramAboveFn
set_option linter.unusedVariables false

def givenG : G := ⟨[⟨#[43]⟩, ⟨#[105]⟩], [⟨#[69]⟩], 0, [⟨0, [-1, 0, -1]⟩, ⟨0, [1]⟩]⟩
def chainG : G := ⟨[⟨#[116]⟩], [⟨#[65]⟩, ⟨#[66]⟩, ⟨#[67]⟩], 0, [⟨0, [-2]⟩, ⟨1, [-3]⟩, ⟨2, [0]⟩]⟩

theorem one_str {w : World} {a : Option Addr} {b : Nat} {x : ByteArray} (ha : a = some ⟨b, 0, none⟩) (h0 : w.cell? ⟨b, 0, none⟩ = some (.string x)) : SRow w a [x] := fun i y hy => by
  match i, hy with
  | 0, hy => obtain rfl : x = y := by simpa using hy
             exact ⟨b, 0, ha, h0⟩
  | n + 1, hy => simp at hy

theorem two_str {w : World} {a : Option Addr} {b : Nat} {x z : ByteArray} (ha : a = some ⟨b, 0, none⟩) (h0 : w.cell? ⟨b, 0, none⟩ = some (.string x)) (h1 : w.cell? ⟨b, 1, none⟩ = some (.string z)) : SRow w a [x, z] := fun i y hy => by
  match i, hy with
  | 0, hy => obtain rfl : x = y := by simpa using hy
             exact ⟨b, 0, ha, h0⟩
  | 1, hy => obtain rfl : z = y := by simpa using hy
             exact ⟨b, 0, ha, h1⟩
  | n + 2, hy => simp at hy

theorem three_str {w : World} {a : Option Addr} {b : Nat} {x z u : ByteArray} (ha : a = some ⟨b, 0, none⟩) (h0 : w.cell? ⟨b, 0, none⟩ = some (.string x)) (h1 : w.cell? ⟨b, 1, none⟩ = some (.string z)) (h2 : w.cell? ⟨b, 2, none⟩ = some (.string u)) : SRow w a [x, z, u] := fun i y hy => by
  match i, hy with
  | 0, hy => obtain rfl : x = y := by simpa using hy
             exact ⟨b, 0, ha, h0⟩
  | 1, hy => obtain rfl : z = y := by simpa using hy
             exact ⟨b, 0, ha, h1⟩
  | 2, hy => obtain rfl : u = y := by simpa using hy
             exact ⟨b, 0, ha, h2⟩
  | n + 3, hy => simp at hy

theorem one_int {w : World} {b : Nat} {x : Int} (h0 : w.cell? ⟨b, 0, none⟩ = some (.int .i64 x)) : IRow w (some ⟨b, 0, none⟩) [x] := fun i y hy => by
  match i, hy with
  | 0, hy => obtain rfl : x = y := by simpa using hy
             exact ⟨b, 0, rfl, h0⟩
  | n + 1, hy => simp at hy

theorem three_int {w : World} {b : Nat} {x z u : Int} (h0 : w.cell? ⟨b, 0, none⟩ = some (.int .i64 x)) (h1 : w.cell? ⟨b, 1, none⟩ = some (.int .i64 z)) (h2 : w.cell? ⟨b, 2, none⟩ = some (.int .i64 u)) : IRow w (some ⟨b, 0, none⟩) [x, z, u] := fun i y hy => by
  match i, hy with
  | 0, hy => obtain rfl : x = y := by simpa using hy
             exact ⟨b, 0, rfl, h0⟩
  | 1, hy => obtain rfl : z = y := by simpa using hy
             exact ⟨b, 0, rfl, h1⟩
  | 2, hy => obtain rfl : u = y := by simpa using hy
             exact ⟨b, 0, rfl, h2⟩
  | n + 3, hy => simp at hy

theorem two_rule {w : World} {a qa qb : Option Addr} {b ca cb : Nat} {x z : R} (ha : a = some ⟨b, 0, none⟩) (h0 : w.cell? ⟨b, 0, none⟩ = some (.int .i64 x.left)) (h1 : w.cell? ⟨b, 1, none⟩ = some (.slice qa x.right.length ca)) (i0 : IRow w qa x.right)
    (h2 : w.cell? ⟨b, 2, none⟩ = some (.int .i64 z.left)) (h3 : w.cell? ⟨b, 3, none⟩ = some (.slice qb z.right.length cb)) (i1 : IRow w qb z.right) : RRow w a [x, z] := fun i y hy => by
  match i, hy with
  | 0, hy => obtain rfl : x = y := by simpa using hy
             exact ⟨b, 0, _, _, ha, h0, h1, i0⟩
  | 1, hy => obtain rfl : z = y := by simpa using hy
             exact ⟨b, 0, _, _, ha, h2, h3, i1⟩
  | n + 2, hy => simp at hy

theorem three_rule {w : World} {a qa qb qc : Option Addr} {b ca cb cc : Nat} {x z u : R} (ha : a = some ⟨b, 0, none⟩) (h0 : w.cell? ⟨b, 0, none⟩ = some (.int .i64 x.left)) (h1 : w.cell? ⟨b, 1, none⟩ = some (.slice qa x.right.length ca)) (i0 : IRow w qa x.right)
    (h2 : w.cell? ⟨b, 2, none⟩ = some (.int .i64 z.left)) (h3 : w.cell? ⟨b, 3, none⟩ = some (.slice qb z.right.length cb)) (i1 : IRow w qb z.right)
    (h4 : w.cell? ⟨b, 4, none⟩ = some (.int .i64 u.left)) (h5 : w.cell? ⟨b, 5, none⟩ = some (.slice qc u.right.length cc)) (i2 : IRow w qc u.right) : RRow w a [x, z, u] := fun i y hy => by
  match i, hy with
  | 0, hy => obtain rfl : x = y := by simpa using hy
             exact ⟨b, 0, _, _, ha, h0, h1, i0⟩
  | 1, hy => obtain rfl : z = y := by simpa using hy
             exact ⟨b, 0, _, _, ha, h2, h3, i1⟩
  | 2, hy => obtain rfl : u = y := by simpa using hy
             exact ⟨b, 0, _, _, ha, h4, h5, i2⟩
  | n + 3, hy => simp at hy

/-- Sets in a row. -/
def URow (w : World) (a : Option Addr) (n : Nat) (V : Nat → Nat) : Prop := ∀ i, i < n → ∃ b off, a = some ⟨b, off, none⟩ ∧ w.cell? ⟨b, off + i, none⟩ = some (.int .u64 (V i : Int))

theorem vrow_row {w : World} {b n : Nat} {V : Nat → Nat} (h : VRow w b n V) : URow w (some ⟨b, 0, none⟩) n V := fun i hi => ⟨b, 0, rfl, by rw [Nat.zero_add]; exact (h i hi).1⟩
theorem URow.below {w w' : World} {a : Option Addr} {n B : Nat} {V : Nat → Nat} (h : URow w a n V) (hb : Below B w w') (hB : w.heap.size ≤ B) : URow w' a n V := fun i hi => by
  obtain ⟨b, off, ha, hc⟩ := h i hi
  exact ⟨b, off, ha, by rw [hb.cell (Nat.lt_of_lt_of_le (cell_lt hc) hB)]; exact hc⟩

theorem above_one {g : G} {V U : Nat → Nat} (hV : IsAbove g V) (hU : IsAbove g U) (i : Nat) (hi : i < g.ns.length) : V i = U i := by
  apply Nat.eq_of_testBit_eq
  intro k
  rw [Bool.eq_iff_iff, (hV i hi).2 k, (hU i hi).2 k]

def chainV : Nat → Nat
  | 0 => 1
  | 1 => 3
  | 2 => 7
  | _ => 0

theorem chain_ok : okG chainG := by
  refine ⟨by decide, by decide, by decide, ⟨by decide, by decide⟩, ?_, ?_, ?_⟩
  · intro r hr
    simp only [chainG, List.mem_cons, List.not_mem_nil, or_false] at hr
    rcases hr with rfl | rfl | rfl <;> exact ⟨⟨by decide, by decide⟩, by intro x hx; simp only [List.mem_cons, List.not_mem_nil, or_false] at hx; subst hx; exact ⟨by decide, by decide⟩, by decide⟩
  · intro s hs
    simp only [chainG, List.mem_cons, List.not_mem_nil, or_false] at hs
    subst hs
    decide
  · intro s hs
    simp only [chainG, List.mem_cons, List.not_mem_nil, or_false] at hs
    rcases hs with rfl | rfl | rfl <;> decide

theorem given_ok : okG givenG := by
  refine ⟨by decide, by decide, by decide, ⟨by decide, by decide⟩, ?_, ?_, ?_⟩
  · intro r hr
    simp only [givenG, List.mem_cons, List.not_mem_nil, or_false] at hr
    rcases hr with rfl | rfl
    · exact ⟨⟨by decide, by decide⟩, by intro x hx; simp only [List.mem_cons, List.not_mem_nil, or_false] at hx; rcases hx with rfl | rfl | rfl <;> exact ⟨by decide, by decide⟩, by decide⟩
    · exact ⟨⟨by decide, by decide⟩, by intro x hx; simp only [List.mem_cons, List.not_mem_nil, or_false] at hx; subst hx; exact ⟨by decide, by decide⟩, by decide⟩
  · intro s hs
    simp only [givenG, List.mem_cons, List.not_mem_nil, or_false] at hs
    rcases hs with rfl | rfl <;> decide
  · intro s hs
    simp only [givenG, List.mem_cons, List.not_mem_nil, or_false] at hs
    subst hs
    decide

theorem chain_check : checkG chainG = (0, none) := by decide
theorem given_check : checkG givenG = (0, none) := by decide
theorem given_term : idxN givenG.ts ⟨#[105]⟩ = 1 ∧ idxB givenG.ts ⟨#[105]⟩ = true := by decide

theorem chain_r01 : Ren chainG 0 1 := ⟨⟨0, [-2]⟩, by simp [chainG], by decide, by decide, by decide⟩
theorem chain_r12 : Ren chainG 1 2 := ⟨⟨1, [-3]⟩, by simp [chainG], by decide, by decide, by decide⟩

theorem bits7 {v k : Nat} (hv : v < 8) (h : v.testBit k = true) : k < 3 := by
  rcases Nat.lt_or_ge k 3 with h3 | h3
  · exact h3
  · have : v < 2 ^ k := Nat.lt_of_lt_of_le (show v < 2 ^ 3 by simpa using hv) (Nat.pow_le_pow_right (by omega) h3)
    rw [Nat.testBit_lt_two_pow this] at h
    cases h

theorem chain_above : IsAbove chainG chainV := by
  refine shut_above (good_of (by rw [chain_check])) ?_ ?_
  · intro i hi
    have hi3 : i < 3 := hi
    match i, hi3 with
    | 0, _ =>
      refine ⟨by decide, by decide, fun k hk => ?_⟩
      have := bits7 (v := 1) (by omega) hk
      match k, this, hk with
      | 0, _, _ => exact .refl _
      | 1, _, hk => exact absurd hk (by decide)
      | 2, _, hk => exact absurd hk (by decide)
    | 1, _ =>
      refine ⟨by decide, by decide, fun k hk => ?_⟩
      have := bits7 (v := 3) (by omega) hk
      match k, this, hk with
      | 0, _, _ => exact .step chain_r01 (.refl _)
      | 1, _, _ => exact .refl _
      | 2, _, hk => exact absurd hk (by decide)
    | 2, _ =>
      refine ⟨by decide, by decide, fun k hk => ?_⟩
      have := bits7 (v := 7) (by omega) hk
      match k, this, hk with
      | 0, _, _ => exact .step chain_r01 (.step chain_r12 (.refl _))
      | 1, _, _ => exact .step chain_r12 (.refl _)
      | 2, _, _ => exact .refl _
  · intro r hr
    simp only [chainG, List.mem_cons, List.not_mem_nil, or_false] at hr
    rcases hr with rfl | rfl | rfl <;> (intro h; first | decide | exact absurd h (by decide))

end Go.Proofs.YtcoepmpgclndiaaGreatDoor.GramAwake

namespace Go.Proofs.YtcoepmpgclndiaaGreatDoor.GramAwake
open Go.RowKit Go.Proofs.YtcoepmpgclndiaaGreatDoor.GramMath Go.Proofs.YtcoepmpgclndiaaGreatDoor.GramRow Go.Proofs.YtcoepmpgclndiaaGreatDoor.GramOne Go.Proofs.YtcoepmpgclndiaaGreatDoor.GramCheck Go.Proofs.YtcoepmpgclndiaaGreatDoor.GramAboveFn
set_option linter.unusedVariables false

end Go.Proofs.YtcoepmpgclndiaaGreatDoor.GramAwake
