/-
  The chapter's grammar, and what the program answers of it.
-/
import Derived.Test.YtpdkjblmpgmcjaaGreatDoorEndsChain
import Derived.Test.YtpdkjblmpgmcjaaGreatDoorGramAwakes
import Derived.Test.YtpdkjblmpgmcjaaGreatDoorGramEq
namespace Go.Proofs.YtpdkjblmpgmcjaaGreatDoor.EndsAwake
open Go.RowKit Go.Proofs.YtpdkjblmpgmcjaaGreatDoor.GramMath Go.Proofs.YtpdkjblmpgmcjaaGreatDoor.GramRow Go.Proofs.YtpdkjblmpgmcjaaGreatDoor.GramCheck Go.Proofs.YtpdkjblmpgmcjaaGreatDoor.GramErrs Go.Proofs.YtpdkjblmpgmcjaaGreatDoor.GramAwake Go.Proofs.YtpdkjblmpgmcjaaGreatDoor.GramAboveFn Go.Proofs.YtpdkjblmpgmcjaaGreatDoor.GramSame Go.Proofs.YtpdkjblmpgmcjaaGreatDoor.EndsMath Go.Proofs.YtpdkjblmpgmcjaaGreatDoor.EndsFn Go.Proofs.YtpdkjblmpgmcjaaGreatDoor.EndsSearch Go.Proofs.YtpdkjblmpgmcjaaGreatDoor.EndsChain
set_option linter.unusedVariables false

def gG : G := ⟨[⟨#[43]⟩, ⟨#[42]⟩, ⟨#[40]⟩, ⟨#[41]⟩, ⟨#[105]⟩], [⟨#[69]⟩, ⟨#[84]⟩, ⟨#[70]⟩], 0, [⟨0, [-1, 0, -2]⟩, ⟨0, [-2]⟩, ⟨1, [-2, 1, -3]⟩, ⟨1, [-3]⟩, ⟨2, [2, -1, 3]⟩, ⟨2, [4]⟩]⟩

theorem five_str {w : World} {a : Option Addr} {b : Nat} {x0 x1 x2 x3 x4 : ByteArray} (ha : a = some ⟨b, 0, none⟩) (h0 : w.cell? ⟨b, 0, none⟩ = some (.string x0)) (h1 : w.cell? ⟨b, 1, none⟩ = some (.string x1)) (h2 : w.cell? ⟨b, 2, none⟩ = some (.string x2)) (h3 : w.cell? ⟨b, 3, none⟩ = some (.string x3)) (h4 : w.cell? ⟨b, 4, none⟩ = some (.string x4)) : SRow w a [x0, x1, x2, x3, x4] := fun i y hy => by
  match i, hy with
  | 0, hy => obtain rfl : x0 = y := by simpa using hy
             exact ⟨b, 0, ha, h0⟩
  | 1, hy => obtain rfl : x1 = y := by simpa using hy
             exact ⟨b, 0, ha, h1⟩
  | 2, hy => obtain rfl : x2 = y := by simpa using hy
             exact ⟨b, 0, ha, h2⟩
  | 3, hy => obtain rfl : x3 = y := by simpa using hy
             exact ⟨b, 0, ha, h3⟩
  | 4, hy => obtain rfl : x4 = y := by simpa using hy
             exact ⟨b, 0, ha, h4⟩
  | n + 5, hy => simp at hy

theorem six_rule {w : World} {a q0 q1 q2 q3 q4 q5 : Option Addr} {b k0 k1 k2 k3 k4 k5 : Nat} {x0 x1 x2 x3 x4 x5 : R} (ha : a = some ⟨b, 0, none⟩) (a0 : w.cell? ⟨b, 0, none⟩ = some (.int .i64 x0.left)) (c0 : w.cell? ⟨b, 1, none⟩ = some (.slice q0 x0.right.length k0)) (i0 : IRow w q0 x0.right) (a1 : w.cell? ⟨b, 2, none⟩ = some (.int .i64 x1.left)) (c1 : w.cell? ⟨b, 3, none⟩ = some (.slice q1 x1.right.length k1)) (i1 : IRow w q1 x1.right) (a2 : w.cell? ⟨b, 4, none⟩ = some (.int .i64 x2.left)) (c2 : w.cell? ⟨b, 5, none⟩ = some (.slice q2 x2.right.length k2)) (i2 : IRow w q2 x2.right) (a3 : w.cell? ⟨b, 6, none⟩ = some (.int .i64 x3.left)) (c3 : w.cell? ⟨b, 7, none⟩ = some (.slice q3 x3.right.length k3)) (i3 : IRow w q3 x3.right) (a4 : w.cell? ⟨b, 8, none⟩ = some (.int .i64 x4.left)) (c4 : w.cell? ⟨b, 9, none⟩ = some (.slice q4 x4.right.length k4)) (i4 : IRow w q4 x4.right) (a5 : w.cell? ⟨b, 10, none⟩ = some (.int .i64 x5.left)) (c5 : w.cell? ⟨b, 11, none⟩ = some (.slice q5 x5.right.length k5)) (i5 : IRow w q5 x5.right) : RRow w a [x0, x1, x2, x3, x4, x5] := fun i y hy => by
  match i, hy with
  | 0, hy => obtain rfl : x0 = y := by simpa using hy
             exact ⟨b, 0, _, _, ha, a0, c0, i0⟩
  | 1, hy => obtain rfl : x1 = y := by simpa using hy
             exact ⟨b, 0, _, _, ha, a1, c1, i1⟩
  | 2, hy => obtain rfl : x2 = y := by simpa using hy
             exact ⟨b, 0, _, _, ha, a2, c2, i2⟩
  | 3, hy => obtain rfl : x3 = y := by simpa using hy
             exact ⟨b, 0, _, _, ha, a3, c3, i3⟩
  | 4, hy => obtain rfl : x4 = y := by simpa using hy
             exact ⟨b, 0, _, _, ha, a4, c4, i4⟩
  | 5, hy => obtain rfl : x5 = y := by simpa using hy
             exact ⟨b, 0, _, _, ha, a5, c5, i5⟩
  | n + 6, hy => simp at hy

/-- Does a terminal come within so many steps? -/
def LftB (b : Bool) (rs : List R) : Nat → Nat → Nat → Bool
  | 0, _, _ => false
  | k + 1, n, t => rs.any (fun r => r.left.toNat == n && (shO b r == some t || (match ldO b r with | some m => LftB b rs k m t | none => false)))

theorem LftB.lft {b : Bool} {rs : List R} : ∀ {k n t : Nat}, LftB b rs k n t = true → Lft b rs n t
  | 0, _, _, h => by cases h
  | k + 1, n, t, h => by
    unfold LftB at h
    rw [List.any_eq_true] at h
    obtain ⟨r, hr, h⟩ := h
    rw [Bool.and_eq_true, Bool.or_eq_true, beq_iff_eq, beq_iff_eq] at h
    obtain ⟨rfl, h⟩ := h
    rcases h with h | h
    · exact .shows hr h
    · cases hl : ldO b r with
      | none => rw [hl] at h; cases h
      | some m => rw [hl] at h; exact .leads hr hl (LftB.lft h)

def endsB (b : Bool) (g : G) (V : Nat → Nat) (k : Nat) : Bool :=
  (List.range g.ns.length).all (fun i => decide (V i < 2 ^ g.ts.length) && (List.range g.ts.length).all (fun t => !(V i).testBit t || LftB b g.rs k i t)) && g.rs.all (fun r => wid b V r == V r.left.toNat)

theorem ends_of_B {b : Bool} {g : G} (hg : GoodG g) {V : Nat → Nat} {k : Nat} (h : endsB b g V k = true) : IsEnds b g V := by
  unfold endsB at h
  rw [Bool.and_eq_true, List.all_eq_true, List.all_eq_true] at h
  refine ends_of hg (fun i hi => ?_) (fun r hr => by have := h.2 r hr; rw [beq_iff_eq] at this; exact this)
  have h1 := h.1 i (List.mem_range.2 hi)
  rw [Bool.and_eq_true, decide_eq_true_iff, List.all_eq_true] at h1
  refine ⟨h1.1, fun t ht => ?_⟩
  have htl : t < g.ts.length := by
    rcases Nat.lt_or_ge t g.ts.length with h | h
    · exact h
    · rw [Nat.testBit_lt_two_pow (Nat.lt_of_lt_of_le h1.1 (Nat.pow_le_pow_right (by omega) h))] at ht
      cases ht
  have h2 := h1.2 t (List.mem_range.2 htl)
  rw [ht] at h2
  exact LftB.lft (by simpa using h2)

def VL : Nat → Nat
  | 0 => 23
  | 1 => 22
  | 2 => 20
  | _ => 0
def VR : Nat → Nat
  | 0 => 27
  | 1 => 26
  | 2 => 24
  | _ => 0

theorem g_check : checkG gG = (0, none) := by kernel_rfl
theorem g_good : GoodG gG := good_of (by rw [g_check])
theorem g_left : IsEnds false gG VL := ends_of_B g_good (k := 4) (by kernel_rfl)
theorem g_right : IsEnds true gG VR := ends_of_B g_good (k := 4) (by kernel_rfl)

theorem g_ok : okG gG := by
  refine ⟨by decide, by decide, by decide, ⟨by decide, by decide⟩, ?_, ?_, ?_⟩
  · intro r hr
    simp only [gG, List.mem_cons, List.not_mem_nil, or_false] at hr
    rcases hr with rfl | rfl | rfl | rfl | rfl | rfl <;> exact ⟨⟨by decide, by decide⟩, by intro x hx; simp only [List.mem_cons, List.not_mem_nil, or_false] at hx; first | (subst hx; exact ⟨by decide, by decide⟩) | (rcases hx with rfl | rfl | rfl <;> exact ⟨by decide, by decide⟩), by decide⟩
  · intro s hs
    simp only [gG, List.mem_cons, List.not_mem_nil, or_false] at hs
    rcases hs with rfl | rfl | rfl | rfl | rfl <;> decide
  · intro s hs
    simp only [gG, List.mem_cons, List.not_mem_nil, or_false] at hs
    rcases hs with rfl | rfl | rfl <;> decide

theorem urow_three {w : World} {b x y z : Nat} {V : Nat → Nat} (h0 : w.cell? ⟨b, 0, none⟩ = some (.int .u64 (V 0 : Int))) (h1 : w.cell? ⟨b, 1, none⟩ = some (.int .u64 (V 1 : Int))) (h2 : w.cell? ⟨b, 2, none⟩ = some (.int .u64 (V 2 : Int))) : URow w (some ⟨b, 0, none⟩) 3 V := fun i hi => ⟨b, 0, rfl, by
  rw [Nat.zero_add]
  match i, hi with
  | 0, _ => exact h0
  | 1, _ => exact h1
  | 2, _ => exact h2⟩

theorem _root_.Go.Proofs.YtpdkjblmpgmcjaaGreatDoor.EndsFn.SetsAt.row_eq {base : Nat} {w : World} {bb : Bool} {g : G} {b : Nat} {V U : Nat → Nat} (h : SetsAt base w bb g b V) (hU : IsEnds bb g U) : URow w (some ⟨b, 0, none⟩) g.ns.length U := vrow_row (h.row.congr (fun i hi => h.ends.eq hU hi hi (fun _ => Iff.rfl)))

end Go.Proofs.YtpdkjblmpgmcjaaGreatDoor.EndsAwake
