/-
  The chapter's two grammars, and what the program answers of them.
-/
import Derived.Test.YtpdkjblmpgmcjaaGreatDoorMatrixOf
import Derived.Test.YtpdkjblmpgmcjaaGreatDoorEndsAwake
namespace Go.Proofs.YtpdkjblmpgmcjaaGreatDoor.MatrixAwake
open Go.RowKit Go.Proofs.YtpdkjblmpgmcjaaGreatDoor.GramMath Go.Proofs.YtpdkjblmpgmcjaaGreatDoor.GramRow Go.Proofs.YtpdkjblmpgmcjaaGreatDoor.GramCheck Go.Proofs.YtpdkjblmpgmcjaaGreatDoor.GramErrs Go.Proofs.YtpdkjblmpgmcjaaGreatDoor.GramAwake Go.Proofs.YtpdkjblmpgmcjaaGreatDoor.GramAboveFn Go.Proofs.YtpdkjblmpgmcjaaGreatDoor.GramSame Go.Proofs.YtpdkjblmpgmcjaaGreatDoor.EndsMath Go.Proofs.YtpdkjblmpgmcjaaGreatDoor.EndsFn Go.Proofs.YtpdkjblmpgmcjaaGreatDoor.EndsAwake Go.Proofs.YtpdkjblmpgmcjaaGreatDoor.SetsMath Go.Proofs.YtpdkjblmpgmcjaaGreatDoor.SetsAlg Go.Proofs.YtpdkjblmpgmcjaaGreatDoor.MatrixMath Go.Proofs.YtpdkjblmpgmcjaaGreatDoor.MatrixPut Go.Proofs.YtpdkjblmpgmcjaaGreatDoor.MatrixOf Go.Proofs.YtpdkjblmpgmcjaaGreatDoor.GramOpen
set_option linter.unusedVariables false
set_option linter.unusedSimpArgs false

def hG : G := ⟨[⟨#[97]⟩, ⟨#[98]⟩], [⟨#[83]⟩], 0, [⟨0, [0, -1, 1]⟩, ⟨0, [0, 1]⟩]⟩
def sG : G := ⟨[⟨#[43]⟩, ⟨#[105]⟩], [⟨#[69]⟩], 0, [⟨0, [-1, 0, -1]⟩, ⟨0, [1]⟩]⟩

theorem two_int {w : World} {b : Nat} {x z : Int} (h0 : w.cell? ⟨b, 0, none⟩ = some (.int .i64 x)) (h1 : w.cell? ⟨b, 1, none⟩ = some (.int .i64 z)) : IRow w (some ⟨b, 0, none⟩) [x, z] := fun i y hy => by
  match i, hy with
  | 0, hy => obtain rfl : x = y := by simpa using hy
             exact ⟨b, 0, rfl, by simpa using h0⟩
  | 1, hy => obtain rfl : z = y := by simpa using hy
             exact ⟨b, 0, rfl, by simpa using h1⟩
  | n + 2, hy => simp at hy

theorem caps_two {w : World} {b n0 n1 k0 k1 : Nat} {q0 q1 : Option Addr} (c0 : w.cell? ⟨b, 1, none⟩ = some (.slice q0 n0 k0)) (c1 : w.cell? ⟨b, 3, none⟩ = some (.slice q1 n1 k1)) (h0 : n0 ≤ k0) (h1 : n1 ≤ k1) : Caps w (some ⟨b, 0, none⟩) 2 := by
  rintro i hi b' off' he qa n qc hq
  obtain ⟨rfl, rfl⟩ : b = b' ∧ 0 = off' := by simpa using he
  match i, hi with
  | 0, _ =>
    have : some (Value.slice q0 n0 k0) = some (.slice qa n qc) := c0.symm.trans hq
    simp at this
    omega
  | 1, _ =>
    have : some (Value.slice q1 n1 k1) = some (.slice qa n qc) := c1.symm.trans hq
    simp at this
    omega

set_option maxRecDepth 100000 in
set_option maxHeartbeats 4000000 in
theorem nested_any (w : World) : Calls Tryz.prog 20 #[] w fun e w' => (∃ ta na ra, e = .returned (.agg #[.slice ta 2 2, .slice na 1 1, .int .i64 0, .slice ra 2 2]) ∧ GRow w' ta na ra hG ∧ Caps w' ra 2) ∧ Below w.heap.size w w' := by
  go_enter Tryz.func20, Tryz.ntmps20
  go_wp2
  refine bodyPost_ret (v := .agg #[.slice (some ⟨w.heap.size + 1, 0, none⟩) 2 2, .slice (some ⟨w.heap.size + 1 + 1, 0, none⟩) 1 1, .int .i64 0, .slice (some ⟨w.heap.size + 1 + 1 + 1 + 1 + 1, 0, none⟩) 2 2]) (by simp [results, Tryz.results20, go_sem]) rfl ⟨⟨_, _, _, rfl, ⟨?_, ?_, ?_⟩, ?_⟩, ?_⟩
  · exact two_str rfl (by simp [go_sem]) (by simp [go_sem])
  · exact one_str rfl (by simp [go_sem])
  · exact two_rule (x := ⟨0, [0, -1, 1]⟩) (z := ⟨0, [0, 1]⟩) (b := w.heap.size + 1 + 1 + 1 + 1 + 1) (qa := some ⟨w.heap.size + 1 + 1 + 1, 0, none⟩) (ca := 3) (qb := some ⟨w.heap.size + 1 + 1 + 1 + 1, 0, none⟩) (cb := 2) rfl (by simp [go_sem]) (by simp [go_sem]) (three_int (by simp [go_sem]) (by simp [go_sem]) (by simp [go_sem])) (by simp [go_sem]) (by simp [go_sem]) (two_int (by simp [go_sem]) (by simp [go_sem]))
  · exact caps_two (n0 := 3) (n1 := 2) (k0 := 3) (k1 := 2) (q0 := some ⟨w.heap.size + 1 + 1 + 1, 0, none⟩) (q1 := some ⟨w.heap.size + 1 + 1 + 1 + 1, 0, none⟩) (by simp [go_sem]) (by simp [go_sem]) (Nat.le_refl _) (Nat.le_refl _)
  · exact ((((((Below.refl _ _).alloc (Nat.le_refl _) _).alloc (by simp; try omega) _).alloc (by simp; try omega) _).alloc (by simp; try omega) _).alloc (by simp; try omega) _).alloc (by simp; try omega) _

set_option maxRecDepth 100000 in
set_option maxHeartbeats 4000000 in
theorem sums_any (w : World) : Calls Tryz.prog 21 #[] w fun e w' => (∃ ta na ra, e = .returned (.agg #[.slice ta 2 2, .slice na 1 1, .int .i64 0, .slice ra 2 2]) ∧ GRow w' ta na ra sG ∧ Caps w' ra 2) ∧ Below w.heap.size w w' := by
  go_enter Tryz.func21, Tryz.ntmps21
  go_wp2
  refine bodyPost_ret (v := .agg #[.slice (some ⟨w.heap.size + 1, 0, none⟩) 2 2, .slice (some ⟨w.heap.size + 1 + 1, 0, none⟩) 1 1, .int .i64 0, .slice (some ⟨w.heap.size + 1 + 1 + 1 + 1 + 1, 0, none⟩) 2 2]) (by simp [results, Tryz.results21, go_sem]) rfl ⟨⟨_, _, _, rfl, ⟨?_, ?_, ?_⟩, ?_⟩, ?_⟩
  · exact two_str rfl (by simp [go_sem]) (by simp [go_sem])
  · exact one_str rfl (by simp [go_sem])
  · exact two_rule (x := ⟨0, [-1, 0, -1]⟩) (z := ⟨0, [1]⟩) (b := w.heap.size + 1 + 1 + 1 + 1 + 1) (qa := some ⟨w.heap.size + 1 + 1 + 1, 0, none⟩) (ca := 3) (qb := some ⟨w.heap.size + 1 + 1 + 1 + 1, 0, none⟩) (cb := 1) rfl (by simp [go_sem]) (by simp [go_sem]) (three_int (by simp [go_sem]) (by simp [go_sem]) (by simp [go_sem])) (by simp [go_sem]) (by simp [go_sem]) (one_int (by simp [go_sem]))
  · exact caps_two (n0 := 3) (n1 := 1) (k0 := 3) (k1 := 1) (q0 := some ⟨w.heap.size + 1 + 1 + 1, 0, none⟩) (q1 := some ⟨w.heap.size + 1 + 1 + 1 + 1, 0, none⟩) (by simp [go_sem]) (by simp [go_sem]) (Nat.le_refl _) (Nat.le_refl _)
  · exact ((((((Below.refl _ _).alloc (Nat.le_refl _) _).alloc (by simp; try omega) _).alloc (by simp; try omega) _).alloc (by simp; try omega) _).alloc (by simp; try omega) _).alloc (by simp; try omega) _

def hVL : Nat → Nat | 0 => 1 | _ => 0
def hVR : Nat → Nat | 0 => 2 | _ => 0
def sV : Nat → Nat | 0 => 3 | _ => 0
theorem h_check : checkG hG = (0, none) := by kernel_rfl
theorem s_check : checkG sG = (0, none) := by kernel_rfl
theorem h_good : GoodG hG := good_of (by rw [h_check])
theorem s_good : GoodG sG := good_of (by rw [s_check])
theorem h_left : IsEnds false hG hVL := ends_of_B h_good (k := 3) (by kernel_rfl)
theorem h_right : IsEnds true hG hVR := ends_of_B h_good (k := 3) (by kernel_rfl)
theorem s_left : IsEnds false sG sV := ends_of_B s_good (k := 3) (by kernel_rfl)
theorem s_right : IsEnds true sG sV := ends_of_B s_good (k := 3) (by kernel_rfl)

theorem h_ok : okG hG := by
  refine ⟨by decide, by decide, by decide, ⟨by decide, by decide⟩, ?_, ?_, ?_⟩
  · intro r hr
    simp only [hG, List.mem_cons, List.not_mem_nil, or_false] at hr
    rcases hr with rfl | rfl <;> exact ⟨⟨by decide, by decide⟩, by intro x hx; simp only [List.mem_cons, List.not_mem_nil, or_false] at hx; first | (rcases hx with rfl | rfl | rfl <;> exact ⟨by decide, by decide⟩) | (rcases hx with rfl | rfl <;> exact ⟨by decide, by decide⟩), by decide⟩
  · intro s hs
    simp only [hG, List.mem_cons, List.not_mem_nil, or_false] at hs
    rcases hs with rfl | rfl <;> decide
  · intro s hs
    simp only [hG, List.mem_cons, List.not_mem_nil, or_false] at hs
    rcases hs with rfl <;> decide
theorem s_ok : okG sG := by
  refine ⟨by decide, by decide, by decide, ⟨by decide, by decide⟩, ?_, ?_, ?_⟩
  · intro r hr
    simp only [sG, List.mem_cons, List.not_mem_nil, or_false] at hr
    rcases hr with rfl | rfl <;> exact ⟨⟨by decide, by decide⟩, by intro x hx; simp only [List.mem_cons, List.not_mem_nil, or_false] at hx; first | (subst hx; exact ⟨by decide, by decide⟩) | (rcases hx with rfl | rfl | rfl <;> exact ⟨by decide, by decide⟩), by decide⟩
  · intro s hs
    simp only [sG, List.mem_cons, List.not_mem_nil, or_false] at hs
    rcases hs with rfl | rfl <;> decide
  · intro s hs
    simp only [sG, List.mem_cons, List.not_mem_nil, or_false] at hs
    rcases hs with rfl <;> decide

/-- A relation, looked up among all that are found. -/
def relB (VL VR : Nat → Nat) (g : G) (x a b : Int) : Bool := (findsF VL VR g).any (fun f => f.rel == x && f.a == a && f.b == b)
theorem relB_iff {VL VR : Nat → Nat} {g : G} (hg : GoodG g) (hL : IsEnds false g VL) (hR : IsEnds true g VR) {x a b : Int} : relB VL VR g x a b = true ↔ Rel g x a b := by
  unfold relB
  rw [List.any_eq_true, ← finds_iff hg hL hR]
  constructor
  · rintro ⟨f, hf, h⟩
    simp at h
    exact ⟨f, hf, h.1.1, h.1.2, h.2⟩
  · rintro ⟨f, hf, h1, h2, h3⟩
    exact ⟨f, hf, by simp [h1, h2, h3]⟩
theorem holds_B {VL VR : Nat → Nat} {g : G} (hg : GoodG g) (hL : IsEnds false g VL) (hR : IsEnds true g VR) {S : Nat → Nat → Int} (h : IsMat g S) {x a b : Int} (h1 : 1 ≤ x) (h3 : x ≤ 3) : holdsB ((g.ts.length + 1 : Nat) : Int) S a b x = relB VL VR g x a b := by
  rw [Bool.eq_iff_iff, holds_iff hg h h1 h3, relB_iff hg hL hR]
def atB (VL VR : Nat → Nat) (g : G) (a b : Int) : Int := if relB VL VR g 1 a b = true then 1 else if relB VL VR g 2 a b = true then 2 else if relB VL VR g 3 a b = true then 3 else 0
theorem at_B {VL VR : Nat → Nat} {g : G} (hg : GoodG g) (hL : IsEnds false g VL) (hR : IsEnds true g VR) {S : Nat → Nat → Int} (h : IsMat g S) {a b : Int} : atI ((g.ts.length + 1 : Nat) : Int) S a b = atB VL VR g a b := by
  unfold atI atB
  rw [holds_B hg hL hR h (by decide) (by decide), holds_B hg hL hR h (by decide) (by decide), holds_B hg hL hR h (by decide) (by decide)]

theorem hat {S : Nat → Nat → Int} (h : IsMat hG S) {a b v : Int} (e : atB hVL hVR hG a b = v) (M : Nat) (w : World) (hm : MatAt w M 3 S) : Calls Tryz.prog 23 #[.pointer (some ⟨M, 0, none⟩), .int .i64 a, .int .i64 b] w fun e w' => e = .returned (.int .i64 v) ∧ w' = w := by
  have h1 := at_any M 3 S a b w hm (by decide)
  rw [show atI 3 S a b = v from (at_B h_good h_left h_right h).trans e] at h1
  exact h1
theorem shold {S : Nat → Nat → Int} (h : IsMat sG S) {a b x : Int} {v : Bool} (h1 : 1 ≤ x) (h3 : x ≤ 3) (e : relB sV sV sG x a b = v) (M : Nat) (w : World) (hm : MatAt w M 3 S) : Calls Tryz.prog 24 #[.pointer (some ⟨M, 0, none⟩), .int .i64 a, .int .i64 b, .int .i64 x] w fun e w' => e = .returned (.bool v) ∧ w' = w := by
  have h2 := holds_any M 3 S a b x w hm (by decide)
  rw [show holdsB 3 S a b x = v from (holds_B s_good s_left s_right h h1 h3).trans e] at h2
  exact h2

theorem nested_of (p : Nat → Addr) (w : World) (hS : Sents w p) (hT : Tab w) (hTG : 16 < w.heap.size) (ta na ra : Option Addr) (hG' : GRow w ta na ra hG) (hc : Caps w ra 2) :
    Calls Tryz.prog 6 #[.agg #[.slice ta 2 2, .slice na 1 1, .int .i64 0, .slice ra 2 2]] w fun e w' => (∃ M S, e = .returned (.tuple #[.pointer (some ⟨M, 0, none⟩), .nilIface]) ∧ MatAt w' M 3 S ∧ IsMat hG S) ∧ Below w.heap.size w w' := by
  refine (MOf_top ta na ra 2 1 2 hG p w hG' hc h_ok (by decide) (by decide) hS hT hTG).mono ?_
  rintro e w' ⟨⟨u, x, rfl, hO, hx⟩, hb⟩
  rw [h_check] at hx
  obtain rfl : x = .nilIface := hx
  rcases hO with ⟨_, M, S, rfl, _, hm, hi⟩ | ⟨hno, _⟩
  · exact ⟨⟨M, S, rfl, hm, hi⟩, hb⟩
  · exact absurd (by rw [h_check]) hno
theorem sums_of (p : Nat → Addr) (w : World) (hS : Sents w p) (hT : Tab w) (hTG : 16 < w.heap.size) (ta na ra : Option Addr) (hG' : GRow w ta na ra sG) (hc : Caps w ra 2) :
    Calls Tryz.prog 6 #[.agg #[.slice ta 2 2, .slice na 1 1, .int .i64 0, .slice ra 2 2]] w fun e w' => (∃ M S, e = .returned (.tuple #[.pointer (some ⟨M, 0, none⟩), .nilIface]) ∧ MatAt w' M 3 S ∧ IsMat sG S) ∧ Below w.heap.size w w' := by
  refine (MOf_top ta na ra 2 1 2 sG p w hG' hc s_ok (by decide) (by decide) hS hT hTG).mono ?_
  rintro e w' ⟨⟨u, x, rfl, hO, hx⟩, hb⟩
  rw [s_check] at hx
  obtain rfl : x = .nilIface := hx
  rcases hO with ⟨_, M, S, rfl, _, hm, hi⟩ | ⟨hno, _⟩
  · exact ⟨⟨M, S, rfl, hm, hi⟩, hb⟩
  · exact absurd (by rw [s_check]) hno

set_option maxRecDepth 100000 in
set_option maxHeartbeats 4000000 in
theorem awake_any (p : Nat → Addr) (w : World) (hS : Sents w p) (hT : Tab w) (hTG : 16 < w.heap.size) : Calls Tryz.prog 4 #[] w fun e w' => e = .returned (.bool true) ∧ Below w.heap.size w w' := by
  have heq0 : ∀ W : World, (binOp .eql 30 .nilIface .nilIface).run Tryz.prog W = .ok (.bool true) W := fun W => by kernel_rfl
  go_enter Tryz.func4, Tryz.ntmps4
  go_wp2_with fail
  refine (nested_any w).mono ?_
  rintro e w1 ⟨⟨ta, na, ra, rfl, hG1, hc1⟩, hb1⟩
  have hs1 := hb1.size
  have hof := nested_of p w1 (hS.below hb1 (Nat.le_refl _)) (SetsEach.Tab.from hT hb1 hTG) (by omega) ta na ra hG1 hc1
  go_wp2_with fail
  refine hof.mono ?_
  rintro e w2 ⟨⟨M, S, rfl, hm2, hi2⟩, hb2⟩
  have hB2 := hb1.trans (hb2.mono hb1.size)
  clear hof hG1 hc1 hb1 hb2
  go_wp2_with fail
  refine (sums_any w2).mono ?_
  rintro e w3 ⟨⟨ta3, na3, ra3, rfl, hG3, hc3⟩, hb3⟩
  have hB3 := hB2.trans (hb3.mono hB2.size)
  have hs3 := hB3.size
  have hof := sums_of p w3 (hS.below hB3 (Nat.le_refl _)) (SetsEach.Tab.from hT hB3 hTG) (by omega) ta3 na3 ra3 hG3 hc3
  have hm3 := hm2.below hb3 hm2.lt
  clear hm2 hb3 hB2
  go_wp2_with fail
  refine hof.mono ?_
  rintro e w4 ⟨⟨N, U, rfl, hm4, hi4⟩, hb4⟩
  have hB4 := hB3.trans (hb4.mono hB3.size)
  have hm3 := hm3.below hb4 hm3.lt
  clear hof hG3 hc3 hb4 hB3
  have k0 := terms_any M 3 S w4 hm3
  have k1 := hat hi2 (a := 0) (b := 0) (v := 1) (by kernel_rfl) M w4 hm3
  have k2 := hat hi2 (a := 0) (b := 1) (v := 2) (by kernel_rfl) M w4 hm3
  have k3 := hat hi2 (a := 1) (b := 1) (v := 3) (by kernel_rfl) M w4 hm3
  have k4 := hat hi2 (a := 2) (b := 0) (v := 1) (by kernel_rfl) M w4 hm3
  have k5 := hat hi2 (a := 1) (b := 2) (v := 3) (by kernel_rfl) M w4 hm3
  have k6 := hat hi2 (a := 1) (b := 0) (v := 0) (by kernel_rfl) M w4 hm3
  have k7 := shold hi4 (a := 0) (b := 0) (x := 1) (v := true) (by decide) (by decide) (by kernel_rfl) N w4 hm4
  have k8 := shold hi4 (a := 0) (b := 0) (x := 3) (v := true) (by decide) (by decide) (by kernel_rfl) N w4 hm4
  go_wp2_with fail
  refine k0.mono ?_
  rintro e w5 ⟨rfl, hw5⟩
  obtain rfl := hw5.symm
  clear k0
  go_wp2_with fail
  refine k1.mono ?_
  rintro e w5 ⟨rfl, hw5⟩
  obtain rfl := hw5.symm
  clear k1
  go_wp2_with fail
  refine k2.mono ?_
  rintro e w5 ⟨rfl, hw5⟩
  obtain rfl := hw5.symm
  clear k2
  go_wp2_with fail
  refine k3.mono ?_
  rintro e w5 ⟨rfl, hw5⟩
  obtain rfl := hw5.symm
  clear k3
  go_wp2_with fail
  refine k4.mono ?_
  rintro e w5 ⟨rfl, hw5⟩
  obtain rfl := hw5.symm
  clear k4
  go_wp2_with fail
  refine k5.mono ?_
  rintro e w5 ⟨rfl, hw5⟩
  obtain rfl := hw5.symm
  clear k5
  go_wp2_with fail
  refine k6.mono ?_
  rintro e w5 ⟨rfl, hw5⟩
  obtain rfl := hw5.symm
  clear k6
  go_wp2_with fail
  refine k7.mono ?_
  rintro e w5 ⟨rfl, hw5⟩
  obtain rfl := hw5.symm
  clear k7
  go_wp2_with fail
  refine k8.mono ?_
  rintro e w5 ⟨rfl, hw5⟩
  obtain rfl := hw5.symm
  clear k8
  go_wp2
  go_ret
  exact ⟨rfl, hB4⟩

end Go.Proofs.YtpdkjblmpgmcjaaGreatDoor.MatrixAwake
