/-
  The chapter's grammar, and what the program answers of it.
-/
import Derived.Test.YtmepnjnpfmgokaaDoorEndsChain
import Derived.Test.YtmepnjnpfmgokaaDoorGramAwake
import Derived.Test.YtmepnjnpfmgokaaDoorGramEq
namespace Go.Proofs.YtmepnjnpfmgokaaDoor.EndsAwake
open Go.RowKit Go.Proofs.YtmepnjnpfmgokaaDoor.GramMath Go.Proofs.YtmepnjnpfmgokaaDoor.GramRow Go.Proofs.YtmepnjnpfmgokaaDoor.GramCheck Go.Proofs.YtmepnjnpfmgokaaDoor.GramErrs Go.Proofs.YtmepnjnpfmgokaaDoor.GramAwake Go.Proofs.YtmepnjnpfmgokaaDoor.GramAboveFn Go.Proofs.YtmepnjnpfmgokaaDoor.GramSame Go.Proofs.YtmepnjnpfmgokaaDoor.EndsMath Go.Proofs.YtmepnjnpfmgokaaDoor.EndsFn Go.Proofs.YtmepnjnpfmgokaaDoor.EndsSearch Go.Proofs.YtmepnjnpfmgokaaDoor.EndsChain
set_option linter.unusedVariables false

def gG : G := ⟨[⟨#[43]⟩, ⟨#[42]⟩, ⟨#[40]⟩, ⟨#[41]⟩, ⟨#[105]⟩], [⟨#[69]⟩, ⟨#[84]⟩, ⟨#[70]⟩], 0, [⟨0, [-1, 0, -2]⟩, ⟨0, [-2]⟩, ⟨1, [-2, 1, -3]⟩, ⟨1, [-3]⟩, ⟨2, [2, -1, 3]⟩, ⟨2, [4]⟩]⟩

theorem five_str {w : World} {a : Option Addr} {b : Nat} {x0 x1 x2 x3 x4 : ByteArray} (ha : a = some ⟨b, 0, none⟩) (h0 : w.cell? ⟨b, 0, none⟩ = some (.string x0)) (h1 : w.cell? ⟨b, 1, none⟩ = some (.string x1)) (h2 : w.cell? ⟨b, 2, none⟩ = some (.string x2)) (h3 : w.cell? ⟨b, 3, none⟩ = some (.string x3)) (h4 : w.cell? ⟨b, 4, none⟩ = some (.string x4)) : SRow w a [x0, x1, x2, x3, x4] := fun i y hy => by
  match i, hy with
  | 0, hy => obtain rfl : x0 = y := by simpa using hy
             exact ⟨b, 0, ha, h0⟩
  | 1, hy => obtain rfl : x1 = y := by simpa using hy
             exact ⟨b, 0, ha, h1⟩
  | 2, hy => obtain rfl : x2 = y := by simpa using hy
             exact ⟨b, 0, ha, h2⟩
  | 3, hy => obtain rfl : x3 = y := by simpa using hy
             exact ⟨b, 0, ha, h3⟩
  | 4, hy => obtain rfl : x4 = y := by simpa using hy
             exact ⟨b, 0, ha, h4⟩
  | n + 5, hy => simp at hy

theorem six_rule {w : World} {a q0 q1 q2 q3 q4 q5 : Option Addr} {b k0 k1 k2 k3 k4 k5 : Nat} {x0 x1 x2 x3 x4 x5 : R} (ha : a = some ⟨b, 0, none⟩) (a0 : w.cell? ⟨b, 0, none⟩ = some (.int .i64 x0.left)) (c0 : w.cell? ⟨b, 1, none⟩ = some (.slice q0 x0.right.length k0)) (i0 : IRow w q0 x0.right) (a1 : w.cell? ⟨b, 2, none⟩ = some (.int .i64 x1.left)) (c1 : w.cell? ⟨b, 3, none⟩ = some (.slice q1 x1.right.length k1)) (i1 : IRow w q1 x1.right) (a2 : w.cell? ⟨b, 4, none⟩ = some (.int .i64 x2.left)) (c2 : w.cell? ⟨b, 5, none⟩ = some (.slice q2 x2.right.length k2)) (i2 : IRow w q2 x2.right) (a3 : w.cell? ⟨b, 6, none⟩ = some (.int .i64 x3.left)) (c3 : w.cell? ⟨b, 7, none⟩ = some (.slice q3 x3.right.length k3)) (i3 : IRow w q3 x3.right) (a4 : w.cell? ⟨b, 8, none⟩ = some (.int .i64 x4.left)) (c4 : w.cell? ⟨b, 9, none⟩ = some (.slice q4 x4.right.length k4)) (i4 : IRow w q4 x4.right) (a5 : w.cell? ⟨b, 10, none⟩ = some (.int .i64 x5.left)) (c5 : w.cell? ⟨b, 11, none⟩ = some (.slice q5 x5.right.length k5)) (i5 : IRow w q5 x5.right) : RRow w a [x0, x1, x2, x3, x4, x5] := fun i y hy => by
  match i, hy with
  | 0, hy => obtain rfl : x0 = y := by simpa using hy
             exact ⟨b, 0, _, _, ha, a0, c0, i0⟩
  | 1, hy => obtain rfl : x1 = y := by simpa using hy
             exact ⟨b, 0, _, _, ha, a1, c1, i1⟩
  | 2, hy => obtain rfl : x2 = y := by simpa using hy
             exact ⟨b, 0, _, _, ha, a2, c2, i2⟩
  | 3, hy => obtain rfl : x3 = y := by simpa using hy
             exact ⟨b, 0, _, _, ha, a3, c3, i3⟩
  | 4, hy => obtain rfl : x4 = y := by simpa using hy
             exact ⟨b, 0, _, _, ha, a4, c4, i4⟩
  | 5, hy => obtain rfl : x5 = y := by simpa using hy
             exact ⟨b, 0, _, _, ha, a5, c5, i5⟩
  | n + 6, hy => simp at hy

set_option maxRecDepth 100000 in
set_option maxHeartbeats 4000000 in
theorem given_any (w : World) : Calls Tryd.prog 22 #[] w fun e w' => (∃ ta na ra, e = .returned (.agg #[.slice ta 5 5, .slice na 3 3, .int .i64 0, .slice ra 6 6]) ∧ GRow w' ta na ra gG) ∧ Below w.heap.size w w' := by
  go_enter Tryd.func22, Tryd.ntmps22
  go_wp2
  refine bodyPost_ret (v := .agg #[.slice (some ⟨w.heap.size + 1, 0, none⟩) 5 5, .slice (some ⟨w.heap.size + 1 + 1, 0, none⟩) 3 3, .int .i64 0, .slice (some ⟨w.heap.size + 1 + 1 + 1 + 1 + 1 + 1 + 1 + 1 + 1, 0, none⟩) 6 6]) (by simp [results, Tryd.results22, go_sem]) rfl ⟨⟨_, _, _, rfl, ?_, ?_, ?_⟩, ?_⟩
  · exact five_str rfl (by simp [go_sem]) (by simp [go_sem]) (by simp [go_sem]) (by simp [go_sem]) (by simp [go_sem])
  · exact three_str rfl (by simp [go_sem]) (by simp [go_sem]) (by simp [go_sem])
  · exact six_rule (x0 := ⟨0, [-1, 0, -2]⟩) (x1 := ⟨0, [-2]⟩) (x2 := ⟨1, [-2, 1, -3]⟩) (x3 := ⟨1, [-3]⟩) (x4 := ⟨2, [2, -1, 3]⟩) (x5 := ⟨2, [4]⟩) (b := w.heap.size + 1 + 1 + 1 + 1 + 1 + 1 + 1 + 1 + 1) (q0 := some ⟨w.heap.size + 1 + 1 + 1, 0, none⟩) (k0 := 3) (q1 := some ⟨w.heap.size + 1 + 1 + 1 + 1, 0, none⟩) (k1 := 1) (q2 := some ⟨w.heap.size + 1 + 1 + 1 + 1 + 1, 0, none⟩) (k2 := 3) (q3 := some ⟨w.heap.size + 1 + 1 + 1 + 1 + 1 + 1, 0, none⟩) (k3 := 1) (q4 := some ⟨w.heap.size + 1 + 1 + 1 + 1 + 1 + 1 + 1, 0, none⟩) (k4 := 3) (q5 := some ⟨w.heap.size + 1 + 1 + 1 + 1 + 1 + 1 + 1 + 1, 0, none⟩) (k5 := 1) rfl (by simp [go_sem]) (by simp [go_sem]) (three_int (by simp [go_sem]) (by simp [go_sem]) (by simp [go_sem])) (by simp [go_sem]) (by simp [go_sem]) (one_int (by simp [go_sem])) (by simp [go_sem]) (by simp [go_sem]) (three_int (by simp [go_sem]) (by simp [go_sem]) (by simp [go_sem])) (by simp [go_sem]) (by simp [go_sem]) (one_int (by simp [go_sem])) (by simp [go_sem]) (by simp [go_sem]) (three_int (by simp [go_sem]) (by simp [go_sem]) (by simp [go_sem])) (by simp [go_sem]) (by simp [go_sem]) (one_int (by simp [go_sem]))
  · exact ((((((((((Below.refl _ _).alloc (Nat.le_refl _) _).alloc (by simp; try omega) _).alloc (by simp; try omega) _).alloc (by simp; try omega) _).alloc (by simp; try omega) _).alloc (by simp; try omega) _).alloc (by simp; try omega) _).alloc (by simp; try omega) _).alloc (by simp; try omega) _).alloc (by simp; try omega) _

/-- Does a terminal come within so many steps? -/
def LftB (b : Bool) (rs : List R) : Nat → Nat → Nat → Bool
  | 0, _, _ => false
  | k + 1, n, t => rs.any (fun r => r.left.toNat == n && (shO b r == some t || (match ldO b r with | some m => LftB b rs k m t | none => false)))

theorem LftB.lft {b : Bool} {rs : List R} : ∀ {k n t : Nat}, LftB b rs k n t = true → Lft b rs n t
  | 0, _, _, h => by cases h
  | k + 1, n, t, h => by
    unfold LftB at h
    rw [List.any_eq_true] at h
    obtain ⟨r, hr, h⟩ := h
    rw [Bool.and_eq_true, Bool.or_eq_true, beq_iff_eq, beq_iff_eq] at h
    obtain ⟨rfl, h⟩ := h
    rcases h with h | h
    · exact .shows hr h
    · cases hl : ldO b r with
      | none => rw [hl] at h; cases h
      | some m => rw [hl] at h; exact .leads hr hl (LftB.lft h)

def endsB (b : Bool) (g : G) (V : Nat → Nat) (k : Nat) : Bool :=
  (List.range g.ns.length).all (fun i => decide (V i < 2 ^ g.ts.length) && (List.range g.ts.length).all (fun t => !(V i).testBit t || LftB b g.rs k i t)) && g.rs.all (fun r => wid b V r == V r.left.toNat)

theorem ends_of_B {b : Bool} {g : G} (hg : GoodG g) {V : Nat → Nat} {k : Nat} (h : endsB b g V k = true) : IsEnds b g V := by
  unfold endsB at h
  rw [Bool.and_eq_true, List.all_eq_true, List.all_eq_true] at h
  refine ends_of hg (fun i hi => ?_) (fun r hr => by have := h.2 r hr; rw [beq_iff_eq] at this; exact this)
  have h1 := h.1 i (List.mem_range.2 hi)
  rw [Bool.and_eq_true, decide_eq_true_iff, List.all_eq_true] at h1
  refine ⟨h1.1, fun t ht => ?_⟩
  have htl : t < g.ts.length := by
    rcases Nat.lt_or_ge t g.ts.length with h | h
    · exact h
    · rw [Nat.testBit_lt_two_pow (Nat.lt_of_lt_of_le h1.1 (Nat.pow_le_pow_right (by omega) h))] at ht
      cases ht
  have h2 := h1.2 t (List.mem_range.2 htl)
  rw [ht] at h2
  exact LftB.lft (by simpa using h2)

def VL : Nat → Nat
  | 0 => 23
  | 1 => 22
  | 2 => 20
  | _ => 0
def VR : Nat → Nat
  | 0 => 27
  | 1 => 26
  | 2 => 24
  | _ => 0

theorem g_check : checkG gG = (0, none) := by kernel_rfl
theorem g_good : GoodG gG := good_of (by rw [g_check])
theorem g_left : IsEnds false gG VL := ends_of_B g_good (k := 4) (by kernel_rfl)
theorem g_right : IsEnds true gG VR := ends_of_B g_good (k := 4) (by kernel_rfl)

theorem g_ok : okG gG := by
  refine ⟨by decide, by decide, by decide, ⟨by decide, by decide⟩, ?_, ?_, ?_⟩
  · intro r hr
    simp only [gG, List.mem_cons, List.not_mem_nil, or_false] at hr
    rcases hr with rfl | rfl | rfl | rfl | rfl | rfl <;> exact ⟨⟨by decide, by decide⟩, by intro x hx; simp only [List.mem_cons, List.not_mem_nil, or_false] at hx; first | (subst hx; exact ⟨by decide, by decide⟩) | (rcases hx with rfl | rfl | rfl <;> exact ⟨by decide, by decide⟩), by decide⟩
  · intro s hs
    simp only [gG, List.mem_cons, List.not_mem_nil, or_false] at hs
    rcases hs with rfl | rfl | rfl | rfl | rfl <;> decide
  · intro s hs
    simp only [gG, List.mem_cons, List.not_mem_nil, or_false] at hs
    rcases hs with rfl | rfl | rfl <;> decide

theorem urow_three {w : World} {b x y z : Nat} {V : Nat → Nat} (h0 : w.cell? ⟨b, 0, none⟩ = some (.int .u64 (V 0 : Int))) (h1 : w.cell? ⟨b, 1, none⟩ = some (.int .u64 (V 1 : Int))) (h2 : w.cell? ⟨b, 2, none⟩ = some (.int .u64 (V 2 : Int))) : URow w (some ⟨b, 0, none⟩) 3 V := fun i hi => ⟨b, 0, rfl, by
  rw [Nat.zero_add]
  match i, hi with
  | 0, _ => exact h0
  | 1, _ => exact h1
  | 2, _ => exact h2⟩

theorem _root_.Go.Proofs.YtmepnjnpfmgokaaDoor.EndsFn.SetsAt.row_eq {base : Nat} {w : World} {bb : Bool} {g : G} {b : Nat} {V U : Nat → Nat} (h : SetsAt base w bb g b V) (hU : IsEnds bb g U) : URow w (some ⟨b, 0, none⟩) g.ns.length U := vrow_row (h.row.congr (fun i hi => h.ends.eq hU hi hi (fun _ => Iff.rfl)))

set_option maxRecDepth 100000 in
set_option maxHeartbeats 4000000 in
theorem awake_any (p : Nat → Addr) (w : World) (hS : Sents w p) : Calls Tryd.prog 16 #[] w fun e w' => e = .returned (.bool true) ∧ Below w.heap.size w w' := by
  have heql := eql_nil
  have heq0 : ∀ W : World, (binOp .eql 31 .nilIface .nilIface).run Tryd.prog W = .ok (.bool true) W := fun W => by kernel_rfl
  go_enter Tryd.func16, Tryd.ntmps16
  go_wp2_with fail
  refine (given_any w).mono ?_
  rintro e w1 ⟨⟨ta, na, ra, rfl, hG⟩, hb1⟩
  have hof := Of_top ta na ra 5 3 6 gG p w1 hG g_ok (by decide) (by decide) (hS.below hb1 (Nat.le_refl _))
  go_wp2_with fail
  refine hof.mono ?_
  rintro e w2 ⟨⟨u, v, x, rfl, hO, hx⟩, hb2⟩
  have hB2 := hb1.trans (hb2.mono hb1.size)
  rw [g_check] at hx
  obtain rfl : x = .nilIface := hx
  rcases hO with ⟨_, bl, br, Vl, Vr, hu, hv, hl, hr, hlr⟩ | ⟨hno, _, _⟩
  · obtain rfl : u = .slice (some ⟨bl, 0, none⟩) 3 3 := hu
    obtain rfl : v = .slice (some ⟨br, 0, none⟩) 3 3 := hv
    have hul : URow w2 (some ⟨bl, 0, none⟩) 3 VL := hl.row_eq g_left
    have hur : URow w2 (some ⟨br, 0, none⟩) 3 VR := hr.row_eq g_right
    have hBe : Below w2.heap.size w2 (w2.alloc (.cells #[.slice (some ⟨bl, 0, none⟩) 3 3, .slice (some ⟨br, 0, none⟩) 3 3] 29)) := (Below.refl _ _).alloc (Nat.le_refl _) _
    have hze : (w2.alloc (.cells #[.slice (some ⟨bl, 0, none⟩) 3 3, .slice (some ⟨br, 0, none⟩) 3 3] 29)).heap.size = w2.heap.size + 1 := by simp
    have e0 : (w2.alloc (.cells #[.slice (some ⟨bl, 0, none⟩) 3 3, .slice (some ⟨br, 0, none⟩) 3 3] 29)).cell? ⟨w2.heap.size, 0, none⟩ = some (.slice (some ⟨bl, 0, none⟩) 3 3) := by simp [go_sem]
    have e1 : (w2.alloc (.cells #[.slice (some ⟨bl, 0, none⟩) 3 3, .slice (some ⟨br, 0, none⟩) 3 3] 29)).cell? ⟨w2.heap.size, 1, none⟩ = some (.slice (some ⟨br, 0, none⟩) 3 3) := by simp [go_sem]
    have hul2 := hul.below hBe (Nat.le_refl _)
    have hur2 := hur.below hBe (Nat.le_refl _)
    have hB3 := hB2.trans (hBe.mono hB2.size)
    clear hof hul hur hl hr hG
    go_wp2_with fail
    generalize w2.alloc (.cells #[.slice (some ⟨bl, 0, none⟩) 3 3, .slice (some ⟨br, 0, none⟩) 3 3] 29) = W3 at *
    have hBa : Below W3.heap.size W3 (W3.alloc (.cells #[.int .u64 23, .int .u64 22, .int .u64 20] 57)) := (Below.refl _ _).alloc (Nat.le_refl _) _
    have hq := sets_same (some ⟨bl, 0, none⟩) (some ⟨W3.heap.size, 0, none⟩) 3 3 3 VL _ (hul2.below hBa (Nat.le_refl _)) (urow_three (b := W3.heap.size) (x := 0) (y := 0) (z := 0) (by simp [go_sem, VL]) (by simp [go_sem, VL]) (by simp [go_sem, VL])) (by omega)
    have hBa' := hBa
    rw [hze] at hq
    refine hq.mono ?_
    rintro e w4 ⟨rfl, hb4⟩
    have hz4 := hb4.size
    have hB4 := hBa'.trans (hb4.mono hBa'.size)
    have f1 := (hB4.cell (p := ⟨w2.heap.size, 1, none⟩) (show w2.heap.size < _ by omega)).trans e1
    have hur4 := hur2.below hB4 (Nat.le_refl _)
    have hB5 := hB3.trans (hB4.mono hB3.size)
    clear hq hBa hBa' hul2 hur2 hB4 hb4 e0 e1
    go_wp2_with fail
    have hBc : Below w4.heap.size w4 (w4.alloc (.cells #[.int .u64 27, .int .u64 26, .int .u64 24] 57)) := (Below.refl _ _).alloc (Nat.le_refl _) _
    have hq := sets_same (some ⟨br, 0, none⟩) (some ⟨w4.heap.size, 0, none⟩) 3 3 3 VR _ (hur4.below hBc (Nat.le_refl _)) (urow_three (b := w4.heap.size) (x := 0) (y := 0) (z := 0) (by simp [go_sem, VR]) (by simp [go_sem, VR]) (by simp [go_sem, VR])) (by omega)
    refine hq.mono ?_
    rintro e w5 ⟨rfl, hb5⟩
    have hB6 := hB5.trans ((hBc.trans (hb5.mono hBc.size)).mono hB5.size)
    go_wp2
    go_ret
    exact ⟨rfl, hB6⟩
  · exact absurd (by rw [g_check]) hno

end Go.Proofs.YtmepnjnpfmgokaaDoor.EndsAwake
