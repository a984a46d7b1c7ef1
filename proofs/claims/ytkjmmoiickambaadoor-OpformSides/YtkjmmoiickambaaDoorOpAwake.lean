/-
  The statements' own look at the chapter's answers: it is always true.
-/
import Derived.Test.YtkjmmoiickambaaDoorOpOne
import Derived.Test.YtkjmmoiickambaaDoorGramEq
namespace Go.Proofs.YtkjmmoiickambaaDoor.OpCheck
open Go.RowKit Go.Proofs.YtkjmmoiickambaaDoor.GramMath Go.Proofs.YtkjmmoiickambaaDoor.GramRow Go.Proofs.YtkjmmoiickambaaDoor.GramOne Go.Proofs.YtkjmmoiickambaaDoor.GramLess Go.Proofs.YtkjmmoiickambaaDoor.GramApart Go.Proofs.YtkjmmoiickambaaDoor.GramLent Go.Proofs.YtkjmmoiickambaaDoor.GramErrs Go.Proofs.YtkjmmoiickambaaDoor.GramSame Go.Proofs.YtkjmmoiickambaaDoor.OpRow Go.Proofs.YtkjmmoiickambaaDoor.OpSkel Go.Proofs.YtkjmmoiickambaaDoor.OpFault Go.Proofs.YtkjmmoiickambaaDoor.OpFrame
set_option linter.unusedVariables false

theorem opRules_le (l : List R) : ∀ i, (opRules l i).1 ≤ 15 := by
  induction l with
  | nil => intro i; simp [opRules]
  | cons r l ih => intro i; unfold opRules; split; exact ih _; simp
theorem rulesK_le (t n : Nat) (l : List R) : ∀ i, (rulesK t n l i).1 ≤ 15 := by
  induction l with
  | nil => intro i; simp [rulesK]
  | cons r l ih =>
    intro i
    unfold rulesK
    split
    · exact ih _
    · rcases ruleK_cases t n r with h | h | h <;> (show ruleK t n r ≤ 15) <;> omega
theorem checkG_le (g : G) : (checkG g).1 ≤ 15 := by
  unfold checkG
  split
  · simp
  · split
    · simp
    · split
      · simp
      · exact rulesK_le _ _ _ _
theorem opG_le (g : G) : (opG g).1 ≤ 15 := by
  unfold opG
  split
  · exact opRules_le _ _
  · exact checkG_le g

set_option maxRecDepth 100000 in
set_option maxHeartbeats 1000000 in
theorem wrong_any (ta na ra : Option Addr) (tc nc rc : Nat) (g : G) (p : Nat → Addr) (w : World) (hG : GRow w ta na ra g) (hg : okG g) (htc : g.ts.length ≤ tc) (hnc : g.ns.length ≤ nc) (hE : Errs w p) (hT : ErrType w) :
    Calls Tryd.prog 25 #[.agg #[.slice ta g.ts.length tc, .slice na g.ns.length nc, .int .i64 g.ax, .slice ra g.rs.length rc]] w fun e w' => e = .returned (.agg #[.int .i64 ((opG g).1 : Int), .int .i64 (ruleZ (opG g))]) ∧ Below w.heap.size w w' := by
  have hB1 : Below w.heap.size w ((w.alloc (.cells #[.slice ta g.ts.length tc, .slice na g.ns.length nc, .int .i64 g.ax, .slice ra g.rs.length rc] 25)).alloc (.cells #[.int .i64 0, .int .i64 0] 40)) := ((Below.refl _ _).alloc (Nat.le_refl _) _).alloc (by simp) _
  have hr1 : RowAt ((w.alloc (.cells #[.slice ta g.ts.length tc, .slice na g.ns.length nc, .int .i64 g.ax, .slice ra g.rs.length rc] 25)).alloc (.cells #[.int .i64 0, .int .i64 0] 40)) (w.heap.size + 1) 40 #[.int .i64 0, .int .i64 0] := by
    have := rowNew (w.alloc (.cells #[.slice ta g.ts.length tc, .slice na g.ns.length nc, .int .i64 g.ax, .slice ra g.rs.length rc] 25)) #[.int .i64 0, .int .i64 0] 40
    rwa [World.size_alloc] at this
  have hck := opcheck_any ta na ra tc nc rc g p _ (hG.below hB1 (Nat.le_refl _)) hg htc hnc (hE.below hB1 (Nat.le_refl _))
  have hle := opG_le g
  generalize opG g = z at *
  go_enter Tryd.func25, Tryd.ntmps25
  go_wp2_with fail
  refine hck.mono ?_
  rintro e w1 ⟨⟨v, rfl, hv⟩, hb1⟩
  have hB2 := hB1.trans (hb1.mono hB1.size)
  have hr2 := hr1.below hb1 hr1.lt
  have hE2 := hE.below hB2 (Nat.le_refl _)
  have hT2 := hT.below hB2 (Nat.le_refl _)
  clear hck hr1 hE hT hG hB1 hb1
  have hk := kind_ck _ p z w1 v hE2 hle hv
  go_wp2_with fail
  refine hk.mono ?_
  rintro e w2 ⟨rfl, hb2⟩
  have hru := rule_ck _ p z w2 v (hT2.below hb2 (Nat.le_refl _)) (hv.below hb2 (Nat.le_refl _))
  go_wp2_with fail
  refine hru.mono ?_
  rintro e w3 ⟨rfl, hb3⟩
  have hr3 := (hr2.below hb2 hr2.lt).below hb3 (hr2.below hb2 hr2.lt).lt
  have hB3 := hB2.trans ((hb2.trans (hb3.mono hb2.size)).mono hB2.size)
  clear hk hru hv hE2 hT2 hr2 hb2 hb3 hB2
  have q0 := hr3.cell (q := 0) rfl
  have q1 := hr3.cell (q := 1) rfl
  have f0 := hr3.frozen 0
  have f1 := hr3.frozen 1
  have hr4 := (hr3.set 0 (.int .i64 (z.1 : Int))).set 1 (.int .i64 (ruleZ z))
  have hB4 := (hB3.setCell (p := ⟨w.heap.size + 1, 0, none⟩) (show w.heap.size ≤ w.heap.size + 1 by omega) (.int .i64 (z.1 : Int))).setCell (p := ⟨w.heap.size + 1, 1, none⟩) (show w.heap.size ≤ w.heap.size + 1 by omega) (.int .i64 (ruleZ z))
  have y0 := hr4.cell (q := 0) rfl
  have y1 := hr4.cell (q := 1) rfl
  clear hr3 hr4 hB3
  go_wp2
  refine bodyPost_ret (v := .agg #[.int .i64 (z.1 : Int), .int .i64 (ruleZ z)]) (by simp [results, Tryd.results25, go_sem, y0, y1]; try rfl) rfl ⟨rfl, hB4⟩

theorem oneG_ok (ls : List (List Int)) (hl : ls.length ≤ 1000) (h : ∀ zs ∈ ls, zs.length ≤ 1000 ∧ ∀ x ∈ zs, -1000 ≤ x ∧ x ≤ 1000) : okG (oneG ls) := by
  refine ⟨by show 2 ≤ _; omega, by show 1 ≤ _; omega, by simp [oneG]; omega, ⟨by show _ ≤ (0 : Int); omega, by show (0 : Int) < _; omega⟩, ?_, ?_, ?_⟩
  · intro r hr
    obtain ⟨zs, hz, rfl⟩ := List.mem_map.1 hr
    obtain ⟨h1, h2⟩ := h zs hz
    exact ⟨⟨by show _ ≤ (0 : Int); omega, by show (0 : Int) < _; omega⟩, fun x hx => by obtain ⟨a, b⟩ := h2 x hx; exact ⟨by omega, by omega⟩, by show zs.length ≤ _; omega⟩
  · intro s hs
    simp only [oneG, List.mem_cons, List.not_mem_nil, or_false] at hs
    rcases hs with rfl | rfl <;> decide
  · intro s hs
    simp only [oneG, List.mem_cons, List.not_mem_nil, or_false] at hs
    subst hs
    decide

theorem lrow2 {w : World} {a qa qb : Option Addr} {b ca cb : Nat} {x z : List Int} (ha : a = some ⟨b, 0, none⟩) (h0 : w.cell? ⟨b, 0, none⟩ = some (.slice qa x.length ca)) (i0 : IRow w qa x) (h1 : w.cell? ⟨b, 1, none⟩ = some (.slice qb z.length cb)) (i1 : IRow w qb z) : LRow w a [x, z] := fun i y hy => by
  match i, hy with
  | 0, hy => obtain rfl : x = y := by simpa using hy
             exact ⟨b, 0, _, _, ha, h0, i0⟩
  | 1, hy => obtain rfl : z = y := by simpa using hy
             exact ⟨b, 0, _, _, ha, h1, i1⟩
  | n + 2, hy => simp at hy
theorem lrow3 {w : World} {a qa qb qc : Option Addr} {b ca cb cc : Nat} {x z u : List Int} (ha : a = some ⟨b, 0, none⟩) (h0 : w.cell? ⟨b, 0, none⟩ = some (.slice qa x.length ca)) (i0 : IRow w qa x) (h1 : w.cell? ⟨b, 1, none⟩ = some (.slice qb z.length cb)) (i1 : IRow w qb z) (h2 : w.cell? ⟨b, 2, none⟩ = some (.slice qc u.length cc)) (i2 : IRow w qc u) : LRow w a [x, z, u] := fun i y hy => by
  match i, hy with
  | 0, hy => obtain rfl : x = y := by simpa using hy
             exact ⟨b, 0, _, _, ha, h0, i0⟩
  | 1, hy => obtain rfl : z = y := by simpa using hy
             exact ⟨b, 0, _, _, ha, h1, i1⟩
  | 2, hy => obtain rfl : u = y := by simpa using hy
             exact ⟨b, 0, _, _, ha, h2, i2⟩
  | n + 3, hy => simp at hy
theorem irow_nil (w : World) : IRow w none [] := fun i x hx => by simp at hx

theorem g1 : opG (oneG [[0, -1, 1], [-1]]) = (0, none) := by decide
theorem g2 : opG (oneG [[0], [0, -1, -1]]) = (4, some 1) := by decide
theorem eq2 (a b : Int) (w : World) : (Op.equalIn 10000 40 (.agg #[.int .i64 a, .int .i64 b]) (.agg #[.int .i64 a, .int .i64 b])).run Tryd.prog w = .ok true w := by
  obtain ⟨i0, hi⟩ := info_int
  have h := run_equalIn_array (P := Tryd.prog) w 9999 (intsA [a, b]) (intsA [a, b]) Tryd.underlying40 hi
  rw [cells_int, eq_items 9998 [a, b] [a, b] w _ (fun i hi => by rw [List.mem_range] at hi; simp; omega)] at h
  have e : decide (∀ i ∈ List.range 2, [a, b][i]? = [a, b][i]?) = true := decide_eq_true (fun _ _ => rfl)
  rw [e] at h
  exact h
theorem rz0 : ruleZ (0, none) = -1 := rfl
theorem rz4 (i : Nat) : ruleZ (4, some i) = (i : Int) := rfl

set_option maxRecDepth 100000 in
set_option maxHeartbeats 4000000 in
theorem opawake_any (p : Nat → Addr) (w : World) (hE : Errs w p) (hT : ErrType w) : Calls Tryd.prog 16 #[] w fun e w' => e = .returned (.bool true) ∧ Below w.heap.size w w' := by
  have heq := fun W => eq2 0 (-1) W
  have heq2 := fun W => eq2 4 1 W
  have hB1 : Below w.heap.size w (((w.alloc (.cells #[.int .i64 0, .int .i64 (-1), .int .i64 1] 3)).alloc (.cells #[.int .i64 (-1)] 3)).alloc (.cells #[.slice (some ⟨w.heap.size, 0, none⟩) 3 3, .slice (some ⟨w.heap.size + 1, 0, none⟩) 1 1] 43)) := (((Below.refl _ _).alloc (Nat.le_refl _) _).alloc (by simp) _).alloc (by simp; omega) _
  have hL1 : LRow (((w.alloc (.cells #[.int .i64 0, .int .i64 (-1), .int .i64 1] 3)).alloc (.cells #[.int .i64 (-1)] 3)).alloc (.cells #[.slice (some ⟨w.heap.size, 0, none⟩) 3 3, .slice (some ⟨w.heap.size + 1, 0, none⟩) 1 1] 43)) (some ⟨w.heap.size + 1 + 1, 0, none⟩) [[0, -1, 1], [-1]] :=
    lrow2 rfl (qa := some ⟨w.heap.size, 0, none⟩) (ca := 3) (by simp [go_sem]) (GramAwake.three_int (by simp [go_sem]) (by simp [go_sem]) (by simp [go_sem])) (qb := some ⟨w.heap.size + 1, 0, none⟩) (cb := 1) (by simp [go_sem]) (GramAwake.one_int (by simp [go_sem]))
  have ho1 := one_any (some ⟨w.heap.size + 1 + 1, 0, none⟩) 2 [[0, -1, 1], [-1]] _ hL1 (by decide)
  go_enter Tryd.func16, Tryd.ntmps16
  go_wp2_with fail
  refine ho1.mono ?_
  rintro e w1 ⟨⟨ta, na, ra, rc, rfl, hG1⟩, hb1⟩
  have hB2 := hB1.trans (hb1.mono hB1.size)
  have hw1 := wrong_any ta na ra 2 1 rc (oneG [[0, -1, 1], [-1]]) p w1 hG1 (oneG_ok _ (by decide) (by decide)) (by decide) (by decide) (hE.below hB2 (Nat.le_refl _)) (hT.below hB2 (Nat.le_refl _))
  rw [g1, rz0] at hw1
  clear ho1 hL1
  go_wp2_with fail
  refine hw1.mono ?_
  rintro e w2 ⟨rfl, hb2⟩
  have hB3 := hB2.trans (hb2.mono hB2.size)
  have hB4 : Below w2.heap.size w2 (((w2.alloc (.cells #[.int .i64 0] 3)).alloc (.cells #[.int .i64 0, .int .i64 (-1), .int .i64 (-1)] 3)).alloc (.cells #[.slice (some ⟨w2.heap.size, 0, none⟩) 1 1, .slice (some ⟨w2.heap.size + 1, 0, none⟩) 3 3] 43)) := (((Below.refl _ _).alloc (Nat.le_refl _) _).alloc (by simp) _).alloc (by simp; omega) _
  have hL2 : LRow (((w2.alloc (.cells #[.int .i64 0] 3)).alloc (.cells #[.int .i64 0, .int .i64 (-1), .int .i64 (-1)] 3)).alloc (.cells #[.slice (some ⟨w2.heap.size, 0, none⟩) 1 1, .slice (some ⟨w2.heap.size + 1, 0, none⟩) 3 3] 43)) (some ⟨w2.heap.size + 1 + 1, 0, none⟩) [[0], [0, -1, -1]] :=
    lrow2 rfl (qa := some ⟨w2.heap.size, 0, none⟩) (ca := 1) (by simp [go_sem]) (GramAwake.one_int (by simp [go_sem])) (qb := some ⟨w2.heap.size + 1, 0, none⟩) (cb := 3) (by simp [go_sem]) (GramAwake.three_int (by simp [go_sem]) (by simp [go_sem]) (by simp [go_sem]))
  have ho2 := one_any (some ⟨w2.heap.size + 1 + 1, 0, none⟩) 2 [[0], [0, -1, -1]] _ hL2 (by decide)
  clear hw1 hG1 hB1 hB2 hb1 hb2
  go_wp2_with fail
  refine ho2.mono ?_
  rintro e w3 ⟨⟨ta3, na3, ra3, rc3, rfl, hG3⟩, hb3⟩
  have hB5 := hB3.trans ((hB4.trans (hb3.mono hB4.size)).mono hB3.size)
  have hw3 := wrong_any ta3 na3 ra3 2 1 rc3 (oneG [[0], [0, -1, -1]]) p w3 hG3 (oneG_ok _ (by decide) (by decide)) (by decide) (by decide) (hE.below hB5 (Nat.le_refl _)) (hT.below hB5 (Nat.le_refl _))
  rw [g2, rz4] at hw3
  clear ho2 hL2 hB3 hB4 hb3
  go_wp2_with fail
  refine hw3.mono ?_
  rintro e w4 ⟨rfl, hb4⟩
  have hB6 := hB5.trans (hb4.mono hB5.size)
  have hB7 : Below w4.heap.size w4 (w4.alloc (.cells #[.int .i64 (-3), .int .i64 0, .int .i64 (-1), .int .i64 1] 3)) := (Below.refl _ _).alloc (Nat.le_refl _) _
  have hs4 := skel_any (some ⟨w4.heap.size, 0, none⟩) 4 [-3, 0, -1, 1] (w4.alloc (.cells #[.int .i64 (-3), .int .i64 0, .int .i64 (-1), .int .i64 1] 3)) (intsA_row (zs := [-3, 0, -1, 1]) (heap_new _ _)) (by decide)
  have hsz4 : (w4.alloc (.cells #[.int .i64 (-3), .int .i64 0, .int .i64 (-1), .int .i64 1] 3)).heap.size = w4.heap.size + 1 := by simp
  clear hw3 hG3 hB5 hb4
  go_wp2_with fail
  refine hs4.mono ?_
  rintro e w5 ⟨⟨rfl, hr5⟩, hb5⟩
  rw [hsz4] at hr5 hb5 ⊢
  have hB8 := hB6.trans ((hB7.trans (hb5.mono (by omega))).mono hB6.size)
  have hB9 : Below w5.heap.size w5 (w5.alloc (.cells #[.int .i64 (-1), .int .i64 0, .int .i64 (-1), .int .i64 1] 3)) := (Below.refl _ _).alloc (Nat.le_refl _) _
  have hq := ints_any (some ⟨w4.heap.size + 1, 0, none⟩) (some ⟨w5.heap.size, 0, none⟩) 4 4 [-1, 0, -1, 1] [-1, 0, -1, 1] (w5.alloc (.cells #[.int .i64 (-1), .int .i64 0, .int .i64 (-1), .int .i64 1] 3)) (intsA_row (hr5.alloc _)) (intsA_row (zs := [-1, 0, -1, 1]) (heap_new _ _)) (by decide) (by decide)
  clear hs4 hB6 hB7 hb5 hr5
  go_wp2_with fail
  refine hq.mono ?_
  rintro e w6 ⟨rfl, q, rfl⟩
  have hBf : Below w.heap.size w ((w5.alloc (.cells #[.int .i64 (-1), .int .i64 0, .int .i64 (-1), .int .i64 1] 3)).drewN q) := bdrew (hB8.trans (hB9.mono hB8.size)) q
  clear hq
  go_wp2
  go_ret
  exact ⟨by kernel_rfl, hBf⟩

end Go.Proofs.YtkjmmoiickambaaDoor.OpCheck
