/-
  Texts that stand together: PrecFn6.
-/
import Derived.Test.YtcoepmpgclndiaaGreatDoorBPrecFn5
import Derived.OwnWalk
namespace Go.Proofs.YtcoepmpgclndiaaGreatDoor.PrecFn
open Go.RowKit Go.Sort Go.Proofs.YtcoepmpgclndiaaGreatDoor.GraphFn Go.Proofs.YtcoepmpgclndiaaGreatDoor.GraphSort Go.Proofs.YtcoepmpgclndiaaGreatDoor.GramMath Go.Proofs.YtcoepmpgclndiaaGreatDoor.GramRow Go.Proofs.YtcoepmpgclndiaaGreatDoor.GramApart Go.Proofs.YtcoepmpgclndiaaGreatDoor.GraphMath Go.Proofs.YtcoepmpgclndiaaGreatDoor.GraphNet Go.Proofs.YtcoepmpgclndiaaGreatDoor.OpRow Go.Proofs.YtcoepmpgclndiaaGreatDoor.GramErrs Go.Proofs.YtcoepmpgclndiaaGreatDoor.MatrixClash Go.Proofs.YtcoepmpgclndiaaGreatDoor.GraphLent Go.Proofs.YtcoepmpgclndiaaGreatDoor.GramLent
set_option linter.unusedVariables false
set_option linter.unusedSimpArgs false

theorem eqp_none (w : World) : (binOp .eql 22 (.pointer none) (.pointer none)).run Tryz.prog w = .ok (.bool true) w := by kernel_rfl
theorem eqp_some (a : Addr) (w : World) : (binOp .eql 22 (.pointer (some a)) (.pointer none)).run Tryz.prog w = .ok (.bool false) w := by kernel_rfl

/-- The error of a pair, in new memory. -/
def PairE (base : Nat) (p : Nat → Addr) (x : Pr) (w : World) (v : Value) : Prop := ∃ b, base ≤ b ∧ v = .iface 66 (.pointer (some ⟨b, 0, none⟩)) ∧ w.heap[b]? = some (.cells #[.int .i64 x.a, .int .i64 x.b, .int .i64 x.f, .int .i64 x.s, .iface 206 (.pointer (some (p 5)))] 68 (0, 0))
/-- What Graph answers. -/
def GrV (base : Nat) (p : Nat → Addr) (po : Option Addr) (t : Nat) (S : Nat → Nat → Int) (w : World) (v : Value) : Prop :=
  (po = none ∧ v = .tuple #[.slice none 0 0, .slice none 0 0, .iface 206 (.pointer (some (p 1)))]) ∨
  (po ≠ none ∧ ∃ x l ev, clL t S = x :: l ∧ v = .tuple #[.slice none 0 0, .slice none 0 0, ev] ∧ PairE base p x w ev) ∨
  (po ≠ none ∧ clL t S = [] ∧ ∃ g ev, v = .tuple #[.slice (some ⟨g, 0, none⟩) (2 * t) (2 * t), ev, .nilIface] ∧ base ≤ g ∧ RowAt w g 3 (intsA (ints (classL (rQ t S) t))) ∧ EOwn w base ev (edgeL (rY t S) (rQ t S) (rK t S) t))

set_option maxRecDepth 100000 in
set_option maxHeartbeats 8000000 in
theorem graph_any (po : Option Addr) (t : Nat) (S : Nat → Nat → Int) (p : Nat → Addr) (w : World) (hm : MatV w po t S) (ht : t ≤ 60) (h1 : Sent w 0 (p 1)) (h5 : Sent w 1 (p 5)) :
    Calls Tryz.prog 7 #[.pointer po] w fun e w' => ∃ v, e = .returned v ∧ GrV w.heap.size p po t S w' v ∧ Below w.heap.size w w' := by
  have q0 := eqp_none
  have q1 := eqp_some
  cases po with
  | none =>
    have c1 : w.cell? ⟨0, 0, none⟩ = some (.iface 206 (.pointer (some (p 1)))) := h1
    clear hm h5
    go_enter Tryz.func7, Tryz.ntmps7
    go_wp2
    go_quiet (fail)
    go_wp2
    go_ret3
    exact ⟨_, rfl, .inl ⟨rfl, rfl⟩, drew_below w _⟩
  | some pa =>
    have hcl := clashF_v (some pa) t S w ht hm
    have HM : Hid (MatV w (some pa) t S) := hm
    have H5 : Hid (Sent w 1 (p 5)) := h5
    clear hm h1 h5
    go_enter Tryz.func7, Tryz.ntmps7
    go_wp2_with fail
    refine hcl.mono ?_
    rintro e w1 ⟨rfl, hb1⟩
    have HB1 : Hid (Below w.heap.size w w1) := hb1
    clear hcl hb1
    cases hc : clL t S with
    | nil =>
      have hz : clashO [] = .tuple #[.agg #[.int .i64 0, .int .i64 0, .int .i64 0, .int .i64 0], .bool false] := rfl
      rw [hz]
      clear hz
      obtain ⟨W2, hW2⟩ : ∃ W2, W2 = w1.alloc (.cells #[.int .i64 0, .int .i64 0, .int .i64 0, .int .i64 0] 50) := ⟨_, rfl⟩
      have hB2 : Below w.heap.size w W2 := by rw [hW2]; exact HB1.out.alloc HB1.out.size _
      have hco := classesOf_any (some pa) t S W2 (HM.out.below hB2 (Nat.le_refl _)) ht
      have HC : Hid (clL t S = []) := hc
      have HB2 : Hid (Below w.heap.size w W2) := hB2
      have HW2 : Hid (W2 = w1.alloc (.cells #[.int .i64 0, .int .i64 0, .int .i64 0, .int .i64 0] 50)) := hW2
      rw [hW2] at hco
      clear hc hW2 hB2
      go_wp2_with fail
      refine hco.mono ?_
      rintro e w3 ⟨g, rfl, hg, hrow, hb3⟩
      rw [← HW2.out] at hg hb3
      have hB3 : Below w.heap.size w w3 := HB2.out.trans (hb3.mono HB2.out.size)
      have hed := edgesOf_any (some pa) t S (some ⟨g, 0, none⟩) (2 * t) w3 (HM.out.below hB3 (Nat.le_refl _)) ht (intsA_row hrow)
      have HG : Hid (w.heap.size ≤ g ∧ RowAt w3 g 3 (intsA (ints (classL (rQ t S) t))) ∧ Below w.heap.size w w3) := ⟨by have := HB2.out.size; omega, hrow, hB3⟩
      clear hco hg hrow hb3 hB3 HW2
      go_wp2_with fail
      refine hed.mono ?_
      rintro e w4 ⟨ev, rfl, hev, hb4⟩
      have hfin : Hid (RowAt w4 g 3 (intsA (ints (classL (rQ t S) t))) ∧ EOwn w4 w.heap.size ev (edgeL (rY t S) (rQ t S) (rK t S) t) ∧ Below w.heap.size w w4) := ⟨HG.out.2.1.below hb4 HG.out.2.1.lt, own_base hev HG.out.2.2.size, HG.out.2.2.trans (hb4.mono HG.out.2.2.size)⟩
      clear hed hev hb4
      go_wp2
      go_ret3
      exact ⟨_, rfl, .inr (.inr ⟨by simp, HC.out, g, ev, rfl, HG.out.1, hfin.out.1, hfin.out.2.1⟩), hfin.out.2.2⟩
    | cons x l =>
      obtain ⟨xa, xb, xf, xs⟩ := x
      have hz : clashO (⟨xa, xb, xf, xs⟩ :: l) = .tuple #[.agg #[.int .i64 xa, .int .i64 xb, .int .i64 xf, .int .i64 xs], .bool true] := rfl
      rw [hz]
      clear hz
      have HC : Hid (clL t S = ⟨xa, xb, xf, xs⟩ :: l) := hc
      have c5 : (w1.alloc (.cells #[.int .i64 xa, .int .i64 xb, .int .i64 xf, .int .i64 xs] 50)).cell? ⟨1, 0, none⟩ = some (.iface 206 (.pointer (some (p 5)))) := (H5.out.below HB1.out (Nat.le_refl _)).below ((Below.refl _ _).alloc (Nat.le_refl _) _) (Nat.le_refl _)
      have r5 : RowAt (w1.alloc (.cells #[.int .i64 xa, .int .i64 xb, .int .i64 xf, .int .i64 xs] 50)) w1.heap.size 50 #[.int .i64 xa, .int .i64 xb, .int .i64 xf, .int .i64 xs] := heap_new _ _
      have hB2 : Below w.heap.size w (w1.alloc (.cells #[.int .i64 xa, .int .i64 xb, .int .i64 xf, .int .i64 xs] 50)) := HB1.out.alloc HB1.out.size _
      have HB2 : Hid (Below w.heap.size w (w1.alloc (.cells #[.int .i64 xa, .int .i64 xb, .int .i64 xf, .int .i64 xs] 50))) := hB2
      have d0 := r5.cell (q := 0) (v := .int .i64 xa) rfl
      have d1 := r5.cell (q := 1) (v := .int .i64 xb) rfl
      have d2 := r5.cell (q := 2) (v := .int .i64 xf) rfl
      have d3 := r5.cell (q := 3) (v := .int .i64 xs) rfl
      clear hc hB2 r5
      obtain ⟨W2, hW2⟩ : ∃ W2, W2 = w1.alloc (.cells #[.int .i64 xa, .int .i64 xb, .int .i64 xf, .int .i64 xs] 50) := ⟨_, rfl⟩
      rw [← hW2] at c5 d0 d1 d2 d3 HB2
      have hlA : Hid (((((W2.drew.alloc (.cells #[.int .i64 xa, .int .i64 xb, .int .i64 xf, .int .i64 xs, .iface 206 (.pointer (some (p 5)))] 68)).cell? ⟨w1.heap.size, 0, none⟩ = some (.int .i64 xa)) ∧ (W2.drew.alloc (.cells #[.int .i64 xa, .int .i64 xb, .int .i64 xf, .int .i64 xs, .iface 206 (.pointer (some (p 5)))] 68)).cell? ⟨w1.heap.size, 1, none⟩ = some (.int .i64 xb)) ∧ (W2.drew.alloc (.cells #[.int .i64 xa, .int .i64 xb, .int .i64 xf, .int .i64 xs, .iface 206 (.pointer (some (p 5)))] 68)).cell? ⟨w1.heap.size, 2, none⟩ = some (.int .i64 xf)) ∧ (W2.drew.alloc (.cells #[.int .i64 xa, .int .i64 xb, .int .i64 xf, .int .i64 xs, .iface 206 (.pointer (some (p 5)))] 68)).cell? ⟨w1.heap.size, 3, none⟩ = some (.int .i64 xs)) := by
        have hb : Below W2.heap.size W2 (W2.drew.alloc (.cells #[.int .i64 xa, .int .i64 xb, .int .i64 xf, .int .i64 xs, .iface 206 (.pointer (some (p 5)))] 68)) := (drew_below W2 1).alloc (Nat.le_refl _) _
        exact ⟨⟨⟨(hb.cell (cell_lt d0)).trans d0, (hb.cell (cell_lt d1)).trans d1⟩, (hb.cell (cell_lt d2)).trans d2⟩, (hb.cell (cell_lt d3)).trans d3⟩
      have hlC : Hid ((W2.drew.alloc (.cells #[.int .i64 xa, .int .i64 xb, .int .i64 xf, .int .i64 xs, .iface 206 (.pointer (some (p 5)))] 68)).cell? ⟨1, 0, none⟩ = some (.iface 206 (.pointer (some (p 5))))) := by
        have hb : Below W2.heap.size W2 (W2.drew.alloc (.cells #[.int .i64 xa, .int .i64 xb, .int .i64 xf, .int .i64 xs, .iface 206 (.pointer (some (p 5)))] 68)) := (drew_below W2 1).alloc (Nat.le_refl _) _
        exact (hb.cell (cell_lt c5)).trans c5
      have hfin : Hid (PairE w.heap.size p ⟨xa, xb, xf, xs⟩ (W2.drew.alloc (.cells #[.int .i64 xa, .int .i64 xb, .int .i64 xf, .int .i64 xs, .iface 206 (.pointer (some (p 5)))] 68)) (.iface 66 (.pointer (some ⟨W2.heap.size, 0, none⟩))) ∧ Below w.heap.size w (W2.drew.alloc (.cells #[.int .i64 xa, .int .i64 xb, .int .i64 xf, .int .i64 xs, .iface 206 (.pointer (some (p 5)))] 68))) := ⟨⟨W2.heap.size, HB2.out.size, rfl, by
        have h := heap_new W2.drew (.cells #[.int .i64 xa, .int .i64 xb, .int .i64 xf, .int .i64 xs, .iface 206 (.pointer (some (p 5)))] 68)
        exact h⟩, (HB2.out.trans (drew_below W2 1)).alloc HB2.out.size _⟩
      go_wp2_with fail
      rw [← hW2]
      clear hW2
      refine wp_region_noPanic ?_
      refine wp_region_held_drew (S := (fun w9 => (((w9.cell? ⟨w1.heap.size, 0, none⟩ = some (.int .i64 xa) ∧ w9.cell? ⟨w1.heap.size, 1, none⟩ = some (.int .i64 xb)) ∧ w9.cell? ⟨w1.heap.size, 2, none⟩ = some (.int .i64 xf)) ∧ w9.cell? ⟨w1.heap.size, 3, none⟩ = some (.int .i64 xs)) ∧ w9.cell? ⟨1, 0, none⟩ = some (.iface 206 (.pointer (some (p 5)))))) (by kernel_rfl) ⟨⟨⟨⟨d0, d1⟩, d2⟩, d3⟩, c5⟩ (fun hHeld => ?_)
      refine wpAnyH_take (i := 0) (v := .agg #[.int .i64 xa, .int .i64 xb, .int .i64 xf, .int .i64 xs]) rfl (by kernel_rfl) (by kernel_rfl) (by kernel_rfl) (fun _ _ _ h => h) (Or.inl ⟨by rfl, fun w9 hSw => ?_⟩) hHeld ?_
      · obtain ⟨⟨⟨⟨s0, s1⟩, s2⟩, s3⟩, s4⟩ := hSw
        go_simp
      simp only [List.getElem_toArray, List.getElem_cons_zero, List.getElem_cons_succ, Act.put, List.setIfInBounds_toArray, List.set_cons_zero, List.set_cons_succ]
      refine wpAnyH_take (i := 1) (v := .iface 206 (.pointer (some (p 5)))) rfl (by kernel_rfl) (by kernel_rfl) (by kernel_rfl) (fun _ _ _ h => h) (Or.inl ⟨by rfl, fun w9 hSw => ?_⟩) hHeld ?_
      · obtain ⟨⟨⟨⟨s0, s1⟩, s2⟩, s3⟩, s4⟩ := hSw
        go_simp
      simp only [List.getElem_toArray, List.getElem_cons_zero, List.getElem_cons_succ, Act.put, List.setIfInBounds_toArray, List.set_cons_zero, List.set_cons_succ]
      refine wpAnyH_take (i := 2) (v := .agg #[.int .i64 xa, .int .i64 xb, .int .i64 xf, .int .i64 xs, .iface 206 (.pointer (some (p 5)))]) rfl (by kernel_rfl) (by kernel_rfl) (by kernel_rfl) (fun _ _ _ h => h) (Or.inl ⟨by rfl, fun w9 hSw => ?_⟩) hHeld ?_
      · obtain ⟨⟨⟨⟨s0, s1⟩, s2⟩, s3⟩, s4⟩ := hSw
        go_simp
      simp only [List.getElem_toArray, List.getElem_cons_zero, List.getElem_cons_succ, Act.put, List.setIfInBounds_toArray, List.set_cons_zero, List.set_cons_succ]
      refine wpAnyH_take (i := 5) (v := .slice none 0 0) rfl (by kernel_rfl) (by kernel_rfl) (by kernel_rfl) (fun _ _ _ h => h) (Or.inl ⟨by rfl, fun w9 hSw => ?_⟩) hHeld ?_
      · obtain ⟨⟨⟨⟨s0, s1⟩, s2⟩, s3⟩, s4⟩ := hSw
        go_simp
      simp only [List.getElem_toArray, List.getElem_cons_zero, List.getElem_cons_succ, Act.put, List.setIfInBounds_toArray, List.set_cons_zero, List.set_cons_succ]
      refine wpAnyH_take (i := 6) (v := .slice none 0 0) rfl (by kernel_rfl) (by kernel_rfl) (by kernel_rfl) (fun _ _ _ h => h) (Or.inl ⟨by rfl, fun w9 hSw => ?_⟩) hHeld ?_
      · obtain ⟨⟨⟨⟨s0, s1⟩, s2⟩, s3⟩, s4⟩ := hSw
        go_simp
      simp only [List.getElem_toArray, List.getElem_cons_zero, List.getElem_cons_succ, Act.put, List.setIfInBounds_toArray, List.set_cons_zero, List.set_cons_succ]
      refine wpAnyH_ready (rs := [3]) (by kernel_rfl) (by simp) ?_
      refine AllReadyH.cons rfl (fun K hK => ?_) AllReadyH.nil
      go_simp
      refine hK.out _ _ ⟨hlA.out, hlC.out⟩ (fun hHeld => ?_)
      clear hK K
      refine wpAnyH_take (i := 4) (v := .iface 66 (.pointer (some ⟨W2.heap.size, 0, none⟩))) rfl (by kernel_rfl) (by kernel_rfl) (by kernel_rfl) (fun _ _ _ h => h) (Or.inl ⟨by rfl, fun w9 hSw => ?_⟩) hHeld ?_
      · obtain ⟨⟨⟨⟨s0, s1⟩, s2⟩, s3⟩, s4⟩ := hSw
        go_simp
      simp only [List.getElem_toArray, List.getElem_cons_zero, List.getElem_cons_succ, Act.put, List.setIfInBounds_toArray, List.set_cons_zero, List.set_cons_succ]
      refine wpAnyH_take (i := 7) (v := .iface 66 (.pointer (some ⟨W2.heap.size, 0, none⟩))) rfl (by kernel_rfl) (by kernel_rfl) (by kernel_rfl) (fun _ _ _ h => h) (Or.inl ⟨by rfl, fun w9 hSw => ?_⟩) hHeld ?_
      · obtain ⟨⟨⟨⟨s0, s1⟩, s2⟩, s3⟩, s4⟩ := hSw
        go_simp
      simp only [List.getElem_toArray, List.getElem_cons_zero, List.getElem_cons_succ, Act.put, List.setIfInBounds_toArray, List.set_cons_zero, List.set_cons_succ]
      refine wpAnyH_done (by kernel_rfl) (NoPanic.normal ?_) _
      clear hHeld d0 d1 d2 d3 c5 hlA hlC
      go_wp2
      go_ret3
      exact ⟨_, rfl, .inr (.inl ⟨by simp, _, l, _, HC.out, rfl, hfin.out.1⟩), hfin.out.2⟩

end Go.Proofs.YtcoepmpgclndiaaGreatDoor.PrecFn
