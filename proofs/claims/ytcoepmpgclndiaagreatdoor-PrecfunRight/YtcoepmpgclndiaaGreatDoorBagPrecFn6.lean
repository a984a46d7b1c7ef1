/-
  Texts that stand together: PrecFn6, PrecMath2.
-/
import Derived.Test.YtcoepmpgclndiaaGreatDoorBPrecFn5
import Derived.OwnWalk
namespace Go.Proofs.YtcoepmpgclndiaaGreatDoor.PrecFn
open Go.RowKit Go.Sort Go.Proofs.YtcoepmpgclndiaaGreatDoor.GraphFn Go.Proofs.YtcoepmpgclndiaaGreatDoor.GraphSort Go.Proofs.YtcoepmpgclndiaaGreatDoor.GramMath Go.Proofs.YtcoepmpgclndiaaGreatDoor.GramRow Go.Proofs.YtcoepmpgclndiaaGreatDoor.GramApart Go.Proofs.YtcoepmpgclndiaaGreatDoor.GraphMath Go.Proofs.YtcoepmpgclndiaaGreatDoor.GraphNet Go.Proofs.YtcoepmpgclndiaaGreatDoor.OpRow Go.Proofs.YtcoepmpgclndiaaGreatDoor.GramErrs Go.Proofs.YtcoepmpgclndiaaGreatDoor.MatrixClash Go.Proofs.YtcoepmpgclndiaaGreatDoor.GraphLent Go.Proofs.YtcoepmpgclndiaaGreatDoor.GramLent
set_option linter.unusedVariables false
set_option linter.unusedSimpArgs false

theorem eqp_none (w : World) : (binOp .eql 22 (.pointer none) (.pointer none)).run Tryz.prog w = .ok (.bool true) w := by kernel_rfl
theorem eqp_some (a : Addr) (w : World) : (binOp .eql 22 (.pointer (some a)) (.pointer none)).run Tryz.prog w = .ok (.bool false) w := by kernel_rfl

/-- The error of a pair, in new memory. -/
def PairE (base : Nat) (p : Nat → Addr) (x : Pr) (w : World) (v : Value) : Prop := ∃ b, base ≤ b ∧ v = .iface 66 (.pointer (some ⟨b, 0, none⟩)) ∧ w.heap[b]? = some (.cells #[.int .i64 x.a, .int .i64 x.b, .int .i64 x.f, .int .i64 x.s, .iface 206 (.pointer (some (p 5)))] 68 (0, 0))
/-- What Graph answers. -/
def GrV (base : Nat) (p : Nat → Addr) (po : Option Addr) (t : Nat) (S : Nat → Nat → Int) (w : World) (v : Value) : Prop :=
  (po = none ∧ v = .tuple #[.slice none 0 0, .slice none 0 0, .iface 206 (.pointer (some (p 1)))]) ∨
  (po ≠ none ∧ ∃ x l ev, clL t S = x :: l ∧ v = .tuple #[.slice none 0 0, .slice none 0 0, ev] ∧ PairE base p x w ev) ∨
  (po ≠ none ∧ clL t S = [] ∧ ∃ g ev, v = .tuple #[.slice (some ⟨g, 0, none⟩) (2 * t) (2 * t), ev, .nilIface] ∧ base ≤ g ∧ RowAt w g 3 (intsA (ints (classL (rQ t S) t))) ∧ EOwn w base ev (edgeL (rY t S) (rQ t S) (rK t S) t))

set_option maxRecDepth 100000 in
set_option maxHeartbeats 8000000 in
theorem graph_any (po : Option Addr) (t : Nat) (S : Nat → Nat → Int) (p : Nat → Addr) (w : World) (hm : MatV w po t S) (ht : t ≤ 60) (h1 : Sent w 0 (p 1)) (h5 : Sent w 1 (p 5)) :
    Calls Tryz.prog 7 #[.pointer po] w fun e w' => ∃ v, e = .returned v ∧ GrV w.heap.size p po t S w' v ∧ Below w.heap.size w w' := by
  have q0 := eqp_none
  have q1 := eqp_some
  cases po with
  | none =>
    have c1 : w.cell? ⟨0, 0, none⟩ = some (.iface 206 (.pointer (some (p 1)))) := h1
    clear hm h5
    go_enter Tryz.func7, Tryz.ntmps7
    go_wp2
    go_quiet (fail)
    go_wp2
    go_ret3
    exact ⟨_, rfl, .inl ⟨rfl, rfl⟩, drew_below w _⟩
  | some pa =>
    have hcl := clashF_v (some pa) t S w ht hm
    have HM : Hid (MatV w (some pa) t S) := hm
    have H5 : Hid (Sent w 1 (p 5)) := h5
    clear hm h1 h5
    go_enter Tryz.func7, Tryz.ntmps7
    go_wp2_with fail
    refine hcl.mono ?_
    rintro e w1 ⟨rfl, hb1⟩
    have HB1 : Hid (Below w.heap.size w w1) := hb1
    clear hcl hb1
    cases hc : clL t S with
    | nil =>
      have hz : clashO [] = .tuple #[.agg #[.int .i64 0, .int .i64 0, .int .i64 0, .int .i64 0], .bool false] := rfl
      rw [hz]
      clear hz
      obtain ⟨W2, hW2⟩ : ∃ W2, W2 = w1.alloc (.cells #[.int .i64 0, .int .i64 0, .int .i64 0, .int .i64 0] 50) := ⟨_, rfl⟩
      have hB2 : Below w.heap.size w W2 := by rw [hW2]; exact HB1.out.alloc HB1.out.size _
      have hco := classesOf_any (some pa) t S W2 (HM.out.below hB2 (Nat.le_refl _)) ht
      have HC : Hid (clL t S = []) := hc
      have HB2 : Hid (Below w.heap.size w W2) := hB2
      have HW2 : Hid (W2 = w1.alloc (.cells #[.int .i64 0, .int .i64 0, .int .i64 0, .int .i64 0] 50)) := hW2
      rw [hW2] at hco
      clear hc hW2 hB2
      go_wp2_with fail
      refine hco.mono ?_
      rintro e w3 ⟨g, rfl, hg, hrow, hb3⟩
      rw [← HW2.out] at hg hb3
      have hB3 : Below w.heap.size w w3 := HB2.out.trans (hb3.mono HB2.out.size)
      have hed := edgesOf_any (some pa) t S (some ⟨g, 0, none⟩) (2 * t) w3 (HM.out.below hB3 (Nat.le_refl _)) ht (intsA_row hrow)
      have HG : Hid (w.heap.size ≤ g ∧ RowAt w3 g 3 (intsA (ints (classL (rQ t S) t))) ∧ Below w.heap.size w w3) := ⟨by have := HB2.out.size; omega, hrow, hB3⟩
      clear hco hg hrow hb3 hB3 HW2
      go_wp2_with fail
      refine hed.mono ?_
      rintro e w4 ⟨ev, rfl, hev, hb4⟩
      have hfin : Hid (RowAt w4 g 3 (intsA (ints (classL (rQ t S) t))) ∧ EOwn w4 w.heap.size ev (edgeL (rY t S) (rQ t S) (rK t S) t) ∧ Below w.heap.size w w4) := ⟨HG.out.2.1.below hb4 HG.out.2.1.lt, own_base hev HG.out.2.2.size, HG.out.2.2.trans (hb4.mono HG.out.2.2.size)⟩
      clear hed hev hb4
      go_wp2
      go_ret3
      exact ⟨_, rfl, .inr (.inr ⟨by simp, HC.out, g, ev, rfl, HG.out.1, hfin.out.1, hfin.out.2.1⟩), hfin.out.2.2⟩
    | cons x l =>
      obtain ⟨xa, xb, xf, xs⟩ := x
      have hz : clashO (⟨xa, xb, xf, xs⟩ :: l) = .tuple #[.agg #[.int .i64 xa, .int .i64 xb, .int .i64 xf, .int .i64 xs], .bool true] := rfl
      rw [hz]
      clear hz
      have HC : Hid (clL t S = ⟨xa, xb, xf, xs⟩ :: l) := hc
      have c5 : (w1.alloc (.cells #[.int .i64 xa, .int .i64 xb, .int .i64 xf, .int .i64 xs] 50)).cell? ⟨1, 0, none⟩ = some (.iface 206 (.pointer (some (p 5)))) := (H5.out.below HB1.out (Nat.le_refl _)).below ((Below.refl _ _).alloc (Nat.le_refl _) _) (Nat.le_refl _)
      have r5 : RowAt (w1.alloc (.cells #[.int .i64 xa, .int .i64 xb, .int .i64 xf, .int .i64 xs] 50)) w1.heap.size 50 #[.int .i64 xa, .int .i64 xb, .int .i64 xf, .int .i64 xs] := heap_new _ _
      have hB2 : Below w.heap.size w (w1.alloc (.cells #[.int .i64 xa, .int .i64 xb, .int .i64 xf, .int .i64 xs] 50)) := HB1.out.alloc HB1.out.size _
      have HB2 : Hid (Below w.heap.size w (w1.alloc (.cells #[.int .i64 xa, .int .i64 xb, .int .i64 xf, .int .i64 xs] 50))) := hB2
      have d0 := r5.cell (q := 0) (v := .int .i64 xa) rfl
      have d1 := r5.cell (q := 1) (v := .int .i64 xb) rfl
      have d2 := r5.cell (q := 2) (v := .int .i64 xf) rfl
      have d3 := r5.cell (q := 3) (v := .int .i64 xs) rfl
      clear hc hB2 r5
      obtain ⟨W2, hW2⟩ : ∃ W2, W2 = w1.alloc (.cells #[.int .i64 xa, .int .i64 xb, .int .i64 xf, .int .i64 xs] 50) := ⟨_, rfl⟩
      rw [← hW2] at c5 d0 d1 d2 d3 HB2
      have hlA : Hid (((((W2.drew.alloc (.cells #[.int .i64 xa, .int .i64 xb, .int .i64 xf, .int .i64 xs, .iface 206 (.pointer (some (p 5)))] 68)).cell? ⟨w1.heap.size, 0, none⟩ = some (.int .i64 xa)) ∧ (W2.drew.alloc (.cells #[.int .i64 xa, .int .i64 xb, .int .i64 xf, .int .i64 xs, .iface 206 (.pointer (some (p 5)))] 68)).cell? ⟨w1.heap.size, 1, none⟩ = some (.int .i64 xb)) ∧ (W2.drew.alloc (.cells #[.int .i64 xa, .int .i64 xb, .int .i64 xf, .int .i64 xs, .iface 206 (.pointer (some (p 5)))] 68)).cell? ⟨w1.heap.size, 2, none⟩ = some (.int .i64 xf)) ∧ (W2.drew.alloc (.cells #[.int .i64 xa, .int .i64 xb, .int .i64 xf, .int .i64 xs, .iface 206 (.pointer (some (p 5)))] 68)).cell? ⟨w1.heap.size, 3, none⟩ = some (.int .i64 xs)) := by
        have hb : Below W2.heap.size W2 (W2.drew.alloc (.cells #[.int .i64 xa, .int .i64 xb, .int .i64 xf, .int .i64 xs, .iface 206 (.pointer (some (p 5)))] 68)) := (drew_below W2 1).alloc (Nat.le_refl _) _
        exact ⟨⟨⟨(hb.cell (cell_lt d0)).trans d0, (hb.cell (cell_lt d1)).trans d1⟩, (hb.cell (cell_lt d2)).trans d2⟩, (hb.cell (cell_lt d3)).trans d3⟩
      have hlC : Hid ((W2.drew.alloc (.cells #[.int .i64 xa, .int .i64 xb, .int .i64 xf, .int .i64 xs, .iface 206 (.pointer (some (p 5)))] 68)).cell? ⟨1, 0, none⟩ = some (.iface 206 (.pointer (some (p 5))))) := by
        have hb : Below W2.heap.size W2 (W2.drew.alloc (.cells #[.int .i64 xa, .int .i64 xb, .int .i64 xf, .int .i64 xs, .iface 206 (.pointer (some (p 5)))] 68)) := (drew_below W2 1).alloc (Nat.le_refl _) _
        exact (hb.cell (cell_lt c5)).trans c5
      have hfin : Hid (PairE w.heap.size p ⟨xa, xb, xf, xs⟩ (W2.drew.alloc (.cells #[.int .i64 xa, .int .i64 xb, .int .i64 xf, .int .i64 xs, .iface 206 (.pointer (some (p 5)))] 68)) (.iface 66 (.pointer (some ⟨W2.heap.size, 0, none⟩))) ∧ Below w.heap.size w (W2.drew.alloc (.cells #[.int .i64 xa, .int .i64 xb, .int .i64 xf, .int .i64 xs, .iface 206 (.pointer (some (p 5)))] 68))) := ⟨⟨W2.heap.size, HB2.out.size, rfl, by
        have h := heap_new W2.drew (.cells #[.int .i64 xa, .int .i64 xb, .int .i64 xf, .int .i64 xs, .iface 206 (.pointer (some (p 5)))] 68)
        exact h⟩, (HB2.out.trans (drew_below W2 1)).alloc HB2.out.size _⟩
      go_wp2_with fail
      rw [← hW2]
      clear hW2
      refine wp_region_noPanic ?_
      refine wp_region_held_drew (S := (fun w9 => (((w9.cell? ⟨w1.heap.size, 0, none⟩ = some (.int .i64 xa) ∧ w9.cell? ⟨w1.heap.size, 1, none⟩ = some (.int .i64 xb)) ∧ w9.cell? ⟨w1.heap.size, 2, none⟩ = some (.int .i64 xf)) ∧ w9.cell? ⟨w1.heap.size, 3, none⟩ = some (.int .i64 xs)) ∧ w9.cell? ⟨1, 0, none⟩ = some (.iface 206 (.pointer (some (p 5)))))) (by kernel_rfl) ⟨⟨⟨⟨d0, d1⟩, d2⟩, d3⟩, c5⟩ (fun hHeld => ?_)
      refine wpAnyH_take (i := 0) (v := .agg #[.int .i64 xa, .int .i64 xb, .int .i64 xf, .int .i64 xs]) rfl (by kernel_rfl) (by kernel_rfl) (by kernel_rfl) (fun _ _ _ h => h) (Or.inl ⟨by rfl, fun w9 hSw => ?_⟩) hHeld ?_
      · obtain ⟨⟨⟨⟨s0, s1⟩, s2⟩, s3⟩, s4⟩ := hSw
        go_simp
      simp only [List.getElem_toArray, List.getElem_cons_zero, List.getElem_cons_succ, Act.put, List.setIfInBounds_toArray, List.set_cons_zero, List.set_cons_succ]
      refine wpAnyH_take (i := 1) (v := .iface 206 (.pointer (some (p 5)))) rfl (by kernel_rfl) (by kernel_rfl) (by kernel_rfl) (fun _ _ _ h => h) (Or.inl ⟨by rfl, fun w9 hSw => ?_⟩) hHeld ?_
      · obtain ⟨⟨⟨⟨s0, s1⟩, s2⟩, s3⟩, s4⟩ := hSw
        go_simp
      simp only [List.getElem_toArray, List.getElem_cons_zero, List.getElem_cons_succ, Act.put, List.setIfInBounds_toArray, List.set_cons_zero, List.set_cons_succ]
      refine wpAnyH_take (i := 2) (v := .agg #[.int .i64 xa, .int .i64 xb, .int .i64 xf, .int .i64 xs, .iface 206 (.pointer (some (p 5)))]) rfl (by kernel_rfl) (by kernel_rfl) (by kernel_rfl) (fun _ _ _ h => h) (Or.inl ⟨by rfl, fun w9 hSw => ?_⟩) hHeld ?_
      · obtain ⟨⟨⟨⟨s0, s1⟩, s2⟩, s3⟩, s4⟩ := hSw
        go_simp
      simp only [List.getElem_toArray, List.getElem_cons_zero, List.getElem_cons_succ, Act.put, List.setIfInBounds_toArray, List.set_cons_zero, List.set_cons_succ]
      refine wpAnyH_take (i := 5) (v := .slice none 0 0) rfl (by kernel_rfl) (by kernel_rfl) (by kernel_rfl) (fun _ _ _ h => h) (Or.inl ⟨by rfl, fun w9 hSw => ?_⟩) hHeld ?_
      · obtain ⟨⟨⟨⟨s0, s1⟩, s2⟩, s3⟩, s4⟩ := hSw
        go_simp
      simp only [List.getElem_toArray, List.getElem_cons_zero, List.getElem_cons_succ, Act.put, List.setIfInBounds_toArray, List.set_cons_zero, List.set_cons_succ]
      refine wpAnyH_take (i := 6) (v := .slice none 0 0) rfl (by kernel_rfl) (by kernel_rfl) (by kernel_rfl) (fun _ _ _ h => h) (Or.inl ⟨by rfl, fun w9 hSw => ?_⟩) hHeld ?_
      · obtain ⟨⟨⟨⟨s0, s1⟩, s2⟩, s3⟩, s4⟩ := hSw
        go_simp
      simp only [List.getElem_toArray, List.getElem_cons_zero, List.getElem_cons_succ, Act.put, List.setIfInBounds_toArray, List.set_cons_zero, List.set_cons_succ]
      refine wpAnyH_ready (rs := [3]) (by kernel_rfl) (by simp) ?_
      refine AllReadyH.cons rfl (fun K hK => ?_) AllReadyH.nil
      go_simp
      refine hK.out _ _ ⟨hlA.out, hlC.out⟩ (fun hHeld => ?_)
      clear hK K
      refine wpAnyH_take (i := 4) (v := .iface 66 (.pointer (some ⟨W2.heap.size, 0, none⟩))) rfl (by kernel_rfl) (by kernel_rfl) (by kernel_rfl) (fun _ _ _ h => h) (Or.inl ⟨by rfl, fun w9 hSw => ?_⟩) hHeld ?_
      · obtain ⟨⟨⟨⟨s0, s1⟩, s2⟩, s3⟩, s4⟩ := hSw
        go_simp
      simp only [List.getElem_toArray, List.getElem_cons_zero, List.getElem_cons_succ, Act.put, List.setIfInBounds_toArray, List.set_cons_zero, List.set_cons_succ]
      refine wpAnyH_take (i := 7) (v := .iface 66 (.pointer (some ⟨W2.heap.size, 0, none⟩))) rfl (by kernel_rfl) (by kernel_rfl) (by kernel_rfl) (fun _ _ _ h => h) (Or.inl ⟨by rfl, fun w9 hSw => ?_⟩) hHeld ?_
      · obtain ⟨⟨⟨⟨s0, s1⟩, s2⟩, s3⟩, s4⟩ := hSw
        go_simp
      simp only [List.getElem_toArray, List.getElem_cons_zero, List.getElem_cons_succ, Act.put, List.setIfInBounds_toArray, List.set_cons_zero, List.set_cons_succ]
      refine wpAnyH_done (by kernel_rfl) (NoPanic.normal ?_) _
      clear hHeld d0 d1 d2 d3 c5 hlA hlC
      go_wp2
      go_ret3
      exact ⟨_, rfl, .inr (.inl ⟨by simp, _, l, _, HC.out, rfl, hfin.out.1⟩), hfin.out.2⟩

end Go.Proofs.YtcoepmpgclndiaaGreatDoor.PrecFn

namespace Go.Proofs.YtcoepmpgclndiaaGreatDoor.PrecFn
open Go.RowKit Go.Proofs.YtcoepmpgclndiaaGreatDoor.GraphMath Go.Proofs.YtcoepmpgclndiaaGreatDoor.GraphNet Go.Proofs.YtcoepmpgclndiaaGreatDoor.MatrixClash
set_option linter.unusedVariables false

/-- Relations hold of terminals alone. -/
def Tame (t : Nat) (S : Nat → Nat → Int) : Prop := ∀ (a b x : Int), 1 ≤ x → x ≤ 3 → MatrixPut.holdsB (t : Int) S a b x = true → 0 ≤ b ∧ b < (t : Int)
theorem holds_low {t : Nat} {S : Nat → Nat → Int} {a b x : Int} (h : MatrixPut.holdsB (t : Int) S a b x = true) : 0 ≤ a ∧ a < (t : Int) := by
  unfold MatrixPut.holdsB at h
  simp only [Bool.and_eq_true, decide_eq_true_eq] at h
  exact ⟨h.1.1.1.1, h.1.1.1.2⟩

theorem clash_none {t : Nat} {S : Nat → Nat → Int} (h : clL t S = []) {a b : Nat} (ha : a < t) (hb : b < t) : ∀ r, r < 3 → ¬ (MatrixPut.holdsB (t : Int) S (a : Int) (b : Int) (unl1 r) = true ∧ MatrixPut.holdsB (t : Int) S (a : Int) (b : Int) (unl2 r) = true) := fun r hr hc => by
  unfold clL clTo at h
  rw [List.filterMap_eq_nil_iff] at h
  have hq : 3 * (a * t + b) + r < 3 * (t * t) := by
    have h1 : (a + 1) * t ≤ t * t := Nat.mul_le_mul_right t ha
    rw [Nat.add_mul, Nat.one_mul] at h1
    omega
  have h2 := h (3 * (a * t + b) + r) (List.mem_range.2 hq)
  unfold hitP at h2
  have e1 : (3 * (a * t + b) + r) / 3 = a * t + b := by omega
  have e2 : (3 * (a * t + b) + r) % 3 = r := by omega
  have e3 : (a * t + b) / t = a := by rw [Nat.add_comm, Nat.add_mul_div_right _ _ (by omega), Nat.div_eq_of_lt hb, Nat.zero_add]
  have e4 : (a * t + b) % t = b := by rw [Nat.add_comm, Nat.add_mul_mod_self_right, Nat.mod_eq_of_lt hb]
  rw [e1, e2, e3, e4, hc.1, hc.2] at h2
  simp at h2
theorem one_yk {t : Nat} {S : Nat → Nat → Int} (h : clL t S = []) {a b : Nat} (ha : a < t) (hb : b < t) (h1 : rY t S (a : Int) (b : Int) = true) (h3 : rK t S (a : Int) (b : Int) = true) : False := clash_none h ha hb 1 (by omega) ⟨h1, h3⟩
theorem one_yq {t : Nat} {S : Nat → Nat → Int} (h : clL t S = []) {a b : Nat} (ha : a < t) (hb : b < t) (h1 : rY t S (a : Int) (b : Int) = true) (h3 : rQ t S (a : Int) (b : Int) = true) : False := clash_none h ha hb 0 (by omega) ⟨h1, h3⟩
theorem one_qk {t : Nat} {S : Nat → Nat → Int} (h : clL t S = []) {a b : Nat} (ha : a < t) (hb : b < t) (h1 : rQ t S (a : Int) (b : Int) = true) (h3 : rK t S (a : Int) (b : Int) = true) : False := clash_none h ha hb 2 (by omega) ⟨h1, h3⟩
theorem clash_some {t : Nat} {S : Nat → Nat → Int} {x : Pr} {l : List Pr} (h : clL t S = x :: l) : ∃ (a b r : Nat), a < t ∧ b < t ∧ r < 3 ∧ MatrixPut.holdsB (t : Int) S (a : Int) (b : Int) (unl1 r) = true ∧ MatrixPut.holdsB (t : Int) S (a : Int) (b : Int) (unl2 r) = true := by
  have hx : x ∈ clL t S := by rw [h]; exact List.mem_cons_self
  unfold clL clTo at hx
  obtain ⟨q, hq, he⟩ := List.mem_filterMap.1 hx
  have hq2 := List.mem_range.1 hq
  have ht : 0 < t := by
    rcases Nat.eq_zero_or_pos t with e | e
    · subst e; omega
    · exact e
  unfold hitP at he
  split at he
  · next hc =>
    rw [Bool.and_eq_true] at hc
    refine ⟨q / 3 / t, q / 3 % t, q % 3, ?_, Nat.mod_lt _ ht, by omega, hc.1, hc.2⟩
    rw [Nat.div_lt_iff_lt_mul ht]
    omega
  · cases he

/-- An edge, by what makes it. -/
theorem edge_why {t : Nat} {S : Nat → Nat → Int} (hT : Tame t S) {cl : List Nat} {i j : Nat} (h : edgeB (rY t S) (rK t S) t cl i j = true) : ∃ a b : Nat, a < t ∧ b < t ∧ ((rK t S (a : Int) (b : Int) = true ∧ cl.getD a 0 = i ∧ cl.getD (t + b) 0 = j) ∨ (rY t S (a : Int) (b : Int) = true ∧ cl.getD (t + b) 0 = i ∧ cl.getD a 0 = j)) := by
  unfold edgeB at h
  obtain ⟨x, hx, h2⟩ := List.any_eq_true.1 h
  obtain ⟨z, hz, h3⟩ := List.any_eq_true.1 h2
  obtain ⟨x1, x2⟩ := mem_nodesK.1 hx
  obtain ⟨z1, z2⟩ := mem_nodesK.1 hz
  unfold aboveB at h3
  rcases Bool.or_eq_true_iff.1 h3 with h4 | h4
  · have a1 := holds_low h4
    have a2 := hT _ _ _ (by omega) (by omega) h4
    refine ⟨x, z - t, by omega, by omega, .inl ⟨?_, x2, by rw [show t + (z - t) = z by omega]; exact z2⟩⟩
    rw [show ((z - t : Nat) : Int) = (z : Int) - (t : Int) by omega]
    exact h4
  · have a1 := holds_low h4
    have a2 := hT _ _ _ (by omega) (by omega) h4
    refine ⟨z, x - t, by omega, by omega, .inr ⟨?_, by rw [show t + (x - t) = x by omega]; exact x2, z2⟩⟩
    rw [show ((x - t : Nat) : Int) = (x : Int) - (t : Int) by omega]
    exact h4
theorem edge_takes {t : Nat} {S : Nat → Nat → Int} {cl : List Nat} {a b : Nat} (ha : a < t) (hb : b < t) (h : rK t S (a : Int) (b : Int) = true) : edgeB (rY t S) (rK t S) t cl (cl.getD a 0) (cl.getD (t + b) 0) = true := by
  unfold edgeB
  refine List.any_eq_true.2 ⟨a, mem_nodesK.2 ⟨by omega, rfl⟩, List.any_eq_true.2 ⟨t + b, mem_nodesK.2 ⟨by omega, rfl⟩, ?_⟩⟩
  unfold aboveB
  rw [show ((t + b : Nat) : Int) - (t : Int) = (b : Int) by omega, h]
  rfl
theorem edge_yields {t : Nat} {S : Nat → Nat → Int} {cl : List Nat} {a b : Nat} (ha : a < t) (hb : b < t) (h : rY t S (a : Int) (b : Int) = true) : edgeB (rY t S) (rK t S) t cl (cl.getD (t + b) 0) (cl.getD a 0) = true := by
  unfold edgeB
  refine List.any_eq_true.2 ⟨t + b, mem_nodesK.2 ⟨by omega, rfl⟩, List.any_eq_true.2 ⟨a, mem_nodesK.2 ⟨by omega, rfl⟩, ?_⟩⟩
  unfold aboveB
  rw [show ((t + b : Nat) : Int) - (t : Int) = (b : Int) by omega, h, Bool.or_true]

theorem edgeR_nodup (B : Nat → Nat → Bool) (i n : Nat) : (edgeR B i n).Nodup := by
  unfold edgeR List.Nodup
  rw [List.pairwise_map]
  have h : ((List.range n).filter (B i)).Pairwise (· < ·) := List.Pairwise.filter _ List.pairwise_lt_range
  exact h.imp (fun {a b} hab e => by
    have e2 : (a : Int) = (b : Int) := congrArg Prod.snd e
    omega)
theorem edgeA_nodup (B : Nat → Nat → Bool) (c : Nat) : ∀ n, (edgeA B c n).Nodup
  | 0 => by simp [edgeA]
  | n + 1 => by
    rw [edgeA_succ, List.nodup_append]
    refine ⟨edgeA_nodup B c n, edgeR_nodup B n c, fun a ha b hb e => ?_⟩
    obtain ⟨i, j, h1, _, _, h2⟩ := mem_edgeA.1 ha
    obtain ⟨j', _, _, h4⟩ := mem_edgeR.1 hb
    rw [h2, h4] at e
    have e2 : (i : Int) = (n : Int) := congrArg Prod.fst e
    omega
theorem edgeL_few {t : Nat} {S : Nat → Nat → Int} (hT : Tame t S) (h : clL t S = []) : (edgeL (rY t S) (rQ t S) (rK t S) t).length ≤ t * t := by
  have hsub : edgeL (rY t S) (rQ t S) (rK t S) t ⊆ ((List.range t).flatMap (fun (a : Nat) => (List.range t).map (fun (b : Nat) => if rK t S (a : Int) (b : Int) = true then ((((classL (rQ t S) t).getD a 0 : Nat) : Int), (((classL (rQ t S) t).getD (t + b) 0 : Nat) : Int)) else ((((classL (rQ t S) t).getD (t + b) 0 : Nat) : Int), (((classL (rQ t S) t).getD a 0 : Nat) : Int))))) := fun e he => by
    obtain ⟨i, j, _, _, hB, rfl⟩ := mem_edgeA.1 he
    obtain ⟨a, b, ha, hb, hw⟩ := edge_why hT hB
    refine List.mem_flatMap.2 ⟨a, List.mem_range.2 ha, List.mem_map.2 ⟨b, List.mem_range.2 hb, ?_⟩⟩
    rcases hw with ⟨w1, w2, w3⟩ | ⟨w1, w2, w3⟩
    · rw [if_pos w1, w2, w3]
    · rw [if_neg (fun hk => one_yk h ha hb w1 hk), w2, w3]
  have hl := List.Nodup.length_le_of_subset (edgeA_nodup _ _ _) hsub
  have hlen : ∀ (n : Nat) (f : Nat → Nat → Int × Int), ((List.range n).flatMap (fun a => (List.range t).map (fun b => f a b))).length = n * t := by
    intro n f
    induction n with
    | zero => simp
    | succ n ih => rw [List.range_succ, List.flatMap_append, List.length_append, ih]; simp [Nat.add_mul]
  rw [hlen] at hl
  exact hl
theorem edgeL_may {t : Nat} {S : Nat → Nat → Int} (ht : t ≤ 60) (hT : Tame t S) (h : clL t S = []) : mayE ((2 * t : Nat) : Int) (edgeL (rY t S) (rQ t S) (rK t S) t) = 0 := by
  have h1 := edgeL_few hT h
  have h2 : t * t ≤ 60 * 60 := Nat.mul_le_mul ht ht
  unfold mayE
  rw [if_neg (by omega), if_neg (by omega), if_pos]
  rw [List.all_eq_true]
  intro e he
  obtain ⟨i, j, hi, hj, _, rfl⟩ := mem_edgeA.1 he
  have h3 := cntC_le (rQ t S) t
  rw [GraphFn.hasB_iff]
  intro x hx
  rw [Int.toNat_natCast]
  simp at hx
  rcases hx with rfl | rfl <;> omega
theorem edgeL_i64 {t : Nat} {y q k : Int → Int → Bool} (ht : t ≤ 60) : ∀ e ∈ edgeL y q k t, GramMath.I64 e.1 ∧ GramMath.I64 e.2 := fun e he => by
  obtain ⟨i, j, hi, hj, _, rfl⟩ := mem_edgeA.1 he
  have h3 := cntC_le q t
  unfold GramMath.I64
  dsimp only
  omega

end Go.Proofs.YtcoepmpgclndiaaGreatDoor.PrecFn
