/-
  The walk of EndsKnown: the chapter's examples.
-/
import Derived.Test.YtmepnjnpfmgokaaDoorEndsAwake
import Derived.Test.YtmepnjnpfmgokaaDoorGramRuleOf
import Derived.Test.YtmepnjnpfmgokaaDoorUsefulOpen
namespace Go.Proofs.YtmepnjnpfmgokaaDoor.EndsKnownW
open Go.RowKit Go.Proofs.YtmepnjnpfmgokaaDoor.GramMath Go.Proofs.YtmepnjnpfmgokaaDoor.GramRow Go.Proofs.YtmepnjnpfmgokaaDoor.GramCheck Go.Proofs.YtmepnjnpfmgokaaDoor.GramErrs Go.Proofs.YtmepnjnpfmgokaaDoor.GramAwake Go.Proofs.YtmepnjnpfmgokaaDoor.GramSame Go.Proofs.YtmepnjnpfmgokaaDoor.EndsMath Go.Proofs.YtmepnjnpfmgokaaDoor.EndsFn Go.Proofs.YtmepnjnpfmgokaaDoor.EndsSearch Go.Proofs.YtmepnjnpfmgokaaDoor.EndsChain Go.Proofs.YtmepnjnpfmgokaaDoor.EndsAwake Go.Proofs.YtmepnjnpfmgokaaDoor.EndsConcat
set_option linter.unusedVariables false

/-- The search, by so many rings. -/
def srch (b : Bool) (t : Nat) (rs : List R) : Nat → List Wy → (Nat → Bool) → Option (Option (List Int))
  | 0, _, _ => none
  | _ + 1, [], _ => some none
  | k + 1, y :: ys, S => match hitW b t rs (y :: ys) with
    | some c => some (some c)
    | none => srch b t rs k (goW b rs (y :: ys) ⟨[], S⟩).nx (goW b rs (y :: ys) ⟨[], S⟩).S

theorem srch_search {b : Bool} {t : Nat} {rs : List R} : ∀ {k : Nat} {ring : List Wy} {S : Nat → Bool} {o : Option (List Int)}, srch b t rs k ring S = some o → Search b t rs ring S o
  | 0, _, _, _, h => by cases h
  | k + 1, [], S, o, h => by
    have : o = none := by simpa [srch] using h.symm
    subst this
    exact .none S
  | k + 1, y :: ys, S, o, h => by
    unfold srch at h
    cases hh : hitW b t rs (y :: ys) with
    | some c =>
      rw [hh] at h
      cases h
      exact .hit hh
    | none =>
      rw [hh] at h
      exact .step (by simp) hh (srch_search h)

theorem f1 : FoundE false gG.rs 0 0 (some [0]) := srch_search (k := 5) (by kernel_rfl)
theorem f2 : FoundE false gG.rs 0 4 (some [1, 3, 5]) := srch_search (k := 5) (by kernel_rfl)
theorem f3 : FoundE false gG.rs 2 2 (some [4]) := srch_search (k := 5) (by kernel_rfl)
theorem f4 : FoundE true gG.rs 0 3 (some [0, 2, 4]) := srch_search (k := 5) (by kernel_rfl)
theorem f5 : FoundE true gG.rs 0 2 none := srch_search (k := 5) (by kernel_rfl)

theorem r5 : ChainR gG 0 2 true (15, none) none := .inr (.inr ⟨by rw [g_check], ⟨by decide, by decide, by decide, by decide⟩, f5, rfl⟩)
theorem r6 : ChainR gG 0 5 false (1, none) none := .inr (.inl ⟨by rw [g_check], fun h => absurd h.2.2.2 (by decide), rfl, rfl⟩)
theorem r7 : ChainR gG 3 0 false (1, none) none := .inr (.inl ⟨by rw [g_check], fun h => absurd h.2.1 (by decide), rfl, rfl⟩)
theorem r8 : ChainR gG (-1) 0 false (1, none) none := .inr (.inl ⟨by rw [g_check], fun h => absurd h.1 (by decide), rfl, rfl⟩)

def g0 : G := ⟨[], [], 0, []⟩
theorem g0_check : checkG g0 = (1, none) := by kernel_rfl
theorem g0_ok : okG g0 := ⟨by decide, by decide, by decide, ⟨by decide, by decide⟩, (fun _ h => by cases h), (fun _ h => by cases h), fun _ h => by cases h⟩
theorem g0_row (w : World) : GRow w none none none g0 := ⟨fun i x hx => (by simp [g0] at hx), fun i x hx => (by simp [g0] at hx), fun i x hx => by simp [g0] at hx⟩

theorem chv_some {base : Nat} {w : World} {v : Value} {c : List Int} (h : ChV base w v (some c)) : ∃ g cap, v = .slice (some ⟨g, 0, none⟩) c.length cap ∧ IRow w (some ⟨g, 0, none⟩) c := by
  obtain ⟨g, cap, h1, h2⟩ := h
  exact ⟨g, cap, h1, GramLent.lent_rowI h2 rfl⟩

theorem eqI_self (l : List Int) : eqI l l = true := by unfold eqI; simp

set_option maxRecDepth 100000 in
set_option maxHeartbeats 2000000 in
theorem chain_any (n t : Int) (b : Bool) (want : List Int) (a : Option Addr) (c : Nat) (p : Nat → Addr) (w : World) (hE : Errs w p) (hI : IRow w a want) (hw : want.length ≤ 1000) (hin : InG gG n t) (hF : FoundE b gG.rs n.toNat t.toNat (some want)) :
    Calls Tryd.prog 21 #[.int .i64 n, .int .i64 t, .bool b, .slice a want.length c] w fun e w' => e = .returned (.bool true) ∧ Below w.heap.size w w' := by
  have heq0 : ∀ W : World, (binOp .eql 31 .nilIface .nilIface).run Tryd.prog W = .ok (.bool true) W := fun W => by kernel_rfl
  go_enter Tryd.func21, Tryd.ntmps21
  go_wp2_with fail
  refine (given_any w).mono ?_
  rintro e w1 ⟨⟨ta, na, ra, rfl, hG⟩, hb1⟩
  have hch := Chain_top ta na ra 5 3 6 gG n t b p w1 hG g_ok (by decide) (by decide) (hE.below hb1 (Nat.le_refl _))
  go_wp2_with fail
  refine hch.mono ?_
  rintro e w2 ⟨⟨v, x, z, o, rfl, hv, hx, hR⟩, hb2⟩
  have hB2 := hb1.trans (hb2.mono hb1.size)
  obtain ⟨rfl, rfl⟩ := hR.det (.inr (.inr ⟨by rw [g_check], hin, hF, rfl⟩))
  obtain rfl : x = .nilIface := hx
  obtain ⟨g, cap, rfl, hrow⟩ := chv_some hv
  have hq := ints_any (some ⟨g, 0, none⟩) a cap c want want w2 hrow (hI.below hB2 (Nat.le_refl _)) (by omega) (by omega)
  rw [eqI_self] at hq
  clear hv hR hrow hch hG
  go_wp2_with fail
  refine hq.mono ?_
  rintro e w3 ⟨rfl, q, rfl⟩
  go_wp2
  go_ret
  exact ⟨rfl, bdrew hB2 _⟩

theorem irow_one {w : World} {b : Nat} {x : Int} (h0 : w.cell? ⟨b, 0, none⟩ = some (.int .i64 x)) : IRow w (some ⟨b, 0, none⟩) [x] := one_int h0

set_option maxRecDepth 100000 in
set_option maxHeartbeats 8000000 in
theorem walk (p : Nat → Addr) (w : World) (hE : Errs w p) : Calls Tryd.prog 5 #[] w fun e w' => e = .returned (.bool true) ∧ Below w.heap.size w w' := by
  go_enter Tryd.func5, Tryd.ntmps5
  go_wp2_with fail
  refine (awake_any p w hE.sents).mono ?_
  rintro e w1 ⟨rfl, hB1⟩
  have hA1 : Below w1.heap.size w1 (w1.alloc (.cells #[.int .i64 0] 3)) := (Below.refl _ _).alloc (Nat.le_refl _) _
  have hC1 := hB1.trans (hA1.mono hB1.size)
  have hq := chain_any 0 0 false [0] (some ⟨w1.heap.size, 0, none⟩) 1 p _ (hE.below hC1 (Nat.le_refl _)) (one_int (by simp [go_sem])) (by decide) ⟨by decide, by decide, by decide, by decide⟩ f1
  go_wp2_with fail
  refine hq.mono ?_
  rintro e w2 ⟨rfl, hb⟩
  have hB2 := hC1.trans (hb.mono hC1.size)
  clear hq hb hA1 hC1 hB1
  have hA2 : Below w2.heap.size w2 (w2.alloc (.cells #[.int .i64 1, .int .i64 3, .int .i64 5] 3)) := (Below.refl _ _).alloc (Nat.le_refl _) _
  have hC2 := hB2.trans (hA2.mono hB2.size)
  have hq := chain_any 0 4 false [1, 3, 5] (some ⟨w2.heap.size, 0, none⟩) 3 p _ (hE.below hC2 (Nat.le_refl _)) (three_int (by simp [go_sem]) (by simp [go_sem]) (by simp [go_sem])) (by decide) ⟨by decide, by decide, by decide, by decide⟩ f2
  go_wp2_with fail
  refine hq.mono ?_
  rintro e w3 ⟨rfl, hb⟩
  have hB3 := hC2.trans (hb.mono hC2.size)
  clear hq hb hA2 hC2 hB2
  have hA3 : Below w3.heap.size w3 (w3.alloc (.cells #[.int .i64 4] 3)) := (Below.refl _ _).alloc (Nat.le_refl _) _
  have hC3 := hB3.trans (hA3.mono hB3.size)
  have hq := chain_any 2 2 false [4] (some ⟨w3.heap.size, 0, none⟩) 1 p _ (hE.below hC3 (Nat.le_refl _)) (one_int (by simp [go_sem])) (by decide) ⟨by decide, by decide, by decide, by decide⟩ f3
  go_wp2_with fail
  refine hq.mono ?_
  rintro e w4 ⟨rfl, hb⟩
  have hB4 := hC3.trans (hb.mono hC3.size)
  clear hq hb hA3 hC3 hB3
  have hA4 : Below w4.heap.size w4 (w4.alloc (.cells #[.int .i64 0, .int .i64 2, .int .i64 4] 3)) := (Below.refl _ _).alloc (Nat.le_refl _) _
  have hC4 := hB4.trans (hA4.mono hB4.size)
  have hq := chain_any 0 3 true [0, 2, 4] (some ⟨w4.heap.size, 0, none⟩) 3 p _ (hE.below hC4 (Nat.le_refl _)) (three_int (by simp [go_sem]) (by simp [go_sem]) (by simp [go_sem])) (by decide) ⟨by decide, by decide, by decide, by decide⟩ f4
  go_wp2_with fail
  refine hq.mono ?_
  rintro e w5 ⟨rfl, hb⟩
  have hB5 := hC4.trans (hb.mono hC4.size)
  clear hq hb hA4 hC4 hB4
  go_wp2_with fail
  refine (given_any w5).mono ?_
  rintro e w6 ⟨⟨ta, na, ra, rfl, hG⟩, hb⟩
  have hB6 := hB5.trans (hb.mono hB5.size)
  have hch := Chain_top ta na ra 5 3 6 gG 0 2 true p w6 hG g_ok (by decide) (by decide) (hE.below hB6 (Nat.le_refl _))
  clear hb hB5
  go_wp2_with fail
  refine hch.mono ?_
  rintro e w7 ⟨⟨v0, x0, z, o, rfl, hv, hx0, hR⟩, hb⟩
  have hB7 := hB6.trans (hb.mono hB6.size)
  obtain ⟨rfl, rfl⟩ := hR.det r5
  clear hb hB6 hch hG hv hR
  go_wp2_with fail
  refine (given_any w7).mono ?_
  rintro e w8 ⟨⟨ta, na, ra, rfl, hG⟩, hb⟩
  have hB8 := hB7.trans (hb.mono hB7.size)
  have hch := Chain_top ta na ra 5 3 6 gG 0 5 false p w8 hG g_ok (by decide) (by decide) (hE.below hB8 (Nat.le_refl _))
  replace hx0 := hx0.below hb (Nat.le_refl _)
  clear hb hB7
  go_wp2_with fail
  refine hch.mono ?_
  rintro e w9 ⟨⟨v1, x1, z, o, rfl, hv, hx1, hR⟩, hb⟩
  have hB9 := hB8.trans (hb.mono hB8.size)
  obtain ⟨rfl, rfl⟩ := hR.det r6
  replace hx0 := hx0.below hb (Nat.le_refl _)
  clear hb hB8 hch hG hv hR
  go_wp2_with fail
  refine (given_any w9).mono ?_
  rintro e w10 ⟨⟨ta, na, ra, rfl, hG⟩, hb⟩
  have hB10 := hB9.trans (hb.mono hB9.size)
  have hch := Chain_top ta na ra 5 3 6 gG 3 0 false p w10 hG g_ok (by decide) (by decide) (hE.below hB10 (Nat.le_refl _))
  replace hx0 := hx0.below hb (Nat.le_refl _)
  replace hx1 := hx1.below hb (Nat.le_refl _)
  clear hb hB9
  go_wp2_with fail
  refine hch.mono ?_
  rintro e w11 ⟨⟨v2, x2, z, o, rfl, hv, hx2, hR⟩, hb⟩
  have hB11 := hB10.trans (hb.mono hB10.size)
  obtain ⟨rfl, rfl⟩ := hR.det r7
  replace hx0 := hx0.below hb (Nat.le_refl _)
  replace hx1 := hx1.below hb (Nat.le_refl _)
  clear hb hB10 hch hG hv hR
  go_wp2_with fail
  refine (given_any w11).mono ?_
  rintro e w12 ⟨⟨ta, na, ra, rfl, hG⟩, hb⟩
  have hB12 := hB11.trans (hb.mono hB11.size)
  have hch := Chain_top ta na ra 5 3 6 gG (-1) 0 false p w12 hG g_ok (by decide) (by decide) (hE.below hB12 (Nat.le_refl _))
  replace hx0 := hx0.below hb (Nat.le_refl _)
  replace hx1 := hx1.below hb (Nat.le_refl _)
  replace hx2 := hx2.below hb (Nat.le_refl _)
  clear hb hB11
  go_wp2_with fail
  refine hch.mono ?_
  rintro e w13 ⟨⟨v3, x3, z, o, rfl, hv, hx3, hR⟩, hb⟩
  have hB13 := hB12.trans (hb.mono hB12.size)
  obtain ⟨rfl, rfl⟩ := hR.det r8
  replace hx0 := hx0.below hb (Nat.le_refl _)
  replace hx1 := hx1.below hb (Nat.le_refl _)
  replace hx2 := hx2.below hb (Nat.le_refl _)
  clear hb hB12 hch hG hv hR
  have hof := Of_top none none none 0 0 0 g0 p w13 (g0_row _) g0_ok (by decide) (by decide) (hE.below hB13 (Nat.le_refl _)).sents
  go_wp2_with fail
  refine hof.mono ?_
  rintro e w14 ⟨⟨u, v, x4, rfl, hO, hx4⟩, hb⟩
  rw [g0_check] at hx4
  have hB14 := hB13.trans (hb.mono hB13.size)
  replace hx0 := hx0.below hb (Nat.le_refl _)
  replace hx1 := hx1.below hb (Nat.le_refl _)
  replace hx2 := hx2.below hb (Nat.le_refl _)
  replace hx3 := hx3.below hb (Nat.le_refl _)
  rcases hO with ⟨hno, _⟩ | ⟨_, rfl, rfl⟩
  · rw [g0_check] at hno
    cases hno
  clear hb hof
  have hAe : Below w14.heap.size w14 (w14.alloc (.cells #[.slice none 0 0, .slice none 0 0] 29)) := (Below.refl _ _).alloc (Nat.le_refl _) _
  have hB := hB14.trans (hAe.mono hB14.size)
  replace hx4 := hx4.below hAe (Nat.le_refl _)
  replace hx0 := hx0.below hAe (Nat.le_refl _)
  replace hx1 := hx1.below hAe (Nat.le_refl _)
  replace hx2 := hx2.below hAe (Nat.le_refl _)
  replace hx3 := hx3.below hAe (Nat.le_refl _)
  -- the kinds
  have hkk := kind_ck _ p _ _ x0 (hE.below hB (Nat.le_refl _)) (by decide) hx0
  go_wp2_with fail
  refine hkk.mono ?_
  rintro e y0 ⟨rfl, hb⟩
  replace hB := hB.trans (hb.mono hB.size)
  replace hx1 := hx1.below hb (Nat.le_refl _)
  replace hx2 := hx2.below hb (Nat.le_refl _)
  replace hx3 := hx3.below hb (Nat.le_refl _)
  replace hx4 := hx4.below hb (Nat.le_refl _)
  clear hkk hb
  have hkk := kind_ck _ p _ y0 x1 (hE.below hB (Nat.le_refl _)) (by decide) hx1
  go_wp2_with fail
  refine hkk.mono ?_
  rintro e y1 ⟨rfl, hb⟩
  replace hB := hB.trans (hb.mono hB.size)
  replace hx2 := hx2.below hb (Nat.le_refl _)
  replace hx3 := hx3.below hb (Nat.le_refl _)
  replace hx4 := hx4.below hb (Nat.le_refl _)
  clear hkk hb
  have hkk := kind_ck _ p _ y1 x2 (hE.below hB (Nat.le_refl _)) (by decide) hx2
  go_wp2_with fail
  refine hkk.mono ?_
  rintro e y2 ⟨rfl, hb⟩
  replace hB := hB.trans (hb.mono hB.size)
  replace hx3 := hx3.below hb (Nat.le_refl _)
  replace hx4 := hx4.below hb (Nat.le_refl _)
  clear hkk hb
  have hkk := kind_ck _ p _ y2 x3 (hE.below hB (Nat.le_refl _)) (by decide) hx3
  go_wp2_with fail
  refine hkk.mono ?_
  rintro e y3 ⟨rfl, hb⟩
  replace hB := hB.trans (hb.mono hB.size)
  replace hx4 := hx4.below hb (Nat.le_refl _)
  clear hkk hb
  have hkk := kind_ck _ p _ y3 x4 (hE.below hB (Nat.le_refl _)) (by decide) hx4
  go_wp2_with fail
  refine hkk.mono ?_
  rintro e y4 ⟨rfl, hb⟩
  replace hB := hB.trans (hb.mono hB.size)
  clear hkk hb
  go_wp2
  go_ret
  exact ⟨rfl, hB⟩

end Go.Proofs.YtmepnjnpfmgokaaDoor.EndsKnownW
