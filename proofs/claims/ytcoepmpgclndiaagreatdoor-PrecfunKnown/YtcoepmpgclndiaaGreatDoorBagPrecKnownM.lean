/-
  Texts that stand together: PrecKnownM, PrecEdges.
-/
import Derived.Test.YtcoepmpgclndiaaGreatDoorBPrecAwake3
import Derived.Test.YtcoepmpgclndiaaGreatDoorBGraphLent
import Derived.Test.YtcoepmpgclndiaaGreatDoorBPrecFn1
namespace Go.Proofs.YtcoepmpgclndiaaGreatDoor.PrecAwake
open Go.RowKit Go.Proofs.YtcoepmpgclndiaaGreatDoor.GramMath Go.Proofs.YtcoepmpgclndiaaGreatDoor.GramRow Go.Proofs.YtcoepmpgclndiaaGreatDoor.GramErrs Go.Proofs.YtcoepmpgclndiaaGreatDoor.GramAwake Go.Proofs.YtcoepmpgclndiaaGreatDoor.GramApart Go.Proofs.YtcoepmpgclndiaaGreatDoor.EndsMath Go.Proofs.YtcoepmpgclndiaaGreatDoor.EndsAwake Go.Proofs.YtcoepmpgclndiaaGreatDoor.GramOpen Go.Proofs.YtcoepmpgclndiaaGreatDoor.MatrixMath Go.Proofs.YtcoepmpgclndiaaGreatDoor.MatrixPut Go.Proofs.YtcoepmpgclndiaaGreatDoor.MatrixOf Go.Proofs.YtcoepmpgclndiaaGreatDoor.MatrixClash Go.Proofs.YtcoepmpgclndiaaGreatDoor.GraphMath Go.Proofs.YtcoepmpgclndiaaGreatDoor.GraphNet Go.Proofs.YtcoepmpgclndiaaGreatDoor.PrecFn Go.Proofs.YtcoepmpgclndiaaGreatDoor.GramLess
set_option linter.unusedVariables false
set_option linter.unusedSimpArgs false

/-- Two terminals, each ahead of the other in a rule; the sums with one rule more. -/
def aG : G := ⟨[⟨#[97]⟩, ⟨#[98]⟩], [⟨#[83]⟩], 0, [⟨0, [0, 1]⟩, ⟨0, [1, 0]⟩]⟩
def cG : G := ⟨[⟨#[43]⟩, ⟨#[105]⟩], [⟨#[69]⟩, ⟨#[84]⟩], 0, [⟨0, [-1, 0, -2]⟩, ⟨0, [-2]⟩, ⟨1, [1]⟩, ⟨0, [-1, 0, -1]⟩]⟩
def aV : Nat → Nat | 0 => 3 | _ => 0
theorem a_check : checkG aG = (0, none) := by kernel_rfl
theorem c_check : checkG cG = (0, none) := by kernel_rfl
theorem a_good : GoodG aG := good_of (by rw [a_check])
theorem c_good : GoodG cG := good_of (by rw [c_check])
theorem a_left : IsEnds false aG aV := ends_of_B a_good (k := 4) (by kernel_rfl)
theorem a_right : IsEnds true aG aV := ends_of_B a_good (k := 4) (by kernel_rfl)
theorem c_left : IsEnds false cG sV := ends_of_B c_good (k := 4) (by kernel_rfl)
theorem c_right : IsEnds true cG sV := ends_of_B c_good (k := 4) (by kernel_rfl)
abbrev aY := MatrixAwake.relB aV aV aG 1
abbrev aQ := MatrixAwake.relB aV aV aG 2
abbrev aK := MatrixAwake.relB aV aV aG 3
theorem a_no : noClash aV aV aG 3 = true := by kernel_rfl
theorem a_cl : classL aQ 3 = [0, 1, 2, 1, 0, 3] := by kernel_rfl
theorem a_rd : rdL 6 (edgeL aY aQ aK 3) = [] := by kernel_rfl
theorem a_fns {S : Nat → Nat → Int} (h : IsMat aG S) : fF 3 S = [1, 1, 0] ∧ fG 3 S = [1, 1, 0] ∧ clS 3 S = [0, 1, 2, 1, 0, 3] ∧ fY 3 S = [] := by
  obtain ⟨h1, h2, h3⟩ := rel_S a_good a_left a_right h
  have e1 : rY 3 S = aY := h1
  have e2 : rQ 3 S = aQ := h2
  have e3 : rK 3 S = aK := h3
  have hc : clS 3 S = [0, 1, 2, 1, 0, 3] := by unfold clS; rw [e2]; exact a_cl
  have hr : rdL ((2 * 3 : Nat) : Int) (edS 3 S) = [] := by unfold edS; rw [e1, e2, e3]; exact a_rd
  have hl : lvL ((2 * 3 : Nat) : Int) (edS 3 S) = lvL 6 (edgeL aY aQ aK 3) := by unfold edS; rw [e1, e2, e3]; rfl
  refine ⟨?_, ?_, hc, hr⟩
  · unfold fF fnL; rw [if_pos hr, hc, hl]; kernel_rfl
  · unfold fG fnL; rw [if_pos hr, hc, hl]; kernel_rfl

/-- The clashes of a closed grammar, looked up. -/
def clB (VL VR : Nat → Nat) (g : G) (t : Nat) : List Pr := (List.range (3 * (t * t))).filterMap (fun q => if (MatrixAwake.relB VL VR g (unl1 (q % 3)) ((q / 3 / t : Nat) : Int) ((q / 3 % t : Nat) : Int) && MatrixAwake.relB VL VR g (unl2 (q % 3)) ((q / 3 / t : Nat) : Int) ((q / 3 % t : Nat) : Int)) = true then some ⟨((q / 3 / t : Nat) : Int), ((q / 3 % t : Nat) : Int), unl1 (q % 3), unl2 (q % 3)⟩ else none)
theorem clL_S {VL VR : Nat → Nat} {g : G} (hg : GoodG g) (hL : IsEnds false g VL) (hR : IsEnds true g VR) {S : Nat → Nat → Int} (h : IsMat g S) : clL (g.ts.length + 1) S = clB VL VR g (g.ts.length + 1) := by
  unfold clL clTo clB
  congr 1
  funext q
  have hu : (1 ≤ unl1 (q % 3) ∧ unl1 (q % 3) ≤ 3) ∧ 1 ≤ unl2 (q % 3) ∧ unl2 (q % 3) ≤ 3 := by
    have : q % 3 < 3 := Nat.mod_lt _ (by omega)
    match q % 3, this with
    | 0, _ => decide
    | 1, _ => decide
    | 2, _ => decide
  unfold hitP
  rw [MatrixAwake.holds_B hg hL hR h hu.1.1 hu.1.2, MatrixAwake.holds_B hg hL hR h hu.2.1 hu.2.2]
theorem c_clB : clB sV sV cG 3 = [⟨0, 0, 1, 3⟩] := by kernel_rfl
theorem c_clash {S : Nat → Nat → Int} (h : IsMat cG S) : clL 3 S = [⟨0, 0, 1, 3⟩] := (clL_S c_good c_left c_right h).trans c_clB

theorem s_fit1 {S : Nat → Nat → Int} (h : IsMat sG S) : fitsB (rY 3 S) (rQ 3 S) (rK 3 S) 3 [2, 2, 0] [1, 3, 0] = true ∧ fitsB (rY 3 S) (rQ 3 S) (rK 3 S) 3 [3, 4, 0] [2, 5, 0] = true ∧ fitsB (rY 3 S) (rQ 3 S) (rK 3 S) 3 [2, 2, 0] [1, 2, 0] = false ∧ fitsB (rY 3 S) (rQ 3 S) (rK 3 S) 3 [2, 2] [1, 3, 0] = false := by
  obtain ⟨h1, h2, h3⟩ := rel_S s_good s_left s_right h
  have e1 : rY 3 S = sY := h1
  have e2 : rQ 3 S = sQ := h2
  have e3 : rK 3 S = sK := h3
  rw [e1, e2, e3]
  exact ⟨by kernel_rfl, by kernel_rfl, by kernel_rfl, by kernel_rfl⟩

theorem a_ok : okG aG := by
  refine ⟨by decide, by decide, by decide, ⟨by decide, by decide⟩, ?_, ?_, ?_⟩
  · intro r hr
    simp only [aG, List.mem_cons, List.not_mem_nil, or_false] at hr
    rcases hr with rfl | rfl <;> exact ⟨⟨by decide, by decide⟩, by intro x hx; simp only [List.mem_cons, List.not_mem_nil, or_false] at hx; first | (subst hx; exact ⟨by decide, by decide⟩) | (rcases hx with rfl | rfl <;> exact ⟨by decide, by decide⟩), by decide⟩
  · intro s hs
    simp only [aG, List.mem_cons, List.not_mem_nil, or_false] at hs
    rcases hs with rfl | rfl <;> decide
  · intro s hs
    simp only [aG, List.mem_cons, List.not_mem_nil, or_false] at hs
    subst hs; decide
theorem c_ok : okG cG := by
  refine ⟨by decide, by decide, by decide, ⟨by decide, by decide⟩, ?_, ?_, ?_⟩
  · intro r hr
    simp only [cG, List.mem_cons, List.not_mem_nil, or_false] at hr
    rcases hr with rfl | rfl | rfl | rfl <;> exact ⟨⟨by decide, by decide⟩, by intro x hx; simp only [List.mem_cons, List.not_mem_nil, or_false] at hx; first | (subst hx; exact ⟨by decide, by decide⟩) | (rcases hx with rfl | rfl | rfl <;> exact ⟨by decide, by decide⟩), by decide⟩
  · intro s hs
    simp only [cG, List.mem_cons, List.not_mem_nil, or_false] at hs
    rcases hs with rfl | rfl <;> decide
  · intro s hs
    simp only [cG, List.mem_cons, List.not_mem_nil, or_false] at hs
    rcases hs with rfl | rfl <;> decide

end Go.Proofs.YtcoepmpgclndiaaGreatDoor.PrecAwake

namespace Go.Proofs.YtcoepmpgclndiaaGreatDoor.PrecFn
open Go.RowKit Go.Proofs.YtcoepmpgclndiaaGreatDoor.GramMath Go.Proofs.YtcoepmpgclndiaaGreatDoor.GramRow Go.Proofs.YtcoepmpgclndiaaGreatDoor.GramApart Go.Proofs.YtcoepmpgclndiaaGreatDoor.GraphMath Go.Proofs.YtcoepmpgclndiaaGreatDoor.GraphNet Go.Proofs.YtcoepmpgclndiaaGreatDoor.OpRow Go.Proofs.YtcoepmpgclndiaaGreatDoor.GramErrs
set_option linter.unusedVariables false
set_option linter.unusedSimpArgs false

set_option maxRecDepth 100000 in
set_option maxHeartbeats 4000000 in
theorem edges_any (ea fa : Option Addr) (ec fc : Nat) (es fs : List (Int × Int)) (w : World) (hE : ERow w ea es) (hF : ERow w fa fs) (hl : es.length ≤ 1125899906842624) (hl2 : fs.length ≤ 1125899906842624) :
    Calls Tryz.prog 10 #[.slice ea es.length ec, .slice fa fs.length fc] w fun e w' => e = .returned (.bool (decide (es = fs))) ∧ ∃ q, w' = w.drewN q := by
  have heq := Go.Proofs.YtcoepmpgclndiaaGreatDoor.GraphLent.eqE
  have HE : Hid (ERow w ea es) := hE
  have HF : Hid (ERow w fa fs) := hF
  clear hE hF
  by_cases hlen : es.length = fs.length
  · have hn : ((es.length : Int) != (es.length : Int)) = false := by simp
    have HL : Hid (es.length = fs.length) := hlen
    rw [← hlen]
    clear hl2 hlen
    go_enter Tryz.func10, Tryz.ntmps10
    go_wp2
    go_loopw [5] (fun s wr => ∃ k : Nat, k ≤ es.length ∧ s = .int .i64 (k : Int) ∧ (∃ q, wr = w.drewN q) ∧ Hid (es.take k = fs.take k)) (fun s _ => es.length - (intOf s).toNat)
    case atStart => exact ⟨0, by omega, rfl, ⟨0, rfl⟩, by show _ = _; simp⟩
    case round =>
      obtain ⟨k, hk, rfl, ⟨q, rfl⟩, hI⟩ := hrel
      by_cases hlt : k < es.length
      · have hlt2 : (k : Int) < (es.length : Int) := by omega
        obtain ⟨⟨a, b⟩, hab⟩ : ∃ e, es[k]? = some e := ⟨es[k], List.getElem?_eq_getElem hlt⟩
        obtain ⟨⟨c, d⟩, hcd⟩ : ∃ e, fs[k]? = some e := ⟨fs[k]'(by have := HL.out; omega), List.getElem?_eq_getElem (by have := HL.out; omega)⟩
        obtain ⟨b1, o1, rfl, q0, q1⟩ := HE.out k _ hab
        obtain ⟨b2, o2, rfl, q2, q3⟩ := HF.out k _ hcd
        dsimp only at q0 q1 q2 q3
        obtain ⟨Wd, hWd⟩ : ∃ Wd, (w.drewN q).drew = Wd := ⟨_, rfl⟩
        have HWd : Hid (Wd = w.drewN (q + 1)) := hWd.symm
        have e0 : (w.drewN q).drew.cell? ⟨b1, o1 + k * 2, none⟩ = some (.int .i64 a) := q0
        have e1 : (w.drewN q).drew.cell? ⟨b1, o1 + k * 2 + 1, none⟩ = some (.int .i64 b) := q1
        have e2 : (w.drewN q).drew.cell? ⟨b2, o2 + k * 2, none⟩ = some (.int .i64 c) := q2
        have e3 : (w.drewN q).drew.cell? ⟨b2, o2 + k * 2 + 1, none⟩ = some (.int .i64 d) := q3
        have Hab : Hid (es[k]? = some (a, b) ∧ fs[k]? = some (c, d)) := ⟨hab, hcd⟩
        clear q0 q1 q2 q3 hab hcd
        obtain ⟨rb9, hrb9⟩ : ∃ rb9, decide (a = c ∧ b = d) = rb9 := ⟨_, rfl⟩
        have Hrb : Hid (decide (a = c ∧ b = d) = rb9) := hrb9
        go_wp2_with fail
        refine wp_region_noPanic ?_
        refine wp_region_held_drew (S := (fun w9 => w9.cell? ⟨b1, o1 + k * 2, none⟩ = some (.int .i64 a) ∧ w9.cell? ⟨b1, o1 + k * 2 + 1, none⟩ = some (.int .i64 b) ∧ w9.cell? ⟨b2, o2 + k * 2, none⟩ = some (.int .i64 c) ∧ w9.cell? ⟨b2, o2 + k * 2 + 1, none⟩ = some (.int .i64 d))) (by kernel_rfl) ⟨e0, e1, e2, e3⟩ (fun hHeld => ?_)
        rw [hWd] at hHeld ⊢
        clear e0 e1 e2 e3 hWd
        refine wpAnyH_take (i := 0) (v := .slice (some ⟨b1, o1, none⟩) es.length ec) rfl (by kernel_rfl) (by kernel_rfl) (by kernel_rfl) (fun _ _ _ h => h) (Or.inl ⟨by rfl, fun w9 hSw => ?_⟩) hHeld ?_
        · obtain ⟨s0, s1, s2, s3⟩ := hSw
          go_simp
        simp only [List.getElem_toArray, List.getElem_cons_zero, List.getElem_cons_succ, Act.put, List.setIfInBounds_toArray, List.set_cons_zero, List.set_cons_succ]
        refine wpAnyH_take (i := 1) (v := .int .i64 (k : Int)) rfl (by kernel_rfl) (by kernel_rfl) (by kernel_rfl) (fun _ _ _ h => h) (Or.inl ⟨by rfl, fun w9 hSw => ?_⟩) hHeld ?_
        · obtain ⟨s0, s1, s2, s3⟩ := hSw
          go_simp
        simp only [List.getElem_toArray, List.getElem_cons_zero, List.getElem_cons_succ, Act.put, List.setIfInBounds_toArray, List.set_cons_zero, List.set_cons_succ]
        refine wpAnyH_take (i := 2) (v := .pointer (some ⟨b1, o1 + k * 2, none⟩)) rfl (by kernel_rfl) (by kernel_rfl) (by kernel_rfl) (fun _ _ _ h => h) (Or.inl ⟨by rfl, fun w9 hSw => ?_⟩) hHeld ?_
        · obtain ⟨s0, s1, s2, s3⟩ := hSw
          go_simp
          all_goals (first | rfl | omega | (rw [hrb9]) | (simp; done) | (simp; omega))
        simp only [List.getElem_toArray, List.getElem_cons_zero, List.getElem_cons_succ, Act.put, List.setIfInBounds_toArray, List.set_cons_zero, List.set_cons_succ]
        refine wpAnyH_take (i := 3) (v := .agg #[.int .i64 a, .int .i64 b]) rfl (by kernel_rfl) (by kernel_rfl) (by kernel_rfl) (fun _ _ _ h => h) (Or.inl ⟨by rfl, fun w9 hSw => ?_⟩) hHeld ?_
        · obtain ⟨s0, s1, s2, s3⟩ := hSw
          go_simp
        simp only [List.getElem_toArray, List.getElem_cons_zero, List.getElem_cons_succ, Act.put, List.setIfInBounds_toArray, List.set_cons_zero, List.set_cons_succ]
        refine wpAnyH_take (i := 4) (v := .slice (some ⟨b2, o2, none⟩) es.length fc) rfl (by kernel_rfl) (by kernel_rfl) (by kernel_rfl) (fun _ _ _ h => h) (Or.inl ⟨by rfl, fun w9 hSw => ?_⟩) hHeld ?_
        · obtain ⟨s0, s1, s2, s3⟩ := hSw
          go_simp
        simp only [List.getElem_toArray, List.getElem_cons_zero, List.getElem_cons_succ, Act.put, List.setIfInBounds_toArray, List.set_cons_zero, List.set_cons_succ]
        refine wpAnyH_take (i := 5) (v := .int .i64 (k : Int)) rfl (by kernel_rfl) (by kernel_rfl) (by kernel_rfl) (fun _ _ _ h => h) (Or.inl ⟨by rfl, fun w9 hSw => ?_⟩) hHeld ?_
        · obtain ⟨s0, s1, s2, s3⟩ := hSw
          go_simp
        simp only [List.getElem_toArray, List.getElem_cons_zero, List.getElem_cons_succ, Act.put, List.setIfInBounds_toArray, List.set_cons_zero, List.set_cons_succ]
        refine wpAnyH_take (i := 6) (v := .pointer (some ⟨b2, o2 + k * 2, none⟩)) rfl (by kernel_rfl) (by kernel_rfl) (by kernel_rfl) (fun _ _ _ h => h) (Or.inl ⟨by rfl, fun w9 hSw => ?_⟩) hHeld ?_
        · obtain ⟨s0, s1, s2, s3⟩ := hSw
          go_simp
          all_goals (first | rfl | omega | (rw [hrb9]) | (simp; done) | (simp; omega))
        simp only [List.getElem_toArray, List.getElem_cons_zero, List.getElem_cons_succ, Act.put, List.setIfInBounds_toArray, List.set_cons_zero, List.set_cons_succ]
        refine wpAnyH_take (i := 7) (v := .agg #[.int .i64 c, .int .i64 d]) rfl (by kernel_rfl) (by kernel_rfl) (by kernel_rfl) (fun _ _ _ h => h) (Or.inl ⟨by rfl, fun w9 hSw => ?_⟩) hHeld ?_
        · obtain ⟨s0, s1, s2, s3⟩ := hSw
          go_simp
        simp only [List.getElem_toArray, List.getElem_cons_zero, List.getElem_cons_succ, Act.put, List.setIfInBounds_toArray, List.set_cons_zero, List.set_cons_succ]
        refine wpAnyH_take (i := 8) (v := .bool (!rb9)) rfl (by kernel_rfl) (by kernel_rfl) (by kernel_rfl) (fun _ _ _ h => h) (Or.inl ⟨by rfl, fun w9 hSw => ?_⟩) hHeld ?_
        · obtain ⟨s0, s1, s2, s3⟩ := hSw
          go_simp
          all_goals (first | rfl | omega | (rw [hrb9]) | (simp; done) | (simp; omega))
        simp only [List.getElem_toArray, List.getElem_cons_zero, List.getElem_cons_succ, Act.put, List.setIfInBounds_toArray, List.set_cons_zero, List.set_cons_succ]
        refine wpAnyH_done (by kernel_rfl) (NoPanic.normal ?_) _
        clear hHeld hrb9
        cases rb9 with
        | true =>
          obtain ⟨rfl, rfl⟩ := of_decide_eq_true Hrb.out
          go_wp2
          go_roundw
          case rel => exact ⟨k + 1, by omega, by go_num, ⟨q + 1, HWd.out⟩, by show _ = _; rw [List.take_add_one, List.take_add_one, hI.out, Hab.out.1, Hab.out.2]⟩
          case measure => simp [intOf]; omega
        | false =>
          have HN : Hid (decide (es = fs) = false) := by
            show _ = _
            refine decide_eq_false fun h => ?_
            have h1 := Hab.out.1
            rw [h, Hab.out.2] at h1
            cases h1
            exact absurd ⟨rfl, rfl⟩ (of_decide_eq_false Hrb.out)
          go_wp2
          go_ret
          exact ⟨by rw [HN.out]; rfl, q + 1, HWd.out⟩
      · obtain rfl : k = es.length := by omega
        have HN : Hid (decide (es = fs) = true) := by
          show _ = _
          refine decide_eq_true ?_
          have h1 := hI.out
          rw [List.take_length, HL.out, List.take_length] at h1
          exact h1
        clear hI hlt
        go_wp2
        go_ret
        exact ⟨by rw [HN.out]; rfl, q, rfl⟩
  · have hn : ((es.length : Int) != (fs.length : Int)) = true := by rw [bne_iff_ne]; omega
    have HN : Hid (decide (es = fs) = false) := by show _ = _; exact decide_eq_false (fun h => hlen (by rw [h]))
    go_enter Tryz.func10, Tryz.ntmps10
    go_wp2
    go_ret
    exact ⟨by rw [HN.out]; rfl, 0, rfl⟩

end Go.Proofs.YtcoepmpgclndiaaGreatDoor.PrecFn
