/-
  What MatrixKnown wants: bytes compared, reasons of the grammars of the chapter.
-/
import Derived.Test.YtpdkjblmpgmcjaaDoorMatrixAwake
import Derived.Test.YtpdkjblmpgmcjaaDoorMatrixRMath
import Derived.Test.YtpdkjblmpgmcjaaDoorMatrixWhyFn
import Derived.Test.YtpdkjblmpgmcjaaDoorGramKinds
import Derived.Test.YtpdkjblmpgmcjaaDoorEndsChainsWalk
import Derived.Test.YtpdkjblmpgmcjaaDoorMatrixClashes
namespace Go.Proofs.YtpdkjblmpgmcjaaDoor.MatrixKnown
open Go.RowKit Go.Proofs.YtpdkjblmpgmcjaaDoor.GramMath Go.Proofs.YtpdkjblmpgmcjaaDoor.GramRow Go.Proofs.YtpdkjblmpgmcjaaDoor.GramErrs Go.Proofs.YtpdkjblmpgmcjaaDoor.GramSame Go.Proofs.YtpdkjblmpgmcjaaDoor.EndsMath Go.Proofs.YtpdkjblmpgmcjaaDoor.EndsSearch Go.Proofs.YtpdkjblmpgmcjaaDoor.EndsChain Go.Proofs.YtpdkjblmpgmcjaaDoor.GramOpen Go.Proofs.YtpdkjblmpgmcjaaDoor.SetsAlg Go.Proofs.YtpdkjblmpgmcjaaDoor.MatrixMath Go.Proofs.YtpdkjblmpgmcjaaDoor.MatrixPut Go.Proofs.YtpdkjblmpgmcjaaDoor.MatrixOf Go.Proofs.YtpdkjblmpgmcjaaDoor.MatrixAwake Go.Proofs.YtpdkjblmpgmcjaaDoor.MatrixKeep Go.Proofs.YtpdkjblmpgmcjaaDoor.MatrixWhyMath Go.Proofs.YtpdkjblmpgmcjaaDoor.MatrixWhyFn Go.Proofs.YtpdkjblmpgmcjaaDoor.MatrixReasonsMath Go.Proofs.YtpdkjblmpgmcjaaDoor.MatrixRMath Go.Proofs.YtpdkjblmpgmcjaaDoor.EndsChainsW Go.Proofs.YtpdkjblmpgmcjaaDoor.GramApart
set_option linter.unusedVariables false
set_option linter.unusedSimpArgs false

/-- Bytes in a row. -/
def BRow8 (w : World) (a : Option Addr) (zs : List Int) : Prop :=
  ∀ i x, zs[i]? = some x → ∃ b off, a = some ⟨b, off, none⟩ ∧ w.cell? ⟨b, off + i, none⟩ = some (.int .u8 x)

set_option maxRecDepth 100000 in
set_option maxHeartbeats 2000000 in
theorem bytes_any (a b : Option Addr) (ca cb : Nat) (xs ys : List Int) (w : World) (ha : BRow8 w a xs) (hb : BRow8 w b ys) (hm : xs.length ≤ 1125899906842624) (hn : ys.length ≤ 1125899906842624) :
    Calls Tryd.prog 22 #[.slice a xs.length ca, .slice b ys.length cb] w fun e w' => e = .returned (.bool (GramSame.eqI xs ys)) ∧ ∃ q, w' = w.drewN q := by
  by_cases hl : xs.length = ys.length
  · have hl2 : ((xs.length : Int) != (ys.length : Int)) = false := by simp; omega
    go_enter Tryd.func22, Tryd.ntmps22
    go_wp2
    go_loopw [5] (fun i wr => ∃ k q : Nat, k ≤ xs.length ∧ i = .int .i64 k ∧ wr = w.drewN q ∧ Hid (∀ j, j < k → xs[j]? = ys[j]?)) (fun i _ => xs.length - (intOf i).toNat)
    case atStart => exact ⟨0, 0, by omega, rfl, rfl, fun j hj => by omega⟩
    case round =>
      clear hl2
      obtain ⟨k, q, hk, rfl, rfl, hal⟩ := hrel
      by_cases hlt : k < xs.length
      · obtain ⟨x, hx⟩ : ∃ x, xs[k]? = some x := ⟨xs[k], List.getElem?_eq_getElem hlt⟩
        obtain ⟨y, hy⟩ : ∃ y, ys[k]? = some y := ⟨ys[k], List.getElem?_eq_getElem (by omega)⟩
        obtain ⟨b1, off1, rfl, c1⟩ := ha k x hx
        obtain ⟨b2, off2, rfl, c2⟩ := hb k y hy
        have hlt2 : (k : Int) < (xs.length : Int) := by omega
        have hlt3 : (k : Int) < (ys.length : Int) := by omega
        by_cases hxy : x = y
        · subst hxy
          have hal2 : Hid (∀ j, j < k + 1 → xs[j]? = ys[j]?) := step_same hx hy hal.out
          have hf := int_eq x
          clear ha hb hx hy hal hl
          go_wp2
          go_quiet (fail)
          go_wp2
          go_roundw
          case rel => exact ⟨k + 1, _, by omega, by go_num, rfl, hal2⟩
          case measure => simp [intOf]; omega
        · have E : Hid (GramSame.eqI xs ys = false) := by show _ = _; unfold GramSame.eqI; exact cdf _ (list_at hx hy hxy)
          have hf := int_ne hxy
          clear ha hb hx hy hal hl hxy
          go_wp2
          go_quiet (fail)
          go_wp2
          go_ret
          exact ⟨ret_bool E.out.symm, _, World.drewN_drewN _ _ _⟩
      · have hnl : ¬ (k : Int) < (xs.length : Int) := by omega
        have hnl2 : ¬ (k : Int) < (ys.length : Int) := by omega
        have E : Hid (GramSame.eqI xs ys = true) := by show _ = _; unfold GramSame.eqI; exact cdt _ (list_same hl (fun j hj => hal.out j (by omega)))
        clear ha hb hal hl hk hlt
        go_wp2
        go_ret
        exact ⟨ret_bool E.out.symm, _, rfl⟩
  · have hl2 : ((xs.length : Int) != (ys.length : Int)) = true := by simp; omega
    have E : Hid (GramSame.eqI xs ys = false) := by show _ = _; unfold GramSame.eqI; exact cdf _ (list_len hl)
    clear hl
    go_enter Tryd.func22, Tryd.ntmps22
    go_wp2
    go_ret
    exact ⟨ret_bool E.out.symm, 0, rfl⟩

def srch (b : Bool) (t : Nat) (rs : List R) : Nat → List Wy → (Nat → Bool) → Option (Option (List Int))
  | 0, _, _ => none
  | _ + 1, [], _ => some none
  | k + 1, y :: ys, S => match hitW b t rs (y :: ys) with
    | some c => some (some c)
    | none => srch b t rs k (goW b rs (y :: ys) ⟨[], S⟩).nx (goW b rs (y :: ys) ⟨[], S⟩).S

theorem srch_search {b : Bool} {t : Nat} {rs : List R} : ∀ {k : Nat} {ring : List Wy} {S : Nat → Bool} {o : Option (List Int)}, srch b t rs k ring S = some o → Search b t rs ring S o
  | 0, _, _, _, h => by cases h
  | k + 1, [], S, o, h => by
    have : o = none := by simpa [srch] using h.symm
    subst this
    exact .none S
  | k + 1, y :: ys, S, o, h => by
    unfold srch at h
    cases hh : hitW b t rs (y :: ys) with
    | some c =>
      rw [hh] at h
      cases h
      exact .hit hh
    | none =>
      rw [hh] at h
      exact .step (by simp) hh (srch_search h)

theorem why_ok {g : G} {VL VR : Nat → Nat} {a b x r k n : Int} {o : Option (List Int)} (h0 : (checkG g).1 = 0) (hL : IsEnds false g VL) (hR : IsEnds true g VR) (hin : InW g a b x)
    (h : (firstF x a b (findsF VL VR g)).map (fun f => (f.p.rule, f.p.at_, f.p.non)) = some (r, k, n))
    (hc : (x = 2 ∧ o = none) ∨ (x = 1 ∧ ∃ c, o = some c ∧ InG g n b ∧ FoundE false g.rs n.toNat b.toNat (some c)) ∨ (x = 3 ∧ ∃ c, o = some c ∧ InG g n a ∧ FoundE true g.rs n.toNat a.toNat (some c))) : WhyR g a b x (0, none) r k o := by
  cases hf : firstF x a b (findsF VL VR g) with
  | none => rw [hf] at h; cases h
  | some f =>
    rw [hf] at h
    simp only [Option.map_some, Option.some.injEq, Prod.mk.injEq] at h
    obtain ⟨rfl, rfl, rfl⟩ := h
    refine .inr (.inr ⟨h0, hin, VL, VR, hL, hR, .inr ⟨f, hf, rfl, rfl, rfl, ?_⟩⟩)
    rcases hc with hc | ⟨h1, c, h2, h3, h4⟩ | ⟨h1, c, h2, h3, h4⟩
    · exact .inl hc
    · exact .inr (.inl ⟨h1, c, h2, .inr (.inr ⟨h0, h3, h4, rfl⟩)⟩)
    · exact .inr (.inr ⟨h1, c, h2, .inr (.inr ⟨h0, h3, h4, rfl⟩)⟩)

theorem why_no {g : G} {VL VR : Nat → Nat} {a b x : Int} (h0 : (checkG g).1 = 0) (hL : IsEnds false g VL) (hR : IsEnds true g VR) (hin : InW g a b x) (h : (firstF x a b (findsF VL VR g)).isNone = true) : WhyR g a b x (15, none) 0 0 none :=
  .inr (.inr ⟨h0, hin, VL, VR, hL, hR, .inl ⟨by simpa using h, rfl, rfl, rfl, rfl⟩⟩)

theorem why1 : WhyR sG 0 0 1 (0, none) 0 1 (some [0]) := why_ok (n := 0) (by rw [s_check]) s_left s_right ⟨⟨by decide, by decide⟩, ⟨by decide, by decide⟩, by decide, by decide⟩ (by kernel_rfl) (.inr (.inl ⟨rfl, _, rfl, ⟨by decide, by decide, by decide, by decide⟩, srch_search (k := 5) (by kernel_rfl)⟩))
theorem why2 : WhyR sG 0 0 3 (0, none) 0 1 (some [0]) := why_ok (n := 0) (by rw [s_check]) s_left s_right ⟨⟨by decide, by decide⟩, ⟨by decide, by decide⟩, by decide, by decide⟩ (by kernel_rfl) (.inr (.inr ⟨rfl, _, rfl, ⟨by decide, by decide, by decide, by decide⟩, srch_search (k := 5) (by kernel_rfl)⟩))
theorem why3 : WhyR sG 2 1 1 (0, none) (-1) 0 (some [1]) := why_ok (n := 0) (by rw [s_check]) s_left s_right ⟨⟨by decide, by decide⟩, ⟨by decide, by decide⟩, by decide, by decide⟩ (by kernel_rfl) (.inr (.inl ⟨rfl, _, rfl, ⟨by decide, by decide, by decide, by decide⟩, srch_search (k := 5) (by kernel_rfl)⟩))
theorem why4 : WhyR hG 0 1 2 (0, none) 0 0 none := why_ok (n := 0) (by rw [h_check]) h_left h_right ⟨⟨by decide, by decide⟩, ⟨by decide, by decide⟩, by decide, by decide⟩ (by kernel_rfl) (.inl ⟨rfl, rfl⟩)
theorem why5 : WhyR hG 0 0 2 (15, none) 0 0 none := why_no (by rw [h_check]) h_left h_right ⟨⟨by decide, by decide⟩, ⟨by decide, by decide⟩, by decide, by decide⟩ (by kernel_rfl)
theorem why6 : WhyR hG 0 9 2 (1, none) 0 0 none := .inr (.inl ⟨by rw [h_check], fun h => absurd h.2.1.2 (by decide), rfl, rfl, rfl, rfl⟩)
theorem why7 : WhyR hG 0 0 4 (1, none) 0 0 none := .inr (.inl ⟨by rw [h_check], fun h => absurd h.2.2.2 (by decide), rfl, rfl, rfl, rfl⟩)
theorem why8 : WhyR hG 2 2 1 (15, none) 0 0 none := why_no (by rw [h_check]) h_left h_right ⟨⟨by decide, by decide⟩, ⟨by decide, by decide⟩, by decide, by decide⟩ (by kernel_rfl)

end Go.Proofs.YtpdkjblmpgmcjaaDoor.MatrixKnown

namespace Go.Proofs.YtpdkjblmpgmcjaaDoor.MatrixKnown
open Go.RowKit Go.Proofs.YtpdkjblmpgmcjaaDoor.GramMath Go.Proofs.YtpdkjblmpgmcjaaDoor.GramRow Go.Proofs.YtpdkjblmpgmcjaaDoor.GramErrs Go.Proofs.YtpdkjblmpgmcjaaDoor.GramSame Go.Proofs.YtpdkjblmpgmcjaaDoor.EndsMath Go.Proofs.YtpdkjblmpgmcjaaDoor.EndsSearch Go.Proofs.YtpdkjblmpgmcjaaDoor.EndsChain Go.Proofs.YtpdkjblmpgmcjaaDoor.GramOpen Go.Proofs.YtpdkjblmpgmcjaaDoor.SetsAlg Go.Proofs.YtpdkjblmpgmcjaaDoor.MatrixMath Go.Proofs.YtpdkjblmpgmcjaaDoor.MatrixPut Go.Proofs.YtpdkjblmpgmcjaaDoor.MatrixOf Go.Proofs.YtpdkjblmpgmcjaaDoor.MatrixAwake Go.Proofs.YtpdkjblmpgmcjaaDoor.MatrixKeep Go.Proofs.YtpdkjblmpgmcjaaDoor.MatrixWhyMath Go.Proofs.YtpdkjblmpgmcjaaDoor.MatrixWhyFn Go.Proofs.YtpdkjblmpgmcjaaDoor.MatrixReasonsMath Go.Proofs.YtpdkjblmpgmcjaaDoor.MatrixRMath Go.Proofs.YtpdkjblmpgmcjaaDoor.EndsChainsW Go.Proofs.YtpdkjblmpgmcjaaDoor.GramApart Go.Proofs.YtpdkjblmpgmcjaaDoor.MatrixClash Go.Proofs.YtpdkjblmpgmcjaaDoor.EndsFn
set_option linter.unusedVariables false
set_option linter.unusedSimpArgs false

def hitB (VL VR : Nat → Nat) (g : G) (t q : Nat) : Option Pr :=
  if (relB VL VR g (unl1 (q % 3)) ((q / 3 / t : Nat) : Int) ((q / 3 % t : Nat) : Int) && relB VL VR g (unl2 (q % 3)) ((q / 3 / t : Nat) : Int) ((q / 3 % t : Nat) : Int)) = true then
    some ⟨((q / 3 / t : Nat) : Int), ((q / 3 % t : Nat) : Int), unl1 (q % 3), unl2 (q % 3)⟩ else none

theorem unl_in (j : Nat) : (1 ≤ unl1 j ∧ unl1 j ≤ 3) ∧ 1 ≤ unl2 j ∧ unl2 j ≤ 3 := by
  match j with
  | 0 => decide
  | 1 => decide
  | j + 2 => exact ⟨⟨by show (1 : Int) ≤ 2; decide, by show (2 : Int) ≤ 3; decide⟩, by show (1 : Int) ≤ 3; decide, by show (3 : Int) ≤ 3; decide⟩

theorem hit_B {VL VR : Nat → Nat} {g : G} (hg : GoodG g) (hL : IsEnds false g VL) (hR : IsEnds true g VR) {S : Nat → Nat → Int} (h : IsMat g S) (q : Nat) : hitP (g.ts.length + 1) S q = hitB VL VR g (g.ts.length + 1) q := by
  unfold hitP hitB
  obtain ⟨⟨a1, a2⟩, a3, a4⟩ := unl_in (q % 3)
  rw [holds_B hg hL hR h a1 a2, holds_B hg hL hR h a3 a4]

theorem s_clashes {S : Nat → Nat → Int} (h : IsMat sG S) : clL 3 S = [⟨0, 0, 1, 3⟩] := by
  have e : hitP 3 S = hitB sV sV sG 3 := funext (fun q => hit_B s_good s_left s_right h q)
  show (List.range 27).filterMap (hitP 3 S) = _
  rw [e]
  kernel_rfl
theorem h_clashes {S : Nat → Nat → Int} (h : IsMat hG S) : clL 3 S = [] := by
  have e : hitP 3 S = hitB hVL hVR hG 3 := funext (fun q => hit_B h_good h_left h_right h q)
  show (List.range 27).filterMap (hitP 3 S) = _
  rw [e]
  kernel_rfl
theorem h_pack {S : Nat → Nat → Int} (h : IsMat hG S) : bytesA (atK 3 S) 3 9 = #[.int .u8 9, .int .u8 31, .int .u8 0] := by
  have e : atK 3 S = fun k => (atB hVL hVR hG ((k / 3 : Nat) : Int) ((k % 3 : Nat) : Int)).toNat := funext (fun k => by
    unfold atK
    rw [show ((3 : Nat) : Int) = ((hG.ts.length + 1 : Nat) : Int) from rfl, at_B h_good h_left h_right h])
  exact (congrArg (fun f => bytesA f 3 9) e).trans (show bytesA (fun k => (atB hVL hVR hG ((k / 3 : Nat) : Int) ((k % 3 : Nat) : Int)).toNat) 3 9 = #[.int .u8 9, .int .u8 31, .int .u8 0] by kernel_rfl)

theorem bytes_row {w : World} {b : Nat} {zs : List Int} (h : RowAt w b 5 (zs.map (Value.int .u8)).toArray) : BRow8 w (some ⟨b, 0, none⟩) zs := fun i x hx => ⟨b, 0, rfl, by
  rw [Nat.zero_add]
  exact h.cell (by simp [hx])⟩

set_option maxRecDepth 100000 in
set_option maxHeartbeats 2000000 in
theorem reason_any (ta na ra la : Option Addr) (tc nc rc lc : Nat) (g : G) (a b x r k : Int) (o : Option (List Int)) (p : Nat → Addr) (w : World) (hG : GRow w ta na ra g) (hcap : Caps w ra g.rs.length) (hg : okG g) (htc : g.ts.length ≤ tc) (hnc : g.ns.length ≤ nc) (hE : Errs w p) (hT : Tab w) (hTG : 16 < w.heap.size)
    (hI : IRow w la (o.getD [])) (hl : (o.getD []).length ≤ 60) (hW : WhyR g a b x (0, none) r k o) :
    Calls Tryd.prog 24 #[.agg #[.slice ta g.ts.length tc, .slice na g.ns.length nc, .int .i64 g.ax, .slice ra g.rs.length rc], .int .i64 a, .int .i64 b, .int .i64 x, .int .i64 r, .int .i64 k, .slice la (o.getD []).length lc] w fun e w' => e = .returned (.bool true) ∧ Below w.heap.size w w' := by
  have heq0 : ∀ W : World, (binOp .eql 31 .nilIface .nilIface).run Tryd.prog W = .ok (.bool true) W := fun W => by kernel_rfl
  have hB : Below w.heap.size w (w.alloc (.cells #[.slice ta g.ts.length tc, .slice na g.ns.length nc, .int .i64 g.ax, .slice ra g.rs.length rc] 25)) := (Below.refl _ _).alloc (Nat.le_refl _) _
  have hch := Why_top ta na ra tc nc rc g a b x p _ (hG.below hB (Nat.le_refl _)) (caps_below hG.2.2 hcap hB (Nat.le_refl _)) hg htc hnc (hE.below hB (Nat.le_refl _)) (SetsEach.Tab.from hT hB hTG) (Nat.lt_of_lt_of_le hTG hB.size)
  go_enter Tryd.func24, Tryd.ntmps24
  go_wp2_with fail
  refine hch.mono ?_
  rintro e w2 ⟨⟨r1, k1, lv1, x1, z1, o1, rfl, hv1, hx1, hR1⟩, hb⟩
  obtain ⟨e1, e2, e3, e4⟩ := whyR_det hW hR1
  subst e1 e2 e3 e4
  obtain ⟨la1, lc1, rfl, hla1⟩ := chv_row hv1
  obtain rfl : x1 = .nilIface := hx1
  have hBw := hB.trans (hb.mono hB.size)
  have hI2 := hI.below hBw (Nat.le_refl _)
  clear hch hb hv1 hR1 hB hI
  have hb : Below w2.heap.size w2 (w2.alloc (.cells #[.int .i64 r, .int .i64 k, .slice la1 (o.getD []).length lc1] 29)) := (Below.refl _ _).alloc (Nat.le_refl _) _
  have hq := GramSame.ints_any la1 la lc1 lc (o.getD []) (o.getD []) _ (hla1.below hb (Nat.le_refl _)) (hI2.below hb (Nat.le_refl _)) (by omega) (by omega)
  rw [eqI_self] at hq
  have hB3 := hBw.trans (hb.mono hBw.size)
  clear hI2 hla1
  have er2 : (r == r) = true := by simp
  have er3 : (k == k) = true := by simp
  go_wp2_with fail
  refine hq.mono ?_
  rintro e w7 ⟨rfl, qq, hww⟩
  have hb7 : Below w.heap.size w w7 := by rw [hww]; exact hB3.trans ((drew_below _ qq).mono hB3.size)
  clear hww
  go_wp2
  go_ret
  exact ⟨rfl, hb7⟩

set_option maxRecDepth 100000 in
set_option maxHeartbeats 2000000 in
theorem none_any (ta na ra : Option Addr) (tc nc rc : Nat) (g : G) (a b x : Int) (z : Nat × Option Nat) (r k : Int) (o : Option (List Int)) (p : Nat → Addr) (w : World) (hG : GRow w ta na ra g) (hcap : Caps w ra g.rs.length) (hg : okG g) (htc : g.ts.length ≤ tc) (hnc : g.ns.length ≤ nc) (hE : Errs w p) (hT : Tab w) (hTG : 16 < w.heap.size)
    (hz : z.1 ≤ 15) (hW : WhyR g a b x z r k o) :
    Calls Tryd.prog 25 #[.agg #[.slice ta g.ts.length tc, .slice na g.ns.length nc, .int .i64 g.ax, .slice ra g.rs.length rc], .int .i64 a, .int .i64 b, .int .i64 x] w fun e w' => e = .returned (.int .i64 (z.1 : Int)) ∧ Below w.heap.size w w' := by
  have hB : Below w.heap.size w (w.alloc (.cells #[.slice ta g.ts.length tc, .slice na g.ns.length nc, .int .i64 g.ax, .slice ra g.rs.length rc] 25)) := (Below.refl _ _).alloc (Nat.le_refl _) _
  have hch := Why_top ta na ra tc nc rc g a b x p _ (hG.below hB (Nat.le_refl _)) (caps_below hG.2.2 hcap hB (Nat.le_refl _)) hg htc hnc (hE.below hB (Nat.le_refl _)) (SetsEach.Tab.from hT hB hTG) (Nat.lt_of_lt_of_le hTG hB.size)
  go_enter Tryd.func25, Tryd.ntmps25
  go_wp2_with fail
  refine hch.mono ?_
  rintro e w2 ⟨⟨r1, k1, lv1, x1, z1, o1, rfl, hv1, hx1, hR1⟩, hb⟩
  obtain ⟨e1, e2, e3, e4⟩ := whyR_det hW hR1
  subst e1 e2 e3 e4
  obtain ⟨la1, lc1, rfl, hla1⟩ := chv_row hv1
  have hBw := hB.trans (hb.mono hB.size)
  clear hch hb hv1 hR1 hB
  have hb : Below w2.heap.size w2 (w2.alloc (.cells #[.int .i64 r, .int .i64 k, .slice la1 (o.getD []).length lc1] 29)) := (Below.refl _ _).alloc (Nat.le_refl _) _
  have hB3 := hBw.trans (hb.mono hBw.size)
  have hkk := kind_ck _ p z _ x1 (hE.below hB3 (Nat.le_refl _)) hz (hx1.below hb (Nat.le_refl _))
  clear hla1 hx1
  go_wp2_with fail
  refine hkk.mono ?_
  rintro e w5 ⟨rfl, hb5⟩
  go_wp2
  go_ret
  exact ⟨rfl, hB3.trans (hb5.mono hB3.size)⟩

end Go.Proofs.YtpdkjblmpgmcjaaDoor.MatrixKnown
