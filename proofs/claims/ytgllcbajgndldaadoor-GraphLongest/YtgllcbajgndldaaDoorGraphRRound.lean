/-
  The document's Round.
-/
import Derived.Test.YtgllcbajgndldaaDoorGraphRLeast
namespace Go.Proofs.YtgllcbajgndldaaDoor.GraphRef
open Go.RowKit Go.Proofs.YtgllcbajgndldaaDoor.GramMath Go.Proofs.YtgllcbajgndldaaDoor.GramRow Go.Proofs.YtgllcbajgndldaaDoor.GramApart Go.Proofs.YtgllcbajgndldaaDoor.GramLent Go.Proofs.YtgllcbajgndldaaDoor.OpRow Go.Proofs.YtgllcbajgndldaaDoor.GraphNet Go.Proofs.YtgllcbajgndldaaDoor.GraphMath Go.Proofs.YtgllcbajgndldaaDoor.GraphFn Go.Proofs.YtgllcbajgndldaaDoor.GraphSort Go.Proofs.YtgllcbajgndldaaDoor.UsefulRef Go.Proofs.YtgllcbajgndldaaDoor.EndsMath
set_option linter.unusedVariables false
set_option linter.unusedSimpArgs false

theorem take_snoc {L : List Nat} {j b : Nat} (h : L[j]? = some b) : L.take (j + 1) = L.take j ++ [b] := by rw [List.take_add_one, h]; rfl
theorem neqI_none (w : World) : (binOp .neq 24 (.slice none 0 0) (.slice none 0 0)).run Tryd.prog w = .ok (.bool false) w := by kernel_rfl
theorem neqI_some (a : Addr) (n c : Nat) (w : World) : (binOp .neq 24 (.slice (some a) n c) (.slice none 0 0)).run Tryd.prog w = .ok (.bool true) w := by kernel_rfl
def lenOf : Value → Nat
  | .slice _ n _ => n
  | _ => 0
theorem best_none {m : Nat} {E : List (Nat × Nat)} {k : Nat} (h : lowW m E k = none) : bestK (lowW m E) (k + 1) = bestK (lowW m E) k := by rw [bestK_succ, h]; cases bestK (lowW m E) k <;> rfl
theorem best_keep {m : Nat} {E : List (Nat × Nat)} {k : Nat} {L B : List Nat} (h : lowW m E k = some L) (hb : bestK (lowW m E) k = some B) (hn : ¬ L.length < B.length) : bestK (lowW m E) (k + 1) = some B := by rw [bestK_succ, h, hb]; simp [better, hn]
theorem best_first {m : Nat} {E : List (Nat × Nat)} {k : Nat} {L : List Nat} (h : lowW m E k = some L) (hb : bestK (lowW m E) k = none) : bestK (lowW m E) (k + 1) = some L := by rw [bestK_succ, h, hb]; rfl
theorem best_less {m : Nat} {E : List (Nat × Nat)} {k : Nat} {L B : List Nat} (h : lowW m E k = some L) (hb : bestK (lowW m E) k = some B) (hn : L.length < B.length) : bestK (lowW m E) (k + 1) = some L := by rw [bestK_succ, h, hb]; simp [better, hn]

set_option maxRecDepth 100000 in
set_option maxHeartbeats 8000000 in
theorem rround_any (m : Nat) (ea : Option Addr) (ec : Nat) (es : List (Int × Int)) (w : World) (hE : ERow w ea es) (hm : m ≤ 256) (hl : es.length ≤ 4096) (hx : ∀ e ∈ es, 0 ≤ e.1 ∧ e.1 < (m : Int) ∧ 0 ≤ e.2 ∧ e.2 < (m : Int)) (hEr : ∀ e ∈ toE es, e.1 < m ∧ e.2 < m) :
    Calls Tryd.prog 22 #[.int .i64 (m : Int), .slice ea es.length ec] w fun e w' => ∃ v, e = .returned v ∧ BestV w w' (roundR m (toE es)) v ∧ Below w.heap.size w w' := by
  have q0 := neqI_none
  have q1 := neqI_some
  have HE : Hid (ERow w ea es) := hE
  have HX : Hid (∀ e ∈ es, 0 ≤ e.1 ∧ e.1 < (m : Int) ∧ 0 ≤ e.2 ∧ e.2 < (m : Int)) := hx
  have HER : Hid (∀ e ∈ toE es, e.1 < m ∧ e.2 < m) := hEr
  clear hE hx hEr
  go_enter Tryd.func22, Tryd.ntmps22
  go_wp2
  go_loopw [5, 6] (fun s5 s6 wr => ∃ (k : Nat) (bv : Value), s5 = bv ∧ k ≤ m ∧ s6 = .int .i64 (k : Int) ∧ Hid (BestV w wr (bestK (lowW m (toE es)) k) bv ∧ Below w.heap.size w wr)) (fun _ s6 _ => m - (intOf s6).toNat)
  case atStart => exact ⟨0, _, rfl, by omega, rfl, rfl, Below.refl _ _⟩
  case round =>
    obtain ⟨k, bv, hbv, hk, rfl, hI⟩ := hrel
    obtain rfl := hbv.symm
    by_cases hlt : k < m
    · have hlt2 : (k : Int) < (m : Int) := by omega
      have hfar := far_any m ea ec es k k wr (ERow.below HE.out hI.out.2 (Nat.le_refl _)) hm hl HX.out HER.out hlt (by omega)
      obtain ⟨wx0, hwx0⟩ : ∃ x, x = wr.heap.size := ⟨_, rfl⟩
      rw [← hwx0] at hfar
      have HWX : Hid (wx0 = wr.heap.size) := hwx0
      clear hwx0
      go_wp2_with fail
      refine hfar.mono ?_
      rintro e w1 ⟨rfl, ⟨f, hN, hf⟩, hb1, hz1⟩
      rw [HWX.out] at hb1
      have HB1 : Hid (Below w.heap.size w w1) := hI.out.2.trans (hb1.mono hI.out.2.size)
      have HV : Hid (BestV w w1 (bestK (lowW m (toE es)) k) bv) := hI.out.1.below hb1
      have HF : Hid (FarA m (toE es) k k f) := hf
      have HN : Hid (NRow w1 wx0 m f) := hN
      have HZ1 : Hid (wx0 < w1.heap.size) := hz1
      have HE1 : Hid (ERow w1 ea es) := ERow.below HE.out HB1.out (Nat.le_refl _)
      clear hfar hN hf hb1 hz1 hI HWX
      go_wp2
      go_loopw [8] (fun s8 wr => ∃ s : Nat, s ≤ m ∧ s8 = .int .i64 ((s : Int) + 1) ∧ wr = w1 ∧ Hid (∀ s' c : Nat, s' < s → ¬ Cand (toE es) k k (s' : Int) f c)) (fun s8 _ => m + 1 - (intOf s8).toNat)
      case atStart => exact ⟨0, by omega, by simp, rfl, fun s' c h => by omega⟩
      case round =>
        obtain ⟨s, hs, rfl, hwr, hno⟩ := hrel
        replace hwr := hwr.symm
        subst hwr
        by_cases hsm : s + 1 ≤ m
        · have hsm2 : (s : Int) + 1 ≤ (m : Int) := by omega
          have hle := least_any m ea ec es k k (s : Int) wx0 f w1 HE1.out hm hl HX.out HN.out
          go_wp2_with fail
          refine hle.mono ?_
          rintro e w2 ⟨⟨z, rfl, hz⟩, hw2⟩
          replace hw2 := hw2.symm
          subst hw2
          by_cases hz0 : z < 0
          · have hz0' : decide (z < 0) = true := by simpa using hz0
            have hno2 : Hid (∀ s' c : Nat, s' < s + 1 → ¬ Cand (toE es) k k (s' : Int) f c) := fun s' c h hc => by
              by_cases e : s' = s
              · subst e
                rcases hz with ⟨_, h2⟩ | ⟨c0, h1, _⟩
                · exact h2 c hc
                · omega
              · exact hno.out s' c (by omega) hc
            clear hle hz hno
            go_wp2
            go_roundw
            case rel => exact ⟨s + 1, by omega, by go_num, trivial, hno2⟩
            case measure => simp [intOf]; omega
          · have hz0' : decide (z < 0) = false := by simpa using hz0
            obtain ⟨L, hL, hLs⟩ : ∃ L, lowW m (toE es) k = some L ∧ L.length = s + 1 := by
              obtain ⟨c, h1, hc, _⟩ : ∃ c : Nat, z = (c : Int) ∧ Cand (toE es) k k (s : Int) f c ∧ True := by
                rcases hz with ⟨h1, _⟩ | ⟨c, h1, h2, _⟩
                · omega
                · exact ⟨c, h1, h2, trivial⟩
              cases hL : lowW m (toE es) k with
              | none => exact absurd hc (low_none HER.out hlt HF.out hL s c)
              | some L =>
                obtain ⟨g1, g2, g3, ⟨c', g4⟩, g5⟩ := low_size HER.out hlt HF.out hL
                refine ⟨L, rfl, ?_⟩
                rcases Nat.lt_trichotomy L.length (s + 1) with h | h | h
                · exact absurd g4 (hno.out (L.length - 1) c' (by omega))
                · exact h
                · exact absurd hc (g5 s c h)
            have HL : Hid (lowW m (toE es) k = some L) := hL
            have HLL : Hid (L.length = s + 1) := hLs
            have HL0 : Hid (L[1 - 1]? = some k) := (low_size HER.out hlt HF.out hL).2.2.1
            have HST : Hid (∀ (j a : Nat), 0 < j → j < L.length → L[j - 1]? = some a → ∃ b, L[j]? = some b ∧ Cand (toE es) k a ((L.length - j : Nat) : Int) f b ∧ ∀ c, Cand (toE es) k a ((L.length - j : Nat) : Int) f c → b ≤ c) := low_step HER.out hlt HF.out hL
            have HO0 : Hid ((w1.alloc (.cells #[.int .i64 (k : Int)] 3)).ownsRow w1.heap.size 3 1 (.slice (some ⟨w1.heap.size, 0, none⟩) 1 1) 1 (iV (ints (L.take 1)))) := by
              have h0 := HL0.out
              have e1 : L.take 1 = [k] := by
                cases L with
                | nil => simp at h0
                | cons x l => obtain rfl : x = k := by simpa using h0
                              rfl
              rw [e1]
              exact ⟨by simp [iV, ints], .inr ⟨w1.heap.size, 1, _, rfl, Nat.le_refl _, heap_new _ _, Nat.le_refl _, by unfold maxLen; omega, by simp, by simp [iV, ints]⟩⟩
            clear hle hz hno hL hLs
            cases hb : bestK (lowW m (toE es)) k with
            | none =>
              have hv := HV.out
              rw [hb] at hv
              replace hv : bv = .slice none 0 0 := hv
              subst hv
              have HNEW : Hid (bestK (lowW m (toE es)) (k + 1) = some L) := best_first HL.out hb
              clear HV hb
              go_wp2
              obtain ⟨wx, rfl⟩ : ∃ x, x = w1 := ⟨w1, rfl⟩
              go_loopw [9, 10] (fun s9 s10 wr => ∃ (j : Nat) (oa : Option Addr) (oc a : Nat), 0 < j ∧ j ≤ s + 1 ∧ s9 = .slice oa j oc ∧ s10 = .int .i64 (a : Int) ∧ Hid (L[j - 1]? = some a) ∧ Hid (Below wx.heap.size wx wr) ∧ Hid (wr.ownsRow wx.heap.size 3 1 (.slice oa j oc) j (iV (ints (L.take j))))) (fun s9 _ _ => s + 1 - lenOf s9)
              case atStart => exact ⟨1, some ⟨wx.heap.size, 0, none⟩, 1, k, by omega, by omega, rfl, rfl, HL0, (Below.refl _ _).alloc (Nat.le_refl _) _, HO0.out⟩
              case round =>
                obtain ⟨j, oa, oc, a, hj0, hj, rfl, rfl, ha, hBx, hO⟩ := hrel
                have hsx := hBx.out.size
                by_cases hlt : j < s + 1
                · have hlt3 : (j : Int) < (s : Int) + 1 := by omega
                  obtain ⟨b, hb, hc1, hc2⟩ := HST.out j a hj0 (by rw [HLL.out]; exact hlt) ha.out
                  have hwant : ((L.length - j : Nat) : Int) = (s : Int) + 1 - (j : Int) := by rw [HLL.out]; omega
                  rw [hwant] at hc1 hc2
                  have hbm : b < m := (HER.out _ hc1.1).2
                  have hle := least_any m ea ec es a k ((s : Int) + 1 - (j : Int)) wx0 f wr (ERow.below HE1.out hBx.out (Nat.le_refl _)) hm hl HX.out (HN.out.below hBx.out HZ1.out)
                  have HB : Hid (L[j]? = some b) := hb
                  have HC : Hid (∀ z, LeastC (Cand (toE es) k a ((s : Int) + 1 - (j : Int)) f) z → z = (b : Int)) := fun z hz => by
                    rcases hz with ⟨_, h⟩ | ⟨c, h1, h2, h3⟩
                    · exact absurd hc1 (h b)
                    · have e1 := h3 b hc1
                      have e2 := hc2 c h2
                      omega
                  clear hb hc1 hc2 hwant ha
                  go_wp2_with fail
                  refine hle.mono ?_
                  rintro e w2 ⟨⟨z, rfl, hz⟩, hw2⟩
                  obtain rfl := hw2.symm
                  obtain rfl := HC.out z hz
                  obtain ⟨i0, hi, hz0, hz1, hz2⟩ := info_parts infoInt
                  have hO' := hO.out
                  have hF : Hid (∀ v2 w3, World.ownsRow w3 wx.heap.size 3 1 v2 (j + 1) (iV (ints (L.take j)) ++ [.int .i64 (b : Int)]) → (wr.alloc (.cells #[.int .i64 (b : Int)] 3)).grownBy w3 (Value.slice oa j oc).ownBlock → ∃ oa' oc', v2 = .slice oa' (j + 1) oc' ∧ Hid (Below wx.heap.size wx w3) ∧ Hid (w3.ownsRow wx.heap.size 3 1 (.slice oa' (j + 1) oc') (j + 1) (iV (ints (L.take (j + 1)))))) := fun v2 w3 h1 h2 => by
                    have h3 : w3.ownsRow wx.heap.size 3 1 v2 (j + 1) (iV (ints (L.take (j + 1)))) := by
                      rw [take_snoc HB.out]
                      simpa [ints, iV] using h1
                    obtain ⟨_, ⟨_, h4⟩ | ⟨g, cap, cur, rfl, _⟩⟩ := id h3
                    · omega
                    · exact ⟨_, cap, rfl, (hBx.out.alloc hsx _).grown h2 (by simp; omega) (fun j hj => (hO'.lt j hj).1), h3⟩
                  clear hle hz HC hO hBx
                  go_wp2_with (at_builtin; refine wpList_append_own _ rfl (.tmp 65) (.tmp 67) 24 rfl wx.heap.size 3 i0 (.int .i64 0) 1 8 Tryd.underlying24 hi hz0 hz1 hz2 rfl (by decide) _ _ _ rfl (hO'.alloc _) ⟨wr.heap.size, 0, none⟩ 1 1 [.int .i64 (b : Int)] rfl rfl (cell_one_new _ _ _) (by simp [Value.oneCell']) (by unfold maxLen; omega) (by omega) (by simp; omega) ?_; intro v2 w3 hown2 hgrow2 _; obtain ⟨oa', oc', hv2, hB2, hO2⟩ := hF.out v2 w3 hown2 hgrow2; subst hv2; clear hF hown2 hgrow2 hO')
                  go_roundw
                  case rel => exact ⟨j + 1, oa', oc', b, by omega, by omega, rfl, rfl, HB, hB2, hO2⟩
                  case measure => simp [lenOf]; omega
                · obtain rfl : j = s + 1 := by omega
                  have hFin : Hid (BestV w wr (bestK (lowW m (toE es)) (k + 1)) (.slice oa (s + 1) oc) ∧ Below w.heap.size w wr) := by
                    refine ⟨?_, HB1.out.trans (hBx.out.mono HB1.out.size)⟩
                    rw [HNEW.out]
                    have h := hO.out
                    rw [List.take_of_length_le (by rw [HLL.out]; exact Nat.le_refl _), show s + 1 = L.length from HLL.out.symm] at h
                    obtain ⟨h1, ⟨_, h4⟩ | ⟨g, cap, cur, h2, h3, h5⟩⟩ := id h
                    · have := HLL.out; omega
                    · cases h2
                      rw [← HLL.out]
                      exact ⟨g, oc, rfl, own_lower h HB1.out.size, by rw [HLL.out]; omega⟩
                  clear hO hBx ha
                  go_wp2
                  go_roundw
                  case rel => exact ⟨k + 1, _, rfl, by omega, by go_num, hFin⟩
                  case measure => simp [intOf]; omega
            | some B =>
              have hv := HV.out
              rw [hb] at hv
              obtain ⟨g, c, hv1, hv2, hv3⟩ := hv
              subst hv1
              by_cases hlB : B.length ≤ s + 1
              · have hlB2 : (B.length : Int) ≤ (s : Int) + 1 := by omega
                have hFin : Hid (BestV w w1 (bestK (lowW m (toE es)) (k + 1)) (.slice (some ⟨g, 0, none⟩) B.length c) ∧ Below w.heap.size w w1) := by
                  refine ⟨?_, HB1.out⟩
                  rw [best_keep HL.out hb (by rw [HLL.out]; omega)]
                  exact ⟨g, c, rfl, hv2, hv3⟩
                clear HV hb hv2
                go_wp2
                go_roundw
                case rel => exact ⟨k + 1, _, rfl, by omega, by go_num, hFin⟩
                case measure => simp [intOf]; omega
              · have hlB2 : ¬ (B.length : Int) ≤ (s : Int) + 1 := by omega
                have HNEW : Hid (bestK (lowW m (toE es)) (k + 1) = some L) := best_less HL.out hb (by rw [HLL.out]; omega)
                clear HV hb hv2
                go_wp2
                obtain ⟨wx, rfl⟩ : ∃ x, x = w1 := ⟨w1, rfl⟩
                go_loopw [9, 10] (fun s9 s10 wr => ∃ (j : Nat) (oa : Option Addr) (oc a : Nat), 0 < j ∧ j ≤ s + 1 ∧ s9 = .slice oa j oc ∧ s10 = .int .i64 (a : Int) ∧ Hid (L[j - 1]? = some a) ∧ Hid (Below wx.heap.size wx wr) ∧ Hid (wr.ownsRow wx.heap.size 3 1 (.slice oa j oc) j (iV (ints (L.take j))))) (fun s9 _ _ => s + 1 - lenOf s9)
                case atStart => exact ⟨1, some ⟨wx.heap.size, 0, none⟩, 1, k, by omega, by omega, rfl, rfl, HL0, (Below.refl _ _).alloc (Nat.le_refl _) _, HO0.out⟩
                case round =>
                  obtain ⟨j, oa, oc, a, hj0, hj, rfl, rfl, ha, hBx, hO⟩ := hrel
                  have hsx := hBx.out.size
                  by_cases hlt : j < s + 1
                  · have hlt3 : (j : Int) < (s : Int) + 1 := by omega
                    obtain ⟨b, hb, hc1, hc2⟩ := HST.out j a hj0 (by rw [HLL.out]; exact hlt) ha.out
                    have hwant : ((L.length - j : Nat) : Int) = (s : Int) + 1 - (j : Int) := by rw [HLL.out]; omega
                    rw [hwant] at hc1 hc2
                    have hbm : b < m := (HER.out _ hc1.1).2
                    have hle := least_any m ea ec es a k ((s : Int) + 1 - (j : Int)) wx0 f wr (ERow.below HE1.out hBx.out (Nat.le_refl _)) hm hl HX.out (HN.out.below hBx.out HZ1.out)
                    have HB : Hid (L[j]? = some b) := hb
                    have HC : Hid (∀ z, LeastC (Cand (toE es) k a ((s : Int) + 1 - (j : Int)) f) z → z = (b : Int)) := fun z hz => by
                      rcases hz with ⟨_, h⟩ | ⟨c, h1, h2, h3⟩
                      · exact absurd hc1 (h b)
                      · have e1 := h3 b hc1
                        have e2 := hc2 c h2
                        omega
                    clear hb hc1 hc2 hwant ha
                    go_wp2_with fail
                    refine hle.mono ?_
                    rintro e w2 ⟨⟨z, rfl, hz⟩, hw2⟩
                    obtain rfl := hw2.symm
                    obtain rfl := HC.out z hz
                    obtain ⟨i0, hi, hz0, hz1, hz2⟩ := info_parts infoInt
                    have hO' := hO.out
                    have hF : Hid (∀ v2 w3, World.ownsRow w3 wx.heap.size 3 1 v2 (j + 1) (iV (ints (L.take j)) ++ [.int .i64 (b : Int)]) → (wr.alloc (.cells #[.int .i64 (b : Int)] 3)).grownBy w3 (Value.slice oa j oc).ownBlock → ∃ oa' oc', v2 = .slice oa' (j + 1) oc' ∧ Hid (Below wx.heap.size wx w3) ∧ Hid (w3.ownsRow wx.heap.size 3 1 (.slice oa' (j + 1) oc') (j + 1) (iV (ints (L.take (j + 1)))))) := fun v2 w3 h1 h2 => by
                      have h3 : w3.ownsRow wx.heap.size 3 1 v2 (j + 1) (iV (ints (L.take (j + 1)))) := by
                        rw [take_snoc HB.out]
                        simpa [ints, iV] using h1
                      obtain ⟨_, ⟨_, h4⟩ | ⟨g, cap, cur, rfl, _⟩⟩ := id h3
                      · omega
                      · exact ⟨_, cap, rfl, (hBx.out.alloc hsx _).grown h2 (by simp; omega) (fun j hj => (hO'.lt j hj).1), h3⟩
                    clear hle hz HC hO hBx
                    go_wp2_with (at_builtin; refine wpList_append_own _ rfl (.tmp 65) (.tmp 67) 24 rfl wx.heap.size 3 i0 (.int .i64 0) 1 8 Tryd.underlying24 hi hz0 hz1 hz2 rfl (by decide) _ _ _ rfl (hO'.alloc _) ⟨wr.heap.size, 0, none⟩ 1 1 [.int .i64 (b : Int)] rfl rfl (cell_one_new _ _ _) (by simp [Value.oneCell']) (by unfold maxLen; omega) (by omega) (by simp; omega) ?_; intro v2 w3 hown2 hgrow2 _; obtain ⟨oa', oc', hv2, hB2, hO2⟩ := hF.out v2 w3 hown2 hgrow2; subst hv2; clear hF hown2 hgrow2 hO')
                    go_roundw
                    case rel => exact ⟨j + 1, oa', oc', b, by omega, by omega, rfl, rfl, HB, hB2, hO2⟩
                    case measure => simp [lenOf]; omega
                  · obtain rfl : j = s + 1 := by omega
                    have hFin : Hid (BestV w wr (bestK (lowW m (toE es)) (k + 1)) (.slice oa (s + 1) oc) ∧ Below w.heap.size w wr) := by
                      refine ⟨?_, HB1.out.trans (hBx.out.mono HB1.out.size)⟩
                      rw [HNEW.out]
                      have h := hO.out
                      rw [List.take_of_length_le (by rw [HLL.out]; exact Nat.le_refl _), show s + 1 = L.length from HLL.out.symm] at h
                      obtain ⟨h1, ⟨_, h4⟩ | ⟨g, cap, cur, h2, h3, h5⟩⟩ := id h
                      · have := HLL.out; omega
                      · cases h2
                        rw [← HLL.out]
                        exact ⟨g, oc, rfl, own_lower h HB1.out.size, by rw [HLL.out]; omega⟩
                    clear hO hBx ha
                    go_wp2
                    go_roundw
                    case rel => exact ⟨k + 1, _, rfl, by omega, by go_num, hFin⟩
                    case measure => simp [intOf]; omega
        · have hsm2 : ¬ (s : Int) + 1 ≤ (m : Int) := by omega
          have hFin : Hid (BestV w w1 (bestK (lowW m (toE es)) (k + 1)) bv ∧ Below w.heap.size w w1) := by
            refine ⟨?_, HB1.out⟩
            have hL : lowW m (toE es) k = none := by
              cases hL : lowW m (toE es) k with
              | none => rfl
              | some L =>
                obtain ⟨g1, g2, g3, ⟨c', g4⟩, g5⟩ := low_size HER.out hlt HF.out hL
                exact absurd g4 (hno.out (L.length - 1) c' (by omega))
            rw [best_none hL]
            exact HV.out
          clear hno
          go_wp2
          go_roundw
          case rel => exact ⟨k + 1, _, rfl, by omega, by go_num, hFin⟩
          case measure => simp [intOf]; omega
    · have hlt2 : ¬ (k : Int) < (m : Int) := by omega
      have hFin : Hid (BestV w wr (roundR m (toE es)) bv ∧ Below w.heap.size w wr) := by
        have h := hI.out
        rw [show k = m by omega, best_round HER.out] at h
        exact h
      clear hI
      go_wp2
      go_ret
      exact ⟨_, rfl, hFin.out⟩

end Go.Proofs.YtgllcbajgndldaaDoor.GraphRef
