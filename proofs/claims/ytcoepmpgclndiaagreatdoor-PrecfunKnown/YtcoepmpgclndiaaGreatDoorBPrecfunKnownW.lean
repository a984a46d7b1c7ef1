/-
  Texts that stand together: PrecfunKnownW.
-/
import Derived.Test.YtcoepmpgclndiaaGreatDoorBagPairOf
namespace Go.Proofs.YtcoepmpgclndiaaGreatDoor.PrecKnown
open Go.RowKit Go.Proofs.YtcoepmpgclndiaaGreatDoor.GramMath Go.Proofs.YtcoepmpgclndiaaGreatDoor.GramRow Go.Proofs.YtcoepmpgclndiaaGreatDoor.GramErrs Go.Proofs.YtcoepmpgclndiaaGreatDoor.GramAwake Go.Proofs.YtcoepmpgclndiaaGreatDoor.GramApart Go.Proofs.YtcoepmpgclndiaaGreatDoor.EndsMath Go.Proofs.YtcoepmpgclndiaaGreatDoor.EndsAwake Go.Proofs.YtcoepmpgclndiaaGreatDoor.GramOpen Go.Proofs.YtcoepmpgclndiaaGreatDoor.MatrixMath Go.Proofs.YtcoepmpgclndiaaGreatDoor.MatrixPut Go.Proofs.YtcoepmpgclndiaaGreatDoor.MatrixOf Go.Proofs.YtcoepmpgclndiaaGreatDoor.MatrixClash Go.Proofs.YtcoepmpgclndiaaGreatDoor.GraphMath Go.Proofs.YtcoepmpgclndiaaGreatDoor.GraphNet Go.Proofs.YtcoepmpgclndiaaGreatDoor.PrecFn Go.Proofs.YtcoepmpgclndiaaGreatDoor.GramLess Go.Proofs.YtcoepmpgclndiaaGreatDoor.PrecAwake Go.Proofs.YtcoepmpgclndiaaGreatDoor.SetsAlg Go.Proofs.YtcoepmpgclndiaaGreatDoor.GramSame Go.Proofs.YtcoepmpgclndiaaGreatDoor.OpRow
set_option linter.unusedVariables false
set_option linter.unusedSimpArgs false

/-- The memory of a grammar that is written out. -/
def aW (w : World) : World := ((((w.alloc (.cells #[.string ⟨#[97]⟩, .string ⟨#[98]⟩] 9)).alloc (.cells #[.string ⟨#[83]⟩] 9)).alloc (.cells #[.int .i64 0, .int .i64 1] 3)).alloc (.cells #[.int .i64 1, .int .i64 0] 3)).alloc (.cells #[.int .i64 0, .slice (some ⟨w.heap.size + 1 + 1, 0, none⟩) 2 2, .int .i64 0, .slice (some ⟨w.heap.size + 1 + 1 + 1, 0, none⟩) 2 2] 46)
set_option maxRecDepth 100000 in
set_option maxHeartbeats 4000000 in
theorem aW_row (w : World) : GRow (aW w) (some ⟨w.heap.size, 0, none⟩) (some ⟨w.heap.size + 1, 0, none⟩) (some ⟨w.heap.size + 1 + 1 + 1 + 1, 0, none⟩) aG ∧ Caps (aW w) (some ⟨w.heap.size + 1 + 1 + 1 + 1, 0, none⟩) 2 ∧ Below w.heap.size w (aW w) := by
  unfold aW
  refine ⟨⟨?_, ?_, ?_⟩, ?_, ?_⟩
  · intro i x hx
    match i, hx with
    | 0, hx => obtain rfl := Option.some.inj hx; exact ⟨w.heap.size, 0, rfl, by simp [go_sem]⟩
    | 1, hx => obtain rfl := Option.some.inj hx; exact ⟨w.heap.size, 0, rfl, by simp [go_sem]⟩
    | i + 2, hx => simp [aG] at hx
  · intro i x hx
    match i, hx with
    | 0, hx => obtain rfl := Option.some.inj hx; exact ⟨w.heap.size + 1, 0, rfl, by simp [go_sem]⟩
    | i + 1, hx => simp [aG] at hx
  · intro i r hr
    match i, hr with
    | 0, hr => obtain rfl := Option.some.inj hr; exact ⟨w.heap.size + 1 + 1 + 1 + 1, 0, some ⟨w.heap.size + 1 + 1, 0, none⟩, 2, rfl, by simp [go_sem], by simp [go_sem], two_int (by simp [go_sem]) (by simp [go_sem])⟩
    | 1, hr => obtain rfl := Option.some.inj hr; exact ⟨w.heap.size + 1 + 1 + 1 + 1, 0, some ⟨w.heap.size + 1 + 1 + 1, 0, none⟩, 2, rfl, by simp [go_sem], by simp [go_sem], two_int (by simp [go_sem]) (by simp [go_sem])⟩
    | i + 2, hr => simp [aG] at hr
  · intro i hi b off hb qa n qc hq
    obtain ⟨rfl, rfl⟩ : w.heap.size + 1 + 1 + 1 + 1 = b ∧ 0 = off := by simpa using hb
    match i, hi with
    | 0, _ =>
      simp [go_sem] at hq
      omega
    | 1, _ =>
      simp [go_sem] at hq
      omega
  · exact (((((Below.refl _ _).alloc (Nat.le_refl _) _).alloc (by simp; try omega) _).alloc (by simp; try omega) _).alloc (by simp; try omega) _).alloc (by simp; try omega) _

theorem tame0 : Tame 0 (fun _ _ => 0) := fun a b x _ _ h => by
  have := holds_low h
  omega
theorem eql_pair (w : World) : (binOp .eql 50 (.agg #[.int .i64 0, .int .i64 0, .int .i64 1, .int .i64 3]) (.agg #[.int .i64 0, .int .i64 0, .int .i64 1, .int .i64 3])).run Tryz.prog w = .ok (.bool true) w := by kernel_rfl
theorem kind_1 (p : Nat → Addr) (w : World) (hE : Errs w p) : Calls Tryz.prog 15 #[.iface 206 (.pointer (some (p 1)))] w fun e w' => e = .returned (.int .i64 1) ∧ Below w.heap.size w w' := by
  refine (kind_of 206 (.pointer (some (p 1))) 0 (fun k => p (k + 1)) w (by omega) hE.old ?_).mono ?_
  · intro W b hB hb
    by_cases he : p 1 = b
    · subst he
      simpa using is_same (p 1) W
    · simpa [he] using is_other (p 1) b W he ((hE.1 0 (by omega)).2.below hB (Nat.le_refl _)) hb
  · rintro e w1 ⟨rfl, hb1⟩
    exact ⟨ret_num (by simp), hb1⟩
theorem fits_none1 (W : World) : Calls Tryz.prog 11 #[.pointer none, .slice none 0 0, .slice none 0 0] W fun e w' => e = .returned (.bool true) ∧ Below W.heap.size W w' := by
  refine (fits_any none 0 (fun _ _ => 0) none none 0 0 [] [] W (.inl ⟨rfl, rfl⟩) (by decide) (fun i x hx => by simp at hx) (fun i x hx => by simp at hx)).mono ?_
  rintro e w' ⟨rfl, q, rfl⟩
  exact ⟨by kernel_rfl, bdr (Below.refl _ _) q⟩
theorem fits_none2 (W : World) : Calls Tryz.prog 11 #[.pointer none, .slice (some ⟨W.heap.size, 0, none⟩) 1 1, .slice none 0 0] (W.alloc (.cells #[.int .i64 0] 3)) fun e w' => e = .returned (.bool false) ∧ Below W.heap.size W w' := by
  have hB : Below W.heap.size W (W.alloc (.cells #[.int .i64 0] 3)) := (Below.refl _ _).alloc (Nat.le_refl _) _
  have hr : RowAt (W.alloc (.cells (intsA [0]) 3)) W.heap.size 3 (intsA [0]) := heap_new _ _
  refine (fits_any none 0 (fun _ _ => 0) (some ⟨W.heap.size, 0, none⟩) none 1 0 [0] [] (W.alloc (.cells #[.int .i64 0] 3)) (.inl ⟨rfl, rfl⟩) (by decide) (intsA_row hr) (fun i x hx => by simp at hx)).mono ?_
  rintro e w' ⟨rfl, q, rfl⟩
  exact ⟨by kernel_rfl, bdr hB q⟩

set_option maxRecDepth 100000 in
set_option maxHeartbeats 16000000 in
theorem walk (p : Nat → Addr) (w : World) (hE : Errs w p) (hT : Tab w) (hTG : 16 < w.heap.size) (hty : ErrType w) :
    Calls Tryz.prog 3 #[] w fun e w' => e = .returned (.bool true) ∧ Below w.heap.size w w' := by
  have hneq := neq_nil
  have HE : Hid (Errs w p ∧ Tab w ∧ ErrType w) := ⟨hE, hT, hty⟩
  clear hE hT hty
  go_enter Tryz.func3, Tryz.ntmps3
  go_wp2_with fail
  refine (sumsP_any w).mono ?_
  rintro e w1 ⟨⟨ta, na, ra, rfl, hG1, hc1⟩, hb1⟩
  have hs1 := hb1.size
  have hof := MOf_top ta na ra 2 2 3 sG p w1 hG1 hc1 s_ok (by decide) (by decide) (HE.out.1.sents.below hb1 (Nat.le_refl _)) (SetsEach.Tab.from HE.out.2.1 hb1 hTG) (by omega)
  rw [s_check] at hof
  replace hof : Calls Tryz.prog 5 #[.agg #[.slice ta 2 2, .slice na 2 2, .int .i64 0, .slice ra 3 3]] w1 fun e w' => (∃ u x, e = .returned (.tuple #[u, x]) ∧ MOfV w1.heap.size sG w' u ∧ CkV w1.heap.size p (0, none) w' x) ∧ Below w1.heap.size w1 w' := hof
  clear hG1 hc1
  go_wp2_with fail
  refine hof.mono ?_
  rintro e w2 ⟨⟨u, y, rfl, hO, hy⟩, hb2⟩
  obtain rfl : y = .nilIface := hy
  rcases hO with ⟨_, M, S, rfl, _, hm, hi⟩ | ⟨hno, _⟩
  rotate_left
  · exact absurd (by rw [s_check]) hno
  have hB2 : Below w.heap.size w w2 := hb1.trans (hb2.mono hb1.size)
  have HM : Hid (MatAt w2 M ((3 : Nat) : Int) S) := hm
  have HI : Hid (IsMat sG S) := hi
  have hgr := graph_any (some ⟨M, 0, none⟩) 3 S p w2 (.inr ⟨M, rfl, HM.out⟩) (by decide) ((HE.out.1.1 0 (by omega)).1.below hB2 (Nat.le_refl _)) ((HE.out.1.1 4 (by omega)).1.below hB2 (Nat.le_refl _))
  clear hof hm hi hb1 hb2 hs1
  go_wp2_with fail
  refine hgr.mono ?_
  rintro e w3 ⟨v, rfl, hV, hb3⟩
  have hB3 : Below w.heap.size w w3 := hB2.trans (hb3.mono hB2.size)
  have hs3 := hB3.size
  have hnc : clL 3 S = [] := clash_S s_good s_left s_right HI.out s_no
  rcases hV with ⟨h, _⟩ | ⟨_, x, l, ev, h, _⟩ | ⟨_, _, gc, ev, rfl, hgc, hrc, hEO⟩
  · cases h
  · rw [hnc] at h; cases h
  obtain ⟨ea, ec, rfl, hER⟩ := own_eformP hEO
  obtain ⟨e1, e2⟩ := s_edS HI.out
  have e1' : edgeL (rY 3 S) (rQ 3 S) (rK 3 S) 3 = [(0, 3), (0, 5), (1, 3), (1, 5), (3, 2), (4, 0), (4, 2)] := e1
  have HER : Hid (ERow w3 ea [(0, 3), (0, 5), (1, 3), (1, 5), (3, 2), (4, 0), (4, 2)]) := by rw [← e1]; exact hER
  have HRC : Hid (IRow w3 (some ⟨gc, 0, none⟩) [0, 1, 2, 3, 4, 5]) := by
    have e2' : classL (rQ 3 S) 3 = [0, 1, 2, 3, 4, 5] := e2
    rw [e2'] at hrc
    exact intsA_row hrc
  have HM3 : Hid (MatAt w3 M ((3 : Nat) : Int) S) := HM.out.below hb3 HM.out.lt
  rw [e1', show 2 * 3 = 6 from rfl, show ([(0, 3), (0, 5), (1, 3), (1, 5), (3, 2), (4, 0), (4, 2)] : List (Int × Int)).length = 7 from rfl]
  have haw := awake_any p w3 (HE.out.1.below hB3 (Nat.le_refl _)) (SetsEach.Tab.from HE.out.2.1 hB3 hTG) (by omega)
  clear hgr hrc hER hEO e1 e1' e2 hnc HM hB2 hs3 hgc
  go_wp2_with fail
  refine haw.mono ?_
  rintro e w4 ⟨rfl, hb4⟩
  have hB4 : Below w.heap.size w w4 := hB3.trans (hb4.mono hB3.size)
  have h4 := ints_lit (some ⟨gc, 0, none⟩) 6 [0, 1, 2, 3, 4, 5] w4 (IRow.below HRC.out hb4 (Nat.le_refl _)) (by decide)
  replace h4 : Calls Tryz.prog 9 #[.slice (some ⟨gc, 0, none⟩) 6 6, .slice (some ⟨w4.heap.size, 0, none⟩) 6 6] (w4.alloc (.cells #[.int .i64 0, .int .i64 1, .int .i64 2, .int .i64 3, .int .i64 4, .int .i64 5] 3)) fun e w' => e = .returned (.bool true) ∧ Below w4.heap.size w4 w' := h4
  clear haw
  go_wp2_with fail
  refine h4.mono ?_
  rintro e w5 ⟨rfl, hb5⟩
  have hB5 : Below w.heap.size w w5 := hB4.trans (hb5.mono hB4.size)
  have hb35 : Below w3.heap.size w3 w5 := hb4.trans (hb5.mono hb4.size)
  have h5 := edges_lit ea ec [(0, 3), (0, 5), (1, 3), (1, 5), (3, 2), (4, 0), (4, 2)] w5 (ERow.below HER.out hb35 (Nat.le_refl _)) (by decide)
  replace h5 : Calls Tryz.prog 10 #[.slice ea 7 ec, .slice (some ⟨w5.heap.size, 0, none⟩) 7 7] (w5.alloc (.cells #[.int .i64 0, .int .i64 3, .int .i64 0, .int .i64 5, .int .i64 1, .int .i64 3, .int .i64 1, .int .i64 5, .int .i64 3, .int .i64 2, .int .i64 4, .int .i64 0, .int .i64 4, .int .i64 2] 39)) fun e w' => e = .returned (.bool true) ∧ Below w5.heap.size w5 w' := h5
  clear h4 hB3 hB4
  go_wp2_with fail
  refine h5.mono ?_
  rintro e w6 ⟨rfl, hb6⟩
  have hB6 : Below w.heap.size w w6 := hB5.trans (hb6.mono hB5.size)
  have hb36 : Below w3.heap.size w3 w6 := hb35.trans (hb6.mono hb35.size)
  obtain ⟨k1, k2, k3, k4⟩ := s_fit1 HI.out
  have h6 := fits_lit M 3 S [2, 2, 0] [1, 3, 0] w6 (HM3.out.below hb36 HM3.out.lt) (by decide)
  rw [k1] at h6
  replace h6 : Calls Tryz.prog 11 #[.pointer (some ⟨M, 0, none⟩), .slice (some ⟨w6.heap.size, 0, none⟩) 3 3, .slice (some ⟨w6.heap.size + 1, 0, none⟩) 3 3] ((w6.alloc (.cells #[.int .i64 2, .int .i64 2, .int .i64 0] 3)).alloc (.cells #[.int .i64 1, .int .i64 3, .int .i64 0] 3)) fun e w' => e = .returned (.bool true) ∧ Below w6.heap.size w6 w' := h6
  clear h5 hB5 hb35 HER HRC hb4 hb5 hb3
  go_wp2_with fail
  refine h6.mono ?_
  rintro e w7 ⟨rfl, hb7⟩
  have hB7 : Below w.heap.size w w7 := hB6.trans (hb7.mono hB6.size)
  have hb37 : Below w3.heap.size w3 w7 := hb36.trans (hb7.mono hb36.size)
  have h7 := fits_lit M 3 S [3, 4, 0] [2, 5, 0] w7 (HM3.out.below hb37 HM3.out.lt) (by decide)
  rw [k2] at h7
  replace h7 : Calls Tryz.prog 11 #[.pointer (some ⟨M, 0, none⟩), .slice (some ⟨w7.heap.size, 0, none⟩) 3 3, .slice (some ⟨w7.heap.size + 1, 0, none⟩) 3 3] ((w7.alloc (.cells #[.int .i64 3, .int .i64 4, .int .i64 0] 3)).alloc (.cells #[.int .i64 2, .int .i64 5, .int .i64 0] 3)) fun e w' => e = .returned (.bool true) ∧ Below w7.heap.size w7 w' := h7
  clear h6 hB6 hb36 hb7
  go_wp2_with fail
  refine h7.mono ?_
  rintro e w8 ⟨rfl, hb8⟩
  have hB8 : Below w.heap.size w w8 := hB7.trans (hb8.mono hB7.size)
  have hb38 : Below w3.heap.size w3 w8 := hb37.trans (hb8.mono hb37.size)
  have h8 := fits_lit M 3 S [2, 2, 0] [1, 2, 0] w8 (HM3.out.below hb38 HM3.out.lt) (by decide)
  rw [k3] at h8
  replace h8 : Calls Tryz.prog 11 #[.pointer (some ⟨M, 0, none⟩), .slice (some ⟨w8.heap.size, 0, none⟩) 3 3, .slice (some ⟨w8.heap.size + 1, 0, none⟩) 3 3] ((w8.alloc (.cells #[.int .i64 2, .int .i64 2, .int .i64 0] 3)).alloc (.cells #[.int .i64 1, .int .i64 2, .int .i64 0] 3)) fun e w' => e = .returned (.bool false) ∧ Below w8.heap.size w8 w' := h8
  clear h7 hB7 hb37 hb8
  go_wp2_with fail
  refine h8.mono ?_
  rintro e w9 ⟨rfl, hb9⟩
  have hB9 : Below w.heap.size w w9 := hB8.trans (hb9.mono hB8.size)
  have hb39 : Below w3.heap.size w3 w9 := hb38.trans (hb9.mono hb38.size)
  have h9 := fits_lit M 3 S [2, 2] [1, 3, 0] w9 (HM3.out.below hb39 HM3.out.lt) (by decide)
  rw [k4] at h9
  replace h9 : Calls Tryz.prog 11 #[.pointer (some ⟨M, 0, none⟩), .slice (some ⟨w9.heap.size, 0, none⟩) 2 2, .slice (some ⟨w9.heap.size + 1, 0, none⟩) 3 3] ((w9.alloc (.cells #[.int .i64 2, .int .i64 2] 3)).alloc (.cells #[.int .i64 1, .int .i64 3, .int .i64 0] 3)) fun e w' => e = .returned (.bool false) ∧ Below w9.heap.size w9 w' := h9
  clear h8 hB8 hb38 hb9
  go_wp2_with fail
  refine h9.mono ?_
  rintro e w10 ⟨rfl, hb10⟩
  have hB10 : Below w.heap.size w w10 := hB9.trans (hb10.mono hB9.size)
  clear h9 hB9 hb39 hb10 HM3 HI k1 k2 k3 k4
  obtain ⟨hGa, hca, hba⟩ := aW_row w10
  have hBa : Below w.heap.size w (aW w10) := hB10.trans (hba.mono hB10.size)
  have hsa := hBa.size
  have ha := lawof_any (some ⟨w10.heap.size, 0, none⟩) (some ⟨w10.heap.size + 1, 0, none⟩) (some ⟨w10.heap.size + 1 + 1 + 1 + 1, 0, none⟩) 2 1 2 aG p (aW w10) hGa hca a_ok (by decide) (by decide) (HE.out.1.below hBa (Nat.le_refl _)) (SetsEach.Tab.from HE.out.2.1 hBa hTG) (by omega) a_check a_good (fun S hS => clash_S a_good a_left a_right hS a_no)
  replace ha : Calls Tryz.prog 12 #[.agg #[.slice (some ⟨w10.heap.size, 0, none⟩) 2 2, .slice (some ⟨w10.heap.size + 1, 0, none⟩) 1 1, .int .i64 0, .slice (some ⟨w10.heap.size + 1 + 1 + 1 + 1, 0, none⟩) 2 2]] (aW w10) fun e w' => (∃ S f h c y, e = .returned (.tuple #[.agg #[f, h, c, y], .int .i64 0]) ∧ IsMat aG S ∧ FnL w' 3 S f h c y) ∧ Below (aW w10).heap.size (aW w10) w' := ha
  obtain ⟨WA, hWA⟩ : ∃ WA, WA = aW w10 := ⟨_, rfl⟩
  have HWA : Hid (WA = aW w10) := hWA
  have HBA : Hid (Below w.heap.size w WA) := by rw [hWA]; exact hBa
  rw [← hWA] at ha
  rw [show WA = ((((w10.alloc (.cells #[.string ⟨#[97]⟩, .string ⟨#[98]⟩] 9)).alloc (.cells #[.string ⟨#[83]⟩] 9)).alloc (.cells #[.int .i64 0, .int .i64 1] 3)).alloc (.cells #[.int .i64 1, .int .i64 0] 3)).alloc (.cells #[.int .i64 0, .slice (some ⟨w10.heap.size + 1 + 1, 0, none⟩) 2 2, .int .i64 0, .slice (some ⟨w10.heap.size + 1 + 1 + 1, 0, none⟩) 2 2] 46) from hWA] at ha
  clear hGa hca hba hBa hsa hWA
  go_wp2_with fail
  refine ha.mono ?_
  rw [show ((((w10.alloc (.cells #[.string ⟨#[97]⟩, .string ⟨#[98]⟩] 9)).alloc (.cells #[.string ⟨#[83]⟩] 9)).alloc (.cells #[.int .i64 0, .int .i64 1] 3)).alloc (.cells #[.int .i64 1, .int .i64 0] 3)).alloc (.cells #[.int .i64 0, .slice (some ⟨w10.heap.size + 1 + 1, 0, none⟩) 2 2, .int .i64 0, .slice (some ⟨w10.heap.size + 1 + 1 + 1, 0, none⟩) 2 2] 46) = WA from HWA.out.symm]
  rintro e w11 ⟨⟨Sa, f, h, c, y, rfl, hi, hF⟩, hb11⟩
  have hB11 : Below w.heap.size w w11 := HBA.out.trans (hb11.mono HBA.out.size)
  obtain ⟨k1, k2, k3, k4⟩ := a_fns hi
  obtain ⟨⟨fa, fk, rfl, f1⟩, ⟨ga, gk, rfl, g1⟩, ⟨ca, ck, rfl, c1⟩, ⟨ya, yk, rfl, y1⟩⟩ := hF
  rw [k1] at f1 ⊢
  rw [k2] at g1 ⊢
  rw [k4] at y1 ⊢
  rw [k3] at c1
  obtain ⟨W12, hW12⟩ : ∃ W12, W12 = w11.alloc (.cells #[.slice fa 3 fk, .slice ga 3 gk, .slice ca 6 ck, .slice ya 0 yk] 42) := ⟨_, rfl⟩
  have hb12 : Below w11.heap.size w11 W12 := by rw [hW12]; exact (Below.refl _ _).alloc (Nat.le_refl _) _
  have hB12 : Below w.heap.size w W12 := hB11.trans (hb12.mono hB11.size)
  have hr12 : RowAt W12 w11.heap.size 42 #[.slice fa 3 fk, .slice ga 3 gk, .slice ca 6 ck, .slice ya 0 yk] := by rw [hW12]; exact heap_new _ _
  have HX : Hid (∀ w9, Below W12.heap.size W12 w9 → IRow w9 fa [1, 1, 0] ∧ IRow w9 ga [1, 1, 0] ∧ RowAt w9 w11.heap.size 42 #[.slice fa 3 fk, .slice ga 3 gk, .slice ca 6 ck, .slice ya 0 yk]) := fun w9 h9 => ⟨IRow.below (IRow.below f1 hb12 (Nat.le_refl _)) h9 (Nat.le_refl _), IRow.below (IRow.below g1 hb12 (Nat.le_refl _)) h9 (Nat.le_refl _), hr12.below h9 hr12.lt⟩
  have d2 := hr12.cell (q := 2) (v := .slice ca 6 ck) rfl
  have hq := ints_lit ca ck [0, 1, 2, 1, 0, 3] W12 (IRow.below c1 hb12 (Nat.le_refl _)) (by decide)
  replace hq : Calls Tryz.prog 9 #[.slice ca 6 ck, .slice (some ⟨W12.heap.size, 0, none⟩) 6 6] (W12.alloc (.cells #[.int .i64 0, .int .i64 1, .int .i64 2, .int .i64 1, .int .i64 0, .int .i64 3] 3)) fun e w' => e = .returned (.bool true) ∧ Below W12.heap.size W12 w' := hq
  have HB12 : Hid (Below w.heap.size w W12) := hB12
  have HW12 : Hid (W12 = w11.alloc (.cells #[.slice fa 3 fk, .slice ga 3 gk, .slice ca 6 ck, .slice ya 0 yk] 42)) := hW12
  clear ha HWA HBA hb11 hB11 k1 k2 k3 k4 f1 g1 c1 y1 hi hb12 hB12 hr12 hB10
  rw [hW12] at d2 hq
  rw [World.size_alloc] at hq
  clear hW12
  go_wp2_with fail
  refine hq.mono ?_
  rintro e w13 ⟨rfl, hb13⟩
  rw [← World.size_alloc (w := w11), ← HW12.out] at hb13
  have hb13' : Below W12.heap.size W12 w13 := hb13
  clear hb13
  obtain ⟨xf, _, xr⟩ := HX.out w13 hb13'
  have d0 := xr.cell (q := 0) (v := .slice fa 3 fk) rfl
  have hq2 := ints_lit fa fk [1, 1, 0] w13 xf (by decide)
  replace hq2 : Calls Tryz.prog 9 #[.slice fa 3 fk, .slice (some ⟨w13.heap.size, 0, none⟩) 3 3] (w13.alloc (.cells #[.int .i64 1, .int .i64 1, .int .i64 0] 3)) fun e w' => e = .returned (.bool true) ∧ Below w13.heap.size w13 w' := hq2
  clear hq d2 xf xr
  go_wp2_with fail
  refine hq2.mono ?_
  rintro e w14 ⟨rfl, hb14⟩
  have hb14' : Below W12.heap.size W12 w14 := hb13'.trans (hb14.mono hb13'.size)
  obtain ⟨_, xg, xr⟩ := HX.out w14 hb14'
  have d1 := xr.cell (q := 1) (v := .slice ga 3 gk) rfl
  have hq3 := ints_lit ga gk [1, 1, 0] w14 xg (by decide)
  replace hq3 : Calls Tryz.prog 9 #[.slice ga 3 gk, .slice (some ⟨w14.heap.size, 0, none⟩) 3 3] (w14.alloc (.cells #[.int .i64 1, .int .i64 1, .int .i64 0] 3)) fun e w' => e = .returned (.bool true) ∧ Below w14.heap.size w14 w' := hq3
  clear hq2 d0 xg xr hb14 hb13'
  go_wp2_with fail
  refine hq3.mono ?_
  rintro e w15 ⟨rfl, hb15⟩
  have hb15' : Below W12.heap.size W12 w15 := hb14'.trans (hb15.mono hb14'.size)
  have HB15 : Hid (Below w.heap.size w w15) := HB12.out.trans (hb15'.mono HB12.out.size)
  clear hq3 d1 hb15 hb14' hb15' HX HB12 HW12
  go_wp2_with fail
  refine (sumsP_any w15).mono ?_
  rintro e w16 ⟨⟨ta6, na6, ra6, rfl, hG6, hc6⟩, hb16⟩
  obtain ⟨b0, o0, r0, c0, rfl, l0, s0, i0⟩ := hG6.2.2 0 ⟨0, [-1, 0, -2]⟩ rfl
  obtain ⟨b0', o0', r1, c1, hab, l1, s1, i1⟩ := hG6.2.2 1 ⟨0, [-2]⟩ rfl
  cases hab
  obtain ⟨b0', o0', r2, c2, hab, l2, s2, i2⟩ := hG6.2.2 2 ⟨1, [1]⟩ rfl
  cases hab
  have q0 : 3 ≤ c0 := hc6 0 (by decide) b0 o0 rfl r0 3 c0 s0
  have q1 : 1 ≤ c1 := hc6 1 (by decide) b0 o0 rfl r1 1 c1 s1
  have q2 : 1 ≤ c2 := hc6 2 (by decide) b0 o0 rfl r2 1 c2 s2
  obtain ⟨X, hXe⟩ : ∃ X, X = ((w16.alloc (.cells #[.slice ta6 2 2, .slice na6 2 2, .int .i64 0, .slice (some ⟨b0, o0, none⟩) 3 3] 30)).alloc (.cells #[.int .i64 (-1), .int .i64 0, .int .i64 (-1)] 3)).alloc (.cells #[.int .i64 0, .slice (some ⟨w16.heap.size + 1, 0, none⟩) 3 3] 46) := ⟨_, rfl⟩
  have hX : Below w16.heap.size w16 X := by rw [hXe]; exact (((Below.refl _ _).alloc (Nat.le_refl _) _).alloc (by simp) _).alloc (by simp; omega) _
  have zX : X.heap.size = w16.heap.size + 3 := by rw [hXe]; simp
  have rX0 : RowAt X w16.heap.size 30 #[.slice ta6 2 2, .slice na6 2 2, .int .i64 0, .slice (some ⟨b0, o0, none⟩) 3 3] := by rw [hXe]; exact RowAt.alloc (RowAt.alloc (heap_new _ _) _) _
  have rX1 : RowAt X (w16.heap.size + 1) 3 (intsA [-1, 0, -1]) := by
    rw [hXe]
    have h := heap_new (w16.alloc (.cells #[.slice ta6 2 2, .slice na6 2 2, .int .i64 0, .slice (some ⟨b0, o0, none⟩) 3 3] 30)) (.cells #[.int .i64 (-1), .int .i64 0, .int .i64 (-1)] 3)
    rw [World.size_alloc] at h
    exact RowAt.alloc h _
  have rX2 : RowAt X (w16.heap.size + 1 + 1) 46 #[.int .i64 0, .slice (some ⟨w16.heap.size + 1, 0, none⟩) 3 3] := by
    rw [hXe]
    have h := heap_new ((w16.alloc (.cells #[.slice ta6 2 2, .slice na6 2 2, .int .i64 0, .slice (some ⟨b0, o0, none⟩) 3 3] 30)).alloc (.cells #[.int .i64 (-1), .int .i64 0, .int .i64 (-1)] 3)) (.cells #[.int .i64 0, .slice (some ⟨w16.heap.size + 1, 0, none⟩) 3 3] 46)
    rw [World.size_alloc, World.size_alloc] at h
    exact h
  obtain ⟨j0, hi, hz0, hz1, hz2⟩ := info_parts infoR
  have hol : (lqS r0 r1 r2 c0 c1 c2).length = 3 * 2 := rfl
  have hqX : ∀ b, some (⟨b0, o0, none⟩ : Addr) = some b → ∀ (j : Nat) u, (lqS r0 r1 r2 c0 c1 c2)[j]? = some u → X.cell? (b.add j) = some u := fun b hb j u hj => by
    cases hb
    match j, hj with
    | 0, hj => obtain rfl := Option.some.inj hj; exact (hX.cell (cell_lt l0)).trans l0
    | 1, hj => obtain rfl := Option.some.inj hj; exact (hX.cell (cell_lt s0)).trans s0
    | 2, hj => obtain rfl := Option.some.inj hj; exact (hX.cell (cell_lt l1)).trans l1
    | 3, hj => obtain rfl := Option.some.inj hj; exact (hX.cell (cell_lt s1)).trans s1
    | 4, hj => obtain rfl := Option.some.inj hj; exact (hX.cell (cell_lt l2)).trans l2
    | 5, hj => obtain rfl := Option.some.inj hj; exact (hX.cell (cell_lt s2)).trans s2
    | j + 6, hj => simp [lqS] at hj
  have hnew : ∀ (j : Nat) u, [Value.int .i64 0, .slice (some ⟨w16.heap.size + 1, 0, none⟩) 3 3][j]? = some u → X.cell? ((⟨w16.heap.size + 1 + 1, 0, none⟩ : Addr).add j) = some u := fun j u hj => by
    match j, hj with
    | 0, hj => obtain rfl := Option.some.inj hj; exact rX2.cell (q := 0) rfl
    | 1, hj => obtain rfl := Option.some.inj hj; exact rX2.cell (q := 1) rfl
    | j + 2, hj => simp at hj
  have HB16 : Hid (Below w.heap.size w w16) := HB15.out.trans (hb16.mono HB15.out.size)
  subst hXe
  clear rX2 hb16 hc6 l0 l1 l2 s0 s1 s2 HB15
  go_wp2_with (at_builtin; refine wpList_append_grows _ rfl (.tmp 117) (.tmp 120) 28 rfl 46 j0 (.agg #[.int .i64 0, .slice none 0 0]) 2 32 Tryz.underlying28 hi hz0 hz1 hz2 rfl (by decide) (some ⟨b0, o0, none⟩) 3 3 (lqS r0 r1 r2 c0 c1 c2) rfl (fun h => by cases h) hol hqX ⟨w16.heap.size + 1 + 1, 0, none⟩ 1 1 [.int .i64 0, .slice (some ⟨w16.heap.size + 1, 0, none⟩) 3 3] rfl rfl hnew (by simp [Value.oneCell']) (by decide) (by unfold maxLen; omega) (by omega) ?_; intro v5 w5 hown5 hgrow5; have hB5 := hX.grown hgrow5 (by omega) (fun k h => by cases h); have r50 : RowAt w5 w16.heap.size 30 #[.slice ta6 2 2, .slice na6 2 2, .int .i64 0, .slice (some ⟨b0, o0, none⟩) 3 3] := (hgrow5.block _ (by omega) (by simp)).trans rX0; have r51 : RowAt w5 (w16.heap.size + 1) 3 (intsA [-1, 0, -1]) := (hgrow5.block _ (by omega) (by simp)).trans rX1; obtain ⟨b5, c5, hv5, hG7, hc7, hr7, hB7⟩ := app_row hG6 i0 i1 i2 q0 q1 q2 hB5 r50 r51 (by omega) hown5; subst hv5; have cc0 := r50.cell (q := 0) rfl; have cc1 := r50.cell (q := 1) rfl; have cc2 := r50.cell (q := 2) rfl; have cc3 := r50.cell (q := 3) rfl; have ff5 := r50.frozen 3; have cd0 := hr7.cell (q := 0) rfl; have cd1 := hr7.cell (q := 1) rfl; have cd2 := hr7.cell (q := 2) rfl; have cd3 := hr7.cell (q := 3) rfl; clear hown5 hgrow5 r50 r51 hB5 hX rX0 rX1 hqX hnew zX)
  obtain ⟨W7, hW7⟩ : ∃ W7, W7 = w5.setCell ⟨w16.heap.size, 3, none⟩ (.slice (some ⟨b5, 0, none⟩) 4 c5) := ⟨_, rfl⟩
  rw [← hW7] at hG7 hc7 hB7
  rw [← hW7]
  have HB7 : Hid (Below w.heap.size w W7) := HB16.out.trans (hB7.mono HB16.out.size)
  have h7 := MOf_top ta6 na6 (some ⟨b5, 0, none⟩) 2 2 c5 cG p W7 hG7 hc7 c_ok (by decide) (by decide) (HE.out.1.sents.below HB7.out (Nat.le_refl _)) (SetsEach.Tab.from HE.out.2.1 HB7.out hTG) (by have := HB7.out.size; omega)
  rw [c_check] at h7
  replace h7 : Calls Tryz.prog 5 #[.agg #[.slice ta6 2 2, .slice na6 2 2, .int .i64 0, .slice (some ⟨b5, 0, none⟩) 4 c5]] W7 fun e w' => (∃ u x, e = .returned (.tuple #[u, x]) ∧ MOfV W7.heap.size cG w' u ∧ CkV W7.heap.size p (0, none) w' x) ∧ Below W7.heap.size W7 w' := h7
  refine h7.mono ?_
  rintro e w8 ⟨⟨u, y, rfl, hO, hy⟩, hb8⟩
  obtain rfl : y = .nilIface := hy
  rcases hO with ⟨_, M7, S7, rfl, _, hm7, hi7⟩ | ⟨hno, _⟩
  rotate_left
  · exact absurd (by rw [c_check]) hno
  have HB8 : Hid (Below w.heap.size w w8) := HB7.out.trans (hb8.mono HB7.out.size)
  have hof8 := of_any (some ⟨M7, 0, none⟩) 3 S7 p w8 (.inr ⟨M7, rfl, hm7⟩) (by decide) (tame_of c_good hi7) (HE.out.1.below HB8.out (Nat.le_refl _))
  have HCL : Hid (clL 3 S7 = [⟨0, 0, 1, 3⟩]) := c_clash hi7
  clear h7 hm7 hi7 hb8 hW7 hG7 hc7 hB7 cc0 cc1 cc2 cc3 ff5 cd0 cd1 cd2 cd3 hr7 HB16 HB7 hG6 i0 i1 i2 q0 q1 q2 hi hz0 hz1 hz2 hol
  go_wp2_with fail
  refine hof8.mono ?_
  rintro e w19 ⟨v, rfl, hV, hb19⟩
  have hB19 : Below w.heap.size w w19 := HB8.out.trans (hb19.mono HB8.out.size)
  rcases hV with ⟨h, _⟩ | ⟨_, x, l, ev, h, rfl, pb, hpb, rfl, hpr⟩ | ⟨_, h, _⟩ | ⟨_, h, _⟩
  · cases h
  rotate_left
  · rw [HCL.out] at h; cases h
  · rw [HCL.out] at h; cases h
  rw [HCL.out] at h
  cases h
  have HP : Hid (w19.heap[pb]? = some (.cells #[.int .i64 0, .int .i64 0, .int .i64 1, .int .i64 3, .iface 206 (.pointer (some (p 5)))] 68 (0, 0))) := hpr
  have hplt : pb < w19.heap.size := (Array.getElem?_eq_some_iff.1 HP.out).1
  obtain ⟨W20, hW20⟩ : ∃ W20, W20 = w19.alloc (.cells #[.slice none 0 0, .slice none 0 0, .slice none 0 0, .slice none 0 0] 42) := ⟨_, rfl⟩
  have hb20 : Below w19.heap.size w19 W20 := by rw [hW20]; exact (Below.refl _ _).alloc (Nat.le_refl _) _
  have HB20 : Hid (Below w.heap.size w W20) := hB19.trans (hb20.mono hB19.size)
  have HP20 : Hid (W20.heap[pb]? = some (.cells #[.int .i64 0, .int .i64 0, .int .i64 1, .int .i64 3, .iface 206 (.pointer (some (p 5)))] 68 (0, 0))) := (hb20.block pb hplt).trans HP.out
  have hpa := PairAs.pair_pair pb 0 0 1 3 (p 5) W20 (HE.out.2.2.below HB20.out (Nat.le_refl _)) HP20.out
  have HW20 : Hid (W20 = w19.alloc (.cells #[.slice none 0 0, .slice none 0 0, .slice none 0 0, .slice none 0 0] 42)) := hW20
  have hpl20 : pb < W20.heap.size := (Array.getElem?_eq_some_iff.1 HP20.out).1
  rw [hW20] at hpa
  have HPL : Hid (pb < W20.heap.size) := hpl20
  clear hof8 HCL hpr hpb HP hplt hb20 hW20 hB19 hb19 HB8 hpl20
  go_wp2_with fail
  refine hpa.mono ?_
  rw [← HW20.out]
  rintro e w21 ⟨rfl, hb21⟩
  have hB21 : Below w.heap.size w w21 := HB20.out.trans (hb21.mono HB20.out.size)
  obtain ⟨W22, hW22⟩ : ∃ W22, W22 = w21.alloc (.cells #[.int .i64 0, .int .i64 0, .int .i64 1, .int .i64 3] 50) := ⟨_, rfl⟩
  have hb22 : Below w21.heap.size w21 W22 := by rw [hW22]; exact (Below.refl _ _).alloc (Nat.le_refl _) _
  have hB22 : Below w.heap.size w W22 := hB21.trans (hb22.mono hB21.size)
  have hr22 : RowAt W22 w21.heap.size 50 #[.int .i64 0, .int .i64 0, .int .i64 1, .int .i64 3] := by rw [hW22]; exact heap_new _ _
  have HX : Hid (Below w.heap.size w W22 ∧ W22.heap[pb]? = some (.cells #[.int .i64 0, .int .i64 0, .int .i64 1, .int .i64 3, .iface 206 (.pointer (some (p 5)))] 68 (0, 0)) ∧ RowAt W22 w21.heap.size 50 #[.int .i64 0, .int .i64 0, .int .i64 1, .int .i64 3]) := ⟨hB22, (hb22.block pb (by have := hb21.size; have := HPL.out; omega)).trans ((hb21.block pb HPL.out).trans HP20.out), hr22⟩
  have hn := of_any none 0 (fun _ _ => 0) p W22 (.inl ⟨rfl, rfl⟩) (by decide) tame0 (HE.out.1.below hB22 (Nat.le_refl _))
  have HW22 : Hid (W22 = w21.alloc (.cells #[.int .i64 0, .int .i64 0, .int .i64 1, .int .i64 3] 50)) := hW22
  rw [hW22] at hn
  clear hpa HW20 HB20 HP20 HPL hb21 hB21 hb22 hB22 hr22 hW22
  go_wp2_with fail
  refine hn.mono ?_
  rw [← HW22.out]
  rintro e w23 ⟨v, rfl, hV, hb23⟩
  rcases hV with ⟨_, rfl⟩ | ⟨h, _⟩ | ⟨h, _⟩ | ⟨h, _⟩
  rotate_left
  · exact absurd rfl h
  · exact absurd rfl h
  · exact absurd rfl h
  obtain ⟨W24, hW24⟩ : ∃ W24, W24 = w23.alloc (.cells #[.slice none 0 0, .slice none 0 0, .slice none 0 0, .slice none 0 0] 42) := ⟨_, rfl⟩
  have hb24 : Below w23.heap.size w23 W24 := by rw [hW24]; exact (Below.refl _ _).alloc (Nat.le_refl _) _
  have HB24 : Hid (Below W22.heap.size W22 W24) := hb23.trans (hb24.mono hb23.size)
  have HBw : Hid (Below w.heap.size w W24) := HX.out.1.trans (HB24.out.mono HX.out.1.size)
  have hgr := graph_any none 0 (fun _ _ => 0) p W24 (.inl ⟨rfl, rfl⟩) (by decide) ((HE.out.1.1 0 (by omega)).1.below HBw.out (Nat.le_refl _)) ((HE.out.1.1 4 (by omega)).1.below HBw.out (Nat.le_refl _))
  have HW24 : Hid (W24 = w23.alloc (.cells #[.slice none 0 0, .slice none 0 0, .slice none 0 0, .slice none 0 0] 42)) := hW24
  rw [hW24] at hgr
  clear hn HW22 hb23 hb24 hW24
  go_wp2_with fail
  refine hgr.mono ?_
  rw [← HW24.out]
  rintro e w25 ⟨v, rfl, hV, hb25⟩
  rcases hV with ⟨_, rfl⟩ | ⟨h, _⟩ | ⟨h, _⟩
  rotate_left
  · exact absurd rfl h
  · exact absurd rfl h
  have HB25 : Hid (Below W22.heap.size W22 w25) := HB24.out.trans (hb25.mono HB24.out.size)
  have HBw5 : Hid (Below w.heap.size w w25) := HX.out.1.trans (HB25.out.mono HX.out.1.size)
  have hk := PrecKind.kind_pair p pb 0 0 1 3 w25 (HE.out.1.below HBw5.out (Nat.le_refl _)) ((HB25.out.block pb (Array.getElem?_eq_some_iff.1 HX.out.2.1).1).trans HX.out.2.1)
  clear hgr HW24 HB24 HBw hb25
  go_wp2_with fail
  refine hk.mono ?_
  rintro e w26 ⟨rfl, hb26⟩
  have HB26 : Hid (Below W22.heap.size W22 w26) := HB25.out.trans (hb26.mono HB25.out.size)
  have HBw6 : Hid (Below w.heap.size w w26) := HX.out.1.trans (HB26.out.mono HX.out.1.size)
  have hr26 := HX.out.2.2.below HB26.out HX.out.2.2.lt
  have d0 := hr26.cell (q := 0) rfl
  have d1 := hr26.cell (q := 1) rfl
  have d2 := hr26.cell (q := 2) rfl
  have d3 := hr26.cell (q := 3) rfl
  have heq := eql_pair
  have hk1 := kind_1 p w26 (HE.out.1.below HBw6.out (Nat.le_refl _))
  clear hk HB25 HBw5 hb26 hr26
  go_wp2_with fail
  refine hk1.mono ?_
  rintro e w27 ⟨rfl, hb27⟩
  have HB27 : Hid (Below w.heap.size w w27) := HBw6.out.trans (hb27.mono HBw6.out.size)
  have hk2 := kind_1 p w27 (HE.out.1.below HB27.out (Nat.le_refl _))
  clear hk1 d0 d1 d2 d3 heq HBw6 HB26 HX hb27
  go_wp2_with fail
  refine hk2.mono ?_
  rintro e w28 ⟨rfl, hb28⟩
  have HB28 : Hid (Below w.heap.size w w28) := HB27.out.trans (hb28.mono HB27.out.size)
  have hf1 := fits_none1 w28
  clear hk2 HB27 hb28
  go_wp2_with fail
  refine hf1.mono ?_
  rintro e w29 ⟨rfl, hb29⟩
  have HB29 : Hid (Below w.heap.size w w29) := HB28.out.trans (hb29.mono HB28.out.size)
  have hf2 := fits_none2 w29
  clear hf1 HB28 hb29
  go_wp2_with fail
  refine hf2.mono ?_
  rintro e w30 ⟨rfl, hb30⟩
  have HB30 : Hid (Below w.heap.size w w30) := HB29.out.trans (hb30.mono HB29.out.size)
  clear hf2 HB29 hb30
  go_wp2
  go_ret
  exact ⟨rfl, HB30.out⟩

end Go.Proofs.YtcoepmpgclndiaaGreatDoor.PrecKnown
