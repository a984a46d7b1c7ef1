/-
  The walk of GraphReach: it answers true for every graph and all nodes, and writes nothing that was there.
-/
import Derived.Test.YtgehiohieehgpaaDoorGraphRReach
import Derived.Test.YtgehiohieehgpaaDoorGraphOpen
import Derived.Test.YtgehiohieehgpaaDoorGramKinds
namespace Go.Proofs.YtgehiohieehgpaaDoor.GraphReachW
open Go.RowKit Go.Proofs.YtgehiohieehgpaaDoor.GramMath Go.Proofs.YtgehiohieehgpaaDoor.GramRow Go.Proofs.YtgehiohieehgpaaDoor.GramApart Go.Proofs.YtgehiohieehgpaaDoor.GramLent Go.Proofs.YtgehiohieehgpaaDoor.OpRow Go.Proofs.YtgehiohieehgpaaDoor.GraphNet Go.Proofs.YtgehiohieehgpaaDoor.GraphMath Go.Proofs.YtgehiohieehgpaaDoor.GraphFn Go.Proofs.YtgehiohieehgpaaDoor.GraphSort Go.Proofs.YtgehiohieehgpaaDoor.GraphRef Go.Proofs.YtgehiohieehgpaaDoor.GraphLent Go.Proofs.YtgehiohieehgpaaDoor.GramErrs Go.Proofs.YtgehiohieehgpaaDoor.GramSame
set_option linter.unusedVariables false
set_option linter.unusedSimpArgs false

theorem kind_e (p : Nat → Addr) (k : Nat) (w : World) (hE : Errs w p) (hk : k ≤ 15) : Calls Tryd.prog 12 #[ckK p k] w fun e w' => e = .returned (.int .i64 (k : Int)) ∧ Below w.heap.size w w' := by
  match k, hk with
  | 0, _ =>
    refine (kind_nil w).mono ?_
    rintro e w1 ⟨rfl, hw1⟩
    obtain rfl := hw1.symm
    exact ⟨rfl, Below.refl _ _⟩
  | k + 1, hk =>
    show Calls Tryd.prog 12 #[.iface 128 (.pointer (some (p (k + 1))))] w _
    refine (kind_of 128 (.pointer (some (p (k + 1)))) k (fun k => p (k + 1)) w (by omega) hE.old ?_).mono ?_
    · intro W b hB hb
      by_cases he : p (k + 1) = b
      · subst he
        simpa using is_same (p (k + 1)) W
      · simpa [he] using is_other (p (k + 1)) b W he ((hE.1 k (by omega)).2.below hB (Nat.le_refl _)) hb
    · rintro e w1 ⟨rfl, hb1⟩
      exact ⟨ret_num (by simp), hb1⟩

theorem mayE_le (n : Int) (es : List (Int × Int)) : mayE n es ≤ 12 := by
  unfold mayE
  split
  · omega
  split
  · omega
  split <;> omega
theorem reachC_le (n : Int) (es : List (Int × Int)) (fr : List Int) : reachC n es fr ≤ 12 := by
  have := mayE_le n es
  unfold reachC
  split
  · exact this
  split <;> omega
theorem reachL_len (n : Int) (es : List (Int × Int)) (fr : List Int) : (reachL n es fr).length ≤ 256 := by
  unfold reachL
  split
  · next h =>
    have h0 : mayE n es = 0 := by
      unfold reachC at h
      split at h
      · next h2 => exact absurd h h2
      · next h2 => simpa using h2
    obtain ⟨m, rfl, hm, _⟩ := mayE_zero h0
    rw [ints_length, Int.toNat_natCast]
    have := reach_len m (toE es) (fr.map Int.toNat)
    omega
  · simp

set_option maxRecDepth 100000 in
set_option maxHeartbeats 4000000 in
theorem walk (n : Int) (ea : Option Addr) (ec : Nat) (es : List (Int × Int)) (fa : Option Addr) (fc : Nat) (fr : List Int) (p : Nat → Addr) (W : World) (hn : I64 n) (hE : ERow W ea es) (hl : es.length * 16 ≤ 140737488351232) (hx : ∀ e ∈ es, I64 e.1 ∧ I64 e.2) (hEn : ea = none → es.length = 0 ∧ ec = 0) (hF : IRow W fa fr) (hfl : fr.length * 8 ≤ 140737488351232) (hf64 : ∀ x ∈ fr, I64 x) (hFn : fa = none → fr.length = 0 ∧ fc = 0) (hErr : Errs W p) :
    Calls Tryd.prog 5 #[.int .i64 n, .slice ea es.length ec, .slice fa fr.length fc] W fun e w' => e = .returned (.bool true) ∧ Below W.heap.size W w' := by
  have h1 := lentE ea ec es W hE hl hEn
  go_enter Tryd.func5, Tryd.ntmps5
  go_wp2_with fail
  refine h1.mono ?_
  rintro e w1 ⟨g, c, rfl, hL1, hb1⟩
  have hF1 := IRow.below hF hb1 (Nat.le_refl _)
  have h2 := lentI fa fc fr w1 hF1 hfl hFn
  clear h1
  go_wp2_with fail
  refine h2.mono ?_
  rintro e w2 ⟨⟨g2, c2, rfl, hc2, hc2m, hg2, hr2⟩, hb2⟩
  have hB2 : Below W.heap.size W w2 := hb1.trans (hb2.mono hb1.size)
  have hL2 := hL1.below hb2
  have h3 := Reach_top p n (some ⟨g, 0, none⟩) c es (some ⟨g2, 0, none⟩) c2 fr w2 ⟨hn, ERow.front hL2.row, hErr.sentG.below hB2 (Nat.le_refl _), by omega, hx⟩ (row_frontI hr2) (by omega) hf64
  clear h2 hL1 hF1
  go_wp2_with fail
  refine h3.mono ?_
  rintro e w3 ⟨v, rfl, ⟨rv, rfl, hO3⟩, hb3⟩
  have hB3 : Below W.heap.size W w3 := hB2.trans (hb3.mono hB2.size)
  have h4 := rreach_any n ea ec es fa fc fr w3 hn (hE.below hB3 (Nat.le_refl _)) (by omega) hx (IRow.below hF hB3 (Nat.le_refl _)) (by omega) hf64
  clear h3
  go_wp2_with fail
  refine h4.mono ?_
  rintro e w4 ⟨rv', rfl, hO4, hb4⟩
  have hB4 : Below W.heap.size W w4 := hB3.trans (hb4.mono hB3.size)
  have h5 := kind_e p (reachC n es fr) w4 (hErr.below hB4 (Nat.le_refl _)) (by have := reachC_le n es fr; omega)
  clear h4
  go_wp2_with fail
  refine h5.mono ?_
  rintro e w5 ⟨rfl, hb5⟩
  have hB5 : Below W.heap.size W w5 := hB4.trans (hb5.mono hB4.size)
  have hO3' := GramLent.own_below (GramLent.own_below hO3 hb4) hb5
  have hO4' := GramLent.own_below hO4 hb5
  obtain ⟨a1, c1, rfl, i1⟩ := own_form hO3'
  obtain ⟨a2, c2', rfl, i2⟩ := own_form hO4'
  have hlen := reachL_len n es fr
  have h6 := ints_any a1 a2 c1 c2' (reachL n es fr) (reachL n es fr) w5 i1 i2 (by omega) (by omega)
  rw [show eqI (reachL n es fr) (reachL n es fr) = true by unfold eqI; simp] at h6
  have hz : (((reachC n es fr : Nat) : Int) == ((reachC n es fr : Nat) : Int)) = true := by simp
  have hL5 := ((hL2.below hb3).below hb4).below hb5
  have hr5 := ((hr2.below hb3 (Nat.le_refl _)).below hb4 (Nat.le_refl _)).below hb5 (Nat.le_refl _)
  have hE5 := hE.below hB5 (Nat.le_refl _)
  have hF5 := IRow.below hF hB5 (Nat.le_refl _)
  clear h5 hO3 hO4 hO3' hO4' i1 i2 hL2 hr2 hE hF hErr hB2 hB3 hB4 hb1 hb2 hb3 hb4 hb5
  go_wp2_with fail
  refine h6.mono ?_
  rintro e w6 ⟨rfl, q6, hw6⟩
  have hB6 : Below w5.heap.size w5 w6 := by rw [hw6]; exact drew_below _ _
  clear hw6
  have h7 := keptE W g ea c ec es w6 (by
    have := hL5.below hB6
    exact ⟨this.lt, this.max, by have := this.ge; have := hB5.size; exact Nat.le_trans hL5.ge (Nat.le_refl _), this.row⟩) (hE5.below hB6 (Nat.le_refl _)) (by omega)
  clear h6
  go_wp2_with fail
  refine h7.mono ?_
  rintro e w7 ⟨rfl, q7, hw7⟩
  have hB7 : Below w6.heap.size w6 w7 := by rw [hw7]; exact drew_below _ _
  clear hw7
  have h8 := keptI g2 fa c2 fc fr w7 ((hr5.below hB6 (Nat.le_refl _)).below hB7 (Nat.le_refl _)) ((IRow.below hF5 hB6 (Nat.le_refl _)).below hB7 (Nat.le_refl _)) (by omega) hc2
  clear h7
  go_wp2_with fail
  refine h8.mono ?_
  rintro e w8 ⟨rfl, q8, hw8⟩
  have hB8 : Below w7.heap.size w7 w8 := by rw [hw8]; exact drew_below _ _
  clear hw8
  have hfin : Hid (Below W.heap.size W w8) := hB5.trans (((hB6.mono hB5.size).trans (hB7.mono (by have := hB5.size; have := hB6.size; omega))).trans (hB8.mono (by have := hB5.size; have := hB6.size; have := hB7.size; omega)))
  clear h8 hB5 hB6 hB7 hB8 hL5 hr5 hE5 hF5
  go_wp2
  go_ret
  exact ⟨rfl, hfin.out⟩

end Go.Proofs.YtgehiohieehgpaaDoor.GraphReachW
