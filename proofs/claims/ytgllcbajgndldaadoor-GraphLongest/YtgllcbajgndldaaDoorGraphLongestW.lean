/-
  The walk of GraphLongest: it answers true for every graph, and writes nothing that was there.
-/
import Derived.Test.YtgllcbajgndldaaDoorGraphROrder
import Derived.Test.YtgllcbajgndldaaDoorGraphReachWalk
namespace Go.Proofs.YtgllcbajgndldaaDoor.GraphLongestW
open Go.RowKit Go.Proofs.YtgllcbajgndldaaDoor.GramMath Go.Proofs.YtgllcbajgndldaaDoor.GramRow Go.Proofs.YtgllcbajgndldaaDoor.GramApart Go.Proofs.YtgllcbajgndldaaDoor.GramLent Go.Proofs.YtgllcbajgndldaaDoor.OpRow Go.Proofs.YtgllcbajgndldaaDoor.GraphNet Go.Proofs.YtgllcbajgndldaaDoor.GraphMath Go.Proofs.YtgllcbajgndldaaDoor.GraphFn Go.Proofs.YtgllcbajgndldaaDoor.GraphSort Go.Proofs.YtgllcbajgndldaaDoor.GraphRef Go.Proofs.YtgllcbajgndldaaDoor.GraphLent Go.Proofs.YtgllcbajgndldaaDoor.GramErrs Go.Proofs.YtgllcbajgndldaaDoor.GramSame Go.Proofs.YtgllcbajgndldaaDoor.GraphReachW
set_option linter.unusedVariables false
set_option linter.unusedSimpArgs false

theorem lvL_len (n : Int) (es : List (Int × Int)) : (lvL n es).length ≤ 256 := by
  unfold lvL
  split
  · next h =>
    obtain ⟨m, rfl, hm, _⟩ := mayE_zero h
    split
    · rw [rowOf_length]; exact hm
    · simp
  · simp
theorem rdL_len (n : Int) (es : List (Int × Int)) : (rdL n es).length ≤ 256 := by
  unfold rdL
  split
  · next h =>
    obtain ⟨m, rfl, hm, _, _, hE⟩ := mayE_zero h
    split
    · simp
    · rw [ints_length]
      cases hr : roundR ((m : Int)).toNat (toE es) with
      | none => simp
      | some L =>
        obtain ⟨s, hR⟩ := roundR_some (m := m) hE hr
        have := (hR.nth hE).2.1
        simp
        omega
  · simp
theorem odL_len (n : Int) (es : List (Int × Int)) : (odL n es).length ≤ 256 := by
  unfold odL
  split
  · next h =>
    obtain ⟨m, rfl, hm, _⟩ := mayE_zero h
    split
    · next L hL =>
      rw [ints_length]
      have := (ord_of (m := m) (E := toE es) hL).len
      omega
    · simp
  · simp
theorem odC_le (n : Int) (es : List (Int × Int)) : odC n es ≤ 15 := by
  have := mayE_le n es
  unfold odC
  split
  · split <;> omega
  · omega

set_option maxRecDepth 100000 in
set_option maxHeartbeats 4000000 in
theorem walk (n : Int) (ea : Option Addr) (ec : Nat) (es : List (Int × Int)) (p : Nat → Addr) (W : World) (hn : I64 n) (hE : ERow W ea es) (hl : es.length * 16 ≤ 140737488351232) (hx : ∀ e ∈ es, I64 e.1 ∧ I64 e.2) (hEn : ea = none → es.length = 0 ∧ ec = 0) (hErr : Errs W p) :
    Calls Tryd.prog 3 #[.int .i64 n, .slice ea es.length ec] W fun e w' => e = .returned (.bool true) ∧ Below W.heap.size W w' := by
  have h1 := lentE ea ec es W hE hl hEn
  have HN : Hid (I64 n ∧ ∀ e ∈ es, I64 e.1 ∧ I64 e.2) := ⟨hn, hx⟩
  have HE : Hid (ERow W ea es) := hE
  have HR : Hid (Errs W p) := hErr
  clear hE hErr hn hx hEn
  go_enter Tryd.func3, Tryd.ntmps3
  go_wp2_with fail
  refine h1.mono ?_
  rintro e w1 ⟨g, c, rfl, hL1, hb1⟩
  have HL1 : Hid (_) := hL1
  have h2 := Longest_top p n (some ⟨g, 0, none⟩) c es w1 ⟨HN.out.1, ERow.front hL1.row, HR.out.sentG.below hb1 (Nat.le_refl _), by omega, HN.out.2⟩
  have HB1 : Hid (Below W.heap.size W w1) := hb1
  clear h1 hL1 hb1
  go_wp2_with fail
  refine h2.mono ?_
  rintro e w2 ⟨v, rfl, ⟨lv, rv, rfl, hO1, hO2⟩, hb2⟩
  have hB2 : Below W.heap.size W w2 := HB1.out.trans (hb2.mono HB1.out.size)
  have h3 := rlongest_any n ea ec es w2 HN.out.1 (HE.out.below hB2 (Nat.le_refl _)) (by omega) HN.out.2
  obtain ⟨a1, c1, rfl, i1⟩ := own_form hO1
  obtain ⟨a2, c2, rfl, i2⟩ := own_form hO2
  have HI2 : Hid (Below W.heap.size W w2 ∧ Below w1.heap.size w1 w2 ∧ IRow w2 a1 (lvL n es) ∧ IRow w2 a2 (rdL n es)) := ⟨hB2, hb2, i1, i2⟩
  clear h2 hO1 hO2 i1 i2 hB2 hb2
  go_wp2_with fail
  refine h3.mono ?_
  rintro e w3 ⟨⟨a3, c3, a4, c4, rfl, i3, i4⟩, hb3⟩
  have hB3 : Below W.heap.size W w3 := HI2.out.1.trans (hb3.mono HI2.out.1.size)
  have h13 : Below w1.heap.size w1 w3 := HI2.out.2.1.trans (hb3.mono HI2.out.2.1.size)
  have HI3 : Hid (Below W.heap.size W w3 ∧ Below w1.heap.size w1 w3 ∧ IRow w3 a1 (lvL n es) ∧ IRow w3 a2 (rdL n es) ∧ IRow w3 a3 (lvL n es) ∧ IRow w3 a4 (rdL n es)) := ⟨hB3, h13, IRow.below HI2.out.2.2.1 hb3 (Nat.le_refl _), IRow.below HI2.out.2.2.2 hb3 (Nat.le_refl _), i3, i4⟩
  have hL3 := HL1.out.below h13
  have h4 := Order_top p n (some ⟨g, 0, none⟩) c es w3 ⟨HN.out.1, ERow.front hL3.row, HR.out.sentG.below hB3 (Nat.le_refl _), by omega, HN.out.2⟩ ((HR.out.1 14 (by omega)).1.below hB3 (Nat.le_refl _))
  clear h3 i3 i4 hb3 hB3 h13 hL3 HI2
  go_wp2_with fail
  refine h4.mono ?_
  rintro e w4 ⟨v, rfl, ⟨ov, rfl, hO5⟩, hb4⟩
  obtain ⟨a5, c5, rfl, i5⟩ := own_form hO5
  have hB4 : Below W.heap.size W w4 := HI3.out.1.trans (hb4.mono HI3.out.1.size)
  have h14 : Below w1.heap.size w1 w4 := HI3.out.2.1.trans (hb4.mono HI3.out.2.1.size)
  have h5 := rorder_any n ea ec es w4 HN.out.1 (HE.out.below hB4 (Nat.le_refl _)) (by omega) HN.out.2
  have HI4 : Hid (Below W.heap.size W w4 ∧ Below w1.heap.size w1 w4 ∧ IRow w4 a1 (lvL n es) ∧ IRow w4 a2 (rdL n es) ∧ IRow w4 a3 (lvL n es) ∧ IRow w4 a4 (rdL n es) ∧ IRow w4 a5 (odL n es)) := ⟨hB4, h14, IRow.below HI3.out.2.2.1 hb4 (Nat.le_refl _), IRow.below HI3.out.2.2.2.1 hb4 (Nat.le_refl _), IRow.below HI3.out.2.2.2.2.1 hb4 (Nat.le_refl _), IRow.below HI3.out.2.2.2.2.2 hb4 (Nat.le_refl _), i5⟩
  clear h4 i5 hb4 hB4 h14 HI3 hO5
  go_wp2_with fail
  refine h5.mono ?_
  rintro e w5 ⟨⟨a6, c6, rfl, i6⟩, hb5⟩
  have hB5 : Below W.heap.size W w5 := HI4.out.1.trans (hb5.mono HI4.out.1.size)
  have h15 : Below w1.heap.size w1 w5 := HI4.out.2.1.trans (hb5.mono HI4.out.2.1.size)
  have h6 := kind_e p (mayE n es) w5 (HR.out.below hB5 (Nat.le_refl _)) (by have := mayE_le n es; omega)
  have HI5 : Hid (Below W.heap.size W w5 ∧ Below w1.heap.size w1 w5 ∧ (IRow w5 a1 (lvL n es) ∧ IRow w5 a3 (lvL n es)) ∧ (IRow w5 a2 (rdL n es) ∧ IRow w5 a4 (rdL n es)) ∧ (IRow w5 a5 (odL n es) ∧ IRow w5 a6 (odL n es))) := ⟨hB5, h15, ⟨IRow.below HI4.out.2.2.1 hb5 (Nat.le_refl _), IRow.below HI4.out.2.2.2.2.1 hb5 (Nat.le_refl _)⟩, ⟨IRow.below HI4.out.2.2.2.1 hb5 (Nat.le_refl _), IRow.below HI4.out.2.2.2.2.2.1 hb5 (Nat.le_refl _)⟩, ⟨IRow.below HI4.out.2.2.2.2.2.2 hb5 (Nat.le_refl _), i6⟩⟩
  have hz1 : (((mayE n es : Nat) : Int) == ((mayE n es : Nat) : Int)) = true := by simp
  have hz2 : (((odC n es : Nat) : Int) == ((odC n es : Nat) : Int)) = true := by simp
  clear h5 i6 hb5 hB5 h15 HI4
  go_wp2_with fail
  refine h6.mono ?_
  rintro e w6 ⟨rfl, hb6⟩
  have len1 := lvL_len n es
  have len2 := rdL_len n es
  have len3 := odL_len n es
  have h7 := ints_any a1 a3 c1 c3 (lvL n es) (lvL n es) w6 (IRow.below HI5.out.2.2.1.1 hb6 (Nat.le_refl _)) (IRow.below HI5.out.2.2.1.2 hb6 (Nat.le_refl _)) (by omega) (by omega)
  rw [show eqI (lvL n es) (lvL n es) = true by unfold eqI; simp] at h7
  have HB6 : Hid (Below w5.heap.size w5 w6) := hb6
  clear h6 hb6
  go_wp2_with fail
  refine h7.mono ?_
  rintro e w7 ⟨rfl, q7, hw7⟩
  have HB7 : Hid (Below w5.heap.size w5 w7) := by rw [hw7]; exact bdrew HB6.out q7
  have h8 := ints_any a2 a4 c2 c4 (rdL n es) (rdL n es) w7 (IRow.below HI5.out.2.2.2.1.1 HB7.out (Nat.le_refl _)) (IRow.below HI5.out.2.2.2.1.2 HB7.out (Nat.le_refl _)) (by omega) (by omega)
  rw [show eqI (rdL n es) (rdL n es) = true by unfold eqI; simp] at h8
  clear h7 hw7 HB6
  go_wp2_with fail
  refine h8.mono ?_
  rintro e w8 ⟨rfl, q8, hw8⟩
  have HB8 : Hid (Below w5.heap.size w5 w8) := by rw [hw8]; exact bdrew HB7.out q8
  have h9 := kind_e p (odC n es) w8 (HR.out.below (HI5.out.1.trans (HB8.out.mono HI5.out.1.size)) (Nat.le_refl _)) (odC_le n es)
  clear h8 hw8 HB7
  go_wp2_with fail
  refine h9.mono ?_
  rintro e w9 ⟨rfl, hb9⟩
  have HB9 : Hid (Below w5.heap.size w5 w9) := HB8.out.trans (hb9.mono HB8.out.size)
  have h10 := ints_any a5 a6 c5 c6 (odL n es) (odL n es) w9 (IRow.below HI5.out.2.2.2.2.1 HB9.out (Nat.le_refl _)) (IRow.below HI5.out.2.2.2.2.2 HB9.out (Nat.le_refl _)) (by omega) (by omega)
  rw [show eqI (odL n es) (odL n es) = true by unfold eqI; simp] at h10
  clear h9 hb9 HB8
  go_wp2_with fail
  refine h10.mono ?_
  rintro e w10 ⟨rfl, q10, hw10⟩
  have HB10 : Hid (Below w5.heap.size w5 w10) := by rw [hw10]; exact bdrew HB9.out q10
  have h110 : Below w1.heap.size w1 w10 := HI5.out.2.1.trans (HB10.out.mono HI5.out.2.1.size)
  have HW10 : Hid (Below W.heap.size W w10) := HI5.out.1.trans (HB10.out.mono HI5.out.1.size)
  have h11 := keptE W g ea c ec es w10 (HL1.out.below h110) (HE.out.below HW10.out (Nat.le_refl _)) (by omega)
  clear h10 hw10 HB9 h110 HB10
  go_wp2_with fail
  refine h11.mono ?_
  rintro e w11 ⟨rfl, q11, hw11⟩
  have hfin : Hid (Below W.heap.size W w11) := by rw [hw11]; exact bdrew HW10.out q11
  clear h11 hw11 HW10 HI5
  go_wp2
  go_ret
  exact ⟨rfl, hfin.out⟩

end Go.Proofs.YtgllcbajgndldaaDoor.GraphLongestW
