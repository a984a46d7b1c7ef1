/-
  The document's Longest.
-/
import Derived.Test.YtgllcbajgndldaaDoorGraphRRound
namespace Go.Proofs.YtgllcbajgndldaaDoor.GraphRef
open Go.RowKit Go.Proofs.YtgllcbajgndldaaDoor.GramMath Go.Proofs.YtgllcbajgndldaaDoor.GramRow Go.Proofs.YtgllcbajgndldaaDoor.GramApart Go.Proofs.YtgllcbajgndldaaDoor.GramLent Go.Proofs.YtgllcbajgndldaaDoor.OpRow Go.Proofs.YtgllcbajgndldaaDoor.GraphNet Go.Proofs.YtgllcbajgndldaaDoor.GraphMath Go.Proofs.YtgllcbajgndldaaDoor.GraphFn Go.Proofs.YtgllcbajgndldaaDoor.GraphSort Go.Proofs.YtgllcbajgndldaaDoor.UsefulRef Go.Proofs.YtgllcbajgndldaaDoor.EndsMath
set_option linter.unusedVariables false
set_option linter.unusedSimpArgs false

theorem nrow_irow {w : World} {b m : Nat} {f : Nat → Int} (h : NRow w b m f) : IRow w (some ⟨b, 0, none⟩) (rowOf m f) := fun i x hx => by
  have hi : i < m := by
    have := (List.getElem?_eq_some_iff.1 hx).1
    rwa [rowOf_length] at this
  rw [rowOf_get f hi] at hx
  cases hx
  exact ⟨b, 0, rfl, by rw [Nat.zero_add]; exact (h i hi).1⟩
theorem rowOf_congr {m : Nat} {f g : Nat → Int} (h : ∀ a, a < m → f a = g a) : rowOf m f = rowOf m g := by
  unfold rowOf
  exact List.map_congr_left fun x hx => h x (List.mem_range.1 hx)

/-- What Longest answers. -/
def RLongV (w' : World) (n : Int) (es : List (Int × Int)) (e : Ending) : Prop := ∃ la lc ra rc, e = .returned (.tuple #[.slice la (lvL n es).length lc, .slice ra (rdL n es).length rc, .int .i64 (mayE n es : Int)]) ∧ IRow w' la (lvL n es) ∧ IRow w' ra (rdL n es)

set_option maxRecDepth 100000 in
set_option maxHeartbeats 8000000 in
theorem rlongest_any (n : Int) (ea : Option Addr) (ec : Nat) (es : List (Int × Int)) (w : World) (hn : I64 n) (hE : ERow w ea es) (hl : es.length ≤ 1125899906842624) (hx : ∀ e ∈ es, I64 e.1 ∧ I64 e.2) :
    Calls Tryd.prog 7 #[.int .i64 n, .slice ea es.length ec] w fun e w' => RLongV w' n es e ∧ Below w.heap.size w w' := by
  have hmay := rmay_any n ea ec es w hn hE hl hx
  have q0 := neqI_none
  have q1 := neqI_some
  by_cases hm0 : mayE n es = 0
  · obtain ⟨m, rfl, hm, hel, hes, hEr⟩ := mayE_zero hm0
    rw [hm0] at hmay
    have hrd := rround_any m ea ec es w hE hm hel hes hEr
    have HE : Hid (ERow w ea es) := hE
    have HX : Hid (∀ e ∈ es, 0 ≤ e.1 ∧ e.1 < (m : Int) ∧ 0 ≤ e.2 ∧ e.2 < (m : Int)) := hes
    have HER : Hid (∀ e ∈ toE es, e.1 < m ∧ e.2 < m) := hEr
    have HM0 : Hid (mayE (m : Int) es = 0) := hm0
    clear hE hes hEr hm0 hx
    go_enter Tryd.func7, Tryd.ntmps7
    go_wp2_with fail
    refine hmay.mono ?_
    rintro e w1 ⟨rfl, hw1⟩
    obtain rfl := hw1.symm
    clear hmay
    go_wp2_with fail
    refine hrd.mono ?_
    rintro e w1 ⟨v, rfl, hV, hb1⟩
    clear hrd
    cases hR : roundR m (toE es) with
    | some L =>
      rw [hR] at hV
      obtain ⟨g, c, rfl, hown, hL256⟩ := hV
      have hno : ordG (m : Int) es = none := by
        cases ho : ordG (m : Int) es with
        | none => rfl
        | some L' => rw [ord_no HER.out (L := L') ho] at hR; cases hR
      have E1 : Hid (lvL (m : Int) es = []) := by show _ = _; unfold lvL; rw [if_pos HM0.out, hno]
      have E2 : Hid (rdL (m : Int) es = ints L) := by show _ = _; unfold rdL; rw [if_pos HM0.out, hno]; dsimp only; rw [show ((m : Int)).toNat = m from rfl, hR]; rfl
      have HI : Hid (IRow w1 (some ⟨g, 0, none⟩) (ints L) ∧ Below w.heap.size w w1) := by
        refine ⟨?_, hb1⟩
        rw [← ints_length] at hown
        obtain ⟨a1, c1, e1, i1⟩ := own_form hown
        cases e1
        exact i1
      clear hown hR hno hb1
      go_wp2
      refine bodyPost_ret (v := .tuple #[.slice none 0 0, .slice (some ⟨g, 0, none⟩) L.length c, .int .i64 0]) (by simp [results, Tryd.results7, go_sem]; try rfl) rfl ?_
      exact ⟨⟨none, 0, some ⟨g, 0, none⟩, c, by rw [E1.out, E2.out, HM0.out, ints_length]; rfl, by rw [E1.out]; exact fun i x hx => by simp at hx, by rw [E2.out]; exact HI.out.1⟩, HI.out.2⟩
    | none =>
      rw [hR] at hV
      replace hV : v = .slice none 0 0 := hV
      subst hV
      obtain ⟨L, hL⟩ : ∃ L, ordG (m : Int) es = some L := by
        cases ho : ordG (m : Int) es with
        | none =>
          obtain ⟨s, L, h1, _⟩ := rd_of HER.out ho
          rw [hR] at h1
          cases h1
        | some L => exact ⟨L, rfl⟩
      have hO : Ord m (toE es) L := ord_of hL
      have hLev := hO.lev
      obtain ⟨lv, hlv⟩ : ∃ lv, lv = levL (adj m (toE es)) L := ⟨_, rfl⟩
      have HLE : Hid (∀ a b, (a, b) ∈ toE es → lv b + 1 ≤ lv a) := fun a b h => by rw [hlv]; exact hO.edge HER.out h
      rw [← hlv] at hLev
      have HLV : Hid (Lev (adj m (toE es)) (fun x => x < m) lv) := hLev
      have E1 : Hid (lvL (m : Int) es = rowOf m lv) := by show _ = _; unfold lvL; rw [if_pos HM0.out, hL]; dsimp only; rw [hlv]; rfl
      have E2 : Hid (rdL (m : Int) es = []) := by show _ = _; unfold rdL; rw [if_pos HM0.out, hL]
      have HLT : Hid (∀ a, a < m → 0 ≤ lv a ∧ lv a < (m : Int)) := fun a ha => ⟨hLev.pos a, lev_lt (fun a y hy => (mem_adj.1 hy).1) hLev ha⟩
      have hmk := madeI_any m (by omega) w1
      obtain ⟨bb, hbb⟩ : ∃ b, b = w1.heap.size := ⟨_, rfl⟩
      have HI0 : Hid ((∃ f, NRow (w1.alloc (.cells (madeCells #[.int .i64 0] m) 3)) bb m f ∧ Relax m (toE es) lv 0 f) ∧ Below w.heap.size w (w1.alloc (.cells (madeCells #[.int .i64 0] m) 3)) ∧ bb < (w1.alloc (.cells (madeCells #[.int .i64 0] m) 3)).heap.size ∧ w.heap.size ≤ bb) := ⟨⟨_, by rw [hbb]; exact NRow.made m w1, Relax.start hLev⟩, hb1.alloc hb1.size _, by rw [hbb]; simp, by rw [hbb]; exact hb1.size⟩
      rw [← hbb] at hmk
      have HBB : Hid (bb = w1.heap.size) := hbb
      clear hbb hR hL hO hLev hlv hb1
      go_wp2
      clear hmk
      go_loopw [10] (fun s10 wr => ∃ t : Nat, t ≤ m + 1 ∧ s10 = .int .i64 (t : Int) ∧ Hid ((∃ f, NRow wr bb m f ∧ Relax m (toE es) lv t f) ∧ Below w.heap.size w wr ∧ bb < wr.heap.size ∧ w.heap.size ≤ bb)) (fun s10 _ => m + 1 - (intOf s10).toNat)
      case atStart => exact ⟨0, by omega, rfl, HI0⟩
      case round =>
        clear HI0
        obtain ⟨t, ht, rfl, hI⟩ := hrel
        by_cases htm : t ≤ m
        · have htm2 : (t : Int) ≤ (m : Int) := by omega
          obtain ⟨⟨f0, hN0, hR0⟩, hB0, hz0, hg0⟩ := hI.out
          have HJ0 : Hid ((∃ f, NRow wr bb m f ∧ RelaxI m (toE es) lv t 0 f false) ∧ Below w.heap.size w wr ∧ bb < wr.heap.size ∧ w.heap.size ≤ bb) := ⟨⟨f0, hN0, .start hR0⟩, hB0, hz0, hg0⟩
          clear hI hN0 hR0 hB0 hz0 hg0
          go_wp2
          go_loopw [11, 12] (fun s11 s12 wr => ∃ (i : Nat) (b : Bool), i ≤ es.length ∧ s12 = .int .i64 (i : Int) ∧ s11 = .bool b ∧ Hid ((∃ f, NRow wr bb m f ∧ RelaxI m (toE es) lv t i f b) ∧ Below w.heap.size w wr ∧ bb < wr.heap.size ∧ w.heap.size ≤ bb)) (fun _ s12 _ => es.length - (intOf s12).toNat)
          case atStart => exact ⟨0, false, by omega, rfl, rfl, HJ0⟩
          case round =>
            clear HJ0
            obtain ⟨i, b, hi, rfl, rfl, hJ⟩ := hrel
            by_cases hlt : i < es.length
            · obtain ⟨⟨f, hN, hR⟩, hB, hz, hg⟩ := hJ.out
              obtain ⟨⟨x, y⟩, hxy⟩ : ∃ e, es[i]? = some e := ⟨es[i], List.getElem?_eq_getElem hlt⟩
              obtain ⟨eb, eo, rfl, ce0, ce1⟩ := (ERow.below HE.out hB (Nat.le_refl _)) i _ hxy
              dsimp only at ce0 ce1
              obtain ⟨hx0, hxm, hy0, hym⟩ := HX.out _ (List.mem_of_getElem? hxy)
              dsimp only at hx0 hxm hy0 hym
              obtain ⟨a, rfl⟩ : ∃ X : Nat, x = (X : Int) := ⟨x.toNat, by omega⟩
              obtain ⟨c, rfl⟩ : ∃ Y : Nat, y = (Y : Int) := ⟨y.toNat, by omega⟩
              have ha : a < m := by omega
              have hc : c < m := by omega
              have hEk : (toE es)[i]? = some (a, c) := by simp [toE, hxy]
              have hlt2 : (i : Int) < (es.length : Int) := by omega
              obtain ⟨cA, fA⟩ := hN a ha
              have cC := (hN c hc).1
              have b1 := hR.rel.pos a ha
              have b2 := hR.rel.le a ha
              have b3 := (HLT.out a ha).2
              have b4 := hR.rel.pos c hc
              have b5 := hR.rel.le c hc
              have b6 := (HLT.out c hc).2
              have hskip : ¬ f a < f c + 1 → Hid ((∃ f, NRow wr bb m f ∧ RelaxI m (toE es) lv t (i + 1) f b) ∧ Below w.heap.size w wr ∧ bb < wr.heap.size ∧ w.heap.size ≤ bb) := fun h => ⟨⟨f, hN, hR.skip HER.out hEk h⟩, hB, hz, hg⟩
              have hput : f a < f c + 1 → Hid ((∃ f', NRow (wr.setCell ⟨bb, a, none⟩ (.int .i64 (f c + 1))) bb m f' ∧ RelaxI m (toE es) lv t (i + 1) f' true) ∧ Below w.heap.size w (wr.setCell ⟨bb, a, none⟩ (.int .i64 (f c + 1))) ∧ bb < (wr.setCell ⟨bb, a, none⟩ (.int .i64 (f c + 1))).heap.size ∧ w.heap.size ≤ bb) := fun h => ⟨⟨_, hN.put ha _, hR.put HER.out HLE.out hEk h⟩, hB.setCell (p := ⟨bb, a, none⟩) hg _, by simpa using hz, hg⟩
              have k1 : 0 ≤ f a ∧ f a ≤ 256 := by omega
              have k2 : 0 ≤ f c ∧ f c ≤ 256 := by omega
              generalize hfa : f a = FA at *
              generalize hfc : f c = FC at *
              obtain ⟨k1, k1'⟩ := k1
              obtain ⟨k2, k2'⟩ := k2
              clear hfa hfc b1 b2 b3 b4 b5 b6
              by_cases h1 : FA < FC + 1
              · have h1' : decide (FA < FC + 1) = true := by simpa using h1
                have hJ2 := hput h1
                clear hJ hN hR hB hz hg hxy hEk hskip hput HE HX HER HLE HLV HLT
                go_wp2
                go_quiet (fail)
                go_wp2
                go_quiet (fail)
                go_wp2
                go_roundw
                case rel => exact ⟨i + 1, true, by omega, by go_num, rfl, ⟨hJ2.out.1, bdrew hJ2.out.2.1 _, hJ2.out.2.2⟩⟩
                case measure => simp [intOf]; omega
              · have h1' : decide (FA < FC + 1) = false := by simpa using h1
                have hJ2 := hskip h1
                clear hJ hN hR hB hz hg hxy hEk hskip hput HE HX HER HLE HLV HLT
                go_wp2
                go_quiet (fail)
                go_wp2
                go_quiet (fail)
                go_wp2
                go_roundw
                case rel => exact ⟨i + 1, b, by omega, by go_num, rfl, ⟨hJ2.out.1, bdrew hJ2.out.2.1 _, hJ2.out.2.2⟩⟩
                case measure => simp [intOf]; omega
            · have hlt2 : ¬ (i : Int) < (es.length : Int) := by omega
              obtain ⟨⟨f, hN, hR⟩, hB, hz, hg⟩ := hJ.out
              rw [show i = (toE es).length by rw [toE_length]; omega] at hR
              cases b with
              | true =>
                have hI2 : Hid ((∃ f, NRow wr bb m f ∧ Relax m (toE es) lv (t + 1) f) ∧ Below w.heap.size w wr ∧ bb < wr.heap.size ∧ w.heap.size ≤ bb) := ⟨⟨f, hN, hR.next HLV.out⟩, hB, hz, hg⟩
                clear hJ hN hR hB hz hg
                go_wp2
                go_roundw
                case rel => exact ⟨t + 1, by omega, by go_num, hI2⟩
                case measure => simp [intOf]; omega
              | false =>
                have hfin : Hid (IRow wr (some ⟨bb, 0, none⟩) (rowOf m lv) ∧ Below w.heap.size w wr) := ⟨by rw [← rowOf_congr (hR.stop HLV.out)]; exact nrow_irow hN, hB⟩
                clear hJ hN hR hB hz hg
                go_wp2
                refine bodyPost_ret (v := .tuple #[.slice (some ⟨bb, 0, none⟩) m m, .slice none 0 0, .int .i64 0]) (by simp [results, Tryd.results7, go_sem]; try rfl) rfl ?_
                exact ⟨⟨some ⟨bb, 0, none⟩, m, none, 0, by rw [E1.out, E2.out, HM0.out, rowOf_length]; rfl, by rw [E1.out]; exact hfin.out.1, by rw [E2.out]; exact fun i x hx => by simp at hx⟩, hfin.out.2⟩
        · have htm2 : ¬ (t : Int) ≤ (m : Int) := by omega
          obtain ⟨⟨f, hN, hR⟩, hB, hz, hg⟩ := hI.out
          have hfin : Hid (IRow wr (some ⟨bb, 0, none⟩) (rowOf m lv) ∧ Below w.heap.size w wr) := ⟨by rw [← rowOf_congr (hR.all HLV.out (by omega))]; exact nrow_irow hN, hB⟩
          clear hI hN hR hB hz hg
          go_wp2
          refine bodyPost_ret (v := .tuple #[.slice (some ⟨bb, 0, none⟩) m m, .slice none 0 0, .int .i64 0]) (by simp [results, Tryd.results7, go_sem]; try rfl) rfl ?_
          exact ⟨⟨some ⟨bb, 0, none⟩, m, none, 0, by rw [E1.out, E2.out, HM0.out, rowOf_length]; rfl, by rw [E1.out]; exact hfin.out.1, by rw [E2.out]; exact fun i x hx => by simp at hx⟩, hfin.out.2⟩
  · have E1 : Hid (lvL n es = []) := by show _ = _; unfold lvL; rw [if_neg hm0]
    have E2 : Hid (rdL n es = []) := by show _ = _; unfold rdL; rw [if_neg hm0]
    have E3 : Hid (mayE n es = mayE n es) := rfl
    have hne : ((mayE n es : Int) != 0) = true := by simp; exact hm0
    have hrv : RLongV w n es (.returned (.tuple #[.slice none 0 0, .slice none 0 0, .int .i64 (mayE n es : Int)])) := ⟨none, 0, none, 0, by rw [E1.out, E2.out]; rfl, by rw [E1.out]; exact fun i x hx => by simp at hx, by rw [E2.out]; exact fun i x hx => by simp at hx⟩
    obtain ⟨z, hz⟩ : ∃ z, z = mayE n es := ⟨_, rfl⟩
    rw [← hz] at hmay hne hrv
    have HRV : Hid (RLongV w n es (.returned (.tuple #[.slice none 0 0, .slice none 0 0, .int .i64 (z : Int)]))) := hrv
    clear hE hx hm0 hrv hz E1 E2 E3
    go_enter Tryd.func7, Tryd.ntmps7
    go_wp2_with fail
    refine hmay.mono ?_
    rintro e w1 ⟨rfl, hw1⟩
    obtain rfl := hw1.symm
    clear hmay
    go_wp2
    refine bodyPost_ret (v := .tuple #[.slice none 0 0, .slice none 0 0, .int .i64 (z : Int)]) (by simp [results, Tryd.results7, go_sem]; try rfl) rfl ?_
    exact ⟨HRV.out, Below.refl _ _⟩

end Go.Proofs.YtgllcbajgndldaaDoor.GraphRef
