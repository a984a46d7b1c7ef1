/-
  The program's order of a net.
-/
import Derived.Test.YtgllcbajgndldaaDoorGraphOrder
namespace Go.Proofs.YtgllcbajgndldaaDoor.GraphNet
open Go.RowKit Go.Sort Go.Proofs.YtgllcbajgndldaaDoor.GramMath Go.Proofs.YtgllcbajgndldaaDoor.GramRow Go.Proofs.YtgllcbajgndldaaDoor.GramApart Go.Proofs.YtgllcbajgndldaaDoor.GraphMath Go.Proofs.YtgllcbajgndldaaDoor.GraphFn Go.Proofs.YtgllcbajgndldaaDoor.GraphSort Go.Proofs.YtgllcbajgndldaaDoor.OpRow Go.Proofs.YtgllcbajgndldaaDoor.GramErrs Go.Proofs.YtgllcbajgndldaaDoor.EndsMath
set_option linter.unusedVariables false
set_option linter.unusedSimpArgs false

/-- What order answers. -/
def OrdV (w0 : World) (o : Option (List Nat)) (w' : World) (v : Value) : Prop :=
  match o with
  | some L => ∃ rv, v = .tuple #[rv, .bool true] ∧ w'.ownsRow w0.heap.size 3 1 rv L.length (iV (ints L))
  | none => v = .tuple #[.slice none 0 0, .bool false]

/-- What is known at the start of a place. -/
structure OrdI (m : Nat) (A : Nat → List Nat) (w w1 wr : World) (P : List Nat) (ov : Value) : Prop where
  stood : Stood m A P
  row : NRow wr w.heap.size m (waitN m A P)
  own : wr.ownsRow w1.heap.size 3 1 ov P.length (iV (ints P))
  below : Below w.heap.size w wr
  size : w1.heap.size ≤ wr.heap.size

theorem waitN_i64 (m : Nat) (A : Nat → List Nat) (P : List Nat) (x : Nat) : -1 ≤ waitN m A P x ∧ waitN m A P x ≤ m := by
  unfold waitN
  split
  · omega
  · have := cnt_le m (fun a => !P.contains a && (A a).contains x)
    omega

set_option maxRecDepth 100000 in
set_option maxHeartbeats 4000000 in
theorem order_any (bg m gc : Nat) (A : Nat → List Nat) (w : World) (hN : NetR w bg m (fun a => ints (A a))) (hA : ∀ a, a < m → (∀ y ∈ A a, y < m) ∧ (A a).Nodup) (hm : m ≤ 256) :
    Calls Tryd.prog 18 #[.slice (some ⟨bg, 0, none⟩) m gc] w fun e w' => ∃ v, e = .returned v ∧ OrdV w (ordR m A m []) w' v ∧ Below w.heap.size w w' := by
  have h1 := edgesTo_any bg m gc A w hN hA hm
  have HN : Hid (NetR w bg m (fun a => ints (A a))) := hN
  have HA : Hid (_) := hA
  clear hN hA
  go_enter Tryd.func18, Tryd.ntmps18
  go_wp2
  go_step3
  go_wp2_with fail
  refine h1.mono ?_
  rintro e w1 ⟨rfl, hr1, hb1, hs1⟩
  have HI0 : Hid (OrdI m A w w1 w1 [] (.slice none 0 0)) := ⟨Stood.nil m A, hr1, World.ownsRow_nil .., hb1, Nat.le_refl _⟩
  clear h1 hr1 hb1
  go_wp2
  go_step3
  go_wp2
  go_loopw [5, 14] (fun s5 s14 wr => ∃ (k : Nat) (ov : Value) (P : List Nat), s5 = ov ∧ k ≤ m ∧ s14 = .int .i64 (k : Int) ∧ Hid (OrdI m A w w1 wr P ov) ∧ Hid (P.length = k ∧ ordR m A m [] = ordR m A (m - k) P)) (fun _ s14 _ => m - (intOf s14).toNat)
  case atStart => exact ⟨0, _, [], rfl, by omega, rfl, HI0, rfl, rfl⟩
  case round =>
    clear HI0
    obtain ⟨k, ov, P, hov, hk, rfl, hI, hO⟩ := hrel
    obtain rfl := hov.symm
    by_cases hlt : k < m
    · have hlt2 : (k : Int) < (m : Int) := by omega
      obtain ⟨wx, rfl⟩ : ∃ x, x = wr := ⟨wr, rfl⟩
      go_wp2
      go_loopw [5, 18] (fun s5 s18 wr => ∃ j : Nat, s5 = ov ∧ j ≤ m ∧ s18 = .int .i64 (j : Int) ∧ wr = wx ∧ Hid (∀ y, y < j → freeB m A P y = false)) (fun _ s18 _ => m - (intOf s18).toNat)
      case atStart => exact ⟨0, rfl, by omega, rfl, rfl, fun y hy => by omega⟩
      case round =>
        obtain ⟨j, hs5, hj, rfl, hwr, hno⟩ := hrel
        obtain rfl := hs5.symm
        obtain rfl := hwr.symm
        by_cases hlj : j < m
        · have hlj2 : (j : Int) < (m : Int) := by omega
          obtain ⟨cj, fj⟩ := hI.out.row j hlj
          obtain ⟨z1, z2⟩ := waitN_i64 m A P j
          by_cases hf : freeB m A P j = true
          · have hz := waitN_zero.2 hf
            rw [hz] at cj
            have hnx : nxt m A P = some j := nxt_is hlj hf (fun y hy => hno.out y hy)
            obtain ⟨i0, hi, hz0, hz1, hz2⟩ := info_parts infoInt
            have hown := hI.out.own
            have hPl := hI.out.stood.len
            have hsz := hI.out.size
            have hF : Hid (∀ v2 w2, World.ownsRow w2 w1.heap.size 3 1 v2 (P.length + 1) (iV (ints P) ++ [.int .i64 (j : Int)]) → (wx.alloc (.cells #[.int .i64 (j : Int)] 3)).grownBy w2 ov.ownBlock → (w2.cell? ⟨w.heap.size, j, none⟩ = some (.int .i64 0) ∧ w2.frozen? ⟨w.heap.size, j, none⟩ = false) ∧ Hid (NRow (w2.setCell ⟨w.heap.size, j, none⟩ (.int .i64 (-1))) w.heap.size m (fun y => (if y = j then -1 else waitN m A P y) - (if y ∈ (A j).take 0 then 1 else 0)) ∧ (w2.setCell ⟨w.heap.size, j, none⟩ (.int .i64 (-1))).ownsRow w1.heap.size 3 1 v2 (P ++ [j]).length (iV (ints (P ++ [j]))) ∧ Below w.heap.size w (w2.setCell ⟨w.heap.size, j, none⟩ (.int .i64 (-1))) ∧ w1.heap.size ≤ (w2.setCell ⟨w.heap.size, j, none⟩ (.int .i64 (-1))).heap.size)) := fun v2 w2 ho hg => by
              have hbl : w2.heap[w.heap.size]? = wx.heap[w.heap.size]? := by
                rw [hg.block w.heap.size (by simp; omega) (fun e => by have := (hown.lt _ e.symm).1; omega)]
                exact Below.heap_alloc wx _ _ (by omega)
              have hR2 : NRow w2 w.heap.size m (waitN m A P) := fun i hi => ⟨(World.cell?_of_block (a := ⟨w.heap.size, i, none⟩) hbl).trans (hI.out.row i hi).1, (World.frozen?_of_block (a := ⟨w.heap.size, i, none⟩) hbl).trans (hI.out.row i hi).2⟩
              have hg1 := hg.size
              simp at hg1
              refine ⟨⟨?_, (hR2 j hlj).2⟩, (hR2.put hlj (-1)).congr (fun i hi => ?_), ?_, ?_, by simp; omega⟩
              · rw [(hR2 j hlj).1, hz]
              · by_cases e : i = j
                · subst e; rw [updA_at]; simp
                · rw [updA_ne _ _ e]; simp [e]
              · refine ownsRow_setCell_below ?_ (by show w.heap.size < _; omega) _
                simpa [iV, ints] using ho
              · exact (((hI.out.below.alloc (by omega) _).grown hg (by simp; omega) (fun q hq => by have := (hown.lt q hq).1; omega))).setCell (p := ⟨w.heap.size, j, none⟩) (Nat.le_refl _) _
            have hnext : Hid (Stood m A (P ++ [j]) ∧ (P ++ [j]).length = k + 1 ∧ ordR m A m [] = ordR m A (m - (k + 1)) (P ++ [j])) := by
              refine ⟨hI.out.stood.add hlj hf, by simp [hO.out.1], ?_⟩
              rw [hO.out.2, show m - k = (m - (k + 1)) + 1 by omega]
              simp only [ordR, hnx]
            have hwait : Hid (∀ y, waitN m A (P ++ [j]) y = (if y = j then -1 else waitN m A P y) - (if y ∈ A j then 1 else 0)) := fun y => waitN_add hI.out.stood hlj hf y
            obtain ⟨hAk, hnd⟩ := HA.out j hlj
            have HAK : Hid (∀ y ∈ A j, y < m) := hAk
            have HND : Hid ((A j).Nodup) := hnd
            have hAl : (ints (A j)).length ≤ m := by rw [ints_length]; exact nodup_le hnd hAk
            have HLA : Hid ((ints (A j)).length = (A j).length) := ints_length _
            have hrow : Hid (∀ w9, Below w.heap.size w w9 → ∃ ra rc, w9.cell? ⟨bg, j, none⟩ = some (.slice ra (ints (A j)).length rc) ∧ ∀ w8, Below w.heap.size w w8 → IRow w8 ra (ints (A j))) := fun w9 h9 => by
              obtain ⟨ra0, rc0, hrc0, hrr0⟩ := HN.out j hlj
              exact ⟨ra0, rc0, (h9.cell (cell_lt hrc0)).trans hrc0, fun w8 h8 => IRow.below hrr0 h8 (Nat.le_refl _)⟩
            have hPl2 : P.length ≤ 256 := by omega
            have hwl := hI.out.below.size
            clear hI hO hno hf hz hnx hAk hnd
            go_wp2_with (at_builtin; refine wpList_append_own _ rfl (.tmp 25) (.tmp 27) 24 rfl w1.heap.size 3 i0 (.int .i64 0) 1 8 Tryd.underlying24 hi hz0 hz1 hz2 rfl (by decide) _ _ _ rfl (hown.alloc _) ⟨wx.heap.size, 0, none⟩ 1 1 [.int .i64 (j : Int)] rfl rfl (cell_one_new _ _ _) (by simp [Value.oneCell']) (by unfold maxLen; omega) (by omega) (by simp; omega) ?_; intro v2 w2 hown2 hgrow2 _; obtain ⟨⟨y0, y1⟩, hJ⟩ := hF.out v2 w2 hown2 hgrow2; obtain ⟨ra, rc, hrc, hsub0⟩ := hrow.out _ hJ.out.2.2.1; have hsub : Hid (∀ w8, Below w.heap.size w w8 → IRow w8 ra (ints (A j))) := hsub0; clear hsub0 hF hown2 hgrow2 hown hrow cj fj)
            generalize (ints (A j)).length = L at *
            go_loopw [37] (fun s wr => ∃ i : Nat, i ≤ L ∧ s = .int .i64 (i : Int) ∧ Hid (NRow wr w.heap.size m (fun y => (if y = j then -1 else waitN m A P y) - (if y ∈ (A j).take i then 1 else 0)) ∧ wr.ownsRow w1.heap.size 3 1 v2 (P ++ [j]).length (iV (ints (P ++ [j]))) ∧ Below w.heap.size w wr ∧ w1.heap.size ≤ wr.heap.size)) (fun s _ => L - (intOf s).toNat)
            case atStart => exact ⟨0, by omega, rfl, hJ⟩
            case round =>
              clear hJ hrc y0 y1
              obtain ⟨i, hil, rfl, hJ⟩ := hrel
              obtain ⟨hR, hO2, hB2, hS2⟩ := hJ.out
              by_cases hli : i < L
              · obtain ⟨y, hy1⟩ : ∃ y, (A j)[i]? = some y := ⟨(A j)[i]'(by rw [← HLA.out]; exact hli), List.getElem?_eq_getElem _⟩
                have hym := HAK.out y (List.mem_of_getElem? hy1)
                obtain ⟨yb, yo, rfl, hcy⟩ := hsub.out _ hB2 i (y : Int) (by rw [ints_get, hy1]; rfl)
                have hli2 : (i : Int) < (L : Int) := by omega
                have hym2 : (y : Int) < (m : Int) := by omega
                obtain ⟨q1, q2⟩ := hR y hym
                have hyno : y ∉ (A j).take i := fun hc => by
                  obtain ⟨i', hi', e⟩ := List.mem_iff_getElem.1 hc
                  rw [List.length_take] at hi'
                  rw [List.getElem_take] at e
                  obtain ⟨hj2, e2⟩ := List.getElem?_eq_some_iff.1 hy1
                  have := (List.getElem_inj HND.out).1 (e.trans e2.symm)
                  omega
                dsimp only at q1
                rw [if_neg hyno] at q1
                obtain ⟨z3, z4⟩ := waitN_i64 m A P y
                obtain ⟨C, hC⟩ : ∃ C : Int, C = (if y = j then -1 else waitN m A P y) := ⟨_, rfl⟩
                have hCb : -1 ≤ C ∧ C ≤ 256 := by rw [hC]; split <;> omega
                obtain ⟨hC1, hC2⟩ := hCb
                have q1' : wr.cell? ⟨w.heap.size, y, none⟩ = some (.int .i64 C) := by rw [q1, hC]; simp
                have hJ2 : Hid (NRow (wr.setCell ⟨w.heap.size, y, none⟩ (.int .i64 (C - 1))) w.heap.size m (fun y => (if y = j then -1 else waitN m A P y) - (if y ∈ (A j).take (i + 1) then 1 else 0)) ∧ (wr.setCell ⟨w.heap.size, y, none⟩ (.int .i64 (C - 1))).ownsRow w1.heap.size 3 1 v2 (P ++ [j]).length (iV (ints (P ++ [j]))) ∧ Below w.heap.size w (wr.setCell ⟨w.heap.size, y, none⟩ (.int .i64 (C - 1))) ∧ w1.heap.size ≤ (wr.setCell ⟨w.heap.size, y, none⟩ (.int .i64 (C - 1))).heap.size) := ⟨(hR.put hym _).congr (fun i' hi' => by
                  rw [List.take_add_one, hy1]
                  by_cases e : i' = y
                  · subst e; rw [updA_at, hC]; simp
                  · rw [updA_ne _ _ e]; simp [e]), ownsRow_setCell_below hO2 (by show w.heap.size < _; omega) _, hB2.setCell (p := ⟨w.heap.size, y, none⟩) (Nat.le_refl _) _, by simpa using hS2⟩
                clear hJ hR hO2 hB2 hy1 hyno hC q1 z3 z4
                go_wp2
                go_roundw
                case rel => exact ⟨i + 1, by omega, by go_num, hJ2⟩
                case measure => simp [intOf]; omega
              · have hli2 : ¬ ((i : Int) < (L : Int)) := by omega
                have hI2 : Hid (OrdI m A w w1 wr (P ++ [j]) v2) := ⟨hnext.out.1, hR.congr (fun y hy => by
                  rw [hwait.out y, List.take_of_length_le (by rw [← HLA.out]; omega)]), hO2, hB2, hS2⟩
                have hO3 : Hid ((P ++ [j]).length = k + 1 ∧ ordR m A m [] = ordR m A (m - (k + 1)) (P ++ [j])) := hnext.out.2
                clear hJ hR hO2 hB2 hnext hwait hsub HAK HND HLA
                go_wp2
                go_roundw
                case rel => exact ⟨k + 1, _, P ++ [j], by trivial, by omega, by go_num, hI2, hO3⟩
                case measure => simp [intOf]; omega
          · have hno2 : Hid (∀ y, y < j + 1 → freeB m A P y = false) := fun y hy => by
              by_cases e : y = j
              · subst e; simpa using hf
              · exact hno.out y (by omega)
            have hz : ¬ waitN m A P j = 0 := fun h => hf (waitN_zero.1 h)
            have hne : ((waitN m A P j) != 0) = true := by simpa using hz
            generalize waitN m A P j = Z at *
            clear hf hz hno
            go_wp2
            go_roundw
            case rel => exact ⟨j + 1, by trivial, by omega, by go_num, by trivial, hno2⟩
            case measure => simp [intOf]; omega
        · have hlj2 : ¬ ((j : Int) < (m : Int)) := by omega
          have E : Hid (ordR m A m [] = none) := by
            show _ = _
            rw [hO.out.2, show m - k = (m - k - 1) + 1 by omega]
            have h2 : nxt m A P = none := nxt_no (fun y hy => hno.out y (by omega))
            simp only [ordR, h2]
          have hB : Hid (Below w.heap.size w wx) := hI.out.below
          clear hno hI hO
          go_wp2
          go_ret2
          exact ⟨_, rfl, by rw [E.out]; exact rfl, hB.out⟩
    · have hlt2 : ¬ ((k : Int) < (m : Int)) := by omega
      have E : Hid (ordR m A m [] = some P) := by
        show _ = _
        rw [hO.out.2, show m - k = 0 by omega]
        rfl
      have hfin : Hid (wr.ownsRow w.heap.size 3 1 ov P.length (iV (ints P)) ∧ Below w.heap.size w wr) := ⟨by
        obtain ⟨q1, q2 | ⟨g, cap, cur, q3, q4, q5⟩⟩ := hI.out.own
        · exact ⟨q1, .inl q2⟩
        · exact ⟨q1, .inr ⟨g, cap, cur, q3, by omega, q5⟩⟩, hI.out.below⟩
      clear hI hO
      go_wp2
      go_ret2
      exact ⟨_, rfl, by rw [E.out]; exact ⟨ov, rfl, hfin.out.1⟩, hfin.out.2⟩

end Go.Proofs.YtgllcbajgndldaaDoor.GraphNet
