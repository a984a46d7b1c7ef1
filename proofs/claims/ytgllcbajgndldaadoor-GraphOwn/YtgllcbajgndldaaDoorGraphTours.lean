/-
  The program's tours from any nodes of a net.
-/
import Derived.Test.YtgllcbajgndldaaDoorGraphNetOf
namespace Go.Proofs.YtgllcbajgndldaaDoor.GraphNet
open Go.RowKit Go.Sort Go.Proofs.YtgllcbajgndldaaDoor.GramMath Go.Proofs.YtgllcbajgndldaaDoor.GramRow Go.Proofs.YtgllcbajgndldaaDoor.GramApart Go.Proofs.YtgllcbajgndldaaDoor.GraphMath Go.Proofs.YtgllcbajgndldaaDoor.GraphFn Go.Proofs.YtgllcbajgndldaaDoor.GraphSort Go.Proofs.YtgllcbajgndldaaDoor.OpRow Go.Proofs.YtgllcbajgndldaaDoor.GramErrs
set_option linter.unusedVariables false
set_option linter.unusedSimpArgs false

theorem rowF_full (m : Nat) : rowF m m = List.replicate m (-1) := by simp [rowF]

/-- What a tour is, as a value. -/
structure TourV (w0 w : World) (m : Nat) (t : Tr) (v : Value) (ba : Nat) : Prop where
  nodes : w.ownsRow w0.heap.size 3 1 v t.nodes.length (iV (ints t.nodes))
  ahead : ∀ i, i < m → w.cell? ⟨ba, i, none⟩ = some (.int .i64 (t.ahead i))
  ge : w0.heap.size ≤ ba
  far : v.ownBlock ≠ some ba

theorem run_some {m : Nat} {es : List (Nat × Nat)} {f k x : Nat} {t : Tr} (h : t.nodes[k]? = some x) : run m es (f + 1) k t = run m es f (k + 1) (meets t x (adj m es x)) := by simp only [run, h]
theorem run_none {m : Nat} {es : List (Nat × Nat)} {f k : Nat} {t : Tr} (h : t.nodes[k]? = none) : run m es f k t = t := by
  cases f with
  | zero => rfl
  | succ f => simp only [run, h]

set_option maxRecDepth 100000 in
set_option maxHeartbeats 2000000 in
theorem tour_any (bg m : Nat) (gc : Nat) (E : List (Nat × Nat)) (fa : Option Addr) (fc : Nat) (xs : List Nat) (w : World) (hN : NetR w bg m (fun a => ints (adj m E a))) (hF : IRow w fa (ints xs)) (hx : ∀ x ∈ xs, x < m) (hm : m ≤ 256) (hl : xs.length ≤ 1125899906842624) (hE : ∀ e ∈ E, e.1 < m ∧ e.2 < m) :
    Calls Tryd.prog 26 #[.slice (some ⟨bg, 0, none⟩) m gc, .slice fa xs.length fc] w fun e w' => ∃ v ba, e = .returned (.agg #[v, .slice (some ⟨ba, 0, none⟩) m m]) ∧ TourV w w' m (tour m E xs) v ba ∧ Below w.heap.size w w' := by
  go_enter Tryd.func26, Tryd.ntmps26
  go_wp2_with fail
  refine (repeat_any (w.heap.size + 1) m _ (by simp [go_sem]) hm).mono ?_
  rintro e w2 ⟨⟨rfl, hrow⟩, hb2, hz2⟩
  have hS : ((w.alloc (.cells #[.slice none 0 0, .slice none 0 0] 61)).alloc (.cells #[.int .i64 (-1)] 3)).heap.size = w.heap.size + 2 := by simp
  rw [hS] at hrow hb2 hz2
  have hBw : Below w.heap.size w w2 := (((Below.refl _ _).alloc (Nat.le_refl _) _).alloc (by simp) _).trans (hb2.mono (by omega))
  have hbox0 : RowAt w2 w.heap.size 61 #[.slice none 0 0, .slice none 0 0] := (hb2.block w.heap.size (by omega)).trans ((Below.heap_alloc _ _ _ (by simp)).trans (heap_new _ _))
  rw [hS]
  obtain ⟨w0, hw0⟩ : ∃ w0, w0 = w2.alloc (.cells #[.slice none 0 0, .slice (some ⟨w.heap.size + 2, 0, none⟩) m m] 61) := ⟨_, rfl⟩
  have hA : Below w2.heap.size w2 w0 := by rw [hw0]; exact (Below.refl _ _).alloc (Nat.le_refl _) _
  have hz0 : w0.heap.size = w.heap.size + 4 := by rw [hw0]; simp; omega
  have hT0 : TourIn w0 w0 (w.heap.size + 3) (w.heap.size + 2) m ⟨[], fun _ => -1⟩ (.slice none 0 0) := by
    refine ⟨⟨?_, fun i hi => ?_, ?_⟩, But.refl _ _, by omega, by omega, by omega⟩
    · have h := heap_new w2 (.cells #[.slice none 0 0, .slice (some ⟨w.heap.size + 2, 0, none⟩) m m] 61)
      rw [← hw0, hz2] at h
      exact h
    · have hr : RowAt w0 (w.heap.size + 2) 3 (intsA (rowF m m)) := (hA.block _ (by omega)).trans hrow
      exact ⟨rowF_cell hr hi, hr.frozen i⟩
    · exact World.ownsRow_nil ..
  have hB0 : Below w.heap.size w w0 := hBw.trans (hA.mono (by omega))
  have hbox : RowAt w0 w.heap.size 61 #[.slice none 0 0, .slice none 0 0] := (hA.block _ (by omega)).trans hbox0
  have hz2' : w2.heap.size = w.heap.size + 3 := by omega
  have hBt : Hid (∀ wr t v, TourIn w0 wr (w.heap.size + 3) (w.heap.size + 2) m t v → Below w.heap.size w wr ∧ RowAt wr w.heap.size 61 #[.slice none 0 0, .slice none 0 0]) := fun wr t v h => ⟨hB0.trans (h.but.below (by omega) (fun k hk => by omega)), RowAt.but hbox h.but (by omega)⟩
  have HT0 : Hid (_) := hT0
  have HN : Hid (NetR w bg m (fun a => ints (adj m E a))) := hN
  have HF : Hid (IRow w fa (ints xs)) := hF
  have HX : Hid (_) := hx
  have HE : Hid (_) := hE
  clear hrow hb2 hz2 hBw hbox0 hS hA hT0 hB0 hbox hN hF hx hE
  go_wp2
  rw [← hw0]
  clear hw0 hz2'
  go_loopw [19] (fun s wr => ∃ k : Nat, k ≤ xs.length ∧ s = .int .i64 (k : Int) ∧ ∃ v, Hid (TourIn w0 wr (w.heap.size + 3) (w.heap.size + 2) m (GraphMath.start (xs.take k)) v)) (fun s _ => xs.length - (intOf s).toNat)
  case atStart => exact ⟨0, by omega, rfl, _, HT0⟩
  case round =>
    obtain ⟨k, hk, rfl, v, hT⟩ := hrel
    by_cases hlt : k < xs.length
    · obtain ⟨x, hx1⟩ : ∃ x, xs[k]? = some x := ⟨xs[k], List.getElem?_eq_getElem hlt⟩
      have hxm := HX.out x (List.mem_of_getElem? hx1)
      obtain ⟨hBr, _⟩ := hBt.out _ _ _ hT.out
      obtain ⟨fb, fo, rfl, hc⟩ := (HF.out.below hBr (Nat.le_refl _)) k (x : Int) (by rw [ints_get, hx1]; rfl)
      have hlt2 : (k : Int) < (xs.length : Int) := by omega
      have hok := (start_facts (m := m) (xs.take k) (fun y hy => HX.out y (List.mem_of_mem_take hy))).1
      have hmeet := meet_any w0 wr (w.heap.size + 3) (w.heap.size + 2) m _ v x x hT.out hxm hm hok.len
      have E1 : Hid (GraphMath.start (xs.take (k + 1)) = GraphMath.meet (GraphMath.start (xs.take k)) x x) := by show _ = _; rw [List.take_add_one, hx1]; exact start_snoc _ _
      clear hx1 hBr hok HT0 hT
      go_wp2_with fail
      refine hmeet.mono ?_
      rintro e w3 ⟨rfl, v', hT'⟩
      rw [← E1.out] at hT'
      have hT3 : Hid (_) := hT'
      clear hT' hmeet hc
      go_wp2
      go_roundw
      case rel => exact ⟨k + 1, by omega, by go_num, v', hT3⟩
      case measure => simp [intOf]; omega
    · have hk2 : Hid (TourIn w0 wr (w.heap.size + 3) (w.heap.size + 2) m (GraphMath.start xs) v) := by
        have h := hT.out
        rw [List.take_of_length_le (by omega)] at h
        exact h
      have hok0 := (start_facts (m := m) xs HX.out).1
      have hlt2 : ¬ ((k : Int) < (xs.length : Int)) := by omega
      have HOK : Hid (_) := hok0
      clear hT HT0 hok0 hlt hk
      go_wp2
      go_loopw [8] (fun s wr => ∃ (k : Nat) (t : Tr) (v : Value), k ≤ m ∧ s = .int .i64 (k : Int) ∧ Hid (TourIn w0 wr (w.heap.size + 3) (w.heap.size + 2) m t v) ∧ Hid (Ok m t ∧ k ≤ t.nodes.length ∧ GraphMath.run m E (m + 1 - k) k t = tour m E xs)) (fun s _ => m + 1 - (intOf s).toNat)
      case atStart => exact ⟨0, _, v, by omega, rfl, hk2, HOK.out, by omega, rfl⟩
      case round =>
        clear hk2 HOK
        obtain ⟨k, t, v, hkm, rfl, hT, hI⟩ := hrel
        obtain ⟨hok, hkl, hrun⟩ := hI.out
        have hlm := hok.len
        have c0 : wr.cell? ⟨w.heap.size + 3, 0, none⟩ = some v := hT.out.at_.box.cell rfl
        have hnd := hT.out.at_.nodes
        rw [← ints_length t.nodes] at hnd
        obtain ⟨na, nc, rfl, hnr⟩ := own_form hnd
        rw [ints_length] at c0 hnd
        by_cases hlt : k < t.nodes.length
        · obtain ⟨x, hx1⟩ : ∃ x, t.nodes[k]? = some x := ⟨t.nodes[k], List.getElem?_eq_getElem hlt⟩
          have hxin := List.mem_of_getElem? hx1
          have hxm := hok.lt x hxin
          obtain ⟨nb, no, rfl, hc⟩ := hnr k (x : Int) (by rw [ints_get, hx1]; rfl)
          obtain ⟨hBr, _⟩ := hBt.out _ _ _ hT.out
          have HNr : NetR wr bg m (fun a => ints (adj m E a)) := NetR.below HN.out hBr (Nat.le_refl _)
          obtain ⟨ra, rc, hrc, hrr⟩ := HNr x hxm
          have hlt2 : (k : Int) < (t.nodes.length : Int) := by omega
          have hxm2 : (x : Int) < (m : Int) := by omega
          have hadj : (ints (adj m E x)).length ≤ 256 := by
            rw [ints_length]
            have := nodup_le ((adj_rising m E x).imp (fun h => Nat.ne_of_lt h)) (fun y hy => (mem_adj.1 hy).1)
            omega
          have e2 : m + 1 - k = (m + 1 - (k + 1)) + 1 := by omega
          have hrun2 : Hid (GraphMath.run m E (m + 1 - (k + 1)) (k + 1) (meets t x (adj m E x)) = GraphMath.tour m E xs) := by
            show _ = _
            rw [← hrun, e2, run_some hx1]
          have HOK : Hid (Ok m t) := hok
          have HXI : Hid (x ∈ t.nodes) := hxin
          have hrow0 : Hid (IRow w ra (ints (adj m E x)) ∨ True) := .inr trivial
          have HRR : Hid (IRow wr ra (ints (adj m E x))) := hrr
          have HLA : Hid ((ints (adj m E x)).length = (adj m E x).length) := ints_length _
          obtain ⟨L, hL⟩ : ∃ L, L = (ints (adj m E x)).length := ⟨_, rfl⟩
          rw [← hL] at hrc hadj HLA
          replace hL : Hid (L = (ints (adj m E x)).length) := hL
          have HT : Hid (TourIn w0 wr (w.heap.size + 3) (w.heap.size + 2) m t (.slice (some ⟨nb, no, none⟩) t.nodes.length nc)) := by
            have h := hT.out
            rw [ints_length] at h
            exact h
          have hsub : Hid (∀ w9 t9 v9, TourIn w0 w9 (w.heap.size + 3) (w.heap.size + 2) m t9 v9 → IRow w9 ra (ints (adj m E x))) := fun w9 t9 v9 h9 => by
            obtain ⟨h91, _⟩ := hBt.out _ _ _ h9
            obtain ⟨ra', rc', hrc', hrr'⟩ := NetR.below HN.out h91 (Nat.le_refl _) x hxm
            obtain ⟨ra0, rc0, hrc0, hrr0⟩ := HN.out x hxm
            have ea : ra = ra0 := by
              have h1 := (hBr.cell (cell_lt hrc0)).trans hrc0
              rw [h1] at hrc
              cases hrc; rfl
            rw [ea]
            exact IRow.below hrr0 h91 (Nat.le_refl _)
          clear hx1 hnr hBr HNr hrr hrun hI hT hok hxin hnd hrow0 HRR e2
          go_wp2
          go_loopw [44] (fun s wr => ∃ j : Nat, j ≤ L ∧ s = .int .i64 (j : Int) ∧ ∃ v, Hid (TourIn w0 wr (w.heap.size + 3) (w.heap.size + 2) m (meets t x ((adj m E x).take j)) v)) (fun s _ => L - (intOf s).toNat)
          case atStart => exact ⟨0, by omega, rfl, _, HT⟩
          case round =>
            clear HT c0 hc hrc
            obtain ⟨j, hj, rfl, v, hT⟩ := hrel
            by_cases hlj : j < L
            · obtain ⟨y, hy1⟩ : ∃ y, (adj m E x)[j]? = some y := ⟨(adj m E x)[j]'(by rw [← HLA.out]; exact hlj), List.getElem?_eq_getElem _⟩
              have hym := (mem_adj.1 (List.mem_of_getElem? hy1)).1
              obtain ⟨yb, yo, rfl, hcy⟩ := hsub.out _ _ _ hT.out j (y : Int) (by rw [ints_get, hy1]; rfl)
              have hlj2 : (j : Int) < (L : Int) := by omega
              have hok := (meets_facts (m := m) (a := x) ((adj m E x).take j) t HOK.out (fun z hz => (mem_adj.1 (List.mem_of_mem_take hz)).1) HXI.out).1
              have hmeet := meet_any w0 wr (w.heap.size + 3) (w.heap.size + 2) m _ v y x hT.out hym hm hok.len
              have E1 : Hid (meets t x ((adj m E x).take (j + 1)) = GraphMath.meet (meets t x ((adj m E x).take j)) y x) := by show _ = _; rw [List.take_add_one, hy1]; exact meets_snoc _ _ _ _
              clear hy1 hok hT
              go_wp2_with fail
              refine hmeet.mono ?_
              rintro e w3 ⟨rfl, v', hT'⟩
              rw [← E1.out] at hT'
              have hT3 : Hid (_) := hT'
              clear hT' hmeet hcy
              go_wp2
              go_roundw
              case rel => exact ⟨j + 1, by omega, by go_num, v', hT3⟩
              case measure => simp [intOf]; omega
            · have hT2 : Hid (TourIn w0 wr (w.heap.size + 3) (w.heap.size + 2) m (meets t x (adj m E x)) v) := by
                have h := hT.out
                rw [List.take_of_length_le (by rw [← HLA.out]; omega)] at h
                exact h
              have hlj2 : ¬ ((j : Int) < (L : Int)) := by omega
              obtain ⟨h1, h2, h3, h4⟩ := meets_facts (m := m) (a := x) (adj m E x) t HOK.out (fun z hz => (mem_adj.1 hz).1) HXI.out
              have hI2 : Hid (Ok m (meets t x (adj m E x)) ∧ k + 1 ≤ (meets t x (adj m E x)).nodes.length ∧ GraphMath.run m E (m + 1 - (k + 1)) (k + 1) (meets t x (adj m E x)) = GraphMath.tour m E xs) := ⟨h1, by have := h2.length_le; omega, hrun2.out⟩
              clear h1 h2 h3 h4 hT hlj hj
              go_wp2
              go_roundw
              case rel => exact ⟨k + 1, _, v, by omega, by go_num, hT2, hI2⟩
              case measure => simp [intOf]; omega
        · have hkn : t.nodes[k]? = none := List.getElem?_eq_none (by omega)
          have ht : t = GraphMath.tour m E xs := by rw [← hrun, run_none hkn]
          have hlt2 : ¬ ((k : Int) < (t.nodes.length : Int)) := by omega
          obtain ⟨hBr, hbx⟩ := hBt.out _ _ _ hT.out
          have c1 : wr.cell? ⟨w.heap.size + 3, 1, none⟩ = some (.slice (some ⟨w.heap.size + 2, 0, none⟩) m m) := hT.out.at_.box.cell rfl
          have b0 : wr.cell? ⟨w.heap.size, 0, none⟩ = some (.slice none 0 0) := hbx.cell rfl
          have b1 : wr.cell? ⟨w.heap.size, 1, none⟩ = some (.slice none 0 0) := hbx.cell rfl
          have f0 := hbx.frozen 0
          have f1 := hbx.frozen 1
          have hfin : Hid (TourV w ((wr.setCell ⟨w.heap.size, 0, none⟩ (.slice na t.nodes.length nc)).setCell ⟨w.heap.size, 1, none⟩ (.slice (some ⟨w.heap.size + 2, 0, none⟩) m m)) m (GraphMath.tour m E xs) (.slice na t.nodes.length nc) (w.heap.size + 2) ∧ Below w.heap.size w ((wr.setCell ⟨w.heap.size, 0, none⟩ (.slice na t.nodes.length nc)).setCell ⟨w.heap.size, 1, none⟩ (.slice (some ⟨w.heap.size + 2, 0, none⟩) m m))) := by
            rw [← ht]
            have hb2 : But (fun b => b = w.heap.size) wr ((wr.setCell ⟨w.heap.size, 0, none⟩ (.slice na t.nodes.length nc)).setCell ⟨w.heap.size, 1, none⟩ (.slice (some ⟨w.heap.size + 2, 0, none⟩) m m)) := ((But.refl (fun b => b = w.heap.size) wr).setCell (p := ⟨w.heap.size, 0, none⟩) rfl _).setCell (p := ⟨w.heap.size, 1, none⟩) rfl _
            have hsz := hT.out.but.size
            refine ⟨⟨?_, fun i hi => ?_, by omega, fun e => ?_⟩, hBr.trans (hb2.below hBr.size (fun k hk => by omega))⟩
            · obtain ⟨q1, q2 | ⟨g, cap, cur, q3, q4, q5, q6⟩⟩ := hnd
              · exact ⟨q1, .inl q2⟩
              · exact ⟨q1, .inr ⟨g, cap, cur, q3, by omega, (hb2.block g (Array.getElem?_eq_some_iff.1 q5).1 (by omega)).trans q5, q6⟩⟩
            · rw [hb2.cell (p := ⟨w.heap.size + 2, i, none⟩) (by show w.heap.size + 2 < _; omega) (by show ¬ (w.heap.size + 2 = w.heap.size); omega)]
              exact (hT.out.at_.ahead i hi).1
            · have := (hnd.lt _ e).1
              omega
          clear hnr hnd hI hT hBr hbx hok hrun ht hBt HN HF HX HE
          go_wp2
          have q0 : ((wr.setCell ⟨w.heap.size, 0, none⟩ (.slice na t.nodes.length nc)).setCell ⟨w.heap.size, 1, none⟩ (.slice (some ⟨w.heap.size + 2, 0, none⟩) m m)).cell? ⟨w.heap.size, 0, none⟩ = some (.slice na t.nodes.length nc) := by
            rw [World.cell?_setCell_other (h := show (⟨w.heap.size, 1, none⟩ : Addr) ≠ ⟨w.heap.size, 0, none⟩ from fun h => by cases h)]
            exact World.cell?_setCell_same (h := b0) ..
          have q1 : ((wr.setCell ⟨w.heap.size, 0, none⟩ (.slice na t.nodes.length nc)).setCell ⟨w.heap.size, 1, none⟩ (.slice (some ⟨w.heap.size + 2, 0, none⟩) m m)).cell? ⟨w.heap.size, 1, none⟩ = some (.slice (some ⟨w.heap.size + 2, 0, none⟩) m m) := by
            refine World.cell?_setCell_same (h := (World.cell?_setCell_other (h := show (⟨w.heap.size, 0, none⟩ : Addr) ≠ ⟨w.heap.size, 1, none⟩ from fun h => by cases h) ..).trans b1) ..
          refine bodyPost_ret (v := .agg #[.slice na t.nodes.length nc, .slice (some ⟨w.heap.size + 2, 0, none⟩) m m]) (by simp [results, Tryd.results26, go_sem, q0, q1]; try rfl) rfl ?_
          exact ⟨_, _, rfl, hfin.out.1, hfin.out.2⟩

end Go.Proofs.YtgllcbajgndldaaDoor.GraphNet
