/-
  The program's Parts, for every input.
-/
import Derived.Test.YtgllcbajgndldaaDoorGraphPts
namespace Go.Proofs.YtgllcbajgndldaaDoor.GraphNet
open Go.RowKit Go.Sort Go.Proofs.YtgllcbajgndldaaDoor.GramMath Go.Proofs.YtgllcbajgndldaaDoor.GramRow Go.Proofs.YtgllcbajgndldaaDoor.GramApart Go.Proofs.YtgllcbajgndldaaDoor.GraphMath Go.Proofs.YtgllcbajgndldaaDoor.GraphFn Go.Proofs.YtgllcbajgndldaaDoor.GraphSort Go.Proofs.YtgllcbajgndldaaDoor.OpRow Go.Proofs.YtgllcbajgndldaaDoor.GramErrs
set_option linter.unusedVariables false
set_option linter.unusedSimpArgs false

theorem toursInfo : (Tryd.prog.info? 61).map (fun i => (i.zero, i.size, i.bytes)) = some (some (.agg #[.slice none 0 0, .slice none 0 0]), 2, 48) := by kernel_rfl
theorem madeT_any (n : Nat) (hn : n ≤ 256) (w : World) : (Instr.makeSlice 75 (.int .i64 (n : Int)) (.int .i64 (n : Int))).run Tryd.prog w = .ok (.slice (some ⟨w.heap.size, 0, none⟩) n n) (w.alloc (.cells (madeCells #[.slice none 0 0, .slice none 0 0] (n * 2)) 61)) := by
  obtain ⟨i0, hi, hz0, hz1, hz2⟩ := info_parts toursInfo
  have h := run_make (P := Tryd.prog) w 75 61 i0 (.agg #[.slice none 0 0, .slice none 0 0]) Tryd.underlying75 hi hz0 .i64 .i64 (n : Int) (n : Int) (by omega) (by omega) (by rw [hz2]; omega) (by omega)
  rw [hz1] at h
  simpa [Value.cells] using h

/-- Tours in memory. -/
structure Tours (w : World) (bt m k : Nat) (T : Nat → Tr) : Prop where
  blk : ∃ cur, RowAt w bt 61 cur ∧ cur.size = m * 2
  at_ : ∀ i, i < k → ∃ (n c : Nat) (a : Option Addr) (ba : Nat), w.cell? ⟨bt, i * 2, none⟩ = some (.slice a n c) ∧ w.cell? ⟨bt, i * 2 + 1, none⟩ = some (.slice (some ⟨ba, 0, none⟩) m m) ∧ ba ≠ bt ∧ ∀ j, j < m → w.cell? ⟨ba, j, none⟩ = some (.int .i64 ((T i).ahead j))

theorem Tours.below {w w' : World} {bt m k B : Nat} {T : Nat → Tr} (h : Tours w bt m k T) (hb : Below B w w') (hB : w.heap.size ≤ B) : Tours w' bt m k T := by
  obtain ⟨cur, h1, h2⟩ := h.blk
  refine ⟨⟨cur, (hb.block bt (by have := h1.lt; omega)).trans h1, h2⟩, fun i hi => ?_⟩
  obtain ⟨n, c, a, ba, p1, p2, p3, p4⟩ := h.at_ i hi
  exact ⟨n, c, a, ba, (hb.cell (by have := cell_lt p1; omega)).trans p1, (hb.cell (by have := cell_lt p2; omega)).trans p2, p3, fun j hj => (hb.cell (by have := cell_lt (p4 j hj); omega)).trans (p4 j hj)⟩

theorem Tours.add {w w1 : World} {bt m k : Nat} {T : Nat → Tr} (h : Tours w bt m k T) (hb : Below w.heap.size w w1) (hk : k < m) {n c ba : Nat} {a : Option Addr} (hba : w.heap.size ≤ ba) (ha : ∀ j, j < m → w1.cell? ⟨ba, j, none⟩ = some (.int .i64 ((T k).ahead j))) :
    (∃ u v, w1.cell? ⟨bt, k * 2, none⟩ = some u ∧ w1.cell? ⟨bt, k * 2 + 1, none⟩ = some v) ∧ (w1.frozen? ⟨bt, k * 2, none⟩ = false ∧ w1.frozen? ⟨bt, k * 2 + 1, none⟩ = false) ∧ Tours ((w1.setCell ⟨bt, k * 2, none⟩ (.slice a n c)).setCell ⟨bt, k * 2 + 1, none⟩ (.slice (some ⟨ba, 0, none⟩) m m)) bt m (k + 1) T := by
  have h1 := h.below hb (Nat.le_refl _)
  obtain ⟨cur, hr, hs⟩ := h1.blk
  have hbt : bt < w.heap.size := by obtain ⟨cur, hr, _⟩ := h.blk; exact hr.lt
  have c0 : w1.cell? ⟨bt, k * 2, none⟩ = some (cur[k * 2]'(by omega)) := hr.cell (Array.getElem?_eq_getElem _)
  have c1 : w1.cell? ⟨bt, k * 2 + 1, none⟩ = some (cur[k * 2 + 1]'(by omega)) := hr.cell (Array.getElem?_eq_getElem _)
  refine ⟨⟨_, _, c0, c1⟩, ⟨hr.frozen _, hr.frozen _⟩, ⟨_, (hr.set (k * 2) (.slice a n c)).set (k * 2 + 1) (.slice (some ⟨ba, 0, none⟩) m m), by simpa using hs⟩, fun i hi => ?_⟩
  have hoth : ∀ p : Addr, p ≠ ⟨bt, k * 2, none⟩ → p ≠ ⟨bt, k * 2 + 1, none⟩ → ((w1.setCell ⟨bt, k * 2, none⟩ (.slice a n c)).setCell ⟨bt, k * 2 + 1, none⟩ (.slice (some ⟨ba, 0, none⟩) m m)).cell? p = w1.cell? p := fun p h0 h1 => by
    rw [World.cell?_setCell_other (h := fun e => h1 e.symm), World.cell?_setCell_other (h := fun e => h0 e.symm)]
  by_cases e : i = k
  · subst e
    refine ⟨n, c, a, ba, ?_, ?_, by omega, fun j hj => ?_⟩
    · rw [World.cell?_setCell_other (h := show (⟨bt, i * 2 + 1, none⟩ : Addr) ≠ ⟨bt, i * 2, none⟩ from fun h => by injection h; omega)]
      exact World.cell?_setCell_same (h := c0) ..
    · exact World.cell?_setCell_same (h := (World.cell?_setCell_other (h := show (⟨bt, i * 2, none⟩ : Addr) ≠ ⟨bt, i * 2 + 1, none⟩ from fun h => by injection h; omega) ..).trans c1) ..
    · rw [hoth ⟨ba, j, none⟩ (fun h => by injection h; omega) (fun h => by injection h; omega)]
      exact ha j hj
  · obtain ⟨n', c', a', ba', p1, p2, p3, p4⟩ := h1.at_ i (by omega)
    refine ⟨n', c', a', ba', ?_, ?_, p3, fun j hj => ?_⟩
    · rw [hoth _ (fun h => by injection h; omega) (fun h => by injection h; omega)]; exact p1
    · rw [hoth _ (fun h => by injection h; omega) (fun h => by injection h; omega)]; exact p2
    · rw [hoth ⟨ba', j, none⟩ (fun h => by injection h; omega) (fun h => by injection h; omega)]; exact p4 j hj

theorem own_formG {w : World} {base e n : Nat} {v : Value} {xs : List Value} (h : w.ownsRow base e 1 v n xs) : ∃ a c, v = .slice a n c ∧ ∀ (i : Nat) u, xs[i]? = some u → ∃ g, a = some ⟨g, 0, none⟩ ∧ w.cell? ⟨g, i, none⟩ = some u := by
  obtain ⟨hl, ⟨rfl, h0⟩ | ⟨g, cap, cur, rfl, hb, hg, h1, h2, h3, h4⟩⟩ := id h
  · subst h0
    obtain rfl : xs = [] := List.length_eq_zero_iff.1 (by omega)
    exact ⟨none, 0, rfl, fun i x hx => by simp at hx⟩
  · refine ⟨_, cap, rfl, fun i x hx => ⟨g, rfl, ?_⟩⟩
    have hi := (List.getElem?_eq_some_iff.1 hx).1
    rw [h.cellAt i (by omega)]
    exact hx

set_option maxRecDepth 100000 in
set_option maxHeartbeats 4000000 in
theorem parts_any (bg m gc : Nat) (E : List (Nat × Nat)) (w : World) (hN : NetR w bg m (fun a => ints (adj m E a))) (hm : m ≤ 256) (hE : ∀ e ∈ E, e.1 < m ∧ e.2 < m) :
    Calls Tryd.prog 24 #[.slice (some ⟨bg, 0, none⟩) m gc] w fun e w' => ∃ pv Vs, e = .returned pv ∧ Pts w' w.heap.size pv (partsK (sameT m E) m) Vs ∧ Below w.heap.size w w' := by
  have hmk := madeT_any m hm w
  have HN : Hid (NetR w bg m (fun a => ints (adj m E a))) := hN
  have HE : Hid (∀ e ∈ E, e.1 < m ∧ e.2 < m) := hE
  have HI0 : Hid (Tours (w.alloc (.cells (madeCells #[.slice none 0 0, .slice none 0 0] (m * 2)) 61)) w.heap.size m 0 (fun s => GraphMath.tour m E [s]) ∧ Below w.heap.size w (w.alloc (.cells (madeCells #[.slice none 0 0, .slice none 0 0] (m * 2)) 61))) := ⟨⟨⟨_, heap_new _ _, by simp [madeCells]⟩, fun i hi => by omega⟩, (Below.refl _ _).alloc (Nat.le_refl _) _⟩
  clear hN hE
  go_enter Tryd.func24, Tryd.ntmps24
  go_wp2
  go_step3
  go_wp2
  clear hmk
  go_loopw [15] (fun s wr => ∃ k : Nat, k ≤ m ∧ s = .int .i64 (k : Int) ∧ Hid (Tours wr w.heap.size m k (fun s => GraphMath.tour m E [s]) ∧ Below w.heap.size w wr)) (fun s _ => m - (intOf s).toNat)
  case atStart => exact ⟨0, by omega, rfl, HI0⟩
  case round =>
    clear HI0
    obtain ⟨k, hk, rfl, hI⟩ := hrel
    by_cases hlt : k < m
    · have hlt2 : (k : Int) < (m : Int) := by omega
      have hBa : Below wr.heap.size wr (wr.alloc (.cells #[.int .i64 (k : Int)] 3)) := (Below.refl _ _).alloc (Nat.le_refl _) _
      have hBw : Below w.heap.size w (wr.alloc (.cells #[.int .i64 (k : Int)] 3)) := hI.out.2.alloc hI.out.2.size _
      have htour := tour_any bg m gc E (some ⟨wr.heap.size, 0, none⟩) 1 [k] (wr.alloc (.cells #[.int .i64 (k : Int)] 3)) (NetR.below HN.out hBw (Nat.le_refl _)) (fun i x hx => ⟨_, 0, rfl, by
        match i, hx with
        | 0, hx => obtain rfl := Option.some.inj hx; simp [go_sem]⟩) (by simpa using hlt) hm (by simp) HE.out
      go_wp2_with fail
      refine htour.mono ?_
      rintro e w2 ⟨nv, ba, rfl, hTV, hb2⟩
      have hb3 : Below wr.heap.size wr w2 := hBa.trans (hb2.mono hBa.size)
      have hnd := hTV.nodes
      rw [← ints_length] at hnd
      obtain ⟨na, nc, rfl, _⟩ := own_form hnd
      obtain ⟨⟨u, v, y0, y1⟩, ⟨z0, z1⟩, hT2⟩ := hI.out.1.add hb3 hlt (n := (ints (GraphMath.tour m E [k]).nodes).length) (c := nc) (a := na) (by have := hTV.ge; have := hBa.size; omega) hTV.ahead
      generalize (ints (GraphMath.tour m E [k]).nodes).length = nl at *
      have hI2 : Hid (Tours ((w2.setCell ⟨w.heap.size, k * 2, none⟩ (.slice na nl nc)).setCell ⟨w.heap.size, k * 2 + 1, none⟩ (.slice (some ⟨ba, 0, none⟩) m m)) w.heap.size m (k + 1) (fun s => GraphMath.tour m E [s]) ∧ Below w.heap.size w ((w2.setCell ⟨w.heap.size, k * 2, none⟩ (.slice na nl nc)).setCell ⟨w.heap.size, k * 2 + 1, none⟩ (.slice (some ⟨ba, 0, none⟩) m m))) := ⟨hT2, ((hI.out.2.trans (hb3.mono hI.out.2.size)).setCell (p := ⟨w.heap.size, k * 2, none⟩) (Nat.le_refl _) _).setCell (p := ⟨w.heap.size, k * 2 + 1, none⟩) (Nat.le_refl _) _⟩
      clear htour hTV hb2 hBa hBw hnd hb3 hT2 hI
      go_wp2
      go_roundw
      case rel => exact ⟨k + 1, by omega, by go_num, hI2⟩
      case measure => simp [intOf]; omega
    · have hlt2 : ¬ ((k : Int) < (m : Int)) := by omega
      have HT : Hid (Tours wr w.heap.size m m (fun s => GraphMath.tour m E [s])) := by
        have h := hI.out.1
        rw [show k = m by omega] at h
        exact h
      have HB : Hid (Below w.heap.size w wr) := hI.out.2
      obtain ⟨wt, rfl⟩ : ∃ x, x = wr := ⟨wr, rfl⟩
      have hszt : w.heap.size < wt.heap.size := by obtain ⟨cur, h1, _⟩ := HT.out.blk; exact h1.lt
      clear hI hk hlt
      go_wp2
      go_step3
      go_wp2
      go_loopw [5, 28] (fun s5 s28 wr => ∃ (k : Nat) (pv : Value) (Vs : List Value), s5 = pv ∧ k ≤ m ∧ s28 = .int .i64 (k : Int) ∧ Hid (Pts wr wt.heap.size pv (partsK (sameT m E) k) Vs ∧ Below wt.heap.size wt wr)) (fun _ s28 _ => m - (intOf s28).toNat)
      case atStart => exact ⟨0, _, [], rfl, by omega, rfl, Pts.nil _ _, Below.refl _ _⟩
      case round =>
        obtain ⟨k, pv, Vs, hpv, hk, rfl, hI⟩ := hrel
        obtain rfl := hpv.symm
        by_cases hlt : k < m
        · have hlt2 : (k : Int) < (m : Int) := by omega
          have hok := partsK_ok m (sameT m E) k
          have hstep := partsK_succ (sameT m E) k
          generalize partsK (sameT m E) k = ps at *
          obtain ⟨wx, rfl⟩ : ∃ x, x = wr := ⟨wr, rfl⟩
          obtain ⟨hP, hBt⟩ := hI.out
          obtain ⟨pa, pc, rfl, hcells⟩ := own_formG hP.outer
          have hL : ps.length ≤ 256 := by have := hok.len; omega
          have HP : Hid (Pts wx wt.heap.size (.slice pa ps.length pc) ps Vs) := hP
          have HBt : Hid (Below wt.heap.size wt wx) := hBt
          have HOK : Hid (PsOk m k ps) := hok
          have HST : Hid (partsK (sameT m E) (k + 1) = addP (sameT m E) ps k) := hstep
          have HC : Hid (∀ (i : Nat) u, Vs[i]? = some u → ∃ g, pa = some ⟨g, 0, none⟩ ∧ wx.cell? ⟨g, i, none⟩ = some u) := hcells
          have hTx : Hid (Tours wx w.heap.size m m (fun s => GraphMath.tour m E [s])) := HT.out.below hBt (Nat.le_refl _)
          clear hI hP hBt hok hstep hcells
          go_wp2
          go_loopw [33] (fun s wr => ∃ j : Nat, j ≤ ps.length ∧ s = .int .i64 (j : Int) ∧ Hid (Below wx.heap.size wx wr) ∧ Hid (∀ i q, i < j → ps[i]? = some q → sameT m E (q.headD 0) k = false)) (fun s _ => ps.length - (intOf s).toNat)
          case atStart => exact ⟨0, by omega, rfl, Below.refl _ _, fun i q hi => by omega⟩
          case round =>
            obtain ⟨j, hj, rfl, hB, hno⟩ := hrel
            by_cases hlj : j < ps.length
            · obtain ⟨q, hq⟩ : ∃ q, ps[j]? = some q := ⟨ps[j], List.getElem?_eq_getElem hlj⟩
              have hqin := List.mem_of_getElem? hq
              obtain ⟨x0, tl, hqe⟩ : ∃ x0 tl, q = x0 :: tl := by
                cases q with
                | nil => exact absurd rfl (HOK.out.ne _ hqin)
                | cons a l => exact ⟨a, l, rfl⟩
              have hx0 : x0 < k := HOK.out.lt q hqin x0 (by rw [hqe]; simp)
              have hql := HOK.out.each q hqin
              obtain ⟨v, hv, hrow⟩ := HP.out.row j q hq
              obtain ⟨pg, rfl, hcj⟩ := HC.out j v hv
              have hrowr := own_up hrow hB.out
              have hcjr : wr.cell? ⟨pg, j, none⟩ = some v := (hB.out.cell (cell_lt hcj)).trans hcj
              obtain ⟨rg, rc, hvf⟩ : ∃ rg rc, v = .slice (some ⟨rg, 0, none⟩) q.length rc := by
                have h := hrow
                rw [show q.length = tl.length + 1 by rw [hqe]; rfl] at h ⊢
                exact ownsRow_succ h
              subst hvf
              have c0 : wr.cell? ⟨rg, 0, none⟩ = some (.int .i64 (x0 : Int)) := by
                rw [hrowr.cellAt 0 (by rw [hqe]; simp)]
                rw [hqe]
                rfl
              have hTr := hTx.out.below hB.out (Nat.le_refl _)
              obtain ⟨n1, d1, a1, b1, t0, t1, _, t2⟩ := hTr.at_ x0 (by omega)
              have hmet1 := met_any (.slice a1 n1 d1) b1 m (GraphMath.tour m E [x0]).ahead k wr hlt (fun i hi => t2 i hi) hm
              have hlj2 : (j : Int) < (ps.length : Int) := by omega
              have hx02 : (x0 : Int) < (m : Int) := by omega
              have hq0 : 0 < q.length := by rw [hqe]; simp
              have hq02 : (0 : Int) < (q.length : Int) := by omega
              have Hq : Hid (ps[j]? = some q) := hq
              have Hv : Hid (Vs[j]? = some (.slice (some ⟨rg, 0, none⟩) q.length rc)) := hv
              have Hqe : Hid (q.headD 0 = x0) := by show _ = _; rw [hqe]; rfl
              have Hrow : Hid (wx.ownsRow wt.heap.size 3 1 (.slice (some ⟨rg, 0, none⟩) q.length rc) q.length (iV (ints q))) := hrow
              have HTr : Hid (Tours wr w.heap.size m m (fun s => GraphMath.tour m E [s])) := hTr
              clear hq hv hqe hrow hrowr hqin hcj hTr t2
              have hsame : ∀ b, b = ((GraphMath.tour m E [x0]).ahead k != -1) → Hid (b = ((GraphMath.tour m E [x0]).ahead k != -1)) := fun b h => h
              cases hb1 : ((GraphMath.tour m E [x0]).ahead k != -1) with
              | false =>
                rw [hb1] at hmet1
                have hno2 : Hid (∀ i q, i < j + 1 → ps[i]? = some q → sameT m E (q.headD 0) k = false) := fun i q' hi hq' => by
                  by_cases e : i = j
                  · subst e
                    rw [Hq.out] at hq'
                    cases hq'
                    rw [Hqe.out]
                    unfold sameT
                    rw [hb1]
                    rfl
                  · exact hno.out i q' (by omega) hq'
                clear hb1 hno hsame
                go_wp2_with fail
                refine hmet1.mono ?_
                rintro e w4 ⟨rfl, hb4⟩
                have hB4 : Hid (Below wx.heap.size wx w4) := hB.out.trans (hb4.mono hB.out.size)
                clear hmet1 hb4 hB c0 hcjr t0 t1
                go_wp2
                go_roundw
                case rel => exact ⟨j + 1, by omega, by go_num, hB4, hno2⟩
                case measure => simp [intOf]; omega
              | true =>
                rw [hb1] at hmet1
                have Hb1 : Hid (((GraphMath.tour m E [x0]).ahead k != -1) = true) := hb1
                clear hb1 hsame
                go_wp2_with fail
                refine hmet1.mono ?_
                rintro e w4 ⟨rfl, hb4⟩
                obtain ⟨n2, d2, a2, b2, u0, u1, _, u2⟩ := (HTr.out.below hb4 (Nat.le_refl _)).at_ k hlt
                have hmet2 := met_any (.slice a2 n2 d2) b2 m (GraphMath.tour m E [k]).ahead x0 w4 (by omega) (fun i hi => u2 i hi) hm
                have hB4 : Hid (Below wx.heap.size wx w4) := hB.out.trans (hb4.mono hB.out.size)
                have hcj4 : w4.cell? ⟨pg, j, none⟩ = some (.slice (some ⟨rg, 0, none⟩) q.length rc) := (hb4.cell (cell_lt hcjr)).trans hcjr
                clear hmet1 hb4 hB c0 hcjr t0 t1 u2 HTr
                cases hb2 : ((GraphMath.tour m E [k]).ahead x0 != -1) with
                | false =>
                  rw [hb2] at hmet2
                  have hno2 : Hid (∀ i q, i < j + 1 → ps[i]? = some q → sameT m E (q.headD 0) k = false) := fun i q' hi hq' => by
                    by_cases e : i = j
                    · subst e
                      rw [Hq.out] at hq'
                      cases hq'
                      rw [Hqe.out]
                      unfold sameT
                      rw [hb2, Bool.and_false]
                    · exact hno.out i q' (by omega) hq'
                  clear hb2 hno
                  go_wp2_with fail
                  refine hmet2.mono ?_
                  rintro e w5 ⟨rfl, hb5⟩
                  have hB5 : Hid (Below wx.heap.size wx w5) := hB4.out.trans (hb5.mono hB4.out.size)
                  clear hmet2 hb5 hB4 hcj4 u0 u1
                  go_wp2
                  go_roundw
                  case rel => exact ⟨j + 1, by omega, by go_num, hB5, hno2⟩
                  case measure => simp [intOf]; omega
                | true =>
                  rw [hb2] at hmet2
                  have Hadd : Hid (addP (sameT m E) ps k = ps.set j (q ++ [k])) := addP_hit Hq.out (by rw [Hqe.out]; unfold sameT; rw [Hb1.out, hb2]; rfl) hno.out
                  clear hb2 hno
                  go_wp2_with fail
                  refine hmet2.mono ?_
                  rintro e w5 ⟨rfl, hb5⟩
                  have hB5 : Below wx.heap.size wx w5 := hB4.out.trans (hb5.mono hB4.out.size)
                  have hP5 := HP.out.below hB5
                  have hown5 := own_up Hrow.out hB5
                  have hsz5 : wt.heap.size ≤ w5.heap.size := by have := HBt.out.size; have := hB5.size; omega
                  have hF : Hid (∀ g c w2, World.ownsRow w2 wt.heap.size 3 1 (.slice (some ⟨g, 0, none⟩) (q.length + 1) c) (q.length + 1) (iV (ints q) ++ [.int .i64 (k : Int)]) → (w5.alloc (.cells #[.int .i64 (k : Int)] 3)).grownBy w2 (Value.slice (some ⟨rg, 0, none⟩) q.length rc).ownBlock → ((Value.slice (some ⟨rg, 0, none⟩) q.length rc).ownBlock = some g ∨ g = (w5.alloc (.cells #[.int .i64 (k : Int)] 3)).heap.size) → (w2.cell? ⟨pg, j, none⟩ = some (.slice (some ⟨rg, 0, none⟩) q.length rc) ∧ w2.frozen? ⟨pg, j, none⟩ = false) ∧ Hid (∃ Vs, Pts (w2.setCell ⟨pg, j, none⟩ (.slice (some ⟨g, 0, none⟩) (q.length + 1) c)) wt.heap.size (.slice (some ⟨pg, 0, none⟩) ps.length pc) (partsK (sameT m E) (k + 1)) Vs ∧ Below wt.heap.size wt (w2.setCell ⟨pg, j, none⟩ (.slice (some ⟨g, 0, none⟩) (q.length + 1) c)))) := fun g c w2 ho hg hat => by
                    have hg2 : w5.grownBy w2 (Value.slice (some ⟨rg, 0, none⟩) q.length rc).ownBlock := grown_trans (World.grownBy_alloc w5 _ _) hg
                    obtain ⟨p1, p2⟩ := hP5.grow Hq.out Hv.out ho hg2 (fun g' e => by
                      have e2 : g = g' := by simpa [Value.ownBlock] using e
                      subst e2
                      rcases hat with h | h
                      · exact .inl h
                      · right; rw [h]; simp)
                    refine ⟨p1, _, by rw [HST.out, Hadd.out]; exact p2, ?_⟩
                    have hpg : wt.heap.size ≤ pg := (hP5.outer.lt pg rfl).1
                    exact ((HBt.out.trans (hB5.mono HBt.out.size)).grown hg2 hsz5 (fun i hi => (hown5.lt i hi).1)).setCell (p := ⟨pg, j, none⟩) hpg _
                  obtain ⟨i0, hi, hz0, hz1, hz2⟩ := info_parts infoInt
                  have hql2 : q.length ≤ 256 := by omega
                  clear hmet2 hb5 hB4 hcj4 u0 u1 hP5 hB5
                  go_wp2_with (at_builtin; refine wpList_append_lies _ rfl (.tmp 57) (.tmp 59) 24 rfl wt.heap.size 3 i0 (.int .i64 0) 1 8 Tryd.underlying24 hi hz0 hz1 hz2 rfl (by decide) _ _ _ rfl (hown5.alloc _) ⟨w5.heap.size, 0, none⟩ 1 1 [.int .i64 (k : Int)] rfl rfl (cell_one_new _ _ _) (by simp [Value.oneCell']) (by omega) (by unfold maxLen; omega) (by omega) (by simp; omega) _ rfl ?_; intro g2 c2 w2 hown2 hgrow2 hat2 _; obtain ⟨⟨y0, y1⟩, hI2⟩ := hF.out g2 c2 w2 hown2 hgrow2 hat2; clear hF hown2 hgrow2 hat2 hown5)
                  go_roundw
                  case rel =>
                    obtain ⟨Vs2, h1, h2⟩ := hI2.out
                    exact ⟨k + 1, _, Vs2, by trivial, by omega, by go_num, h1, h2⟩
                  case measure => simp [intOf]; omega
            · have hlj2 : ¬ ((j : Int) < (ps.length : Int)) := by omega
              have Hadd : Hid (addP (sameT m E) ps k = ps ++ [[k]]) := addP_miss (fun i q hi hq => hno.out i q (by omega) hq)
              have hP5 := HP.out.below hB.out
              have hsz5 : wt.heap.size ≤ wr.heap.size := by have := HBt.out.size; have := hB.out.size; omega
              obtain ⟨i0, hi, hz0, hz1, hz2⟩ := info_parts netInfo
              have hrow1 : RowAt ((wr.alloc (.cells #[.int .i64 (k : Int)] 3)).alloc (.cells #[.slice (some ⟨wr.heap.size, 0, none⟩) 1 1] 24)) wr.heap.size 3 (intsA [(k : Int)]) := (Below.heap_alloc _ _ _ (by simp)).trans (heap_new _ _)
              have hBn : Below wr.heap.size wr ((wr.alloc (.cells #[.int .i64 (k : Int)] 3)).alloc (.cells #[.slice (some ⟨wr.heap.size, 0, none⟩) 1 1] 24)) := ((Below.refl _ _).alloc (Nat.le_refl _) _).alloc (by simp) _
              have hF : Hid (∀ v2 w2, World.ownsRow w2 wt.heap.size 24 1 v2 (ps.length + 1) (Vs ++ [.slice (some ⟨wr.heap.size, 0, none⟩) 1 1]) → ((wr.alloc (.cells #[.int .i64 (k : Int)] 3)).alloc (.cells #[.slice (some ⟨wr.heap.size, 0, none⟩) 1 1] 24)).grownBy w2 (Value.slice pa ps.length pc).ownBlock → Hid (∃ Vs, Pts w2 wt.heap.size v2 (partsK (sameT m E) (k + 1)) Vs ∧ Below wt.heap.size wt w2)) := fun v2 w2 ho hg => by
                refine ⟨_, by rw [HST.out, Hadd.out]; exact hP5.more hsz5 hBn (Nat.le_refl _) hrow1 ho hg, ?_⟩
                exact (HBt.out.trans ((hB.out.mono HBt.out.size).trans (hBn.mono hsz5))).grown hg (by simp; omega) (fun i hi => (hP5.outer.lt i hi).1)
              have hown5 := own_up hP5.outer hBn
              have hVl := hP5.len
              have hcell1 : ∀ (j : Nat) u, [Value.slice (some ⟨wr.heap.size, 0, none⟩) 1 1][j]? = some u → ((wr.alloc (.cells #[.int .i64 (k : Int)] 3)).alloc (.cells #[.slice (some ⟨wr.heap.size, 0, none⟩) 1 1] 24)).cell? ((⟨wr.heap.size + 1, 0, none⟩ : Addr).add j) = some u := by
                have h := cell_one_new (wr.alloc (.cells #[.int .i64 (k : Int)] 3)) (.slice (some ⟨wr.heap.size, 0, none⟩) 1 1) 24
                rw [World.size_alloc] at h
                exact h
              clear hno hP5 hB hrow1 hBn HC HP
              go_wp2_with (at_builtin; refine wpList_append_own _ rfl (.tmp 63) (.tmp 66) 40 rfl wt.heap.size 24 i0 (.slice none 0 0) 1 24 Tryd.underlying40 hi hz0 hz1 hz2 rfl (by decide) _ _ _ rfl hown5 ⟨wr.heap.size + 1, 0, none⟩ 1 1 [.slice (some ⟨wr.heap.size, 0, none⟩) 1 1] rfl rfl hcell1 (by simp [Value.oneCell']) (by unfold maxLen; omega) (by omega) (by simp; omega) ?_; intro v2 w2 hown2 hgrow2 _; have hI2 := hF.out v2 w2 hown2 hgrow2; clear hF hown2 hgrow2 hown5)
              go_roundw
              case rel =>
                obtain ⟨Vs2, h1, h2⟩ := hI2.out
                exact ⟨k + 1, _, Vs2, by trivial, by omega, by go_num, h1, h2⟩
              case measure => simp [intOf]; omega
        · have hlt2 : ¬ ((k : Int) < (m : Int)) := by omega
          have hfin : Hid (Pts wr w.heap.size pv (partsK (sameT m E) m) Vs ∧ Below w.heap.size w wr) := ⟨by
            have h := hI.out.1
            rw [show k = m by omega] at h
            exact ⟨own_lower h.outer (by omega), fun i p hp => by
              obtain ⟨v, h1, h2⟩ := h.row i p hp
              exact ⟨v, h1, own_lower h2 (by omega)⟩, h.apart⟩, HB.out.trans (hI.out.2.mono (by omega))⟩
          clear hI
          go_wp2
          go_ret
          exact ⟨pv, Vs, rfl, hfin.out⟩

end Go.Proofs.YtgllcbajgndldaaDoor.GraphNet
