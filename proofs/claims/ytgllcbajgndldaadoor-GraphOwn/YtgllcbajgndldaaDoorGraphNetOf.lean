/-
  The program's net of a graph.
-/
import Derived.Test.YtgllcbajgndldaaDoorGraphNet
import Derived.Test.YtgllcbajgndldaaDoorOrdersZ
import Derived.Test.YtgllcbajgndldaaDoorGramErrs
namespace Go.Proofs.YtgllcbajgndldaaDoor.GraphNet
open Go.RowKit Go.Sort Go.Proofs.YtgllcbajgndldaaDoor.GramMath Go.Proofs.YtgllcbajgndldaaDoor.GramRow Go.Proofs.YtgllcbajgndldaaDoor.GramApart Go.Proofs.YtgllcbajgndldaaDoor.GraphMath Go.Proofs.YtgllcbajgndldaaDoor.GraphFn Go.Proofs.YtgllcbajgndldaaDoor.GraphSort Go.Proofs.YtgllcbajgndldaaDoor.OpRow Go.Proofs.YtgllcbajgndldaaDoor.GramErrs
set_option linter.unusedVariables false
set_option linter.unusedSimpArgs false

/-- What netOf answers. -/
def NetV (B : Nat) (p : Nat → Addr) (n : Int) (es : List (Int × Int)) (w' : World) (v : Value) : Prop :=
  (mayE n es = 0 ∧ ∃ bg V, v = .tuple #[.slice (some ⟨bg, 0, none⟩) n.toNat n.toNat, .nilIface] ∧ B ≤ bg ∧ Net w' (bg + 1) bg n.toNat (fun a => ints (adj n.toNat (toE es) a)) V) ∨
  (mayE n es ≠ 0 ∧ v = .tuple #[.slice none 0 0, .iface 122 (.pointer (some (p (mayE n es))))])

set_option maxRecDepth 100000 in
set_option maxHeartbeats 2000000 in
theorem netOf_any (p : Nat → Addr) (n : Int) (ea : Option Addr) (ec : Nat) (es : List (Int × Int)) (w : World) (hn : I64 n) (hE : ERow w ea es) (hS1 : Sent w 1 (p 1)) (hS12 : Sent w 12 (p 12)) (hl : es.length ≤ 1125899906842624) (hx : ∀ e ∈ es, I64 e.1 ∧ I64 e.2) :
    Calls Tryd.prog 17 #[.int .i64 n, .slice ea es.length ec] w fun e w' => ∃ v, e = .returned v ∧ NetV w.heap.size p n es w' v ∧ Below w.heap.size w w' := by
  have c1 : w.cell? ⟨1, 0, none⟩ = some (.iface 122 (.pointer (some (p 1)))) := hS1
  have c12 : w.cell? ⟨12, 0, none⟩ = some (.iface 122 (.pointer (some (p 12)))) := hS12
  obtain ⟨n1, n2⟩ := hn
  by_cases h256 : 256 < n
  · have E : Hid (mayE n es = 12) := by show _ = _; simp [mayE, h256]
    clear hE hx
    go_enter Tryd.func17, Tryd.ntmps17
    go_wp2
    go_quiet (fail)
    go_wp2
    go_ret2
    exact ⟨_, rfl, .inr ⟨by rw [E.out]; decide, by rw [E.out]; rfl⟩, drew_below _ _⟩
  by_cases h4096 : 4096 < es.length
  · have E : Hid (mayE n es = 12) := by show _ = _; simp [mayE, h4096]
    have hd : (4096 : Int) < (es.length : Int) := by omega
    clear hE hx
    go_enter Tryd.func17, Tryd.ntmps17
    go_wp2
    go_quiet (fail)
    go_wp2
    go_ret2
    exact ⟨_, rfl, .inr ⟨by rw [E.out]; decide, by rw [E.out]; rfl⟩, drew_below _ _⟩
  by_cases h0 : n < 0
  · have E : Hid (mayE n es = 1) := by show _ = _; simp [mayE, h256, h4096, h0]
    have hd : ¬ (4096 : Int) < (es.length : Int) := by omega
    clear hE hx
    go_enter Tryd.func17, Tryd.ntmps17
    go_wp2
    go_quiet (fail)
    go_wp2
    go_ret2
    exact ⟨_, rfl, .inr ⟨by rw [E.out]; decide, by rw [E.out]; rfl⟩, drew_below _ _⟩
  obtain ⟨m, rfl⟩ : ∃ m : Nat, n = (m : Int) := ⟨n.toNat, by omega⟩
  have hm : m ≤ 256 := by omega
  have hmk := madeN_any m hm w
  have hd : ¬ (4096 : Int) < (es.length : Int) := by omega
  have hN0 : Hid (Net (w.alloc (.cells (madeCells #[.slice none 0 0] m) 24)) (w.heap.size + 1) w.heap.size m (fun _ => []) (fun _ => .slice none 0 0)) := net_made m w
  have hB0 : Hid (Below w.heap.size w (w.alloc (.cells (madeCells #[.slice none 0 0] m) 24))) := (Below.refl _ _).alloc (Nat.le_refl _) _
  go_enter Tryd.func17, Tryd.ntmps17
  go_wp2
  go_loopw [26] (fun s wr => ∃ k : Nat, k ≤ es.length ∧ s = .int .i64 (k : Int) ∧ ∃ V, Hid (Net wr (w.heap.size + 1) w.heap.size m (fun a => ints (raw ((toE es).take k) a)) V) ∧ Hid (Below w.heap.size w wr) ∧ Hid (((es.take k).all fun e => hasB m [e.1, e.2]) = true)) (fun s _ => es.length - (intOf s).toNat)
  case atStart => exact ⟨0, by omega, rfl, _, by simpa [raw, ints] using hN0, hB0, by show _ = _; simp⟩
  case round =>
    obtain ⟨k, hk, rfl, V, hNk, hBk, hAk⟩ := hrel
    by_cases hlt : k < es.length
    · obtain ⟨⟨x, y⟩, hxy⟩ : ∃ e, es[k]? = some e := ⟨es[k], List.getElem?_eq_getElem hlt⟩
      obtain ⟨⟨x1, x2⟩, y1, y2⟩ := hx _ (List.mem_of_getElem? hxy)
      dsimp only at x1 x2 y1 y2
      obtain ⟨eb, eo, rfl, ce0, ce1⟩ := (hE.below hBk.out (Nat.le_refl _)) k _ hxy
      dsimp only at ce0 ce1
      have hlt2 : (k : Int) < (es.length : Int) := by omega
      clear hmk hN0 hB0
      go_wp2_with fail
      refine (has_any (some ⟨w.heap.size, 0, none⟩) m m (some ⟨wr.heap.size, 0, none⟩) 2 [x, y] _ (fun j z hj => ⟨_, 0, rfl, ?_⟩) (by simp) (fun z hz => ?_) hm).mono ?_
      · rw [Nat.zero_add]
        match j, hj with
        | 0, hj => obtain rfl := Option.some.inj hj; simp [go_sem]
        | 1, hj => obtain rfl := Option.some.inj hj; simp [go_sem]
      · rcases List.mem_cons.1 hz with rfl | hz
        · exact ⟨x1, x2⟩
        · rw [List.mem_singleton.1 hz]; exact ⟨y1, y2⟩
      rintro e w1 ⟨rfl, hw1⟩
      have hBa : Below wr.heap.size wr w1 := by rw [hw1]; exact (Below.refl _ _).alloc (Nat.le_refl _) _
      have hr1 : RowAt w1 wr.heap.size 45 #[.int .i64 x, .int .i64 y] := by rw [hw1]; exact heap_new _ _
      have hN1 := hNk.out.below hBa
      have hB1 : Below w.heap.size w w1 := hBk.out.trans (hBa.mono hBk.out.size)
      have hz1 : w1.heap.size = wr.heap.size + 1 := by rw [hw1]; simp
      have c1' : w1.cell? ⟨1, 0, none⟩ = some (.iface 122 (.pointer (some (p 1)))) := (hB1.cell (p := ⟨1, 0, none⟩) (cell_lt c1)).trans c1
      have hsw := hBk.out.size
      have hfar : ∀ i, i < m → (V i).ownBlock ≠ some wr.heap.size := fun i hi e => by have := ((hNk.out.own i hi).lt _ e).2; omega
      clear hw1 hBa ce0 ce1 hNk
      cases hh : hasB m [x, y] with
      | false =>
        have E : Hid (mayE (m : Int) es = 1) := by
          show _ = _
          have : (es.all fun e => hasB m [e.1, e.2]) = false := by
            rw [Bool.eq_false_iff]
            intro hc
            have := List.all_eq_true.1 hc _ (List.mem_of_getElem? hxy)
            rw [hh] at this
            cases this
          simp [mayE, h256, h4096, h0, this]
        have hB1' : Hid (Below w.heap.size w w1) := hB1
        clear hN1 hB1 hBk hAk hxy hE hx hr1 c1 c12 hS1 hS12 hh
        go_wp2
        go_quiet (fail)
        go_wp2
        go_ret2
        exact ⟨_, rfl, .inr ⟨by rw [E.out]; decide, by rw [E.out]; rfl⟩, bdrew hB1'.out _⟩
      | true =>
        obtain ⟨X, Y, rfl, rfl, hX, hY⟩ := hasB_two hh
        have hA2 : Hid (((es.take (k + 1)).all fun e => hasB m [e.1, e.2]) = true) := all_take_succ hAk.out hxy hh
        have hR : Hid ((fun a => ints (raw ((toE es).take (k + 1)) a)) = updL (fun a => ints (raw ((toE es).take k) a)) X (ints (raw ((toE es).take k) X) ++ [(Y : Int)])) := by
          show _ = _
          have e1 : (toE es).take (k + 1) = (toE es).take k ++ [(X, Y)] := by
            rw [List.take_add_one]
            congr 1
            simp [toE, hxy]
          funext a
          rw [e1, raw_append]
          by_cases e : a = X
          · subst e; rw [if_pos rfl, updL_at, ints_append]; rfl
          · rw [if_neg (Ne.symm e), updL_ne _ _ e]
        have hNd : Net w1.drew (w.heap.size + 1) w.heap.size m (fun a => ints (raw ((toE es).take k) a)) V := hN1.below (drew_below w1 1)
        have hown := hNd.own X hX
        have hL : (ints (raw ((toE es).take k) X)).length ≤ 4096 := by rw [ints_length]; have := raw_length ((toE es).take k) X; simp [toE_length] at this; omega
        have hBd : Below w.heap.size w w1.drew := hB1.drew
        have hr1d : RowAt w1.drew wr.heap.size 45 #[.int .i64 (X : Int), .int .i64 (Y : Int)] := hr1
        have hzd : w1.drew.heap.size = wr.heap.size + 1 := hz1
        have hfX := hfar X hX
        have l0 : w1.drew.cell? ⟨wr.heap.size, 0, none⟩ = some (.int .i64 (X : Int)) := hr1d.cell rfl
        have l1 : w1.drew.cell? ⟨wr.heap.size, 1, none⟩ = some (.int .i64 (Y : Int)) := hr1d.cell rfl
        have l2 : w1.drew.cell? ⟨w.heap.size, X, none⟩ = some (V X) := (hNd.cells X hX).1
        clear hE hx hxy hh hN1 hB1 hBk hAk c1 c12 hS1 hS12 c1' hfar hr1
        generalize ints (raw ((toE es).take k) X) = R at *
        have hA0 : Below w1.drew.heap.size w1.drew (w1.drew.alloc (.cells #[.int .i64 (Y : Int)] 3)) := (Below.refl _ _).alloc (Nat.le_refl _) _
        have lA : (w1.drew.alloc (.cells #[.int .i64 (Y : Int)] 3)).cell? ⟨wr.heap.size, 0, none⟩ = some (.int .i64 (X : Int)) ∧ (w1.drew.alloc (.cells #[.int .i64 (Y : Int)] 3)).cell? ⟨wr.heap.size, 1, none⟩ = some (.int .i64 (Y : Int)) ∧ (w1.drew.alloc (.cells #[.int .i64 (Y : Int)] 3)).cell? ⟨w.heap.size, X, none⟩ = some (V X) := ⟨(hA0.cell (cell_lt l0)).trans l0, (hA0.cell (cell_lt l1)).trans l1, (hA0.cell (cell_lt l2)).trans l2⟩
        have hF : Hid (∀ g cap w2, World.ownsRow w2 (w.heap.size + 1) 3 1 (.slice (some ⟨g, 0, none⟩) (R.length + 1) cap) (R.length + 1) (iV R ++ [.int .i64 (Y : Int)]) → (w1.drew.alloc (.cells #[.int .i64 (Y : Int)] 3)).grownBy w2 (V X).ownBlock → ((V X).ownBlock = some g ∨ g = (w1.drew.alloc (.cells #[.int .i64 (Y : Int)] 3)).heap.size) → (w2.cell? ⟨wr.heap.size, 0, none⟩ = some (.int .i64 (X : Int)) ∧ w2.cell? ⟨wr.heap.size, 1, none⟩ = some (.int .i64 (Y : Int)) ∧ w2.cell? ⟨w.heap.size, X, none⟩ = some (V X)) ∧ w2.frozen? ⟨w.heap.size, X, none⟩ = false ∧ (∃ V', Hid (Net (w2.setCell ⟨w.heap.size, X, none⟩ (.slice (some ⟨g, 0, none⟩) (R.length + 1) cap)) (w.heap.size + 1) w.heap.size m (fun a => ints (raw ((toE es).take (k + 1)) a)) V')) ∧ Hid (Below w.heap.size w (w2.setCell ⟨w.heap.size, X, none⟩ (.slice (some ⟨g, 0, none⟩) (R.length + 1) cap)))) := fun g cap w2 ho hg hat => by
          have hg2 : w1.drew.grownBy w2 (V X).ownBlock := grown_trans (World.grownBy_alloc w1.drew _ _) hg
          obtain ⟨⟨p1, p2⟩, p3⟩ := hNd.put hX (v' := .slice (some ⟨g, 0, none⟩) (R.length + 1) cap) (zs := R ++ [(Y : Int)]) hg2 (by simpa [iV] using ho) (fun g' e => by
            have e2 : g = g' := by simpa [Value.ownBlock] using e
            subst e2
            rcases hat with h | h
            · exact .inl h
            · right; rw [h]; simp)
          refine ⟨⟨hg2.cell l0 hfX.symm, hg2.cell l1 hfX.symm, p1⟩, p2, ⟨_, by rw [hR.out]; exact p3⟩, ?_⟩
          exact (hBd.grown hg2 (by omega) (fun j hj => by have := (hown.lt j hj).1; omega)).setCell (p := ⟨w.heap.size, X, none⟩) (Nat.le_refl _) _
        have hX2 : (X : Int) < (m : Int) := by omega
        have hszd : w.heap.size + 1 ≤ w1.drew.heap.size := by omega
        clear hNd hBd hr1d hR hA0 hfX hzd hz1
        go_wp2_with fail
        refine wp_region_noPanic ?_
        refine OrdersZ.region_Z (S := (fun w9 => w9.cell? ⟨wr.heap.size, 0, none⟩ = some (.int .i64 (X : Int)) ∧ w9.cell? ⟨wr.heap.size, 1, none⟩ = some (.int .i64 (Y : Int)) ∧ w9.cell? ⟨w.heap.size, X, none⟩ = some (V X))) 13 (by kernel_rfl) ⟨l0, l1, l2⟩ (fun hHeld => ?_)
        generalize w1.drew = W at *
        refine OrdersZ.takeZ (i := 0) (v := .slice (some ⟨w.heap.size, 0, none⟩) m m) rfl (by kernel_rfl) (by kernel_rfl) (by kernel_rfl) (by kernel_rfl) (by kernel_rfl) (fun _ _ _ h => h) (Or.inl ⟨by rfl, fun w9 hSw => ?_⟩) hHeld ?_
        · obtain ⟨s0, s1, s2⟩ := hSw
          go_simp
        simp only [List.getElem_toArray, List.getElem_cons_zero, List.getElem_cons_succ, Act.put, List.setIfInBounds_toArray, List.set_cons_zero, List.set_cons_succ]
        refine OrdersZ.takeZ (i := 1) (v := .pointer (some ⟨wr.heap.size, 0, none⟩)) rfl (by kernel_rfl) (by kernel_rfl) (by kernel_rfl) (by kernel_rfl) (by kernel_rfl) (fun _ _ _ h => h) (Or.inl ⟨by rfl, fun w9 hSw => ?_⟩) hHeld ?_
        · obtain ⟨s0, s1, s2⟩ := hSw
          go_simp
        simp only [List.getElem_toArray, List.getElem_cons_zero, List.getElem_cons_succ, Act.put, List.setIfInBounds_toArray, List.set_cons_zero, List.set_cons_succ]
        refine OrdersZ.takeZ (i := 2) (v := .int .i64 (X : Int)) rfl (by kernel_rfl) (by kernel_rfl) (by kernel_rfl) (by kernel_rfl) (by kernel_rfl) (fun _ _ _ h => h) (Or.inl ⟨by rfl, fun w9 hSw => ?_⟩) hHeld ?_
        · obtain ⟨s0, s1, s2⟩ := hSw
          go_simp
        simp only [List.getElem_toArray, List.getElem_cons_zero, List.getElem_cons_succ, Act.put, List.setIfInBounds_toArray, List.set_cons_zero, List.set_cons_succ]
        refine OrdersZ.takeZ (i := 3) (v := .slice (some ⟨w.heap.size, 0, none⟩) m m) rfl (by kernel_rfl) (by kernel_rfl) (by kernel_rfl) (by kernel_rfl) (by kernel_rfl) (fun _ _ _ h => h) (Or.inl ⟨by rfl, fun w9 hSw => ?_⟩) hHeld ?_
        · obtain ⟨s0, s1, s2⟩ := hSw
          go_simp
        simp only [List.getElem_toArray, List.getElem_cons_zero, List.getElem_cons_succ, Act.put, List.setIfInBounds_toArray, List.set_cons_zero, List.set_cons_succ]
        refine OrdersZ.takeZ (i := 4) (v := .pointer (some ⟨wr.heap.size, 0, none⟩)) rfl (by kernel_rfl) (by kernel_rfl) (by kernel_rfl) (by kernel_rfl) (by kernel_rfl) (fun _ _ _ h => h) (Or.inl ⟨by rfl, fun w9 hSw => ?_⟩) hHeld ?_
        · obtain ⟨s0, s1, s2⟩ := hSw
          go_simp
        simp only [List.getElem_toArray, List.getElem_cons_zero, List.getElem_cons_succ, Act.put, List.setIfInBounds_toArray, List.set_cons_zero, List.set_cons_succ]
        refine OrdersZ.takeZ (i := 5) (v := .int .i64 (X : Int)) rfl (by kernel_rfl) (by kernel_rfl) (by kernel_rfl) (by kernel_rfl) (by kernel_rfl) (fun _ _ _ h => h) (Or.inl ⟨by rfl, fun w9 hSw => ?_⟩) hHeld ?_
        · obtain ⟨s0, s1, s2⟩ := hSw
          go_simp
        simp only [List.getElem_toArray, List.getElem_cons_zero, List.getElem_cons_succ, Act.put, List.setIfInBounds_toArray, List.set_cons_zero, List.set_cons_succ]
        refine OrdersZ.takeZ (i := 6) (v := .pointer (some ⟨w.heap.size, X, none⟩)) rfl (by kernel_rfl) (by kernel_rfl) (by kernel_rfl) (by kernel_rfl) (by kernel_rfl) (fun _ _ _ h => h) (Or.inl ⟨by rfl, fun w9 hSw => ?_⟩) hHeld ?_
        · obtain ⟨s0, s1, s2⟩ := hSw
          go_simp
        simp only [List.getElem_toArray, List.getElem_cons_zero, List.getElem_cons_succ, Act.put, List.setIfInBounds_toArray, List.set_cons_zero, List.set_cons_succ]
        refine OrdersZ.takeZ (i := 7) (v := V X) rfl (by kernel_rfl) (by kernel_rfl) (by kernel_rfl) (by kernel_rfl) (by kernel_rfl) (fun _ _ _ h => h) (Or.inl ⟨by rfl, fun w9 hSw => ?_⟩) hHeld ?_
        · obtain ⟨s0, s1, s2⟩ := hSw
          go_simp
        simp only [List.getElem_toArray, List.getElem_cons_zero, List.getElem_cons_succ, Act.put, List.setIfInBounds_toArray, List.set_cons_zero, List.set_cons_succ]
        refine OrdersZ.takeZ (i := 8) (v := .pointer (some ⟨wr.heap.size, 1, none⟩)) rfl (by kernel_rfl) (by kernel_rfl) (by kernel_rfl) (by kernel_rfl) (by kernel_rfl) (fun _ _ _ h => h) (Or.inl ⟨by rfl, fun w9 hSw => ?_⟩) hHeld ?_
        · obtain ⟨s0, s1, s2⟩ := hSw
          go_simp
        simp only [List.getElem_toArray, List.getElem_cons_zero, List.getElem_cons_succ, Act.put, List.setIfInBounds_toArray, List.set_cons_zero, List.set_cons_succ]
        refine OrdersZ.takeZ (i := 9) (v := .int .i64 (Y : Int)) rfl (by kernel_rfl) (by kernel_rfl) (by kernel_rfl) (by kernel_rfl) (by kernel_rfl) (fun _ _ _ h => h) (Or.inl ⟨by rfl, fun w9 hSw => ?_⟩) hHeld ?_
        · obtain ⟨s0, s1, s2⟩ := hSw
          go_simp
        simp only [List.getElem_toArray, List.getElem_cons_zero, List.getElem_cons_succ, Act.put, List.setIfInBounds_toArray, List.set_cons_zero, List.set_cons_succ]
        refine OrdersZ.readyZ (i := 10) (by kernel_rfl) rfl (fun K hK => ?_)
        go_simp
        refine hK.out _ _ lA (fun hHeld => ?_)
        clear hK K
        refine OrdersZ.readyZ (i := 11) (by kernel_rfl) rfl (fun K hK => ?_)
        refine stepL rfl _ _ rfl (w.heap.size + 1) (V X) R.length (iV R) (by rfl) (hown.alloc _) ⟨W.heap.size, 0, none⟩ (.int .i64 (Y : Int)) (by rfl) (cell_one_new _ _ _) (by simp [Value.oneCell']) (by omega) (by simp; omega) ?_
        intro g5 c5 w5 hown5 hgrow5 hat5
        obtain ⟨y0, u0, ⟨V', hN5⟩, hB5⟩ := hF.out _ _ w5 hown5 hgrow5 hat5
        refine hK.out _ _ y0 (fun hHeld => ?_)
        clear hK K
        simp only [List.getElem_toArray, List.getElem_cons_zero, List.getElem_cons_succ, Act.put, List.setIfInBounds_toArray, List.set_cons_zero, List.set_cons_succ]
        obtain ⟨y1, y2, y3⟩ := y0
        refine OrdersZ.takeZ (i := 12) (v := .pointer (some ⟨w.heap.size, X, none⟩)) rfl (by kernel_rfl) (by kernel_rfl) (by kernel_rfl) (by kernel_rfl) (by kernel_rfl) (fun _ _ _ h => h) (Or.inl ⟨by rfl, fun w9 hSw => ?_⟩) hHeld ?_
        · obtain ⟨s0, s1, s2⟩ := hSw
          go_simp
        simp only [List.getElem_toArray, List.getElem_cons_zero, List.getElem_cons_succ, Act.put, List.setIfInBounds_toArray, List.set_cons_zero, List.set_cons_succ]
        refine OrdersZ.lastZ (by kernel_rfl) rfl (fun K hK => ?_)
        go_simp
        refine hK.out _ _ ?_
        clear hK K
        refine OrdersZ.doneZ (by kernel_rfl) (NoPanic.normal ?_) _
        clear y1 y2 y3 u0 hown5 hgrow5 hat5 hHeld l0 l1 l2 lA hown hF
        go_wp2
        go_roundw
        case rel => exact ⟨k + 1, by omega, by go_num, V', hN5, hB5, hA2⟩
        case measure => simp [intOf]; omega
    · have hke : k = es.length := by omega
      subst hke
      have E0 : mayE (m : Int) es = 0 := by
        have h := hAk.out
        rw [List.take_length] at h
        have h' : (es.all fun e => hasB ((m : Int).toNat) [e.1, e.2]) = true := by simpa using h
        unfold mayE
        rw [if_neg (by omega), if_neg (by omega), if_pos h']
      have hes : ∀ e ∈ toE es, e.1 < m ∧ e.2 < m := fun e he => by
        obtain ⟨⟨x, y⟩, h1, rfl⟩ := List.mem_map.1 he
        have h := hAk.out
        rw [List.take_length] at h
        obtain ⟨X, Y, rfl, rfl, hX, hY⟩ := hasB_two (List.all_eq_true.1 h _ h1)
        exact ⟨by simpa using hX, by simpa using hY⟩
      have hcmp : ∀ a, Lib.compact (srt (ints (raw (toE es) a))) = ints (adj m (toE es) a) := fun a => sort_compact (adj_rising _ _ _) (fun x => by
        constructor
        · intro hx2
          obtain ⟨y, hy, rfl⟩ := List.mem_map.1 hx2
          have h2 := mem_raw.1 hy
          exact mem_ints.2 (mem_adj.2 ⟨(hes _ h2).2, h2⟩)
        · intro hx2
          obtain ⟨y, hy, rfl⟩ := List.mem_map.1 hx2
          exact mem_ints.2 (mem_raw.2 (mem_adj.1 hy).2))
      have hNs : Hid (∃ V, Net wr (w.heap.size + 1) w.heap.size m (fun a => if a < 0 then ints (adj m (toE es) a) else ints (raw (toE es) a)) V) := ⟨V, by
        have h := hNk.out
        rw [List.take_of_length_le (by simp [toE_length])] at h
        simpa using h⟩
      have HC : Hid (∀ a, Lib.compact (srt (ints (raw (toE es) a))) = ints (adj m (toE es) a)) := hcmp
      have HE0 : Hid (mayE (m : Int) es = 0) := E0
      have hraw : ∀ a, (ints (raw (toE es) a)).length ≤ 4096 := fun a => by rw [ints_length]; have := raw_length (toE es) a; rw [toE_length] at this; omega
      replace hraw : Hid (_) := hraw
      clear hmk hN0 hB0 hNk hAk hcmp E0 hes hE hx c1 c12 hS1 hS12
      go_wp2
      go_loopw [51] (fun s wr => ∃ k : Nat, k ≤ m ∧ s = .int .i64 (k : Int) ∧ Hid (∃ V, Net wr (w.heap.size + 1) w.heap.size m (fun a => if a < k then ints (adj m (toE es) a) else ints (raw (toE es) a)) V) ∧ Hid (Below w.heap.size w wr)) (fun s _ => m - (intOf s).toNat)
      case atStart => exact ⟨0, by omega, rfl, hNs, hBk⟩
      case round =>
        clear hNs hBk
        obtain ⟨k, hk, rfl, hN, hB⟩ := hrel
        by_cases hlt : k < m
        · obtain ⟨V, hN⟩ := hN.out
          have hlt2 : (k : Int) < (m : Int) := by omega
          have ck := (hN.cells k hlt).1
          have hown := hN.own k hlt
          rw [if_neg (Nat.lt_irrefl k)] at hown
          have hl4 := hraw.out k
          have HN : Hid (_) := hN
          go_wp2_with fail
          refine (sort_own (w.heap.size + 1) _ (V k) _ _ hown (by omega)).mono ?_
          rintro e w1 ⟨rfl, hown1, hg1⟩
          clear ck
          have HG : Hid (_) := hg1
          clear hg1
          go_wp2_with fail
          refine (compact_own (w.heap.size + 1) _ (V k) _ _ hown1 (by omega)).mono ?_
          rintro e w2 ⟨v', rfl, hown2, hg2, hat2⟩
          rw [HC.out] at hown2
          obtain ⟨a', c', rfl, _⟩ := own_form hown2
          obtain ⟨⟨p1, p2⟩, p3⟩ := HN.out.put hlt (v' := .slice a' _ c') (zs := ints (adj m (toE es) k)) (grown_trans HG.out hg2) hown2 (fun g e => .inl (hat2 ▸ e))
          have hB2 : Hid (Below w.heap.size w (w2.setCell ⟨w.heap.size, k, none⟩ (.slice a' (ints (adj m (toE es) k)).length c'))) := ((hB.out.grown (grown_trans HG.out hg2) hB.out.size (fun j hj => by have := (hown.lt j hj).1; omega)).setCell (p := ⟨w.heap.size, k, none⟩) (Nat.le_refl _) _)
          have hN2 : Hid (∃ V, Net (w2.setCell ⟨w.heap.size, k, none⟩ (.slice a' (ints (adj m (toE es) k)).length c')) (w.heap.size + 1) w.heap.size m (fun a => if a < k + 1 then ints (adj m (toE es) a) else ints (raw (toE es) a)) V) := ⟨_, by
            have e1 : (fun a => if a < k + 1 then ints (adj m (toE es) a) else ints (raw (toE es) a)) = updL (fun a => if a < k then ints (adj m (toE es) a) else ints (raw (toE es) a)) k (ints (adj m (toE es) k)) := by
              funext a
              by_cases e : a = k
              · subst e; rw [updL_at, if_pos (by omega)]
              · rw [updL_ne _ _ e]
                by_cases h : a < k
                · rw [if_pos h, if_pos (by omega)]
                · rw [if_neg h, if_neg (by omega)]
            rw [e1]
            exact p3⟩
          clear p3 hown hown1 hown2 hg2 hat2 HN HG hN hB hl4
          go_wp2
          go_roundw
          case rel => exact ⟨k + 1, by omega, by go_num, hN2, hB2⟩
          case measure => simp [intOf]; omega
        · have hN2 : Hid (∃ V, Net wr (w.heap.size + 1) w.heap.size m (fun a => ints (adj m (toE es) a)) V) := by
            obtain ⟨V, hN⟩ := hN.out
            exact ⟨V, hN.congr (fun i hi => by rw [if_pos (by omega)])⟩
          have hlt2 : ¬ ((k : Int) < (m : Int)) := by omega
          clear hN hraw HC hk hlt
          go_wp2
          go_ret2
          obtain ⟨V, hN⟩ := hN2.out
          exact ⟨_, rfl, .inl ⟨HE0.out, w.heap.size, V, by rw [Int.toNat_natCast]; rfl, Nat.le_refl _, by rw [Int.toNat_natCast]; exact hN⟩, hB.out⟩

end Go.Proofs.YtgllcbajgndldaaDoor.GraphNet
