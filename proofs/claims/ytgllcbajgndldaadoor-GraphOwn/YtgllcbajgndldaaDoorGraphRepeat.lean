/-
  The library's Repeat of one number: a row of that number, as many times as is asked.
-/
import Derived.Test.YtgllcbajgndldaaDoorGraphFn
import Derived.Test.YtgllcbajgndldaaDoorOpRow
import Derived.Deep.RegionHeld3
namespace Go.Proofs.YtgllcbajgndldaaDoor.GraphFn
open Go.RowKit Go.Proofs.YtgllcbajgndldaaDoor.GramMath Go.Proofs.YtgllcbajgndldaaDoor.GramRow Go.Proofs.YtgllcbajgndldaaDoor.GramApart Go.Proofs.YtgllcbajgndldaaDoor.GraphMath Go.Proofs.YtgllcbajgndldaaDoor.OpRow
set_option linter.unusedVariables false
set_option linter.unusedSimpArgs false

/-- A row of which the first k cells are filled. -/
def rowF (m k : Nat) : List Int := List.replicate k (-1) ++ List.replicate (m - k) 0
theorem rowF_len {m k : Nat} (h : k ≤ m) : (rowF m k).length = m := by simp [rowF]; omega

theorem copy_step (w : World) (b m k c : Nat) (a : Addr) (sl sc : Nat) (hb : RowAt w b 3 (intsA (rowF m k))) (hk : k + c ≤ m) (hc : c = Nat.min sl (m - k)) (hsrc : ∀ j, j < c → w.cell? (a.add j) = some (.int .i64 (-1))) :
    ∃ w', (Builtin.copy_ #[24, 24] 3 #[.slice (some ⟨b, k, none⟩) (m - k) (m - k), .slice (some a) sl sc]).run Tryd.prog w = .ok (.int .i64 (c : Int)) w' ∧ RowAt w' b 3 (intsA (rowF m (k + c))) ∧ Below b w w' ∧ (∀ j, j ≠ b → w'.heap[j]? = w.heap[j]?) ∧ w'.heap.size = w.heap.size := by
  have hl : ((List.replicate c (-1)).map (Value.int .i64)).length = c := by simp
  have hrun := run_copy_row (P := Tryd.prog) w 24 24 3 3 b k (m - k) (m - k) a sl sc _ 3 ((List.replicate c (-1)).map (Value.int .i64)) Tryd.underlying24 infoI1 hb (by rw [hl]; exact hc) (fun j v hj => by
    rw [List.getElem?_map, Option.map_eq_some_iff] at hj
    obtain ⟨y, hy, rfl⟩ := hj
    rw [List.getElem?_replicate] at hy
    by_cases hjc : j < c
    · rw [if_pos hjc] at hy
      cases hy
      exact hsrc j hjc
    · rw [if_neg hjc] at hy; cases hy) (by rw [intsA_size, hl, rowF_len (by omega)]; exact hk) (fun v hv => by
    obtain ⟨y, _, rfl⟩ := List.mem_map.1 hv
    rfl)
  have he : (intsA (rowF m k)).toList.take k ++ (List.replicate c (-1)).map (Value.int .i64) ++ (intsA (rowF m k)).toList.drop (k + ((List.replicate c (-1)).map (Value.int .i64)).length) = (rowF m (k + c)).map (Value.int .i64) := by
    rw [hl]
    unfold intsA rowF
    simp only [List.map_append, List.map_replicate]
    rw [List.take_left' (by simp), ← List.drop_drop, List.drop_left' (by simp), List.drop_replicate, ← List.replicate_append_replicate, show m - k - c = m - (k + c) by omega]
  rw [he] at hrun
  refine ⟨_, hrun.trans (by simp [goInt]; rfl), ?_, below_setRow (Below.refl _ _) (Nat.le_refl _) _, fun j hj => ?_, ?_⟩
  · exact setRow_heap _ _ _ ((rowF m (k + c)).map (Value.int .i64)).toArray _ _ hb
  · simp only [World.setRow]
    rw [Array.getElem?_modify, if_neg (fun e => hj e.symm)]
  · simp [World.setRow]

theorem rowF_cell {w : World} {b m k j : Nat} (hb : RowAt w b 3 (intsA (rowF m k))) (hj : j < k) : w.cell? ⟨b, j, none⟩ = some (.int .i64 (-1)) := by
  refine hb.cell ?_
  unfold intsA rowF
  rw [← Array.getElem?_toList]
  simp only [List.map_append, List.map_replicate]
  rw [List.getElem?_append_left (by simpa using hj), List.getElem?_replicate, if_pos hj]

set_option maxRecDepth 100000 in
set_option maxHeartbeats 2000000 in
theorem repeat_any (sb m : Nat) (w : World) (hs : w.cell? ⟨sb, 0, none⟩ = some (.int .i64 (-1))) (hm : m ≤ 256) :
    Calls Tryd.prog 38 #[.slice (some ⟨sb, 0, none⟩) 1 1, .int .i64 (m : Int)] w fun e w' => (e = .returned (.slice (some ⟨w.heap.size, 0, none⟩) m m) ∧ RowAt w' w.heap.size 3 (intsA (rowF m m))) ∧ Below w.heap.size w w' ∧ w'.heap.size = w.heap.size + 1 := by
  have hsl := cell_lt hs
  have hmul := mul_one m hm w
  have hmk := OpRow.madeI_any m (by omega) w
  have hB : Below w.heap.size w (w.alloc (.cells (madeCells #[.int .i64 0] m) 3)) := (Below.refl _ _).alloc (Nat.le_refl _) _
  have hr0 : RowAt (w.alloc (.cells (madeCells #[.int .i64 0] m) 3)) w.heap.size 3 (intsA (rowF m 0)) := made_row w m _
  have hs0 : (w.alloc (.cells (madeCells #[.int .i64 0] m) 3)).cell? ⟨sb, 0, none⟩ = some (.int .i64 (-1)) := by rw [hB.cell (p := ⟨sb, 0, none⟩) hsl]; exact hs
  have hz : (w.alloc (.cells (madeCells #[.int .i64 0] m) 3)).heap.size = w.heap.size + 1 := by simp
  obtain ⟨c0, hc0⟩ : ∃ c0, c0 = Nat.min 1 (m - 0) := ⟨_, rfl⟩
  have hc01 : c0 ≤ 1 ∧ c0 ≤ m ∧ (0 < m → c0 = 1) := by
    have := Nat.min_le_left 1 (m - 0)
    have := Nat.min_le_right 1 (m - 0)
    rw [hc0]
    refine ⟨by omega, by omega, fun h => ?_⟩
    exact Nat.min_eq_left (by omega)
  obtain ⟨w1, hcopy, hr1, hb1, ho1, hz1⟩ := copy_step _ w.heap.size m 0 c0 ⟨sb, 0, none⟩ 1 1 hr0 (by omega) hc0 (fun j hj => by rw [show j = 0 by omega]; exact hs0)
  have hcopy2 : (Builtin.copy_ #[24, 24] 3 #[.slice (some ⟨w.heap.size, 0, none⟩) m m, .slice (some ⟨sb, 0, none⟩) 1 1]).run Tryd.prog (w.alloc (.cells (madeCells #[.int .i64 0] m) 3)) = .ok (.int .i64 (c0 : Int)) w1 := hcopy
  have hB1 : Hid (Below w.heap.size w w1) := hB.trans hb1
  have hZ1 : Hid (w1.heap.size = w.heap.size + 1) := by show _ = _; omega
  have hR1 : Hid (RowAt w1 w.heap.size 3 (intsA (rowF m c0))) := by rw [Nat.zero_add] at hr1; exact hr1
  clear hc0 hcopy hr1 hb1 ho1 hz1 hr0 hs0 hz hB hs
  go_enter Tryd.func38, Tryd.ntmps38
  go_wp2_with fail
  refine hmul.mono ?_
  rintro e w2 ⟨rfl, hw2⟩
  obtain rfl := hw2.symm
  go_wp2
  go_loopw [8] (fun s wr => ∃ k : Nat, k ≤ m ∧ (0 < m → 0 < k) ∧ s = .int .i64 (k : Int) ∧ RowAt wr w.heap.size 3 (intsA (rowF m k)) ∧ Hid (Below w.heap.size w wr) ∧ Hid (wr.heap.size = w.heap.size + 1)) (fun s _ => m - (intOf s).toNat)
  case atStart => exact ⟨c0, hc01.2.1, fun h => by rw [hc01.2.2 h]; omega, rfl, hR1.out, hB1, hZ1⟩
  case round =>
    obtain ⟨k, hk, hk0, rfl, hR, hBr, hZr⟩ := hrel
    clear hcopy2 hmk hmul hB1 hZ1 hR1 hc01
    by_cases hlt : k < m
    · have hlt2 : (k : Int) < (m : Int) := by omega
      obtain ⟨c, hc⟩ : ∃ c, c = Nat.min k (m - k) := ⟨_, rfl⟩
      have hcl : c ≤ k ∧ c ≤ m - k ∧ 0 < c := by
        rw [hc]
        have h1 : Nat.min k (m - k) ≤ k := Nat.min_le_left _ _
        have h2 : Nat.min k (m - k) ≤ m - k := Nat.min_le_right _ _
        refine ⟨h1, h2, ?_⟩
        have h3 : 0 < k := hk0 (by omega)
        exact Nat.lt_min.2 ⟨h3, by omega⟩
      obtain ⟨w3, hcp, hr3, hb3, _, hz3⟩ := copy_step wr.drew w.heap.size m k c ⟨w.heap.size, 0, none⟩ k m hR (by omega) hc (fun j hj => by rw [Addr.add_lit, Nat.zero_add]; exact rowF_cell (w := wr.drew) hR (by omega))
      have hB3 : Hid (Below w.heap.size w w3) := hBr.out.trans ((drew_below wr 1).trans hb3)
      have hZ3 : Hid (w3.heap.size = w.heap.size + 1) := by show _ = _; rw [hz3]; exact hZr.out
      have hR3 : Hid (_) := hr3
      obtain ⟨d, hd⟩ : ∃ d, d = m - k := ⟨_, rfl⟩
      rw [← hd] at hcp
      have hd2 : Hid (d = m - k) := hd
      have hdk : k + d = m := by omega
      clear hr3 hb3 hz3 hR hc hd
      go_wp2_with fail
      refine wp_region_noPanic ?_
      refine wp_region_held_drew (S := (fun _ => True)) (by kernel_rfl) trivial (fun hHeld => ?_)
      refine wpAnyH_take (i := 0) (v := .int .i64 (k : Int)) rfl (by kernel_rfl) (by kernel_rfl) (by kernel_rfl) (fun _ _ _ h => h) (Or.inl ⟨by rfl, fun w9 hSw => ?_⟩) hHeld ?_
      · obtain _ := hSw
        go_simp
      simp only [List.getElem_toArray, List.getElem_cons_zero, List.getElem_cons_succ, Act.put, List.setIfInBounds_toArray, List.set_cons_zero, List.set_cons_succ]
      refine wpAnyH_take (i := 1) (v := .slice (some ⟨w.heap.size, 0, none⟩) m m) rfl (by kernel_rfl) (by kernel_rfl) (by kernel_rfl) (fun _ _ _ h => h) (Or.inl ⟨by rfl, fun w9 hSw => ?_⟩) hHeld ?_
      · obtain _ := hSw
        go_simp
      simp only [List.getElem_toArray, List.getElem_cons_zero, List.getElem_cons_succ, Act.put, List.setIfInBounds_toArray, List.set_cons_zero, List.set_cons_succ]
      refine wpAnyH_take (i := 2) (v := .int .i64 (k : Int)) rfl (by kernel_rfl) (by kernel_rfl) (by kernel_rfl) (fun _ _ _ h => h) (Or.inl ⟨by rfl, fun w9 hSw => ?_⟩) hHeld ?_
      · obtain _ := hSw
        go_simp
      simp only [List.getElem_toArray, List.getElem_cons_zero, List.getElem_cons_succ, Act.put, List.setIfInBounds_toArray, List.set_cons_zero, List.set_cons_succ]
      refine wpAnyH_take (i := 3) (v := .slice (some ⟨w.heap.size, k, none⟩) d d) rfl (by kernel_rfl) (by kernel_rfl) (by kernel_rfl) (fun _ _ _ h => h) (Or.inl ⟨by rfl, fun w9 hSw => ?_⟩) hHeld ?_
      · obtain _ := hSw
        go_simp
        exact ⟨by omega, by omega⟩
      simp only [List.getElem_toArray, List.getElem_cons_zero, List.getElem_cons_succ, Act.put, List.setIfInBounds_toArray, List.set_cons_zero, List.set_cons_succ]
      refine wpAnyH_take (i := 4) (v := .slice (some ⟨w.heap.size, 0, none⟩) m m) rfl (by kernel_rfl) (by kernel_rfl) (by kernel_rfl) (fun _ _ _ h => h) (Or.inl ⟨by rfl, fun w9 hSw => ?_⟩) hHeld ?_
      · obtain _ := hSw
        go_simp
      simp only [List.getElem_toArray, List.getElem_cons_zero, List.getElem_cons_succ, Act.put, List.setIfInBounds_toArray, List.set_cons_zero, List.set_cons_succ]
      refine wpAnyH_take (i := 5) (v := .int .i64 (k : Int)) rfl (by kernel_rfl) (by kernel_rfl) (by kernel_rfl) (fun _ _ _ h => h) (Or.inl ⟨by rfl, fun w9 hSw => ?_⟩) hHeld ?_
      · obtain _ := hSw
        go_simp
      simp only [List.getElem_toArray, List.getElem_cons_zero, List.getElem_cons_succ, Act.put, List.setIfInBounds_toArray, List.set_cons_zero, List.set_cons_succ]
      refine wpAnyH_take (i := 6) (v := .slice (some ⟨w.heap.size, 0, none⟩) k m) rfl (by kernel_rfl) (by kernel_rfl) (by kernel_rfl) (fun _ _ _ h => h) (Or.inl ⟨by rfl, fun w9 hSw => ?_⟩) hHeld ?_
      · obtain _ := hSw
        go_simp
      simp only [List.getElem_toArray, List.getElem_cons_zero, List.getElem_cons_succ, Act.put, List.setIfInBounds_toArray, List.set_cons_zero, List.set_cons_succ]
      refine wpAnyH_ready (rs := [7]) (by kernel_rfl) (by simp) ?_
      refine AllReadyH.cons rfl (fun K hK => ?_) AllReadyH.nil
      go_simp
      refine hK.out _ _ (trivial) (fun hHeld => ?_)
      clear hK K
      refine wpAnyH_take (i := 8) (v := .int .i64 ((k + c : Nat) : Int)) rfl (by kernel_rfl) (by kernel_rfl) (by kernel_rfl) (fun _ _ _ h => h) (Or.inl ⟨by rfl, fun w9 hSw => ?_⟩) hHeld ?_
      · obtain _ := hSw
        go_simp
        rw [IntKind.wrap_i64]; omega
      simp only [List.getElem_toArray, List.getElem_cons_zero, List.getElem_cons_succ, Act.put, List.setIfInBounds_toArray, List.set_cons_zero, List.set_cons_succ]
      refine wpAnyH_take (i := 9) (v := .int .i64 ((k + c : Nat) : Int)) rfl (by kernel_rfl) (by kernel_rfl) (by kernel_rfl) (fun _ _ _ h => h) (Or.inl ⟨by rfl, fun w9 hSw => ?_⟩) hHeld ?_
      · obtain _ := hSw
        go_simp
      simp only [List.getElem_toArray, List.getElem_cons_zero, List.getElem_cons_succ, Act.put, List.setIfInBounds_toArray, List.set_cons_zero, List.set_cons_succ]
      refine wpAnyH_done (by kernel_rfl) (NoPanic.normal ?_) _
      go_wp2
      go_roundw
      case rel => exact ⟨k + c, by omega, fun _ => by omega, rfl, hR3.out, hB3, hZ3⟩
      case measure => simp [intOf]; omega
    · have hkm : k = m := by omega
      subst hkm
      have hR3 : Hid (_) := hR
      go_wp2
      go_ret
      exact ⟨⟨rfl, hR⟩, hBr.out, hZr.out⟩

end Go.Proofs.YtgllcbajgndldaaDoor.GraphFn
