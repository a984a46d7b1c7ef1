/-
  Texts that stand together: PrecFn2.
-/
import Derived.Test.YtcoepmpgclndiaaGreatDoorBPrecFn1
namespace Go.Proofs.YtcoepmpgclndiaaGreatDoor.PrecFn
open Go.RowKit Go.Proofs.YtcoepmpgclndiaaGreatDoor.GramMath Go.Proofs.YtcoepmpgclndiaaGreatDoor.GramRow Go.Proofs.YtcoepmpgclndiaaGreatDoor.GramApart Go.Proofs.YtcoepmpgclndiaaGreatDoor.GraphMath Go.Proofs.YtcoepmpgclndiaaGreatDoor.GraphNet Go.Proofs.YtcoepmpgclndiaaGreatDoor.OpRow Go.Proofs.YtcoepmpgclndiaaGreatDoor.GramErrs Go.Proofs.YtcoepmpgclndiaaGreatDoor.MatrixClash
set_option linter.unusedVariables false
set_option linter.unusedSimpArgs false

def midF (f : Nat → Nat) (x y k : Nat) : Nat → Nat := fun i => if i < k then joinF f x y i else f i

set_option maxRecDepth 100000 in
set_option maxHeartbeats 4000000 in
theorem join_any (b : Nat) (f : Nat → Nat) (x y : Nat) (w : World) (hr : NRow w b 120 (fun i => (f i : Int))) (hf : ∀ k, k < 120 → f k < 120) (hx : x < 120) (hy : y < 120) :
    Calls Tryz.prog 40 #[.int .i64 (x : Int), .int .i64 (y : Int), .pointer (some ⟨b, 0, none⟩)] w fun e w' => e = .returned (.tuple #[]) ∧ NRow w' b 120 (fun i => (joinF f x y i : Int)) ∧ But (fun q => q = b) w w' := by
  have c0 : w.drew.cell? ⟨b, x, none⟩ = some (.int .i64 (f x : Int)) := (hr x hx).1
  have c1 : w.drew.cell? ⟨b, y, none⟩ = some (.int .i64 (f y : Int)) := (hr y hy).1
  have hfx := hf x hx
  have hfy := hf y hy
  obtain ⟨K, hK⟩ : ∃ K, K = min (f x) (f y) := ⟨_, rfl⟩
  obtain ⟨Gn, hG⟩ : ∃ Gn, Gn = max (f x) (f y) := ⟨_, rfl⟩
  have HK : Hid (((min (f x) (f y) : Nat) : Int) = (K : Int)) := by show _ = _; rw [hK]
  have HG : Hid (((max (f x) (f y) : Nat) : Int) = (Gn : Int)) := by show _ = _; rw [hG]
  have HK2 : Hid (min (f x : Int) (f y : Int) = (K : Int)) := by show _ = _; omega
  have HG2 : Hid (max (f x : Int) (f y : Int) = (Gn : Int)) := by show _ = _; omega
  have HJ : Hid (∀ i, joinF f x y i = if f i = Gn then K else f i) := fun i => by unfold joinF; rw [hK, hG]
  have HI0 : Hid (NRow w.drew b 120 (fun i => (midF f x y 0 i : Int)) ∧ But (fun q => q = b) w w.drew) := ⟨fun i hi => by have := hr i hi; simpa [midF] using this, ⟨rfl, rfl, rfl, Nat.le_refl _, fun _ _ _ => rfl⟩⟩
  have hx2 : (x : Int) < 120 := by omega
  have hy2 : (y : Int) < 120 := by omega
  clear hr hK hG
  generalize (f x : Int) = fx at *
  generalize (f y : Int) = fy at *
  go_enter Tryz.func40, Tryz.ntmps40
  go_wp2_with fail
  refine wp_region_noPanic ?_
  refine wp_region_held_drew (S := (fun w9 => w9.cell? ⟨b, x, none⟩ = some (.int .i64 fx) ∧ w9.cell? ⟨b, y, none⟩ = some (.int .i64 fy))) (by kernel_rfl) ⟨c0, c1⟩ (fun hHeld => ?_)
  refine wpAnyH_take (i := 0) (v := .int .i64 (x : Int)) rfl (by kernel_rfl) (by kernel_rfl) (by kernel_rfl) (fun _ _ _ h => h) (Or.inl ⟨by rfl, fun w9 hSw => ?_⟩) hHeld ?_
  · obtain ⟨s0, s1⟩ := hSw
    go_simp
  simp only [List.getElem_toArray, List.getElem_cons_zero, List.getElem_cons_succ, Act.put, List.setIfInBounds_toArray, List.set_cons_zero, List.set_cons_succ]
  refine wpAnyH_take (i := 1) (v := .pointer (some ⟨b, x, none⟩)) rfl (by kernel_rfl) (by kernel_rfl) (by kernel_rfl) (fun _ _ _ h => h) (Or.inl ⟨by rfl, fun w9 hSw => ?_⟩) hHeld ?_
  · obtain ⟨s0, s1⟩ := hSw
    go_simp
    all_goals (first | rfl | (exact HK2.out) | (exact HG2.out) | omega | (simp; done) | (simp; omega))
  simp only [List.getElem_toArray, List.getElem_cons_zero, List.getElem_cons_succ, Act.put, List.setIfInBounds_toArray, List.set_cons_zero, List.set_cons_succ]
  refine wpAnyH_take (i := 2) (v := .int .i64 fx) rfl (by kernel_rfl) (by kernel_rfl) (by kernel_rfl) (fun _ _ _ h => h) (Or.inl ⟨by rfl, fun w9 hSw => ?_⟩) hHeld ?_
  · obtain ⟨s0, s1⟩ := hSw
    go_simp
  simp only [List.getElem_toArray, List.getElem_cons_zero, List.getElem_cons_succ, Act.put, List.setIfInBounds_toArray, List.set_cons_zero, List.set_cons_succ]
  refine wpAnyH_take (i := 3) (v := .int .i64 (y : Int)) rfl (by kernel_rfl) (by kernel_rfl) (by kernel_rfl) (fun _ _ _ h => h) (Or.inl ⟨by rfl, fun w9 hSw => ?_⟩) hHeld ?_
  · obtain ⟨s0, s1⟩ := hSw
    go_simp
  simp only [List.getElem_toArray, List.getElem_cons_zero, List.getElem_cons_succ, Act.put, List.setIfInBounds_toArray, List.set_cons_zero, List.set_cons_succ]
  refine wpAnyH_take (i := 4) (v := .pointer (some ⟨b, y, none⟩)) rfl (by kernel_rfl) (by kernel_rfl) (by kernel_rfl) (fun _ _ _ h => h) (Or.inl ⟨by rfl, fun w9 hSw => ?_⟩) hHeld ?_
  · obtain ⟨s0, s1⟩ := hSw
    go_simp
    all_goals (first | rfl | (exact HK2.out) | (exact HG2.out) | omega | (simp; done) | (simp; omega))
  simp only [List.getElem_toArray, List.getElem_cons_zero, List.getElem_cons_succ, Act.put, List.setIfInBounds_toArray, List.set_cons_zero, List.set_cons_succ]
  refine wpAnyH_take (i := 5) (v := .int .i64 fy) rfl (by kernel_rfl) (by kernel_rfl) (by kernel_rfl) (fun _ _ _ h => h) (Or.inl ⟨by rfl, fun w9 hSw => ?_⟩) hHeld ?_
  · obtain ⟨s0, s1⟩ := hSw
    go_simp
  simp only [List.getElem_toArray, List.getElem_cons_zero, List.getElem_cons_succ, Act.put, List.setIfInBounds_toArray, List.set_cons_zero, List.set_cons_succ]
  refine wpAnyH_take (i := 6) (v := .int .i64 (K : Int)) rfl (by kernel_rfl) (by kernel_rfl) (by kernel_rfl) (fun _ _ _ h => h) (Or.inl ⟨by rfl, fun w9 hSw => ?_⟩) hHeld ?_
  · obtain ⟨s0, s1⟩ := hSw
    go_simp
    all_goals (first | rfl | (exact HK2.out) | (exact HG2.out) | omega | (simp; done) | (simp; omega))
  simp only [List.getElem_toArray, List.getElem_cons_zero, List.getElem_cons_succ, Act.put, List.setIfInBounds_toArray, List.set_cons_zero, List.set_cons_succ]
  refine wpAnyH_take (i := 7) (v := .int .i64 (x : Int)) rfl (by kernel_rfl) (by kernel_rfl) (by kernel_rfl) (fun _ _ _ h => h) (Or.inl ⟨by rfl, fun w9 hSw => ?_⟩) hHeld ?_
  · obtain ⟨s0, s1⟩ := hSw
    go_simp
  simp only [List.getElem_toArray, List.getElem_cons_zero, List.getElem_cons_succ, Act.put, List.setIfInBounds_toArray, List.set_cons_zero, List.set_cons_succ]
  refine wpAnyH_take (i := 8) (v := .pointer (some ⟨b, x, none⟩)) rfl (by kernel_rfl) (by kernel_rfl) (by kernel_rfl) (fun _ _ _ h => h) (Or.inl ⟨by rfl, fun w9 hSw => ?_⟩) hHeld ?_
  · obtain ⟨s0, s1⟩ := hSw
    go_simp
    all_goals (first | rfl | (exact HK2.out) | (exact HG2.out) | omega | (simp; done) | (simp; omega))
  simp only [List.getElem_toArray, List.getElem_cons_zero, List.getElem_cons_succ, Act.put, List.setIfInBounds_toArray, List.set_cons_zero, List.set_cons_succ]
  refine wpAnyH_take (i := 9) (v := .int .i64 fx) rfl (by kernel_rfl) (by kernel_rfl) (by kernel_rfl) (fun _ _ _ h => h) (Or.inl ⟨by rfl, fun w9 hSw => ?_⟩) hHeld ?_
  · obtain ⟨s0, s1⟩ := hSw
    go_simp
  simp only [List.getElem_toArray, List.getElem_cons_zero, List.getElem_cons_succ, Act.put, List.setIfInBounds_toArray, List.set_cons_zero, List.set_cons_succ]
  refine wpAnyH_take (i := 10) (v := .int .i64 (y : Int)) rfl (by kernel_rfl) (by kernel_rfl) (by kernel_rfl) (fun _ _ _ h => h) (Or.inl ⟨by rfl, fun w9 hSw => ?_⟩) hHeld ?_
  · obtain ⟨s0, s1⟩ := hSw
    go_simp
  simp only [List.getElem_toArray, List.getElem_cons_zero, List.getElem_cons_succ, Act.put, List.setIfInBounds_toArray, List.set_cons_zero, List.set_cons_succ]
  refine wpAnyH_take (i := 11) (v := .pointer (some ⟨b, y, none⟩)) rfl (by kernel_rfl) (by kernel_rfl) (by kernel_rfl) (fun _ _ _ h => h) (Or.inl ⟨by rfl, fun w9 hSw => ?_⟩) hHeld ?_
  · obtain ⟨s0, s1⟩ := hSw
    go_simp
    all_goals (first | rfl | (exact HK2.out) | (exact HG2.out) | omega | (simp; done) | (simp; omega))
  simp only [List.getElem_toArray, List.getElem_cons_zero, List.getElem_cons_succ, Act.put, List.setIfInBounds_toArray, List.set_cons_zero, List.set_cons_succ]
  refine wpAnyH_take (i := 12) (v := .int .i64 fy) rfl (by kernel_rfl) (by kernel_rfl) (by kernel_rfl) (fun _ _ _ h => h) (Or.inl ⟨by rfl, fun w9 hSw => ?_⟩) hHeld ?_
  · obtain ⟨s0, s1⟩ := hSw
    go_simp
  simp only [List.getElem_toArray, List.getElem_cons_zero, List.getElem_cons_succ, Act.put, List.setIfInBounds_toArray, List.set_cons_zero, List.set_cons_succ]
  refine wpAnyH_take (i := 13) (v := .int .i64 (Gn : Int)) rfl (by kernel_rfl) (by kernel_rfl) (by kernel_rfl) (fun _ _ _ h => h) (Or.inl ⟨by rfl, fun w9 hSw => ?_⟩) hHeld ?_
  · obtain ⟨s0, s1⟩ := hSw
    go_simp
    all_goals (first | rfl | (exact HK2.out) | (exact HG2.out) | omega | (simp; done) | (simp; omega))
  simp only [List.getElem_toArray, List.getElem_cons_zero, List.getElem_cons_succ, Act.put, List.setIfInBounds_toArray, List.set_cons_zero, List.set_cons_succ]
  refine wpAnyH_take (i := 14) (v := .int .i64 (K : Int)) rfl (by kernel_rfl) (by kernel_rfl) (by kernel_rfl) (fun _ _ _ h => h) (Or.inl ⟨by rfl, fun w9 hSw => ?_⟩) hHeld ?_
  · obtain ⟨s0, s1⟩ := hSw
    go_simp
  simp only [List.getElem_toArray, List.getElem_cons_zero, List.getElem_cons_succ, Act.put, List.setIfInBounds_toArray, List.set_cons_zero, List.set_cons_succ]
  refine wpAnyH_take (i := 15) (v := .int .i64 (Gn : Int)) rfl (by kernel_rfl) (by kernel_rfl) (by kernel_rfl) (fun _ _ _ h => h) (Or.inl ⟨by rfl, fun w9 hSw => ?_⟩) hHeld ?_
  · obtain ⟨s0, s1⟩ := hSw
    go_simp
  simp only [List.getElem_toArray, List.getElem_cons_zero, List.getElem_cons_succ, Act.put, List.setIfInBounds_toArray, List.set_cons_zero, List.set_cons_succ]
  refine wpAnyH_done (by kernel_rfl) (NoPanic.normal ?_) _
  clear hHeld c0 c1
  go_wp2
  go_loopw [22] (fun s wr => ∃ k : Nat, k ≤ 120 ∧ s = .int .i64 (k : Int) ∧ Hid (NRow wr b 120 (fun i => (midF f x y k i : Int)) ∧ But (fun q => q = b) w wr)) (fun s _ => 120 - (intOf s).toNat)
  case atStart => exact ⟨0, by omega, rfl, HI0⟩
  case round =>
    clear HI0
    obtain ⟨k, hk, rfl, hI⟩ := hrel
    by_cases hlk : k < 120
    · have hlk2 : (k : Int) < 120 := by omega
      obtain ⟨d0, d1⟩ := hI.out.1 k hlk
      have em : midF f x y k k = f k := by unfold midF; rw [if_neg (by omega)]
      dsimp only at d0
      rw [em] at d0
      by_cases hc : f k = Gn
      · have hI2 : Hid (NRow (wr.setCell ⟨b, k, none⟩ (.int .i64 (K : Int))) b 120 (fun i => (midF f x y (k + 1) i : Int)) ∧ But (fun q => q = b) w (wr.setCell ⟨b, k, none⟩ (.int .i64 (K : Int)))) := ⟨(hI.out.1.put hlk _).congr (fun i hi => by
          by_cases e : i = k
          · subst e
            rw [updA_at]
            unfold midF
            rw [if_pos (by omega), HJ.out, if_pos hc]
          · rw [updA_ne _ _ e]
            unfold midF
            by_cases h : i < k
            · rw [if_pos h, if_pos (by omega)]
            · rw [if_neg h, if_neg (by omega)]), hI.out.2.setCell (p := ⟨b, k, none⟩) rfl _⟩
        have hce : ((f k : Int) == (Gn : Int)) = true := by rw [hc]; simp
        clear hI hc em
        generalize (f k : Int) = fk at *
        go_wp2
        go_roundw
        case rel => exact ⟨k + 1, by omega, by go_num, hI2⟩
        case measure => simp [intOf]; omega
      · have hI2 : Hid (NRow wr b 120 (fun i => (midF f x y (k + 1) i : Int)) ∧ But (fun q => q = b) w wr) := ⟨hI.out.1.congr (fun i hi => by
          unfold midF
          by_cases e : i = k
          · subst e
            rw [if_neg (by omega), if_pos (by omega), HJ.out, if_neg hc]
          · by_cases h : i < k
            · rw [if_pos h, if_pos (by omega)]
            · rw [if_neg h, if_neg (by omega)]), hI.out.2⟩
        have hce : ((f k : Int) == (Gn : Int)) = false := by rw [beq_eq_false_iff_ne]; omega
        clear hI hc em
        generalize (f k : Int) = fk at *
        go_wp2
        go_roundw
        case rel => exact ⟨k + 1, by omega, by go_num, hI2⟩
        case measure => simp [intOf]; omega
    · have hlk2 : ¬ (k : Int) < 120 := by omega
      have hfin : Hid (NRow wr b 120 (fun i => (joinF f x y i : Int)) ∧ But (fun q => q = b) w wr) := ⟨hI.out.1.congr (fun i hi => by unfold midF; rw [if_pos (by omega)]), hI.out.2⟩
      clear hI
      go_wp2
      go_end0
      exact ⟨rfl, hfin.out⟩

/-- Numbers of classes, as they are filled in. -/
def fillF (cl : List Nat) (k : Nat) : Nat → Int := fun i => if i < k then ((cl.getD i 0 : Nat) : Int) else 0
theorem fillF_zero (cl : List Nat) (n : Nat) : rowOf n (fillF cl 0) = List.replicate n 0 := by
  rw [← rowOf_zero]; unfold rowOf; exact List.map_congr_left (fun i _ => by simp [fillF])
theorem fillF_succ (cl : List Nat) (n k : Nat) : (rowOf n (fillF cl k)).set k ((cl.getD k 0 : Nat) : Int) = rowOf n (fillF cl (k + 1)) := by
  rw [rowOf_set]
  unfold rowOf
  refine List.map_congr_left (fun i _ => ?_)
  unfold fillF
  by_cases e : i = k
  · subst e; rw [updA_at, if_pos (by omega)]
  · rw [updA_ne _ _ e]
    by_cases h : i < k
    · rw [if_pos h, if_pos (by omega)]
    · rw [if_neg h, if_neg (by omega)]
theorem fillF_all {cl : List Nat} {n k : Nat} (hl : cl.length = n) (hk : n ≤ k) : rowOf n (fillF cl k) = ints cl := by
  apply List.ext_getElem?
  intro i
  by_cases hi : i < n
  · rw [rowOf_get _ hi, ints_get, List.getElem?_eq_getElem (by omega)]
    unfold fillF
    rw [if_pos (by omega), List.getD_eq_getElem?_getD, List.getElem?_eq_getElem (by omega)]
    rfl
  · rw [List.getElem?_eq_none (by rw [rowOf_length]; omega), List.getElem?_eq_none (by rw [ints_length]; omega)]
theorem intsA_set (l : List Int) (k : Nat) (z : Int) : (intsA l).setIfInBounds k (.int .i64 z) = intsA (l.set k z) := by simp [intsA]

theorem numL_old {f : Nat → Nat} {n k : Nat} (hk : k < n) (h : f k < k) : (numL f n).1.getD k 0 = (numL f n).1.getD (f k) 0 ∧ cntK f (k + 1) = cntK f k ∧ (numL f n).1.getD (f k) 0 < cntK f k := by
  have e1 : (numL f (k + 1)).1 = (numL f k).1 ++ [(numL f k).1.getD (f k) 0] := by conv => lhs; unfold numL; rw [if_pos h]
  have e2 : cntK f (k + 1) = cntK f k := by unfold cntK; conv => lhs; unfold numL; rw [if_pos h]
  have hl : f k < (numL f k).1.length := by rw [numL_len]; exact h
  have a1 : (numL f n).1[k]? = some ((numL f k).1.getD (f k) 0) := by
    rw [numL_at f n hk, e1, List.getElem?_append_right (by rw [numL_len]; omega), numL_len]
    simp
  have a2 : (numL f n).1[f k]? = (numL f k).1[f k]? := by rw [numL_at f n (by omega), numL_at f k h]
  have a3 : (numL f n).1.getD (f k) 0 = (numL f k).1.getD (f k) 0 := by rw [List.getD_eq_getElem?_getD, List.getD_eq_getElem?_getD, a2]
  refine ⟨by rw [a3, List.getD_eq_getElem?_getD, a1]; rfl, e2, ?_⟩
  rw [a3, List.getD_eq_getElem?_getD, List.getElem?_eq_getElem hl]
  exact (numL_cnt f k).2 _ (List.getElem_mem hl)
theorem numL_new {f : Nat → Nat} {n k : Nat} (hk : k < n) (h : ¬ f k < k) : (numL f n).1.getD k 0 = cntK f k ∧ cntK f (k + 1) = cntK f k + 1 := by
  have e1 : (numL f (k + 1)).1 = (numL f k).1 ++ [(numL f k).2] := by conv => lhs; unfold numL; rw [if_neg h]
  have e2 : cntK f (k + 1) = cntK f k + 1 := by unfold cntK; conv => lhs; unfold numL; rw [if_neg h]
  have a1 : (numL f n).1[k]? = some (cntK f k) := by
    rw [numL_at f n hk, e1, List.getElem?_append_right (by rw [numL_len]; omega), numL_len]
    simp [cntK]
  exact ⟨by rw [List.getD_eq_getElem?_getD, a1]; rfl, e2⟩
theorem numL_lt {f : Nat → Nat} {n k i : Nat} (hk : k ≤ n) (hi : i < k) : (numL f n).1.getD i 0 < cntK f k := by
  have a1 : (numL f n).1[i]? = (numL f k).1[i]? := by rw [numL_at f n (by omega), numL_at f k hi]
  have hl : i < (numL f k).1.length := by rw [numL_len]; exact hi
  rw [List.getD_eq_getElem?_getD, a1, List.getElem?_eq_getElem hl]
  exact (numL_cnt f k).2 _ (List.getElem_mem hl)

set_option maxRecDepth 100000 in
set_option maxHeartbeats 2000000 in
theorem numbered_any (b n c : Nat) (f : Nat → Nat) (w : World) (hr : ∀ i, i < n → w.cell? ⟨b, i, none⟩ = some (.int .i64 (f i : Int))) (hn : n ≤ 256) :
    Calls Tryz.prog 42 #[.slice (some ⟨b, 0, none⟩) n c] w fun e w' => e = .returned (.slice (some ⟨w.heap.size, 0, none⟩) n n) ∧ RowAt w' w.heap.size 3 (intsA (ints (numL f n).1)) ∧ Below w.heap.size w w' := by
  have hmk := madeI_any n (by omega) w
  have HR : Hid (∀ i, i < n → w.cell? ⟨b, i, none⟩ = some (.int .i64 (f i : Int))) := hr
  have HI0 : Hid (RowAt (w.alloc (.cells (madeCells #[.int .i64 0] n) 3)) w.heap.size 3 (intsA (rowOf n (fillF (numL f n).1 0))) ∧ Below w.heap.size w (w.alloc (.cells (madeCells #[.int .i64 0] n) 3))) := ⟨by
    have h := made_row w n 3
    rw [fillF_zero]
    exact h, (Below.refl _ _).alloc (Nat.le_refl _) _⟩
  clear hr
  go_enter Tryz.func42, Tryz.ntmps42
  go_wp2
  clear hmk
  go_loopw [4, 12] (fun s4 s12 wr => ∃ k : Nat, k ≤ n ∧ s12 = .int .i64 (k : Int) ∧ s4 = .int .i64 (cntK f k : Int) ∧ Hid (RowAt wr w.heap.size 3 (intsA (rowOf n (fillF (numL f n).1 k))) ∧ Below w.heap.size w wr)) (fun _ s12 _ => n - (intOf s12).toNat)
  case atStart => exact ⟨0, by omega, rfl, rfl, HI0⟩
  case round =>
    clear HI0
    obtain ⟨k, hk, rfl, rfl, hI⟩ := hrel
    by_cases hlk : k < n
    · have hlk2 : (k : Int) < (n : Int) := by omega
      have c0 : wr.cell? ⟨b, k, none⟩ = some (.int .i64 (f k : Int)) := (hI.out.2.cell (cell_lt (HR.out k hlk))).trans (HR.out k hlk)
      obtain ⟨o1, o2⟩ : wr.cell? ⟨w.heap.size, k, none⟩ = some (.int .i64 0) ∧ wr.frozen? ⟨w.heap.size, k, none⟩ = false := ⟨hI.out.1.cell (intsA_get (by rw [rowOf_get _ hlk]; simp [fillF])), hI.out.1.frozen k⟩
      have hput : ∀ z : Nat, z = (numL f n).1.getD k 0 → Hid (RowAt (wr.setCell ⟨w.heap.size, k, none⟩ (.int .i64 (z : Int))) w.heap.size 3 (intsA (rowOf n (fillF (numL f n).1 (k + 1)))) ∧ Below w.heap.size w (wr.setCell ⟨w.heap.size, k, none⟩ (.int .i64 (z : Int)))) := fun z hz => ⟨by
        have h := hI.out.1.set k (.int .i64 (z : Int))
        rw [intsA_set, hz, fillF_succ] at h
        rw [hz]
        exact h, hI.out.2.setCell (p := ⟨w.heap.size, k, none⟩) (Nat.le_refl _) _⟩
      have hcl := (numL_cnt f k).1
      by_cases hlt : f k < k
      · obtain ⟨q1, q2, q3⟩ := numL_old hlk hlt
        have hlt2 : (f k : Int) < (k : Int) := by omega
        have hlt3 : (f k : Int) < (n : Int) := by omega
        have c1 : wr.cell? ⟨w.heap.size, f k, none⟩ = some (.int .i64 (((numL f n).1.getD (f k) 0 : Nat) : Int)) := hI.out.1.cell (intsA_get (by rw [rowOf_get _ (by omega)]; unfold fillF; rw [if_pos hlt]))
        have hI2 := hput _ q1.symm
        generalize (numL f n).1.getD (f k) 0 = z at *
        generalize f k = fk at *
        have Hq2 : Hid (cntK f (k + 1) = cntK f k) := q2
        clear hI hput q1 q2 hlt
        go_wp2
        go_roundw
        case rel => exact ⟨k + 1, by omega, by go_num, by rw [Hq2.out], hI2⟩
        case measure => simp [intOf]; omega
      · obtain ⟨q1, q2⟩ := numL_new hlk hlt
        have hlt2 : ¬ (f k : Int) < (k : Int) := by omega
        have hI2 := hput _ q1.symm
        have hcb : (cntK f k : Int) ≤ 1000 := by unfold cntK; omega
        have Hq2 : Hid (cntK f (k + 1) = cntK f k + 1) := q2
        generalize f k = fk at *
        clear hI hput q1 q2 hlt hcl
        generalize cntK f k = ck at *
        go_wp2
        go_roundw
        case rel => exact ⟨k + 1, by omega, by go_num, by rw [Hq2.out]; go_num, hI2⟩
        case measure => simp [intOf]; omega
    · have hlk2 : ¬ (k : Int) < (n : Int) := by omega
      have hfin : Hid (RowAt wr w.heap.size 3 (intsA (ints (numL f n).1)) ∧ Below w.heap.size w wr) := ⟨by
        have h := hI.out.1
        rw [fillF_all (numL_len f n) (by omega)] at h
        exact h, hI.out.2⟩
      clear hI
      go_wp2
      go_ret
      exact ⟨rfl, hfin.out⟩

end Go.Proofs.YtcoepmpgclndiaaGreatDoor.PrecFn
