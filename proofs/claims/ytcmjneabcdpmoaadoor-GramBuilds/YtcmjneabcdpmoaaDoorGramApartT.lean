/-
  The helper that writes into lists of names, goes on with them and looks at all again: it answers true for lists that lie apart and have no room to spare.
-/
import Derived.Test.YtcmjneabcdpmoaaDoorGramBut
import Derived.Test.YtcmjneabcdpmoaaDoorGramApartS
import Derived.Test.YtcmjneabcdpmoaaDoorGramText
import Derived.Handy
import Derived.Deep.RegionHeld3
namespace Go.Proofs.YtcmjneabcdpmoaaDoor.GramApart
open Go.RowKit Go.Proofs.YtcmjneabcdpmoaaDoor.GramMath Go.Proofs.YtcmjneabcdpmoaaDoor.GramRow Go.Proofs.YtcmjneabcdpmoaaDoor.GramAboveFn
set_option linter.unusedVariables false

theorem infoLT : (Tryd.prog.info? 25).map (fun i => (i.zero, i.size, i.bytes)) = some (some (.slice none 0 0), 1, 24) := by kernel_rfl

theorem infoT : (Tryd.prog.info? 9).map (fun i => (i.zero, i.size, i.bytes)) = some (some (.string ⟨#[]⟩), 1, 16) := by kernel_rfl

def mkT (z : Int) : Value := .string (textB z.toNat)
theorem mkT_one (i k : Nat) : mkT (1000 * (i : Int) + (k : Int)) = .string (textB (1000 * i + k)) := by
  unfold mkT
  rw [show (1000 * (i : Int) + (k : Int)).toNat = 1000 * i + k by omega]
theorem mkT_two (i k : Nat) : mkT (500000 + 1000 * (i : Int) + (k : Int)) = .string (textB (500000 + 1000 * i + k)) := by
  unfold mkT
  rw [show (500000 + 1000 * (i : Int) + (k : Int)).toNat = 500000 + 1000 * i + k by omega]
theorem text_one (i k : Nat) (w : World) (hn : 1000 * i + k < 16777216) : Calls Tryd.prog 49 #[.int .i64 (1000 * (i : Int) + (k : Int))] w fun e w' => e = .returned (.string (textB (1000 * i + k))) ∧ Below w.heap.size w w' := by
  have h := text_any (1000 * i + k) w hn
  rwa [show ((1000 * i + k : Nat) : Int) = 1000 * (i : Int) + (k : Int) by omega] at h
theorem text_two (i k : Nat) (w : World) (hn : 500000 + 1000 * i + k < 16777216) : Calls Tryd.prog 49 #[.int .i64 (500000 + 1000 * (i : Int) + (k : Int))] w fun e w' => e = .returned (.string (textB (500000 + 1000 * i + k))) ∧ Below w.heap.size w w' := by
  have h := text_any (500000 + 1000 * i + k) w hn
  rwa [show ((500000 + 1000 * i + k : Nat) : Int) = 500000 + 1000 * (i : Int) + (k : Int) by omega] at h
theorem value_one (i k : Nat) (w : World) (hn : 1000 * i + k < 16777216) : Calls Tryd.prog 50 #[.string (textB (1000 * i + k))] w fun e w' => e = .returned (.int .i64 (1000 * (i : Int) + (k : Int))) ∧ ∃ q, w' = w.drewN q := by
  have h := value_any (1000 * i + k) w hn
  rwa [show ((1000 * i + k : Nat) : Int) = 1000 * (i : Int) + (k : Int) by omega] at h
theorem value_two (i k : Nat) (w : World) (hn : 500000 + 1000 * i + k < 16777216) : Calls Tryd.prog 50 #[.string (textB (500000 + 1000 * i + k))] w fun e w' => e = .returned (.int .i64 (500000 + 1000 * (i : Int) + (k : Int))) ∧ ∃ q, w' = w.drewN q := by
  have h := value_any (500000 + 1000 * i + k) w hn
  rwa [show ((500000 + 1000 * i + k : Nat) : Int) = 500000 + 1000 * (i : Int) + (k : Int) by omega] at h

set_option maxRecDepth 100000 in
set_option maxHeartbeats 8000000 in
theorem apart_strs (S : Nat → Prop) (m A cA : Nat) (g N : Nat → Nat) (ad : Nat → Option Addr) (curA : Array Value) (w : World) (hm : m ≤ 1000) (hA : RowAt w A 25 curA)
    (hAc : ∀ j, j < m → curA[j]? = some (.slice (ad j) (N j) (N j))) (had : ∀ j, j < m → at' g N j (ad j)) (hR : Marked mkT m g N w 0 0)
    (hd : ∀ a, a < m → ∀ b, b < m → a ≠ b → 0 < N a → 0 < N b → g a ≠ g b) (hN : ∀ j, j < m → N j ≤ 2097152) (hBg : ∀ j, j < m → 0 < N j → S (g j)) (hAg : ∀ j, j < m → 0 < N j → A ≠ g j) :
    Calls Tryd.prog 34 #[.slice (some ⟨A, 0, none⟩) m cA] w fun e w' => e = .returned (.bool true) ∧ But S w w' := by
  obtain ⟨i0, hi, hz0, hz1, hz2⟩ := info_parts infoT
  obtain ⟨i1, hi1, hz3, hz4, hz5⟩ := info_parts infoLT
  go_enter Tryd.func34, Tryd.ntmps34
  go_wp2
  go_loopw [3] (fun i wr => ∃ k : Nat, k ≤ m ∧ i = .int .i64 k ∧ Marked mkT m g N wr k 0 ∧ RowAt wr A 25 curA ∧ But S w wr) (fun i _ => m - (intOf i).toNat)
  case atStart => exact ⟨0, by omega, rfl, hR, hA, But.refl _ _⟩
  case round =>
    obtain ⟨i, him, rfl, hM, hAr, hBr⟩ := hrel
    by_cases hlt : i < m
    · have hcA := hAr.cell (hAc i hlt)
      have hNi := hN i hlt
      go_wp2
      go_loopw [4] (fun q wr => ∃ k : Nat, k ≤ N i ∧ q = .int .i64 k ∧ Marked mkT m g N wr i k ∧ RowAt wr A 25 curA ∧ But S w wr) (fun q _ => N i - (intOf q).toNat)
      case atStart => exact ⟨0, by omega, rfl, hM, hAr, hBr⟩
      case round =>
        obtain ⟨k, hk, rfl, hM2, hA2, hB2⟩ := hrel
        have hcA2 := hA2.cell (hAc i hlt)
        by_cases hkl : k < N i
        · have hN0 : 0 < N i := by omega
          obtain ⟨hfk, old, hck, _⟩ := hM2 i hlt k hkl
          have hai : ad i = some ⟨g i, 0, none⟩ := at_some (had i hlt) hN0
          rw [hai] at hcA2
          have hneA : A ≠ g i := hAg i hlt hN0
          have hlt2 : (i : Int) < (m : Int) := by omega
          have hkl2 : (k : Int) < (N i : Int) := by omega
          have hAl2 := hA2.lt
          have hgl2 := cell_lt hck
          dsimp only at hgl2
          have hS : ∀ w', Below wr.heap.size wr w' → w'.cell? ⟨A, i, none⟩ = some (.slice (some ⟨g i, 0, none⟩) (N i) (N i)) := fun w' hb => (hb.cell (p := ⟨A, i, none⟩) hAl2).trans hcA2
          have hdZ : Below wr.heap.size wr wr.drew := ⟨rfl, rfl, rfl, Nat.le_refl wr.heap.size, fun _ _ => rfl⟩
          have hStep : Hid (∀ w', Below wr.heap.size wr w' → Marked mkT m g N (w'.setCell ⟨g i, k, none⟩ (.string (textB (1000 * i + k)))) i (k + 1) ∧ RowAt (w'.setCell ⟨g i, k, none⟩ (.string (textB (1000 * i + k)))) A 25 curA ∧ But S w (w'.setCell ⟨g i, k, none⟩ (.string (textB (1000 * i + k))))) := fun w' hb => by
            rw [← mkT_one]
            refine ⟨(hM2.below hb (fun j hj hNj => ?_)).store hlt hkl hd, (hA2.below hb hAl2).other hneA _ _, (hB2.on hb).setCell (hBg i hlt hN0) _⟩
            obtain ⟨_, v, hv, _⟩ := hM2 j hj 0 hNj
            exact cell_lt hv
          have hw1 := wrapI (z := 1000 * (i : Int)) (by omega) (by omega)
          have hw2 := wrapI (z := 1000 * (i : Int) + (k : Int)) (by omega) (by omega)
          clear hM2 hA2 hB2 hM hAr hBr hcA hai
          go_wp2_with fail
          refine wp_region_noPanic ?_
          refine wp_region_held_drew (S := (fun w' => w'.cell? ⟨A, i, none⟩ = some (.slice (some ⟨g i, 0, none⟩) (N i) (N i)))) (by kernel_rfl) (hS _ hdZ) (fun hHeld => ?_)
          refine wpAnyH_take (i := 0) (v := .slice (some ⟨A, 0, none⟩) m cA) rfl (by kernel_rfl) (by kernel_rfl) (by kernel_rfl) (fun _ _ _ h => h) (Or.inl ⟨by rfl, fun w9 hSw => ?_⟩) hHeld ?_
          · go_simp
          simp only [List.getElem_toArray, List.getElem_cons_zero, Act.put, List.setIfInBounds_toArray, List.set_cons_zero, List.set_cons_succ]
          refine wpAnyH_take (i := 1) (v := .int .i64 (i : Int)) rfl (by kernel_rfl) (by kernel_rfl) (by kernel_rfl) (fun _ _ _ h => h) (Or.inl ⟨by rfl, fun w9 hSw => ?_⟩) hHeld ?_
          · go_simp
          simp only [List.getElem_toArray, List.getElem_cons_zero, List.getElem_cons_succ, Act.put, List.setIfInBounds_toArray, List.set_cons_zero, List.set_cons_succ]
          refine wpAnyH_take (i := 2) (v := .pointer (some ⟨A, i, none⟩)) rfl (by kernel_rfl) (by kernel_rfl) (by kernel_rfl) (fun _ _ _ h => h) (Or.inl ⟨by rfl, fun w9 hSw => ?_⟩) hHeld ?_
          · go_simp
          simp only [List.getElem_toArray, List.getElem_cons_zero, List.getElem_cons_succ, Act.put, List.setIfInBounds_toArray, List.set_cons_zero, List.set_cons_succ]
          refine wpAnyH_take (i := 3) (v := .slice (some ⟨g i, 0, none⟩) (N i) (N i)) rfl (by kernel_rfl) (by kernel_rfl) (by kernel_rfl) (fun _ _ _ h => h) (Or.inl ⟨by rfl, fun w9 hSw => ?_⟩) hHeld ?_
          · go_simp
          simp only [List.getElem_toArray, List.getElem_cons_zero, List.getElem_cons_succ, Act.put, List.setIfInBounds_toArray, List.set_cons_zero, List.set_cons_succ]
          refine wpAnyH_take (i := 4) (v := .int .i64 (k : Int)) rfl (by kernel_rfl) (by kernel_rfl) (by kernel_rfl) (fun _ _ _ h => h) (Or.inl ⟨by rfl, fun w9 hSw => ?_⟩) hHeld ?_
          · go_simp
          simp only [List.getElem_toArray, List.getElem_cons_zero, List.getElem_cons_succ, Act.put, List.setIfInBounds_toArray, List.set_cons_zero, List.set_cons_succ]
          refine wpAnyH_take (i := 5) (v := .int .i64 (i : Int)) rfl (by kernel_rfl) (by kernel_rfl) (by kernel_rfl) (fun _ _ _ h => h) (Or.inl ⟨by rfl, fun w9 hSw => ?_⟩) hHeld ?_
          · go_simp
          simp only [List.getElem_toArray, List.getElem_cons_zero, List.getElem_cons_succ, Act.put, List.setIfInBounds_toArray, List.set_cons_zero, List.set_cons_succ]
          refine wpAnyH_take (i := 6) (v := .int .i64 (1000 * (i : Int))) rfl (by kernel_rfl) (by kernel_rfl) (by kernel_rfl) (fun _ _ _ h => h) (Or.inl ⟨by rfl, fun w9 hSw => ?_⟩) hHeld ?_
          · go_simp
          simp only [List.getElem_toArray, List.getElem_cons_zero, List.getElem_cons_succ, Act.put, List.setIfInBounds_toArray, List.set_cons_zero, List.set_cons_succ]
          refine wpAnyH_take (i := 7) (v := .int .i64 (k : Int)) rfl (by kernel_rfl) (by kernel_rfl) (by kernel_rfl) (fun _ _ _ h => h) (Or.inl ⟨by rfl, fun w9 hSw => ?_⟩) hHeld ?_
          · go_simp
          simp only [List.getElem_toArray, List.getElem_cons_zero, List.getElem_cons_succ, Act.put, List.setIfInBounds_toArray, List.set_cons_zero, List.set_cons_succ]
          refine wpAnyH_take (i := 8) (v := .int .i64 (1000 * (i : Int) + (k : Int))) rfl (by kernel_rfl) (by kernel_rfl) (by kernel_rfl) (fun _ _ _ h => h) (Or.inl ⟨by rfl, fun w9 hSw => ?_⟩) hHeld ?_
          · go_simp
          simp only [List.getElem_toArray, List.getElem_cons_zero, List.getElem_cons_succ, Act.put, List.setIfInBounds_toArray, List.set_cons_zero, List.set_cons_succ]
          refine wpAnyH_ready (rs := [9]) (by kernel_rfl) (by simp) ?_
          refine AllReadyH.cons rfl (fun K hK => ?_) AllReadyH.nil
          go_simp
          refine (text_one i k _ (by omega)).mono ?_
          rintro e w1 ⟨rfl, hb1⟩
          have hB1 := hdZ.trans hb1
          refine hK.out _ _ (hS _ hB1) (fun hHeld2 => ?_)
          clear hK K hHeld
          refine wpAnyH_ready (rs := [10]) (by kernel_rfl) (by simp) ?_
          refine AllReadyH.cons rfl (fun K hK => ?_) AllReadyH.nil
          go_simp
          refine hK.out _ _ (hS _ hB1) (fun hHeld3 => ?_)
          clear hK K hHeld2
          have x0 := (hB1.cell (p := ⟨g i, k, none⟩) hgl2).trans hck
          have u0 := (hB1.frozen (p := ⟨g i, k, none⟩) hgl2).trans hfk
          obtain ⟨T1, T2, T3⟩ := hStep.out w1 hB1
          have hS5 : (w1.setCell ⟨g i, k, none⟩ (.string (textB (1000 * i + k)))).cell? ⟨A, i, none⟩ = some (.slice (some ⟨g i, 0, none⟩) (N i) (N i)) := (World.cell?_setCell_far _ _ _ _ (fun h => hneA h.symm)).trans (hS _ hB1)
          refine wpAnyH_ready (rs := [11]) (by kernel_rfl) (by simp) ?_
          refine AllReadyH.cons rfl (fun K hK => ?_) AllReadyH.nil
          go_simp
          refine hK.out _ _ hS5 (fun _ => ?_)
          clear hK K
          refine wpAnyH_done (by kernel_rfl) (NoPanic.normal ?_) _
          clear hS hStep hS5
          generalize w1.setCell ⟨g i, k, none⟩ (.string (textB (1000 * i + k))) = W4 at *
          go_wp2
          go_roundw
          case rel => exact ⟨k + 1, by omega, by go_num, T1, T2, T3⟩
          case measure => simp [intOf]; omega
        · obtain rfl : k = N i := by omega
          have S1 := hM2.next
          clear hM hAr hBr hcA
          go_wp2
          go_roundw
          case rel => exact ⟨i + 1, by omega, by go_num, S1, hA2, hB2⟩
          case measure => simp [intOf]; omega
    · obtain rfl : i = m := by omega
      clear hR hA
      obtain ⟨w1, hw1⟩ : ∃ w1, w1 = wr := ⟨_, rfl⟩
      subst hw1
      have hgl : ∀ j, j < i → 0 < N j → g j < w1.heap.size := fun j hj hNj => by
        obtain ⟨_, v, hv, _⟩ := hM j hj 0 hNj
        exact cell_lt hv
      have hAl := hAr.lt
      go_wp2
      go_loopw [5, 6] (fun mv q ws => ∃ (k : Nat) (Ls : List Value), k ≤ i ∧ q = .int .i64 k ∧ Ls.length = k ∧ ws.ownsRow w1.heap.size 25 1 mv k Ls ∧ (∀ j v, Ls[j]? = some v → Longer mkT ws 9 j (N j) v) ∧ Below w1.heap.size w1 ws) (fun _ q _ => i - (intOf q).toNat)
      case atStart => exact ⟨0, [], by omega, rfl, rfl, World.ownsRow_nil _ _ _ _, by simp, Below.refl _ _⟩
      case round =>
        obtain ⟨ws, hws⟩ : ∃ ws, ws = wr := ⟨_, rfl⟩
        subst hws
        obtain ⟨k, Ls, hk, rfl, hLs, hmv, hLo, hbs⟩ := hrel
        have hss := hbs.size
        have hAs := hAr.below hbs hAl
        have hMs := hM.below hbs hgl
        by_cases hki : k < i
        · have hcA := hAs.cell (hAc k hki)
          have hNk := hN k hki
          go_wp2
          go_loopw [7, 8] (fun l q wt => ∃ (p : Nat), p ≤ 30 ∧ q = .int .i64 p ∧ (p = 0 → l = .slice (ad k) (N k) (N k)) ∧ (0 < p → wt.ownsRow ws.heap.size 9 1 l (N k + p) (markL mkT k (N k) ++ moreL mkT k p)) ∧ Below ws.heap.size ws wt) (fun _ q _ => 30 - (intOf q).toNat)
          case atStart => exact ⟨0, by omega, rfl, fun _ => rfl, fun h => absurd h (by omega), Below.refl _ _⟩
          case round =>
            obtain ⟨p, hp, rfl, h0, h1, hbt⟩ := hrel
            have hts := hbt.size
            by_cases hp30 : p < 30
            · by_cases hp0 : p = 0
              · obtain rfl := h0 hp0
                have HP : Hid (p = 0) := hp0
                have hmarks := markL_get (hMs.below hbt (fun j hj hNj => by have := hgl j hj hNj; omega)) hki
                have hak := had k hki
                have hmk2 := mkT_two k p
                clear hp0 h0 h1
                go_wp2_with fail
                refine (text_two k p _ (by omega)).mono ?_
                rintro e wx ⟨rfl, hbx⟩
                have hmarks := fun j u hj => (hbx.cell (cell_lt (hmarks j u hj))).trans (hmarks j u hj)
                replace hbt := hbt.trans (hbx.mono hts)
                replace hts := hbt.size
                go_wp2_with (at_builtin; refine wpList_append_grows _ rfl (.tmp 53) (.tmp 60) 25 rfl 9 i0 (.string ⟨#[]⟩) 1 16 Tryd.underlying25 hi hz0 hz1 hz2 rfl (by decide) (ad k) (N k) (N k) (markL mkT k (N k)) rfl (fun h => at_none hak h) (by rw [markL_len, Nat.mul_one]) (fun b hb j u hj => by rw [at_is hak hb, Addr.add_lit, Nat.zero_add]; have hc := hmarks j u hj; rw [World.cell?_alloc_past _ _ _ (cell_lt hc)]; exact hc) ⟨_, 0, none⟩ 1 1 [.string (textB (500000 + 1000 * k + p))] rfl rfl (cell_one_new _ _ _) (by simp [Value.oneCell']) (by omega) (by unfold maxLen; omega) (by omega) ?_; intro v2 w2 hown2 hgrow2)
                have O2 : w2.ownsRow ws.heap.size 9 1 v2 (N k + (p + 1)) (markL mkT k (N k) ++ moreL mkT k (p + 1)) := by
                  have e : p = 0 := HP.out
                  subst e
                  rw [moreL_succ, hmk2]
                  exact own_base hown2 (by simp; omega)
                have B2 : Below ws.heap.size ws w2 := (hbt.alloc hts _).grown hgrow2 (by simp; omega) (fun j hj => by cases hj)
                clear hown2 hgrow2 hmarks
                go_roundw
                case rel => exact ⟨p + 1, by omega, by go_num, fun h => absurd h (by omega), fun _ => O2, B2⟩
                case measure => simp [intOf]; omega
              · have hl := h1 (by omega)
                have hmk2 := mkT_two k p
                clear h0 h1 hp0
                go_wp2_with fail
                refine (text_two k p _ (by omega)).mono ?_
                rintro e wx ⟨rfl, hbx⟩
                replace hl := own_below hl hbx
                replace hbt := hbt.trans (hbx.mono hts)
                replace hts := hbt.size
                go_wp2_with (at_builtin; refine wpList_append_own _ rfl (.tmp 53) (.tmp 60) 25 rfl ws.heap.size 9 i0 (.string ⟨#[]⟩) 1 16 Tryd.underlying25 hi hz0 hz1 hz2 rfl (by decide) _ _ _ rfl (hl.alloc _) ⟨_, 0, none⟩ 1 1 [.string (textB (500000 + 1000 * k + p))] rfl rfl (cell_one_new _ _ _) (by simp [Value.oneCell']) (by unfold maxLen; omega) (by omega) (by simp; omega) ?_; intro v2 w2 hown2 hgrow2 _)
                have O2 : w2.ownsRow ws.heap.size 9 1 v2 (N k + (p + 1)) (markL mkT k (N k) ++ moreL mkT k (p + 1)) := by
                  rw [moreL_succ, ← List.append_assoc, hmk2]
                  exact hown2
                have B2 : Below ws.heap.size ws w2 := (hbt.alloc hts _).grown hgrow2 (by simp; omega) (fun j hj => (hl.lt j hj).1)
                clear hown2 hgrow2 hl
                go_roundw
                case rel => exact ⟨p + 1, by omega, by go_num, fun h => absurd h (by omega), fun _ => O2, B2⟩
                case measure => simp [intOf]; omega
            · obtain rfl : p = 30 := by omega
              have hl := h1 (by omega)
              obtain ⟨hh, cc, rfl⟩ := ownsRow_succ (k := N k + 29) hl
              have L0 := longer_of hl
              have hmt := own_below hmv hbt
              have hLt : ∀ j v, Ls[j]? = some v → Longer mkT wr 9 j (N j) v := fun j v hj => (hLo j v hj).below hbt (Nat.le_refl _)
              clear h0 h1
              go_wp2_with (at_builtin; refine wpList_append_own _ rfl (.tmp 62) (.tmp 64) 80 rfl w1.heap.size 25 i1 (.slice none 0 0) 1 24 Tryd.underlying80 hi1 hz3 hz4 hz5 rfl (by decide) _ _ _ rfl (hmt.alloc _) ⟨_, 0, none⟩ 1 1 [.slice (some ⟨hh, 0, none⟩) (N k + 30) cc] rfl rfl (cell_one_new _ _ _) (by simp [Value.oneCell']) (by unfold maxLen; omega) (by omega) (by simp; omega) ?_; intro v3 w3 hown3 hgrow3 _)
              have L3 : ∀ j v, (Ls ++ [Value.slice (some ⟨hh, 0, none⟩) (N k + 30) cc])[j]? = some v → Longer mkT w3 9 j (N j) v := by
                intro j v hj
                rcases Nat.lt_or_ge j Ls.length with hlt | hge
                · rw [List.getElem?_append_left hlt] at hj
                  exact (hLt j v hj).grown (by decide) hmt _ hgrow3
                · rw [List.getElem?_append_right hge] at hj
                  have hz : j - Ls.length = 0 := by
                    have := (List.getElem?_eq_some_iff.1 hj).1
                    simp at this
                    omega
                  rw [hz] at hj
                  simp at hj
                  obtain rfl : j = k := by omega
                  subst hj
                  exact L0.grown (by decide) hmt _ hgrow3
              have B3 : Below w1.heap.size w1 w3 := ((hbs.trans (hbt.mono hss)).alloc (by omega) _).grown hgrow3 (by simp; omega) (fun j hj => (hmt.lt j hj).1)
              clear hgrow3 hmt hLt L0 hl hmv hLo
              go_wp2
              go_roundw
              case rel => exact ⟨k + 1, _, by omega, by go_num, by simp [hLs], hown3, L3, B3⟩
              case measure => simp [intOf]; omega
        · obtain rfl : k = i := by omega
          have BF : But S w ws := hBr.on hbs
          by_cases hk0 : k = 0
          · subst hk0
            go_wp2
            refine wp_loop_rounds 1 ?_
            rw [rounds_succ]
            go_wp2
            go_ret
            exact ⟨rfl, BF⟩
          · obtain ⟨M, cM, rfl⟩ := ownsRow_succ (k := k - 1) (by rw [Nat.sub_add_cancel (by omega)]; exact hmv)
            rw [Nat.sub_add_cancel (by omega)] at hmv ⊢
            clear hk0 hM hAr hBr hbs hss
            go_wp2
            go_loopw [9] (fun q wr => ∃ j qd : Nat, j ≤ k ∧ q = .int .i64 j ∧ wr = ws.drewN qd) (fun q _ => k - (intOf q).toNat)
            case atStart => exact ⟨0, 0, by omega, rfl, rfl⟩
            case round =>
              obtain ⟨j, qd, hj, rfl, rfl⟩ := hrel
              by_cases hjk : j < k
              · have hcA := hAs.cell (hAc j hjk)
                have hNj := hN j hjk
                obtain ⟨v, hv⟩ : ∃ v, Ls[j]? = some v := ⟨Ls[j]'(by omega), List.getElem?_eq_getElem (by omega)⟩
                obtain ⟨hh, cc, curL, rfl, hrL, hq1, hq2⟩ := hLo j v hv
                have hcM : ws.cell? ⟨M, j, none⟩ = some (.slice (some ⟨hh, 0, none⟩) (N j + 30) cc) := by
                  rw [hmv.cellAt j (by omega)]; exact hv
                have hMj := hMs j hjk
                have haj := had j hjk
                clear hLo hv
                go_wp2
                go_loopw [11] (fun q wr => ∃ p qd : Nat, p ≤ N j ∧ q = .int .i64 p ∧ wr = ws.drewN qd) (fun q _ => N j - (intOf q).toNat)
                case atStart => exact ⟨0, qd, by omega, rfl, rfl⟩
                case round =>
                  obtain ⟨p, qe, hp, rfl, rfl⟩ := hrel
                  by_cases hpn : p < N j
                  · obtain ⟨_, v1, c1, hv1⟩ := hMj p hpn
                    rw [hv1 (.inl hjk), mkT_one] at c1
                    have c2 := hrL.cell (hq1 p hpn)
                    rw [mkT_one] at c2
                    have hai : ad j = some ⟨g j, 0, none⟩ := at_some haj (by omega)
                    rw [hai] at hcA
                    have hn24 : 1000 * j + p < 16777216 := by omega
                    clear hMj hq1 hq2 hai
                    go_wp2_with fail
                    refine (value_one j p _ hn24).mono ?_
                    rintro e wx ⟨rfl, qx, rfl⟩
                    go_wp2_with fail
                    refine (value_one j p _ hn24).mono ?_
                    rintro e wx ⟨rfl, qy, rfl⟩
                    go_wp2
                    go_roundw
                    case rel => exact ⟨p + 1, _, by omega, by go_num, rfl⟩
                    case measure => simp [intOf]; omega
                  · go_wp2
                    go_loopw [12] (fun q wr => ∃ p qd : Nat, p ≤ 30 ∧ q = .int .i64 p ∧ wr = ws.drewN qd) (fun q _ => 30 - (intOf q).toNat)
                    case atStart => exact ⟨0, qe, by omega, rfl, rfl⟩
                    case round =>
                      obtain ⟨p2, qf, hp2, rfl, rfl⟩ := hrel
                      by_cases hpn2 : p2 < 30
                      · have c2 := hrL.cell (hq2 p2 hpn2)
                        rw [mkT_two] at c2
                        have hn24 : 500000 + 1000 * j + p2 < 16777216 := by omega
                        clear hMj hq1 hq2
                        go_wp2_with fail
                        refine (value_two j p2 _ hn24).mono ?_
                        rintro e wx ⟨rfl, qx, rfl⟩
                        go_wp2
                        go_roundw
                        case rel => exact ⟨p2 + 1, _, by omega, by go_num, rfl⟩
                        case measure => simp [intOf]; omega
                      · go_wp2
                        go_roundw
                        case rel => exact ⟨j + 1, _, by omega, by go_num, rfl⟩
                        case measure => simp [intOf]; omega
              · go_wp2
                go_ret
                exact ⟨rfl, BF.on (drew_below _ _)⟩

end Go.Proofs.YtcmjneabcdpmoaaDoor.GramApart
