/-
  The walk of WordsBack: it answers true for every list of texts and of marks and every line, where none is longer than a million letters, and writes nothing that was there.
-/
import Derived.Test.YtbhgbfkepagnbaaDoorWordsMath3
import Derived.Test.YtbhgbfkepagnbaaDoorWordsWrite
import Derived.Test.YtbhgbfkepagnbaaDoorWordsKnown
import Derived.Test.YtbhgbfkepagnbaaDoorWordsLists
import Derived.Deep.QuietTactic
import Derived.BigQuiet
import Derived.Deep.RegionHeld3
namespace Go.Proofs.YtbhgbfkepagnbaaDoor.WordsBackW
open Go.RowKit Go.Proofs.YtbhgbfkepagnbaaDoor.WordsMath Go.Proofs.YtbhgbfkepagnbaaDoor.WordsOne Go.Proofs.YtbhgbfkepagnbaaDoor.WordsBytes

set_option maxRecDepth 100000 in
set_option maxHeartbeats 16000000 in
theorem walk (a : Option Addr) (n ca : Nat) (ss : List ByteArray) (b : Option Addr) (m cb : Nat) (qs : List Bool) (s : ByteArray) (p : Nat → Addr) (w0 : World) (hE : Errs w0 p) (hg : ErrType w0) (hS : SRow w0 a n ss) (hz : ∀ i, i < n → (ss.getD i ByteArray.empty).size ≤ 1048576) (hn : n ≤ 1048576) (hQ : BRow w0 b m qs) :
    Calls Tryd.prog 4 #[.slice a n ca, .slice b m cb, .string s] w0 fun e w' => e = .returned (.bool true) ∧ Below w0.heap.size w0 w' := by
  obtain ⟨i0, hi, hz0, hz1, hz2⟩ := info_parts infoW
  have hnil := fun t v W => iface_nil t v W
  go_enter Tryd.func4, Tryd.ntmps4
  go_wp2_with fail
  refine (known_any p w0 hE hg).mono ?_
  rintro e w ⟨rfl, hb0⟩
  have hE1 := hE.below hb0 (Nat.le_refl _)
  have hS1 := hS.below hb0
  have hQ1 := hQ.below hb0
  clear hE hg hS hQ
  go_wp2
  go_loopw [7, 8] (fun u i wr => ∃ k : Nat, k ≤ n ∧ i = .int .i64 k ∧ wr.ownsRow w.heap.size 37 3 u k (cellsW (wsOf ss qs m 0 k)) ∧ Below w.heap.size w wr) (fun _ i _ => n - (intOf i).toNat)
  case atStart => exact ⟨0, by omega, rfl, World.ownsRow_nil _ _ _ _, Below.refl _ _⟩
  case round =>
    obtain ⟨k, hk, rfl, hI, hB⟩ := hrel
    have hsB := hB.size
    by_cases hlt : k < n
    · obtain ⟨b1, off1, rfl, c1w⟩ := hS1 k hlt
      have c1 := (hB.cell (cell_lt c1w)).trans c1w
      have nb1 := World.new_ne wr ⟨b1, off1 + k, none⟩ c1
      have hkn : (k : Int) < (n : Int) := by omega
      by_cases hkm : k < m
      · obtain ⟨b2, off2, rfl, c3w⟩ := hQ1 k hkm
        have c3 := (hB.cell (cell_lt c3w)).trans c3w
        have nb2 := World.new_ne wr ⟨b2, off2 + k, none⟩ c3
        have E : Hid ([Value.string (ss.getD k ByteArray.empty), .bool (qs.getD k false), .int .i64 0] = wv (wAt ss qs m 0 k)) := by
          show _ = _
          simp [wv, wAt, hkm]
        have hkm2 : (k : Int) < (m : Int) := by omega
        generalize hq : qs.getD k false = q at *
        generalize hT : ss.getD k ByteArray.empty = T at *
        have HQ : Hid (_) := hq
        have HT : Hid (_) := hT
        clear hq hT hS1 hQ1 hz
        go_wp2
        go_region_held3 (fun w' => w'.cell? ⟨b1, off1 + k, none⟩ = some (.string T) ∧ w'.cell? ⟨b2, off2 + k, none⟩ = some (.bool q)) (go_keep) (first | (refine step_append_own rfl _ _ 22 rfl w.heap.size 37 i0 (.agg #[.string ⟨#[]⟩, .bool false, .int .i64 0]) 3 32 Tryd.underlying22 hi hz0 hz1 hz2 rfl (by decide) _ _ _ rfl (World.ownsRow.alloc (World.ownsRow.drew hI) _) ⟨wr.drew.heap.size, 0, none⟩ 1 1 [.string T, .bool q, .int .i64 0] rfl rfl (cells_new _ #[_, _, _] _) (by simp [Value.oneCell']) (by unfold maxLen; omega) (by omega) (by simp; omega) ?_; intro u1 w3 hown3 hgrow3 _; rw [E.out] at hown3; obtain ⟨g1, e1, hu1, hI3⟩ := row3 hown3; rw [← wsOf_succ] at hI3; rw [hu1]; have hB3 := app3 hB.drew hsB hI hgrow3; have k1 := (hB3.cell (cell_lt c1w)).trans c1w; have k3 := (hB3.cell (cell_lt c3w)).trans c3w))
        all_goals go_wp2
        all_goals go_roundw
        all_goals first | exact ⟨k + 1, by omega, by go_num, hI3, hB3⟩ | (simp [intOf]; omega)
      · have E : Hid ([Value.string (ss.getD k ByteArray.empty), .bool false, .int .i64 0] = wv (wAt ss qs m 0 k)) := by
          show _ = _
          simp [wv, wAt, hkm]
        have hkm2 : ¬ (k : Int) < (m : Int) := by omega
        generalize hT : ss.getD k ByteArray.empty = T at *
        have HT : Hid (_) := hT
        clear hT hS1 hQ1 hz
        go_wp2
        have hmx : Tryd.prog.follows .mixedOrders = true := by kernel_rfl
        refine wp_region_held_drew (S := (fun w' => w'.cell? ⟨b1, off1 + k, none⟩ = some (.string T))) hmx c1 (fun hHeld => ?_)
        refine wpAnyH_take (i := 0) (v := u7) rfl (by kernel_rfl) (by kernel_rfl) (by kernel_rfl) (fun _ _ _ h => h) (Or.inl ⟨by rfl, fun w9 hSw => ?_⟩) hHeld ?_
        · go_simp
        simp only [List.getElem_toArray, List.getElem_cons_zero, Act.put, List.setIfInBounds_toArray, List.set_cons_zero, List.set_cons_succ]
        refine wpAnyH_take (i := 1) (v := (.slice (some ⟨b1, off1, none⟩) n ca)) rfl (by kernel_rfl) (by kernel_rfl) (by kernel_rfl) (fun _ _ _ h => h) (Or.inl ⟨by rfl, fun w9 hSw => ?_⟩) hHeld ?_
        · go_simp
        simp only [List.getElem_toArray, List.getElem_cons_zero, List.getElem_cons_succ, Act.put, List.setIfInBounds_toArray, List.set_cons_zero, List.set_cons_succ]
        refine wpAnyH_take (i := 2) (v := (.int .i64 (k : Int))) rfl (by kernel_rfl) (by kernel_rfl) (by kernel_rfl) (fun _ _ _ h => h) (Or.inl ⟨by rfl, fun w9 hSw => ?_⟩) hHeld ?_
        · go_simp
        simp only [List.getElem_toArray, List.getElem_cons_zero, List.getElem_cons_succ, Act.put, List.setIfInBounds_toArray, List.set_cons_zero, List.set_cons_succ]
        refine wpAnyH_take (i := 3) (v := (.pointer (some ⟨b1, off1 + k, none⟩))) rfl (by kernel_rfl) (by kernel_rfl) (by kernel_rfl) (fun _ _ _ h => h) (Or.inl ⟨by rfl, fun w9 hSw => ?_⟩) hHeld ?_
        · go_simp
        simp only [List.getElem_toArray, List.getElem_cons_zero, List.getElem_cons_succ, Act.put, List.setIfInBounds_toArray, List.set_cons_zero, List.set_cons_succ]
        refine wpAnyH_take (i := 4) (v := (.string T)) rfl (by kernel_rfl) (by kernel_rfl) (by kernel_rfl) (fun _ _ _ h => h) (Or.inl ⟨by rfl, fun w9 hSw => ?_⟩) hHeld ?_
        · go_simp
        simp only [List.getElem_toArray, List.getElem_cons_zero, List.getElem_cons_succ, Act.put, List.setIfInBounds_toArray, List.set_cons_zero, List.set_cons_succ]
        refine wpAnyH_take (i := 5) (v := (.int .i64 (k : Int))) rfl (by kernel_rfl) (by kernel_rfl) (by kernel_rfl) (fun _ _ _ h => h) (Or.inl ⟨by rfl, fun w9 hSw => ?_⟩) hHeld ?_
        · go_simp
        simp only [List.getElem_toArray, List.getElem_cons_zero, List.getElem_cons_succ, Act.put, List.setIfInBounds_toArray, List.set_cons_zero, List.set_cons_succ]
        refine wpAnyH_take (i := 6) (v := (.slice b m cb)) rfl (by kernel_rfl) (by kernel_rfl) (by kernel_rfl) (fun _ _ _ h => h) (Or.inl ⟨by rfl, fun w9 hSw => ?_⟩) hHeld ?_
        · go_simp
        simp only [List.getElem_toArray, List.getElem_cons_zero, List.getElem_cons_succ, Act.put, List.setIfInBounds_toArray, List.set_cons_zero, List.set_cons_succ]
        refine wpAnyH_take (i := 7) (v := (.int .i64 (m : Int))) rfl (by kernel_rfl) (by kernel_rfl) (by kernel_rfl) (fun _ _ _ h => h) (Or.inl ⟨by rfl, fun w9 hSw => ?_⟩) hHeld ?_
        · go_simp
        simp only [List.getElem_toArray, List.getElem_cons_zero, List.getElem_cons_succ, Act.put, List.setIfInBounds_toArray, List.set_cons_zero, List.set_cons_succ]
        refine wpAnyH_take (i := 8) (v := (.bool false)) rfl (by kernel_rfl) (by kernel_rfl) (by kernel_rfl) (fun _ _ _ h => h) (Or.inl ⟨by rfl, fun w9 hSw => ?_⟩) hHeld ?_
        · go_simp
        simp only [List.getElem_toArray, List.getElem_cons_zero, List.getElem_cons_succ, Act.put, List.setIfInBounds_toArray, List.set_cons_zero, List.set_cons_succ]
        refine wpAnyH_take (i := 9) (v := (.bool false)) rfl (by kernel_rfl) (by kernel_rfl) (by kernel_rfl) (fun _ _ _ h => h) (Or.inl ⟨by rfl, fun w9 hSw => ?_⟩) hHeld ?_
        · go_simp
        simp only [List.getElem_toArray, List.getElem_cons_zero, List.getElem_cons_succ, Act.put, List.setIfInBounds_toArray, List.set_cons_zero, List.set_cons_succ]
        refine wpAnyH_take (i := 10) (v := undef) rfl (by kernel_rfl) (by kernel_rfl) (by kernel_rfl) (fun _ _ _ h => h) (Or.inr ⟨by rfl, rfl⟩) hHeld ?_
        simp only [List.getElem_toArray, List.getElem_cons_zero, List.getElem_cons_succ, Act.put, List.setIfInBounds_toArray, List.set_cons_zero, List.set_cons_succ]
        refine wpAnyH_take (i := 11) (v := undef) rfl (by kernel_rfl) (by kernel_rfl) (by kernel_rfl) (fun _ _ _ h => h) (Or.inr ⟨by rfl, rfl⟩) hHeld ?_
        simp only [List.getElem_toArray, List.getElem_cons_zero, List.getElem_cons_succ, Act.put, List.setIfInBounds_toArray, List.set_cons_zero, List.set_cons_succ]
        refine wpAnyH_take (i := 12) (v := undef) rfl (by kernel_rfl) (by kernel_rfl) (by kernel_rfl) (fun _ _ _ h => h) (Or.inr ⟨by rfl, rfl⟩) hHeld ?_
        simp only [List.getElem_toArray, List.getElem_cons_zero, List.getElem_cons_succ, Act.put, List.setIfInBounds_toArray, List.set_cons_zero, List.set_cons_succ]
        refine wpAnyH_take (i := 13) (v := undef) rfl (by kernel_rfl) (by kernel_rfl) (by kernel_rfl) (fun _ _ _ h => h) (Or.inr ⟨by rfl, rfl⟩) hHeld ?_
        simp only [List.getElem_toArray, List.getElem_cons_zero, List.getElem_cons_succ, Act.put, List.setIfInBounds_toArray, List.set_cons_zero, List.set_cons_succ]
        refine wpAnyH_take (i := 14) (v := (.bool false)) rfl (by kernel_rfl) (by kernel_rfl) (by kernel_rfl) (fun _ _ _ h => h) (Or.inl ⟨by rfl, fun w9 hSw => ?_⟩) hHeld ?_
        · go_simp
        simp only [List.getElem_toArray, List.getElem_cons_zero, List.getElem_cons_succ, Act.put, List.setIfInBounds_toArray, List.set_cons_zero, List.set_cons_succ]
        refine wpAnyH_take (i := 15) (v := (.agg #[.string T, .bool false, .int .i64 0])) rfl (by kernel_rfl) (by kernel_rfl) (by kernel_rfl) (fun _ _ _ h => h) (Or.inl ⟨by rfl, fun w9 hSw => ?_⟩) hHeld ?_
        · go_simp
        simp only [List.getElem_toArray, List.getElem_cons_zero, List.getElem_cons_succ, Act.put, List.setIfInBounds_toArray, List.set_cons_zero, List.set_cons_succ]
        refine wpAnyH_ready (rs := [16]) (by kernel_rfl) (by simp) ?_
        refine AllReadyH.cons rfl (fun K hK => ?_) AllReadyH.nil
        go_simp
        refine hK.out _ _ (by show (World.alloc wr.drew _).cell? _ = _; rw [World.cell?_alloc_some _ _ _ (by rw [show wr.drew.cell? _ = _ from c1]; rfl)]; exact c1) (fun hHeld2 => ?_)
        clear hK K
        refine wpAnyH_ready (rs := [17]) (by kernel_rfl) (by simp) ?_
        refine AllReadyH.cons rfl (fun K hK => ?_) AllReadyH.nil
        (refine step_append_own rfl _ _ 22 rfl w.heap.size 37 i0 (.agg #[.string ⟨#[]⟩, .bool false, .int .i64 0]) 3 32 Tryd.underlying22 hi hz0 hz1 hz2 rfl (by decide) _ _ _ rfl (World.ownsRow.alloc (World.ownsRow.drew hI) _) ⟨wr.drew.heap.size, 0, none⟩ 1 1 [.string T, .bool false, .int .i64 0] rfl rfl (cells_new _ #[_, _, _] _) (by simp [Value.oneCell']) (by unfold maxLen; omega) (by omega) (by simp; omega) ?_; intro u1 w3 hown3 hgrow3 _; rw [E.out] at hown3; obtain ⟨g1, e1, hu1, hI3⟩ := row3 hown3; rw [← wsOf_succ] at hI3; rw [hu1]; have hB3 := app3 hB.drew hsB hI hgrow3)
        refine hK.out _ _ ((hB3.cell (cell_lt c1w)).trans c1w) (fun hHeld3 => ?_)
        clear hK K
        refine wpAnyH_ready (rs := [18]) (by kernel_rfl) (by simp) ?_
        refine AllReadyH.cons rfl (fun K hK => ?_) AllReadyH.nil
        go_simp
        refine hK.out _ _ hHeld3 (fun _ => ?_)
        clear hK K
        refine wpAnyH_done (by kernel_rfl) ?_ _
        go_wp2
        go_roundw
        case rel => exact ⟨k + 1, by omega, by go_num, hI3, hB3⟩
        case measure => simp [intOf]; omega
    · obtain rfl : k = n := by omega
      have hws := wsOf_len ss qs m 0 k
      have hwt := wsOf_text (qs := qs) (m := m) (step := 0) hz
      generalize wsOf ss qs m 0 k = ws at *
      subst hws
      clear hS1 hQ1 hz hlt
      have hwl := allW_len 1048576 _ hwt
      have hN : ws.length * (4 * 1048576 + 3) ≤ 1048576 * 4194307 := Nat.mul_le_mul_right _ hn
      have hw3 : (allW ws).length ≤ 140737488355328 := by omega
      clear hwl hN
      obtain ⟨a1, c1, hu1, hW1⟩ := own_shape hI
      subst hu1
      have hE2 := hE1.below hB (Nat.le_refl _)
      go_wp2_with fail
      refine (write_any a1 c1 ws wr hW1 (by omega) (fun x hx => by have := hwt x hx; omega) (by omega)).mono ?_
      rintro e w3 ⟨rfl, hb3⟩
      have hW3 := hW1.below hb3 (Nat.le_refl _)
      have hE3 := hE2.below hb3 (Nat.le_refl _)
      have B3 := hb0.trans ((hB.trans (hb3.mono hsB)).mono hb0.size)
      have hTs : (⟨(allW ws).toArray⟩ : ByteArray).size = (allW ws).length := size_list _
      obtain ⟨us, hus, hup⟩ := lineL_back ws
      have hlw := fun W h1 h2 => line_any ⟨(allW ws).toArray⟩ (.ok us) (p 1) W h1 h2 (show Hid _ from (by show lineL (⟨(allW ws).toArray⟩ : ByteArray).data.toList 0 [] = _; exact hus))
      have hll := fun W h1 h2 => line_long ⟨(allW ws).toArray⟩ (p 11) W h1 h2
      have hget := pr_get hup
      generalize hA : (⟨(allW ws).toArray⟩ : ByteArray) = T at *
      by_cases hT : 1048576 < T.size
      · have hT2 : ¬ (T.size : Int) ≤ 1048576 := by omega
        clear hTs hA hw3
        go_wp2_with fail
        refine (hll _ (by omega) hE3.long).mono ?_
        rintro e w4 ⟨rfl, q4, hw4⟩
        obtain rfl := hw4.symm
        have hE5 : Errs (w3.drewN q4) p := hE3
        have B5 : Below w0.heap.size w0 (w3.drewN q4) := ⟨B3.os, B3.tape, B3.output, B3.size, B3.block⟩
        clear hlw hll hup hus hget hW3 hW1 hI hwt
        by_cases hsl : 1048576 < s.size
        · go_wp2_with fail
          refine (line_long s (p 11) _ hsl hE5.long).mono ?_
          rintro e w6 ⟨rfl, q6, hw6⟩
          obtain rfl := hw6.symm
          go_wp2
          go_ret
          exact ⟨rfl, B5.os, B5.tape, B5.output, B5.size, B5.block⟩
        · cases hR : lineL s.data.toList 0 [] with
          | error n =>
            go_wp2_with fail
            refine (line_any s _ (p 1) _ (by omega) hE5.syntax hR).mono ?_
            rintro e w6 ⟨⟨v, he, hv⟩, hb6⟩
            subst he
            obtain ⟨t, u, hvt⟩ : ∃ t u, v = .iface t u := by obtain ⟨b', _, rfl, _⟩ := hv; exact ⟨_, _, rfl⟩
            subst hvt
            go_wp2
            go_ret
            exact ⟨rfl, B5.trans (hb6.mono B5.size)⟩
          | ok av =>
            have hgood := lineL_good 1048576 s.data.toList.length _ _ _ _ (Nat.le_refl _) (by rw [list_size]; omega) (fun x hx => by cases hx) hR
            have hasl : av.length ≤ 1048576 := by
              obtain ⟨mo, h10, h11, h12⟩ := lineL_ok _ _ _ _ _ (Nat.le_refl _) hR
              rw [List.nil_append] at h10
              subst h10
              have := rise_len av 0 _ h11 h12
              rw [list_size] at this
              omega
            have hal := allW_len 1048576 av (fun x hx => (hgood x hx).2)
            have hal2 : av.length * (4 * 1048576 + 3) ≤ 1048576 * 4194307 := Nat.mul_le_mul_right _ hasl
            have hal3 : (allW av).length ≤ 140737488355328 := by omega
            clear hal hal2
            go_wp2_with fail
            refine (line_any s _ (p 1) _ (by omega) hE5.syntax hR).mono ?_
            rintro e w6 ⟨⟨v, he, hown6⟩, hb6⟩
            subst he
            obtain ⟨a6, c6, hv6, hW6⟩ := own_shape hown6
            subst hv6
            have hE6 := hE5.below hb6 (Nat.le_refl _)
            go_wp2_with fail
            refine (write_any a6 c6 av w6 hW6 (by omega) (fun x hx => by have := (hgood x hx).2; omega) (by omega)).mono ?_
            rintro e w7 ⟨rfl, hb7⟩
            have hW7 := hW6.below hb7 (Nat.le_refl _)
            have hE7 := hE6.below hb7 (Nat.le_refl _)
            have B7 := B5.trans ((hb6.trans (hb7.mono hb6.size)).mono B5.size)
            have hTs : (⟨(allW av).toArray⟩ : ByteArray).size = (allW av).length := size_list _
            obtain ⟨us, hus, hup⟩ := lineL_back av
            rw [map_nq av (fun x hx => (hgood x hx).1)] at hup
            have hlw := fun W h1 h2 => line_any ⟨(allW av).toArray⟩ (.ok us) (p 1) W h1 h2 (show Hid _ from (by show lineL (⟨(allW av).toArray⟩ : ByteArray).data.toList 0 [] = _; exact hus))
            have hll := fun W h1 h2 => line_long ⟨(allW av).toArray⟩ (p 11) W h1 h2
            have hre := back_again us av hup
            have hget := pr_get hup
            by_cases hT : 1048576 < (allW av).length
            · have hT2 : (1048576 : Int) < ((allW av).length : Int) := by omega
              clear hlw
              generalize hA : (⟨(allW av).toArray⟩ : ByteArray) = T at *
              go_wp2_with fail
              refine (hll _ (by omega) hE7.long).mono ?_
              rintro e w8 ⟨rfl, q8, hw8⟩
              obtain rfl := hw8.symm
              have hT3 : (1048576 : Int) < (T.size : Int) := by omega
              go_wp2
              go_ret
              exact ⟨rfl, B7.os, B7.tape, B7.output, B7.size, B7.block⟩
            · clear hll
              generalize hA : (⟨(allW av).toArray⟩ : ByteArray) = T at *
              go_wp2_with fail
              refine (hlw _ (by omega) hE7.syntax).mono ?_
              rintro e w8 ⟨⟨v, he, hown8⟩, hb8⟩
              subst he
              obtain ⟨a8, c8, hv8, hW8⟩ := own_shape hown8
              subst hv8
              have hW78 := hW7.below hb8 (Nat.le_refl _)
              have hT3 : ¬ (1048576 : Int) < (T.size : Int) := by omega
              have hul := hget.1
              have hu2 : us.length ≤ 1048576 := by omega
              have B8 := B7.trans (hb8.mono B7.size)
              have hwr := fun W h1 => write_any a8 c8 us W h1 (by omega) (fun x hx => by
                obtain ⟨k, hk, hx2⟩ := List.getElem_of_mem hx
                have hxk : us[k]? = some x := by rw [← hx2]; exact List.getElem?_eq_getElem hk
                obtain ⟨y, hy, h1, _⟩ := hget.2 k av[k] (List.getElem?_eq_getElem (by omega))
                rw [hxk] at hy
                cases hy
                have := (hgood av[k] (List.getElem_mem _)).2
                rw [h1]
                show 4 * av[k].text.length + 2 ≤ _
                omega) (by rw [hre]; omega)
              rw [hre, hA] at hwr
              have HW : Hid (_) := hwr
              clear hwr
              have hlen : ((av.length : Int) != (us.length : Int)) = false := by simp; omega
              clear hown6 hown8 hlw hre hup hgood
              go_wp2
              go_loopw [18] (fun i wr => ∃ k q : Nat, k ≤ av.length ∧ i = .int .i64 k ∧ wr = w8.drewN q) (fun i _ => av.length - (intOf i).toNat)
              case atStart => exact ⟨0, 0, by omega, rfl, rfl⟩
              case round =>
                obtain ⟨k, q, hk, rfl, rfl⟩ := hrel
                by_cases hlt : k < av.length
                · obtain ⟨x, hx⟩ : ∃ x, av[k]? = some x := ⟨av[k], List.getElem?_eq_getElem hlt⟩
                  obtain ⟨y, hy, hy1, hy2⟩ := hget.2 k x hx
                  obtain ⟨b1, off1, rfl, d1, d2, _⟩ := hW78 k x hx
                  obtain ⟨b2, off2, rfl, f1, f2, _⟩ := hW8 k y hy
                  have hlt2 : (k : Int) < (av.length : Int) := by omega
                  have hlt3 : (k : Int) < (us.length : Int) := by omega
                  rw [hy1] at f1
                  rw [hy2] at f2
                  have d1' : w8.cell? ⟨b1, off1 + k * 3, none⟩ = some (.string ⟨x.text.toArray⟩) := d1
                  have d2' : w8.cell? ⟨b1, off1 + k * 3 + 1, none⟩ = some (.bool x.quoted) := d2
                  have f1' : w8.cell? ⟨b2, off2 + k * 3, none⟩ = some (.string ⟨x.text.toArray⟩) := f1
                  have f2' : w8.cell? ⟨b2, off2 + k * 3 + 1, none⟩ = some (.bool x.quoted) := f2
                  generalize (⟨x.text.toArray⟩ : ByteArray) = X at *
                  generalize x.quoted = xq at *
                  clear d1 d2 f1 f2 hW78 hW8 hget hx hy hy1 hy2 HW hnil hlen hal3 hTs hA hus hR
                  go_wp2
                  go_quiet (fail)
                  go_wp2
                  go_roundw
                  case rel => exact ⟨k + 1, _, by omega, by go_num, rfl⟩
                  case measure => simp [intOf]; omega
                · have hW9 : WRow (w8.drewN q) a8 us := hW8
                  clear hget hW78 hTs hA hus hR hlen hal3
                  go_wp2_with fail
                  have hq9 := HW.out _ hW9
                  rw [hul] at hq9
                  refine hq9.mono ?_
                  rintro e w9 ⟨rfl, hb9⟩
                  clear hq9 HW hW9 hW8 hnil
                  go_wp2
                  go_ret
                  have hb9' : Below w8.heap.size w8 w9 := ⟨hb9.os, hb9.tape, hb9.output, hb9.size, hb9.block⟩
                  exact ⟨ret_bool (by simp), B8.trans (hb9'.mono B8.size)⟩
      · have hT2 : (T.size : Int) ≤ 1048576 := by omega
        clear hTs hA hw3
        go_wp2_with fail
        refine (hlw _ (by omega) hE3.syntax).mono ?_
        rintro e w4 ⟨⟨v, he, hown4⟩, hb4⟩
        subst he
        obtain ⟨a4, c4, hv4, hW4⟩ := own_shape hown4
        subst hv4
        have hW34 := hW3.below hb4 (Nat.le_refl _)
        have hE4 := hE3.below hb4 (Nat.le_refl _)
        have B4 := B3.trans (hb4.mono B3.size)
        have hul := hget.1
        have hlen : ((us.length : Int) != (ws.length : Int)) = false := by simp; omega
        clear hlw hll hup hus hown4 hW3 hW1 hI
        go_wp2
        go_loopw [12] (fun i wr => ∃ k q : Nat, k ≤ ws.length ∧ i = .int .i64 k ∧ wr = w4.drewN q) (fun i _ => ws.length - (intOf i).toNat)
        case atStart => exact ⟨0, 0, by omega, rfl, rfl⟩
        case round =>
          obtain ⟨k, q, hk, rfl, rfl⟩ := hrel
          by_cases hlt : k < ws.length
          · obtain ⟨x, hx⟩ : ∃ x, ws[k]? = some x := ⟨ws[k], List.getElem?_eq_getElem hlt⟩
            have hxt := hwt x (List.mem_of_getElem? hx)
            obtain ⟨y, hy, hy1, hy2⟩ := hget.2 k x hx
            obtain ⟨b1, off1, rfl, d1, d2, _⟩ := hW34 k x hx
            obtain ⟨b2, off2, rfl, f1, f2, _⟩ := hW4 k y hy
            have hlt2 : (k : Int) < (ws.length : Int) := by omega
            have hlt3 : (k : Int) < (us.length : Int) := by omega
            rw [hy1] at f1
            rw [hy2] at f2
            have d1' : w4.cell? ⟨b1, off1 + k * 3, none⟩ = some (.string ⟨x.text.toArray⟩) := d1
            have d2' : w4.cell? ⟨b1, off1 + k * 3 + 1, none⟩ = some (.bool x.quoted) := d2
            have f1' : w4.cell? ⟨b2, off2 + k * 3, none⟩ = some (.string ⟨x.text.toArray⟩) := f1
            have f2' : w4.cell? ⟨b2, off2 + k * 3 + 1, none⟩ = some (.bool (x.quoted || !plainW (⟨x.text.toArray⟩ : ByteArray).data.toList)) := f2
            have hXs : (⟨x.text.toArray⟩ : ByteArray).size ≤ 4611686018427387904 := by rw [size_list]; omega
            generalize (⟨x.text.toArray⟩ : ByteArray) = X at *
            generalize x.quoted = xq at *
            clear d1 d2 f1 f2 hW34 hW4 hget hx hy hy1 hy2 hwt hxt
            cases xq with
            | true =>
              go_wp2
              go_quiet (fail)
              go_wp2
              go_roundw
              case rel => exact ⟨k + 1, _, by omega, by go_num, rfl⟩
              case measure => simp [intOf]; omega
            | false =>
              go_wp2
              go_quiet ((go_at_call 14; refine (wplain_any X _ hXs).mono (fun _ _ h => ⟨h.1, _, h.2⟩)))
              go_wp2
              go_roundw
              case rel => exact ⟨k + 1, _, by omega, by go_num, rfl⟩
              case measure => simp [intOf]; omega
          · have hE5 : Errs (w4.drewN q) p := hE4
            have B5 : Below w0.heap.size w0 (w4.drewN q) := ⟨B4.os, B4.tape, B4.output, B4.size, B4.block⟩
            clear hget hW34 hW4 hwt hul
            by_cases hsl : 1048576 < s.size
            · go_wp2_with fail
              refine (line_long s (p 11) _ hsl hE5.long).mono ?_
              rintro e w6 ⟨rfl, q6, hw6⟩
              obtain rfl := hw6.symm
              go_wp2
              go_ret
              exact ⟨rfl, B5.os, B5.tape, B5.output, B5.size, B5.block⟩
            · cases hR : lineL s.data.toList 0 [] with
              | error n =>
                go_wp2_with fail
                refine (line_any s _ (p 1) _ (by omega) hE5.syntax hR).mono ?_
                rintro e w6 ⟨⟨v, he, hv⟩, hb6⟩
                subst he
                obtain ⟨t, u, hvt⟩ : ∃ t u, v = .iface t u := by obtain ⟨b', _, rfl, _⟩ := hv; exact ⟨_, _, rfl⟩
                subst hvt
                go_wp2
                go_ret
                exact ⟨rfl, B5.trans (hb6.mono B5.size)⟩
              | ok av =>
                have hgood := lineL_good 1048576 s.data.toList.length _ _ _ _ (Nat.le_refl _) (by rw [list_size]; omega) (fun x hx => by cases hx) hR
                have hasl : av.length ≤ 1048576 := by
                  obtain ⟨mo, h10, h11, h12⟩ := lineL_ok _ _ _ _ _ (Nat.le_refl _) hR
                  rw [List.nil_append] at h10
                  subst h10
                  have := rise_len av 0 _ h11 h12
                  rw [list_size] at this
                  omega
                have hal := allW_len 1048576 av (fun x hx => (hgood x hx).2)
                have hal2 : av.length * (4 * 1048576 + 3) ≤ 1048576 * 4194307 := Nat.mul_le_mul_right _ hasl
                have hal3 : (allW av).length ≤ 140737488355328 := by omega
                clear hal hal2
                go_wp2_with fail
                refine (line_any s _ (p 1) _ (by omega) hE5.syntax hR).mono ?_
                rintro e w6 ⟨⟨v, he, hown6⟩, hb6⟩
                subst he
                obtain ⟨a6, c6, hv6, hW6⟩ := own_shape hown6
                subst hv6
                have hE6 := hE5.below hb6 (Nat.le_refl _)
                go_wp2_with fail
                refine (write_any a6 c6 av w6 hW6 (by omega) (fun x hx => by have := (hgood x hx).2; omega) (by omega)).mono ?_
                rintro e w7 ⟨rfl, hb7⟩
                have hW7 := hW6.below hb7 (Nat.le_refl _)
                have hE7 := hE6.below hb7 (Nat.le_refl _)
                have B7 := B5.trans ((hb6.trans (hb7.mono hb6.size)).mono B5.size)
                have hTs : (⟨(allW av).toArray⟩ : ByteArray).size = (allW av).length := size_list _
                obtain ⟨us, hus, hup⟩ := lineL_back av
                rw [map_nq av (fun x hx => (hgood x hx).1)] at hup
                have hlw := fun W h1 h2 => line_any ⟨(allW av).toArray⟩ (.ok us) (p 1) W h1 h2 (show Hid _ from (by show lineL (⟨(allW av).toArray⟩ : ByteArray).data.toList 0 [] = _; exact hus))
                have hll := fun W h1 h2 => line_long ⟨(allW av).toArray⟩ (p 11) W h1 h2
                have hre := back_again us av hup
                have hget := pr_get hup
                by_cases hT : 1048576 < (allW av).length
                · have hT2 : (1048576 : Int) < ((allW av).length : Int) := by omega
                  clear hlw
                  generalize hA : (⟨(allW av).toArray⟩ : ByteArray) = T at *
                  go_wp2_with fail
                  refine (hll _ (by omega) hE7.long).mono ?_
                  rintro e w8 ⟨rfl, q8, hw8⟩
                  obtain rfl := hw8.symm
                  have hT3 : (1048576 : Int) < (T.size : Int) := by omega
                  go_wp2
                  go_ret
                  exact ⟨rfl, B7.os, B7.tape, B7.output, B7.size, B7.block⟩
                · clear hll
                  generalize hA : (⟨(allW av).toArray⟩ : ByteArray) = T at *
                  go_wp2_with fail
                  refine (hlw _ (by omega) hE7.syntax).mono ?_
                  rintro e w8 ⟨⟨v, he, hown8⟩, hb8⟩
                  subst he
                  obtain ⟨a8, c8, hv8, hW8⟩ := own_shape hown8
                  subst hv8
                  have hW78 := hW7.below hb8 (Nat.le_refl _)
                  have hT3 : ¬ (1048576 : Int) < (T.size : Int) := by omega
                  have hul := hget.1
                  have hu2 : us.length ≤ 1048576 := by omega
                  have B8 := B7.trans (hb8.mono B7.size)
                  have hwr := fun W h1 => write_any a8 c8 us W h1 (by omega) (fun x hx => by
                    obtain ⟨k, hk, hx2⟩ := List.getElem_of_mem hx
                    have hxk : us[k]? = some x := by rw [← hx2]; exact List.getElem?_eq_getElem hk
                    obtain ⟨y, hy, h1, _⟩ := hget.2 k av[k] (List.getElem?_eq_getElem (by omega))
                    rw [hxk] at hy
                    cases hy
                    have := (hgood av[k] (List.getElem_mem _)).2
                    rw [h1]
                    show 4 * av[k].text.length + 2 ≤ _
                    omega) (by rw [hre]; omega)
                  rw [hre, hA] at hwr
                  have HW : Hid (_) := hwr
                  clear hwr
                  have hlen : ((av.length : Int) != (us.length : Int)) = false := by simp; omega
                  clear hown6 hown8 hlw hre hup hgood
                  go_wp2
                  go_loopw [18] (fun i wr => ∃ k q : Nat, k ≤ av.length ∧ i = .int .i64 k ∧ wr = w8.drewN q) (fun i _ => av.length - (intOf i).toNat)
                  case atStart => exact ⟨0, 0, by omega, rfl, rfl⟩
                  case round =>
                    obtain ⟨k, q, hk, rfl, rfl⟩ := hrel
                    by_cases hlt : k < av.length
                    · obtain ⟨x, hx⟩ : ∃ x, av[k]? = some x := ⟨av[k], List.getElem?_eq_getElem hlt⟩
                      obtain ⟨y, hy, hy1, hy2⟩ := hget.2 k x hx
                      obtain ⟨b1, off1, rfl, d1, d2, _⟩ := hW78 k x hx
                      obtain ⟨b2, off2, rfl, f1, f2, _⟩ := hW8 k y hy
                      have hlt2 : (k : Int) < (av.length : Int) := by omega
                      have hlt3 : (k : Int) < (us.length : Int) := by omega
                      rw [hy1] at f1
                      rw [hy2] at f2
                      have d1' : w8.cell? ⟨b1, off1 + k * 3, none⟩ = some (.string ⟨x.text.toArray⟩) := d1
                      have d2' : w8.cell? ⟨b1, off1 + k * 3 + 1, none⟩ = some (.bool x.quoted) := d2
                      have f1' : w8.cell? ⟨b2, off2 + k * 3, none⟩ = some (.string ⟨x.text.toArray⟩) := f1
                      have f2' : w8.cell? ⟨b2, off2 + k * 3 + 1, none⟩ = some (.bool x.quoted) := f2
                      generalize (⟨x.text.toArray⟩ : ByteArray) = X at *
                      generalize x.quoted = xq at *
                      clear d1 d2 f1 f2 hW78 hW8 hget hx hy hy1 hy2 HW hnil hlen hal3 hTs hA hus hR
                      go_wp2
                      go_quiet (fail)
                      go_wp2
                      go_roundw
                      case rel => exact ⟨k + 1, _, by omega, by go_num, rfl⟩
                      case measure => simp [intOf]; omega
                    · have hW9 : WRow (w8.drewN q) a8 us := hW8
                      clear hget hW78 hTs hA hus hR hlen hal3
                      go_wp2_with fail
                      have hq9 := HW.out _ hW9
                      rw [hul] at hq9
                      refine hq9.mono ?_
                      rintro e w9 ⟨rfl, hb9⟩
                      clear hq9 HW hW9 hW8 hnil
                      go_wp2
                      go_ret
                      have hb9' : Below w8.heap.size w8 w9 := ⟨hb9.os, hb9.tape, hb9.output, hb9.size, hb9.block⟩
                      exact ⟨ret_bool (by simp), B8.trans (hb9'.mono B8.size)⟩

end Go.Proofs.YtbhgbfkepagnbaaDoor.WordsBackW
