/-
  Texts that stand together: LineRWrite, OpLent.
-/
import Derived.Test.YtbnajikkogdelaaDoorELineMath
import Derived.Test.YtbnajikkogdelaaDoorEWordsRWrite
import Derived.BigQuiet
import Derived.Deep.RegionHeld3
import Derived.Test.YtbnajikkogdelaaDoorEagGramLent
import Derived.Test.YtbnajikkogdelaaDoorEGramApart0
namespace Go.Proofs.YtbnajikkogdelaaDoor.LineMath
open Go.RowKit Go.Proofs.YtbnajikkogdelaaDoor.GramMath Go.Proofs.YtbnajikkogdelaaDoor.GramRow Go.Proofs.YtbnajikkogdelaaDoor.GramOne Go.Proofs.YtbnajikkogdelaaDoor.GramCheck Go.Proofs.YtbnajikkogdelaaDoor.GramRef
set_option linter.unusedVariables false
set_option linter.unusedSimpArgs false

theorem ret_sn {s s' : ByteArray} {a b : Int} (h : s = s') (h2 : a = b) : Ending.returned (.tuple #[.string s, .int .i64 a]) = .returned (.tuple #[.string s', .int .i64 b]) := by rw [h, h2]

set_option maxRecDepth 100000 in
set_option maxHeartbeats 8000000 in
theorem rwrite_any (ta na ra xa : Option Addr) (tc nc rc xc : Nat) (g : G) (zs : List Int) (w : World) (hG : GRow w ta na ra g) (hg : okG g) (hI : IRow w xa zs) (hm : zs.length ≤ 1125899906842624) (hi64 : ∀ z ∈ zs, I64 z) :
    Calls Tryd.prog 18 #[.agg #[.slice ta g.ts.length tc, .slice na g.ns.length nc, .int .i64 g.ax, .slice ra g.rs.length rc], .slice xa zs.length xc] w fun e w' => e = .returned (.tuple #[.string (wrT g zs), .int .i64 ((wrZ g zs).1 : Int)]) ∧ Below w.heap.size w w' := by
  obtain ⟨i0, hi, hz0, hzz, hzs⟩ := info_parts WordsBytes.infoR
  obtain ⟨W1, hW1⟩ : ∃ W1, W1 = w.alloc (.cells #[.slice ta g.ts.length tc, .slice na g.ns.length nc, .int .i64 g.ax, .slice ra g.rs.length rc] 25) := ⟨_, rfl⟩
  have hB1 : Below w.heap.size w W1 := by rw [hW1]; exact (Below.refl _ _).alloc (Nat.le_refl _) _
  have hz1 : W1.heap.size = w.heap.size + 1 := by rw [hW1]; simp
  have g0 : W1.cell? ⟨w.heap.size, 0, none⟩ = some (.slice ta g.ts.length tc) := by rw [hW1]; simp [go_sem]
  have hck := rcheck_any ta na ra tc nc rc g W1 (hG.below hB1 (Nat.le_refl _)) hg
  rw [hW1] at hck
  go_enter Tryd.func18, Tryd.ntmps18
  go_wp2_with fail
  refine hck.mono ?_
  rw [← hW1]
  clear hck
  rintro e w2 ⟨rfl, hb2⟩
  have HB2 : Below w.heap.size w w2 := hB1.trans (hb2.mono (by omega))
  have h0 := (hb2.cell (p := ⟨w.heap.size, 0, none⟩) (show w.heap.size < W1.heap.size by omega)).trans g0
  have hs2 : w.heap.size < w2.heap.size := by have := hb2.size; omega
  have hI2 := hI.below HB2 (Nat.le_refl _)
  have hT2 := hG.1.below HB2 (Nat.le_refl _)
  clear hW1 g0 hB1 hG hI hb2
  by_cases hc : (checkG g).1 = 0
  · have hgood := good_of hc
    have Hc : Hid ((checkG g).1 = 0) := hc
    rw [hc]
    clear hc
    by_cases hl : zs.length ≤ 65536
    · have hl2 : ¬ (65536 : Int) < (zs.length : Int) := by omega
      go_wp2
      go_loopw [8, 9] (fun v i wr => ∃ k : Nat, k ≤ zs.length ∧ i = .int .i64 k ∧ Hid (∀ j z, j < k → zs[j]? = some z → tokB g z = true) ∧ wr.ownsRow w2.heap.size 66 3 v k (WordsBytes.cellsW ((zs.take k).map (wOf g))) ∧ Below w2.heap.size w2 wr) (fun _ i _ => zs.length - (intOf i).toNat)
      case atStart => exact ⟨0, by omega, rfl, (fun j z hj => by omega), World.ownsRow_nil _ _ _ _, Below.refl _ _⟩
      case round =>
        obtain ⟨k, hk, rfl, hA, hM, hB⟩ := hrel
        have hsB := hB.size
        have c0 := (hB.cell (p := ⟨w.heap.size, 0, none⟩) hs2).trans h0
        by_cases hlt : k < zs.length
        · obtain ⟨z, hz⟩ : ∃ z, zs[k]? = some z := ⟨zs[k], List.getElem?_eq_getElem hlt⟩
          have hzI := hi64 z (List.mem_of_getElem? hz)
          have hlt2 : (k : Int) < (zs.length : Int) := by omega
          obtain ⟨b, off, rfl, hcz0⟩ := hI2 k z hz
          have hcz := (hB.cell (cell_lt hcz0)).trans hcz0
          by_cases hn : z < 0
          · obtain ⟨e1, e2⟩ := wr_arg Hc.out hl hz (by unfold tokB; simp; omega)
            have E1 : Hid (_) := e1
            have E2 : Hid (_) := e2
            have hd : decide (z < 0) = true := by simpa using hn
            clear e1 e2 hA hM
            go_wp2
            go_quiet (fail)
            go_wp2
            go_ret2
            exact ⟨ret_sn E2.out.symm (by rw [E1.out]; rfl), bdrew (HB2.trans (hB.mono (by omega))) _⟩
          · have hd : decide (z < 0) = false := by simpa using hn
            by_cases ht : (g.ts.length : Int) ≤ z
            · obtain ⟨e1, e2⟩ := wr_arg Hc.out hl hz (by unfold tokB; simp; omega)
              have E1 : Hid (_) := e1
              have E2 : Hid (_) := e2
              have hd2 : decide ((g.ts.length : Int) ≤ z) = true := by simpa using ht
              clear e1 e2 hA hM
              go_wp2
              go_quiet (fail)
              go_wp2
              go_ret2
              exact ⟨ret_sn E2.out.symm (by rw [E1.out]; rfl), bdrew (HB2.trans (hB.mono (by omega))) _⟩
            · have hd2 : decide ((g.ts.length : Int) ≤ z) = false := by simpa using ht
              obtain ⟨n, rfl⟩ : ∃ n : Nat, z = (n : Int) := ⟨z.toNat, by omega⟩
              have htk : tokB g (n : Int) = true := by unfold tokB; simp; omega
              have hnl : n < g.ts.length := by omega
              obtain ⟨x, hx⟩ : ∃ x, g.ts[n]? = some x := ⟨g.ts[n], List.getElem?_eq_getElem hnl⟩
              obtain ⟨tb, to, rfl, hct0⟩ := hT2 n x hx
              have hct := (hB.cell (cell_lt hct0)).trans hct0
              have hxn : nameOf g (n : Int) = x := by
                obtain ⟨y, h1, h2⟩ := name_get htk
                rw [Int.toNat_natCast, hx] at h1
                cases h1
                exact h2
              have hA2 : Hid (∀ j z, j < k + 1 → zs[j]? = some z → tokB g z = true) := fun j z hj hjz => by
                rcases Nat.lt_or_ge j k with h1 | h1
                · exact hA.out j z h1 hjz
                · obtain rfl : j = k := by omega
                  rw [hz] at hjz
                  cases hjz
                  exact htk
              have hwl : Hid ((zs.take (k + 1)).map (wOf g) = (zs.take k).map (wOf g) ++ [wOf g (n : Int)]) := by
                show _ = _
                obtain ⟨hk', e⟩ := List.getElem?_eq_some_iff.1 hz
                rw [List.take_succ_eq_append_getElem hk', e]
                simp
              have E : Hid ([Value.string x, .bool false, .int .i64 0] = WordsBytes.wv (wOf g (n : Int))) := by
                show _ = _
                unfold WordsBytes.wv wOf
                rw [hxn]
                simp
              have hs2' := hs2
              have HZ : Hid (_) := hz
              have HX : Hid (_) := hx
              have hMd : ∀ q, (wr.drewN q).ownsRow w2.heap.size 66 3 u8 k (WordsBytes.cellsW ((zs.take k).map (wOf g))) := fun q => WordsBytes.own_below hM (drew_below wr q)
              have HS : Hid (∀ W, Below w2.heap.size w2 W → (W.cell? ⟨w.heap.size, 0, none⟩ = some (.slice (some ⟨tb, to, none⟩) g.ts.length tc) ∧ W.cell? ⟨b, off + k, none⟩ = some (.int .i64 (n : Int)) ∧ W.cell? ⟨tb, to + n, none⟩ = some (.string x))) := fun W h => ⟨(h.cell (p := ⟨w.heap.size, 0, none⟩) hs2).trans h0, (h.cell (cell_lt hcz0)).trans hcz0, (h.cell (cell_lt hct0)).trans hct0⟩
              clear hA hxn htk hx hz hT2 hI2 hi64
              go_wp2
              go_quiet (fail)
              go_wp2
              refine wp_region_noPanic ?_
              refine wp_region_held_drew (S := (fun w' => w'.cell? ⟨w.heap.size, 0, none⟩ = some (.slice (some ⟨tb, to, none⟩) g.ts.length tc) ∧ w'.cell? ⟨b, off + k, none⟩ = some (.int .i64 (n : Int)) ∧ w'.cell? ⟨tb, to + n, none⟩ = some (.string x))) (by kernel_rfl) ⟨c0, hcz, hct⟩ (fun hHeld => ?_)
              refine wpAnyH_take (i := 0) (v := u8) rfl (by kernel_rfl) (by kernel_rfl) (by kernel_rfl) (fun _ _ _ h => h) (Or.inl ⟨by rfl, fun w9 hSw => ?_⟩) hHeld ?_
              · obtain ⟨s0, s1, s2⟩ := hSw
                go_simp
              simp only [List.getElem_toArray, List.getElem_cons_zero, List.getElem_cons_succ, Act.put, List.setIfInBounds_toArray, List.set_cons_zero, List.set_cons_succ]
              refine wpAnyH_take (i := 1) (v := .pointer (some ⟨w.heap.size, 0, none⟩)) rfl (by kernel_rfl) (by kernel_rfl) (by kernel_rfl) (fun _ _ _ h => h) (Or.inl ⟨by rfl, fun w9 hSw => ?_⟩) hHeld ?_
              · obtain ⟨s0, s1, s2⟩ := hSw
                go_simp
              simp only [List.getElem_toArray, List.getElem_cons_zero, List.getElem_cons_succ, Act.put, List.setIfInBounds_toArray, List.set_cons_zero, List.set_cons_succ]
              refine wpAnyH_take (i := 2) (v := .slice (some ⟨tb, to, none⟩) g.ts.length tc) rfl (by kernel_rfl) (by kernel_rfl) (by kernel_rfl) (fun _ _ _ h => h) (Or.inl ⟨by rfl, fun w9 hSw => ?_⟩) hHeld ?_
              · obtain ⟨s0, s1, s2⟩ := hSw
                go_simp
              simp only [List.getElem_toArray, List.getElem_cons_zero, List.getElem_cons_succ, Act.put, List.setIfInBounds_toArray, List.set_cons_zero, List.set_cons_succ]
              refine wpAnyH_take (i := 3) (v := .slice (some ⟨b, off, none⟩) zs.length xc) rfl (by kernel_rfl) (by kernel_rfl) (by kernel_rfl) (fun _ _ _ h => h) (Or.inl ⟨by rfl, fun w9 hSw => ?_⟩) hHeld ?_
              · obtain ⟨s0, s1, s2⟩ := hSw
                go_simp
              simp only [List.getElem_toArray, List.getElem_cons_zero, List.getElem_cons_succ, Act.put, List.setIfInBounds_toArray, List.set_cons_zero, List.set_cons_succ]
              refine wpAnyH_take (i := 4) (v := .int .i64 (k : Int)) rfl (by kernel_rfl) (by kernel_rfl) (by kernel_rfl) (fun _ _ _ h => h) (Or.inl ⟨by rfl, fun w9 hSw => ?_⟩) hHeld ?_
              · obtain ⟨s0, s1, s2⟩ := hSw
                go_simp
              simp only [List.getElem_toArray, List.getElem_cons_zero, List.getElem_cons_succ, Act.put, List.setIfInBounds_toArray, List.set_cons_zero, List.set_cons_succ]
              refine wpAnyH_take (i := 5) (v := .pointer (some ⟨b, off + k, none⟩)) rfl (by kernel_rfl) (by kernel_rfl) (by kernel_rfl) (fun _ _ _ h => h) (Or.inl ⟨by rfl, fun w9 hSw => ?_⟩) hHeld ?_
              · obtain ⟨s0, s1, s2⟩ := hSw
                go_simp
                all_goals (first | rfl | omega | (rw [IntKind.wrap_i64]; omega) | (simp; done) | (simp; omega))
              simp only [List.getElem_toArray, List.getElem_cons_zero, List.getElem_cons_succ, Act.put, List.setIfInBounds_toArray, List.set_cons_zero, List.set_cons_succ]
              refine wpAnyH_take (i := 6) (v := .int .i64 (n : Int)) rfl (by kernel_rfl) (by kernel_rfl) (by kernel_rfl) (fun _ _ _ h => h) (Or.inl ⟨by rfl, fun w9 hSw => ?_⟩) hHeld ?_
              · obtain ⟨s0, s1, s2⟩ := hSw
                go_simp
              simp only [List.getElem_toArray, List.getElem_cons_zero, List.getElem_cons_succ, Act.put, List.setIfInBounds_toArray, List.set_cons_zero, List.set_cons_succ]
              refine wpAnyH_take (i := 7) (v := .pointer (some ⟨tb, to + n, none⟩)) rfl (by kernel_rfl) (by kernel_rfl) (by kernel_rfl) (fun _ _ _ h => h) (Or.inl ⟨by rfl, fun w9 hSw => ?_⟩) hHeld ?_
              · obtain ⟨s0, s1, s2⟩ := hSw
                go_simp
                all_goals (first | rfl | omega | (rw [IntKind.wrap_i64]; omega) | (simp; done) | (simp; omega))
              simp only [List.getElem_toArray, List.getElem_cons_zero, List.getElem_cons_succ, Act.put, List.setIfInBounds_toArray, List.set_cons_zero, List.set_cons_succ]
              refine wpAnyH_take (i := 8) (v := .string x) rfl (by kernel_rfl) (by kernel_rfl) (by kernel_rfl) (fun _ _ _ h => h) (Or.inl ⟨by rfl, fun w9 hSw => ?_⟩) hHeld ?_
              · obtain ⟨s0, s1, s2⟩ := hSw
                go_simp
              simp only [List.getElem_toArray, List.getElem_cons_zero, List.getElem_cons_succ, Act.put, List.setIfInBounds_toArray, List.set_cons_zero, List.set_cons_succ]
              refine wpAnyH_take (i := 9) (v := .agg #[.string x, .bool false, .int .i64 0]) rfl (by kernel_rfl) (by kernel_rfl) (by kernel_rfl) (fun _ _ _ h => h) (Or.inl ⟨by rfl, fun w9 hSw => ?_⟩) hHeld ?_
              · obtain ⟨s0, s1, s2⟩ := hSw
                go_simp
              simp only [List.getElem_toArray, List.getElem_cons_zero, List.getElem_cons_succ, Act.put, List.setIfInBounds_toArray, List.set_cons_zero, List.set_cons_succ]
              refine wpAnyH_ready (rs := [10]) (by kernel_rfl) (by simp) ?_
              refine AllReadyH.cons rfl (fun K hK => ?_) AllReadyH.nil
              go_simp
              refine hK.out _ _ ((HS.out _ ((bdrew hB _).alloc hsB _))) (fun hHeld => ?_)
              clear hK K
              refine wpAnyH_ready (rs := [11]) (by kernel_rfl) (by simp) ?_
              refine AllReadyH.cons rfl (fun K hK => ?_) AllReadyH.nil
              refine WordsBytes.step_append_own rfl (.tmp 43) (.tmp 53) 63 rfl w2.heap.size 66 i0 (.agg #[.string ⟨#[]⟩, .bool false, .int .i64 0]) 3 32 Tryd.underlying63 hi hz0 hzz hzs rfl (by decide) u8 k (WordsBytes.cellsW ((zs.take k).map (wOf g))) (by rfl) (World.ownsRow.alloc (hMd (nq + 1)) _) ⟨wr.heap.size, 0, none⟩ 1 1 [.string x, .bool false, .int .i64 0] (by rfl) rfl (WordsBytes.cells_new _ #[_, _, _] _) (by simp [Value.oneCell']) (by unfold maxLen; omega) (by omega) (by simp; omega) ?_
              intro u1 w3 hown3 hgrow3 _
              rw [E.out] at hown3
              obtain ⟨g1, e1, hu1, hI3⟩ := WordsBytes.row3 hown3
              rw [← hwl.out] at hI3
              have hB3 := WordsBytes.app3 (bdrew hB (nq + 1)) hsB (hMd (nq + 1)) hgrow3
              rw [hu1]
              refine hK.out _ _ ((HS.out _ hB3)) (fun hHeld => ?_)
              clear hK K
              refine wpAnyH_ready (rs := [12]) (by kernel_rfl) (by simp) ?_
              refine AllReadyH.cons rfl (fun K hK => ?_) AllReadyH.nil
              go_simp
              refine hK.out _ _ ((HS.out _ hB3)) (fun hHeld => ?_)
              clear hK K
              refine wpAnyH_done (by kernel_rfl) (NoPanic.normal ?_) _
              clear hMd HS hown3 hgrow3
              go_wp2
              go_roundw
              case rel => exact ⟨k + 1, by omega, by go_num, hA2, hI3, hB3⟩
              case measure => simp [intOf]; omega
        · obtain rfl : k = zs.length := by omega
          have hall : ∀ z ∈ zs, tokB g z = true := fun z hz => by
            obtain ⟨j, hj⟩ := List.mem_iff_getElem?.1 hz
            exact hA.out j z (List.getElem?_eq_some_iff.1 hj).1 hj
          rw [List.take_length] at hM
          have hts := text_small hgood zs
          have hwm : zs.length = (zs.map (wOf g)).length := (List.length_map _).symm
          have hM2 := hM
          rw [hwm] at hM2
          obtain ⟨a, c, hu, hW⟩ := WordsBytes.own_shape hM2
          rw [← hwm] at hu
          have hwr := WordsBytes.rwrite_any a c (zs.map (wOf g)) wr hW (by omega) (fun x hx => by have := word_small hgood zs x hx; omega) (by show (textL g zs).length ≤ _; omega)
          rw [← hwm, ← hu] at hwr
          change Calls _ _ _ _ (fun e w' => e = .returned (.string ⟨(textL g zs).toArray⟩) ∧ Below wr.heap.size wr w') at hwr
          have hwS : (⟨(textL g zs).toArray⟩ : ByteArray).size = (textL g zs).length := WordsBytes.size_list _
          by_cases hbig : 1048576 < (textL g zs).length
          · obtain ⟨e1, e2⟩ := wr_text Hc.out hl hall hbig
            have E1 : Hid (_) := e1
            have E2 : Hid (_) := e2
            generalize textL g zs = T at *
            have hb : (1048576 : Int) < ((⟨T.toArray⟩ : ByteArray).size : Int) := by omega
            clear e1 e2 hA hM hall hwm hM2 hW hu
            go_wp2_with fail
            refine hwr.mono ?_
            rintro e w4 ⟨rfl, hb4⟩
            clear hwr
            go_wp2
            go_ret2
            exact ⟨ret_sn E2.out.symm (by rw [E1.out]; rfl), HB2.trans ((hB.trans (hb4.mono hsB)).mono (by omega))⟩
          · obtain ⟨e1, e2⟩ := wr_ok Hc.out hl hall (by omega)
            have E1 : Hid (_) := e1
            have E2 : Hid (_) := e2
            generalize textL g zs = T at *
            have hb : ¬ (1048576 : Int) < ((⟨T.toArray⟩ : ByteArray).size : Int) := by omega
            clear e1 e2 hA hM hall hwm hM2 hW hu
            go_wp2_with fail
            refine hwr.mono ?_
            rintro e w4 ⟨rfl, hb4⟩
            clear hwr
            go_wp2
            go_ret2
            exact ⟨ret_sn E2.out.symm (by rw [E1.out]; rfl), HB2.trans ((hB.trans (hb4.mono hsB)).mono (by omega))⟩
    · obtain ⟨e1, e2⟩ := wr_long (zs := zs) Hc.out (by omega)
      have E1 : Hid (_) := e1
      have E2 : Hid (_) := e2
      have hl2 : (65536 : Int) < (zs.length : Int) := by omega
      clear e1 e2
      go_wp2
      go_ret2
      exact ⟨ret_sn E2.out.symm (by rw [E1.out]; rfl), HB2⟩
  · obtain ⟨e1, e2⟩ := wr_bad (zs := zs) hc
    have E1 : Hid (_) := e1
    have E2 : Hid (_) := e2
    obtain ⟨K, hK⟩ : ∃ K, (checkG g).1 = K := ⟨_, rfl⟩
    have HK : Hid (_) := hK
    rw [hK] at hc ⊢
    have hd : ((K : Int) != 0) = true := by simp; omega
    clear hK e1 e2 hc
    go_wp2
    go_ret2
    exact ⟨ret_sn E2.out.symm (by rw [E1.out, HK.out]), HB2⟩

end Go.Proofs.YtbnajikkogdelaaDoor.LineMath

namespace Go.Proofs.YtbnajikkogdelaaDoor.GramLent
open Go.RowKit Go.Proofs.YtbnajikkogdelaaDoor.GramMath Go.Proofs.YtbnajikkogdelaaDoor.GramRow Go.Proofs.YtbnajikkogdelaaDoor.GramSame Go.Proofs.YtbnajikkogdelaaDoor.GramApart
set_option linter.unusedVariables false

theorem own_cells {w : World} {base : Nat} {e : TypeId} {g n c : Nat} {xs : List Value} (h : w.ownsRow base e 1 (.slice (some ⟨g, 0, none⟩) n c) n xs) : ∃ cur, RowAt w g e cur ∧ n ≤ cur.size := by
  obtain ⟨_, ⟨h, _⟩ | ⟨g', cap, cur, hv, _, hc, hn, _, hs, _⟩⟩ := h
  · cases h
  · cases hv
    exact ⟨cur, hc, by omega⟩

set_option maxRecDepth 100000 in
set_option maxHeartbeats 1600000 in
theorem lentI2 (a : Option Addr) (ca : Nat) (zs : List Int) (w : World) (ha : IRow w a zs) (hm : zs.length * 8 ≤ 140737488351232) (hnil : a = none → zs.length = 0 ∧ ca = 0) :
    Calls Tryd.prog 16 #[.slice a zs.length ca] w fun e w' => (∃ g c, e = .returned (.slice (some ⟨g, 0, none⟩) zs.length c) ∧ zs.length < c ∧ c ≤ maxLen ∧ w.heap.size ≤ g ∧ IRow w' (some ⟨g, 0, none⟩) (zs ++ [-7171]) ∧ (∃ cur, RowAt w' g 3 cur ∧ zs.length ≤ cur.size)) ∧ Below w.heap.size w w' := by
  obtain ⟨i0, hi, hz0, hz1, hz2⟩ := info_parts infoI
  cases a with
  | none =>
    obtain ⟨hz, rfl⟩ := hnil rfl
    obtain rfl : zs = [] := List.length_eq_zero_iff.1 hz
    go_enter Tryd.func16, Tryd.ntmps16
    go_wp2_with (first
      | (at_builtin; refine wpList_append_own_none rfl (.tmp 4) (.tmp 5) 27 rfl w.heap.size 3 i0 1 Tryd.underlying27 hi _ _ _ rfl (World.ownsRow_nil _ _ _ _) rfl ?_)
      | (at_builtin; refine wpList_append_own _ rfl (.tmp 7) (.tmp 8) 27 rfl w.heap.size 3 i0 (.int .i64 0) 1 8 Tryd.underlying27 hi hz0 hz1 hz2 rfl (by decide) _ _ _ rfl ((World.ownsRow_nil w w.heap.size 3 1).alloc _) ⟨w.heap.size, 0, none⟩ 1 1 [.int .i64 (-7171)] rfl rfl (cell_one_new _ _ _) (by simp [Value.oneCell']) (by unfold maxLen; omega) (by omega) (by simp) ?_; intro v2 w2 hown2 hgrow2 _; obtain ⟨g, c, rfl⟩ := ownsRow_succ hown2; have hcap := own_cap hown2))
    have hr := lent_rowI (zs := [-7171]) hown2 rfl
    have hrw := own_cells hown2
    go_ret
    exact ⟨⟨g, c, rfl, by omega, hcap.2.1, hcap.2.2, hr, by obtain ⟨cur, h1, h2⟩ := hrw; exact ⟨cur, h1⟩⟩, ((Below.refl _ _).alloc (Nat.le_refl _) _).grown hgrow2 (by simp) (by intro k hk; cases hk)⟩
  | some x =>
    have hnews : ∀ j u, (zs.map (Value.int .i64))[j]? = some u → w.cell? (x.add j) = some u := by
      intro j u hj
      rw [List.getElem?_map, Option.map_eq_some_iff] at hj
      obtain ⟨y, hy, rfl⟩ := hj
      obtain ⟨b, off, hx, hc⟩ := ha j y hy
      obtain rfl : x = ⟨b, off, none⟩ := by simpa using hx
      rw [Addr.add_lit]; exact hc
    have hone : ∀ u ∈ zs.map (Value.int .i64), u.oneCell' = true := by
      intro u hu
      obtain ⟨y, _, rfl⟩ := List.mem_map.1 hu
      rfl
    have hlen : (zs.map (Value.int .i64)).length = zs.length * 1 := by simp
    go_enter Tryd.func16, Tryd.ntmps16
    go_wp2_with (first
      | (at_builtin; refine wpList_append_own _ rfl (.tmp 4) (.tmp 5) 27 rfl w.heap.size 3 i0 (.int .i64 0) 1 8 Tryd.underlying27 hi hz0 hz1 hz2 rfl (by decide) _ _ _ rfl (World.ownsRow_nil w w.heap.size 3 1) x zs.length ca (zs.map (Value.int .i64)) rfl hlen hnews hone (by unfold maxLen; omega) (by omega) (Nat.le_refl _) ?_; intro v1 w1 hown1 hgrow1 _; simp only [Nat.zero_add, List.nil_append] at hown1)
      | (at_builtin; refine wpList_append_own _ rfl (.tmp 7) (.tmp 8) 27 rfl w.heap.size 3 i0 (.int .i64 0) 1 8 Tryd.underlying27 hi hz0 hz1 hz2 rfl (by decide) _ _ _ rfl (hown1.alloc _) ⟨w1.heap.size, 0, none⟩ 1 1 [.int .i64 (-7171)] rfl rfl (cell_one_new _ _ _) (by simp [Value.oneCell']) (by unfold maxLen; omega) (by omega) (by have := hgrow1.size; simp; omega) ?_; intro v2 w2 hown2 hgrow2 _; obtain ⟨g, c, rfl⟩ := ownsRow_succ hown2; have hcap := own_cap hown2))
    have hr := lent_rowI (zs := zs ++ [-7171]) (n := zs.length + 1) (by simpa using hown2) (by simp)
    have hs1 := hgrow1.size
    have hrw := own_cells hown2
    go_ret
    exact ⟨⟨g, c, rfl, by omega, hcap.2.1, hcap.2.2, hr, by obtain ⟨cur, h1, h2⟩ := hrw; exact ⟨cur, h1, by omega⟩⟩, ((((Below.refl _ _).grown hgrow1 (Nat.le_refl _) (by intro k hk; cases hk)).alloc hs1 _).grown hgrow2 (by simp; omega) (fun k hk => (hown1.lt k hk).1))⟩

end Go.Proofs.YtbnajikkogdelaaDoor.GramLent
