/-
  The walk of GraphMixed: it answers true for every graph, all turns and all nodes, and writes nothing that was there.
-/
import Derived.Test.YtgehiohieehgpaaDoorGraphMixSt
namespace Go.Proofs.YtgehiohieehgpaaDoor.GraphMixedW
open Go.RowKit Go.Proofs.YtgehiohieehgpaaDoor.GramMath Go.Proofs.YtgehiohieehgpaaDoor.GramRow Go.Proofs.YtgehiohieehgpaaDoor.GramApart Go.Proofs.YtgehiohieehgpaaDoor.GramLent Go.Proofs.YtgehiohieehgpaaDoor.OpRow Go.Proofs.YtgehiohieehgpaaDoor.GraphNet Go.Proofs.YtgehiohieehgpaaDoor.GraphMath Go.Proofs.YtgehiohieehgpaaDoor.GraphFn Go.Proofs.YtgehiohieehgpaaDoor.GraphSort Go.Proofs.YtgehiohieehgpaaDoor.GraphRef Go.Proofs.YtgehiohieehgpaaDoor.GraphLent Go.Proofs.YtgehiohieehgpaaDoor.GramErrs Go.Proofs.YtgehiohieehgpaaDoor.GramSame Go.Proofs.YtgehiohieehgpaaDoor.GraphReachW
set_option linter.unusedVariables false
set_option linter.unusedSimpArgs false

set_option maxRecDepth 100000 in
set_option maxHeartbeats 8000000 in
theorem walk (n : Int) (ea : Option Addr) (ec : Nat) (es : List (Int × Int)) (ta : Option Addr) (tc : Nat) (ts : List Int) (fa : Option Addr) (fc : Nat) (fr : List Int) (p : Nat → Addr) (W : World) (hn : I64 n) (hE : ERow W ea es) (hec : es.length ≤ ec) (hl : es.length ≤ 1048576) (hx : ∀ e ∈ es, I64 e.1 ∧ I64 e.2) (hEn : ea = none → es.length = 0 ∧ ec = 0) (hT : IRow W ta ts) (htl : ts.length ≤ 1048576) (ht64 : ∀ x ∈ ts, I64 x) (hF : IRow W fa fr) (hfl : fr.length ≤ 1048576) (hf64 : ∀ x ∈ fr, I64 x) (hErr : Errs W p) :
    Calls Tryd.prog 8 #[.int .i64 n, .slice ea es.length ec, .slice ta ts.length tc, .slice fa fr.length fc] W fun e w' => e = .returned (.bool true) ∧ Below W.heap.size W w' := by
  have h1 := known_any p W hErr.sentG
  go_enter Tryd.func8, Tryd.ntmps8
  go_wp2_with fail
  refine h1.mono ?_
  rintro e w1 ⟨rfl, hb1⟩
  have HE : Hid (ERow W ea es) := hE
  have HT : Hid (IRow W ta ts) := hT
  have HF : Hid (IRow W fa fr) := hF
  have HErr : Hid (Errs W p) := hErr
  have HX : Hid (∀ e ∈ es, I64 e.1 ∧ I64 e.2) := hx
  have HT64 : Hid (∀ x ∈ ts, I64 x) := ht64
  have HF64 : Hid (∀ x ∈ fr, I64 x) := hf64
  have HEn : Hid (ea = none → es.length = 0 ∧ ec = 0) := hEn
  obtain ⟨H, hH⟩ : ∃ H, H = es.length / 2 := ⟨_, rfl⟩
  have hHl : H ≤ es.length := by omega
  have hHt : Hid ((es.take H).length = H) := by show _ = _; simp; omega
  have hq2 : Int.tdiv (es.length : Int) 2 = (H : Int) := by rw [Int.tdiv_eq_ediv_of_nonneg (by omega)]; omega
  have hHE : ERow w1.drew ea es := hE.below (hb1.trans (drew_below w1 1)) (Nat.le_refl _)
  have hmade : (w1.drew.alloc (.cells #[] 51)).ownsRow w1.drew.heap.size 51 2 (.slice (some ⟨w1.drew.heap.size, 0, none⟩) 0 0) ([] : List (Int × Int)).length (flatE []) := World.ownsRow_made w1.drew #[] 0 (Nat.le_refl w1.drew.heap.size) (by unfold maxLen; omega) rfl
  have hBm : Below w1.drew.heap.size w1.drew (w1.drew.alloc (.cells #[] 51)) := (Below.refl _ _).alloc (Nat.le_refl _) _
  have hHec : (H : Int) ≤ (ec : Int) := by omega
  have HB1 : Hid (Below W.heap.size W w1.drew) := hb1.trans (drew_below w1 1)
  have HH : Hid (H = es.length / 2) := hH
  clear h1 hE hT hF hErr hx ht64 hf64 hEn hb1 hH
  go_wp2_with fail
  refine wp_region_noPanic ?_
  refine wp_region_held_drew (S := (fun _ => True)) (by kernel_rfl) trivial (fun hHeld => ?_)
  generalize w1.drew = V1 at *
  refine wpAnyH_take (i := 1) (v := .slice ea es.length ec) rfl (by kernel_rfl) (by kernel_rfl) (by kernel_rfl) (fun _ _ _ h => h) (Or.inl ⟨by rfl, fun w9 hSw => ?_⟩) hHeld ?_
  · obtain _ := hSw
    go_simp
  simp only [List.getElem_toArray, List.getElem_cons_zero, List.getElem_cons_succ, Act.put, List.setIfInBounds_toArray, List.set_cons_zero, List.set_cons_succ]
  refine wpAnyH_take (i := 3) (v := .slice ea es.length ec) rfl (by kernel_rfl) (by kernel_rfl) (by kernel_rfl) (fun _ _ _ h => h) (Or.inl ⟨by rfl, fun w9 hSw => ?_⟩) hHeld ?_
  · obtain _ := hSw
    go_simp
  simp only [List.getElem_toArray, List.getElem_cons_zero, List.getElem_cons_succ, Act.put, List.setIfInBounds_toArray, List.set_cons_zero, List.set_cons_succ]
  refine wpAnyH_take (i := 4) (v := .slice ea es.length ec) rfl (by kernel_rfl) (by kernel_rfl) (by kernel_rfl) (fun _ _ _ h => h) (Or.inl ⟨by rfl, fun w9 hSw => ?_⟩) hHeld ?_
  · obtain _ := hSw
    go_simp
  simp only [List.getElem_toArray, List.getElem_cons_zero, List.getElem_cons_succ, Act.put, List.setIfInBounds_toArray, List.set_cons_zero, List.set_cons_succ]
  refine wpAnyH_take (i := 5) (v := .int .i64 (es.length : Int)) rfl (by kernel_rfl) (by kernel_rfl) (by kernel_rfl) (fun _ _ _ h => h) (Or.inl ⟨by rfl, fun w9 hSw => ?_⟩) hHeld ?_
  · obtain _ := hSw
    go_simp
  simp only [List.getElem_toArray, List.getElem_cons_zero, List.getElem_cons_succ, Act.put, List.setIfInBounds_toArray, List.set_cons_zero, List.set_cons_succ]
  refine wpAnyH_take (i := 6) (v := .int .i64 (H : Int)) rfl (by kernel_rfl) (by kernel_rfl) (by kernel_rfl) (fun _ _ _ h => h) (Or.inl ⟨by rfl, fun w9 hSw => ?_⟩) hHeld ?_
  · obtain _ := hSw
    go_simp
    rw [IntKind.wrap_i64]; omega
  simp only [List.getElem_toArray, List.getElem_cons_zero, List.getElem_cons_succ, Act.put, List.setIfInBounds_toArray, List.set_cons_zero, List.set_cons_succ]
  refine wpAnyH_take (i := 7) (v := .slice ea H ec) rfl (by kernel_rfl) (by kernel_rfl) (by kernel_rfl) (fun _ _ _ h => h) (Or.inl ⟨by rfl, fun w9 hSw => ?_⟩) hHeld ?_
  · obtain _ := hSw
    cases ea with
    | none =>
      obtain ⟨z1, z2⟩ := HEn.out rfl
      obtain rfl : H = 0 := by omega
      subst z2
      clear hHE HE hHt hq2
      go_simp
    | some y =>
      clear hHE HE hHt hq2
      go_simp
      first | done | omega | exact ⟨by omega, by omega⟩
  simp only [List.getElem_toArray, List.getElem_cons_zero, List.getElem_cons_succ, Act.put, List.setIfInBounds_toArray, List.set_cons_zero, List.set_cons_succ]
  refine wpAnyH_ready (rs := [0]) (by kernel_rfl) (by simp) ?_
  refine AllReadyH.cons rfl (fun K hK => ?_) AllReadyH.nil
  go_simp
  refine hK.out _ _ trivial (fun hHeld => ?_)
  clear hK K
  refine wpAnyH_ready (rs := [2]) (by kernel_rfl) (by simp) ?_
  refine AllReadyH.cons rfl (fun K hK => ?_) AllReadyH.nil
  refine stepE rfl _ _ rfl V1.heap.size (.slice (some ⟨V1.heap.size, 0, none⟩) 0 0) [] es (by rfl) hmade ea ec (by rfl) (hHE.below hBm (Nat.le_refl _)) HEn.out (by simp; omega) (by simp) ?_
  intro v3 w3 hown3 hgrow3
  have hB3 : Below V1.heap.size V1 w3 := hBm.grown hgrow3 (by simp) (fun k hk => (hmade.lt k hk).1)
  refine hK.out _ _ trivial (fun hHeld => ?_)
  clear hK K hmade hgrow3 hBm
  simp only [List.getElem_toArray, List.getElem_cons_zero, List.getElem_cons_succ, Act.put, List.setIfInBounds_toArray, List.set_cons_zero, List.set_cons_succ]
  refine wpAnyH_ready (rs := [8]) (by kernel_rfl) (by simp) ?_
  refine AllReadyH.cons rfl (fun K hK => ?_) AllReadyH.nil
  refine stepE rfl _ _ rfl V1.heap.size v3 es (es.take H) (by rfl) hown3 ea ec (by rw [hHt.out]; rfl) ((ERow.take hHE H).below hB3 (Nat.le_refl _)) (fun h => by have := HEn.out h; rw [hHt.out]; omega) (by rw [hHt.out]; omega) hB3.size ?_
  intro v4 w4 hown4 hgrow4
  have hB4 : Below V1.heap.size V1 w4 := hB3.grown hgrow4 hB3.size (fun k hk => (hown3.lt k hk).1)
  refine hK.out _ _ trivial (fun hHeld => ?_)
  clear hK K hown3 hgrow4 hB3
  simp only [List.getElem_toArray, List.getElem_cons_zero, List.getElem_cons_succ, Act.put, List.setIfInBounds_toArray, List.set_cons_zero, List.set_cons_succ]
  obtain ⟨ms0, hms0⟩ : ∃ ms0, ms0 = es ++ es.take H := ⟨_, rfl⟩
  rw [← hms0] at hown4
  obtain ⟨ga, gc, rfl, hr4⟩ := own_eform hown4
  obtain ⟨M, hM⟩ : ∃ M, M = ms0.length := ⟨_, rfl⟩
  rw [← hM] at hown4 ⊢
  refine wpAnyH_take (i := 9) (v := .slice ga M gc) rfl (by kernel_rfl) (by kernel_rfl) (by kernel_rfl) (fun _ _ _ h => h) (Or.inl ⟨by rfl, fun w9 hSw => ?_⟩) hHeld ?_
  · obtain _ := hSw
    go_simp
  simp only [List.getElem_toArray, List.getElem_cons_zero, List.getElem_cons_succ, Act.put, List.setIfInBounds_toArray, List.set_cons_zero, List.set_cons_succ]
  refine wpAnyH_done (by kernel_rfl) (NoPanic.normal ?_) _
  have HI0 : Hid (MixI W V1 w4 es ga M gc ms0) := ⟨hown4, hM.symm, fun e => by
    rw [hms0, List.mem_append]
    exact ⟨fun h => h.elim id List.mem_of_mem_take, .inl⟩, HB1.out.trans (hB4.mono HB1.out.size), hB4.size⟩
  have hMb : M ≤ 2097152 ∧ es.length ≤ M := by rw [hM, hms0, List.length_append, hHt.out]; omega
  obtain ⟨hMb1, hMb2⟩ := hMb
  have hW1 : Hid (W.heap.size ≤ V1.heap.size) := HB1.out.size
  clear hHeld hown4 hr4 hM hms0 hB4 hHE hHec hq2 hHt hHl HH HB1
  go_wp2
  go_loopw [10] (fun s wr => ∃ (i : Nat) (ms : List (Int × Int)), i ≤ ts.length ∧ s = .int .i64 (i : Int) ∧ Hid (MixI W V1 wr es ga M gc ms)) (fun s _ => ts.length - (intOf s).toNat)
  case atStart => exact ⟨0, ms0, by omega, rfl, HI0⟩
  case round =>
    clear HI0
    obtain ⟨i, ms, hi, rfl, hI⟩ := hrel
    by_cases hgo : i < ts.length ∧ 0 < M
    · obtain ⟨hit, hM0⟩ := hgo
      obtain ⟨t, ht⟩ : ∃ t, ts[i]? = some t := ⟨ts[i], List.getElem?_eq_getElem hit⟩
      obtain ⟨t1, t2⟩ := HT64.out t (List.mem_of_getElem? ht)
      obtain ⟨tb, tq, rfl, hct⟩ := (IRow.below HT.out hI.out.below (Nat.le_refl _)) i t ht
      have hit2 : (i : Int) < (ts.length : Int) := by omega
      have hM02 : (0 : Int) < (M : Int) := by omega
      have hMne : ((M : Int) == 0) = false := by simp; omega
      have hMne2 : ¬ (M : Int) = 0 := by omega
      have hr1 : Int.tmod t (M : Int) < (M : Int) := Int.tmod_lt_of_pos t hM02
      have hr2 : -(M : Int) < Int.tmod t (M : Int) := by
        have h := Int.tmod_lt_of_pos (-t) hM02
        rw [Int.neg_tmod] at h
        omega
      obtain ⟨r, hr⟩ : ∃ r, r = Int.tmod t (M : Int) := ⟨_, rfl⟩
      have hrr : Int.tmod t (M : Int) = r := hr.symm
      rw [hrr] at hr1 hr2
      obtain ⟨J, hJ⟩ : ∃ J, J = i % M := ⟨_, rfl⟩
      have hJM : J < M := by rw [hJ]; exact Nat.mod_lt _ hM0
      have hJJ : Int.tmod (i : Int) (M : Int) = (J : Int) := by rw [Int.tmod_eq_emod_of_nonneg (by omega), hJ]; rfl
      obtain ⟨g, hga⟩ : ∃ g, ga = some ⟨g, 0, none⟩ := by
        have h := hI.out.own
        rw [show M = (M - 1) + 1 by omega] at h
        obtain ⟨g, cap, hv⟩ := ownsRow_succ h
        exact ⟨g, by simpa using congrArg (fun v => match v with | Value.slice a _ _ => a | _ => none) hv⟩
      subst hga
      clear ht hr hJ
      by_cases hr0 : r < 0
      · obtain ⟨K, hKr⟩ : ∃ K : Nat, (K : Int) = r + (M : Int) := ⟨(r + (M : Int)).toNat, by omega⟩
        have hKM : K < M := by omega
        have hd : decide (r < 0) = true := by simpa using hr0
        have hKr' : r + (M : Int) = (K : Int) := hKr.symm
        clear hKr
        have hId : MixI W V1 wr.drew es (some ⟨g, 0, none⟩) M gc ms := ⟨GramLent.own_below hI.out.own (drew_below wr 1), hI.out.len, hI.out.mem, hI.out.below.drew, hI.out.size⟩
        obtain ⟨⟨⟨k0, k1⟩, ⟨j0, j1⟩, f0, f1⟩, ⟨u, v, m0, m1⟩, ⟨f2, f3⟩, hI2⟩ := hId.swap hW1.out hKM hJM
        have HI2 : Hid (_) := hI2
        generalize ms.getD K (0, 0) = eK at *
        generalize ms.getD J (0, 0) = eJ at *
        clear hI hId hI2
        go_wp2_with fail
        refine wp_region_noPanic ?_
        refine wp_region_held_drew (S := (fun _ => True)) (by kernel_rfl) trivial (fun hHeld => ?_)
        generalize wr.drew = Wd at *
        refine wpAnyH_take (i := 0) (v := .slice (some ⟨g, 0, none⟩) M gc) rfl (by kernel_rfl) (by kernel_rfl) (by kernel_rfl) (fun _ _ _ h => h) (Or.inl ⟨by rfl, fun w9 hSw => ?_⟩) hHeld ?_
        · obtain _ := hSw
          go_simp
        simp only [List.getElem_toArray, List.getElem_cons_zero, List.getElem_cons_succ, Act.put, List.setIfInBounds_toArray, List.set_cons_zero, List.set_cons_succ]
        refine wpAnyH_take (i := 1) (v := .int .i64 (K : Int)) rfl (by kernel_rfl) (by kernel_rfl) (by kernel_rfl) (fun _ _ _ h => h) (Or.inl ⟨by rfl, fun w9 hSw => ?_⟩) hHeld ?_
        · obtain _ := hSw
          go_simp
        simp only [List.getElem_toArray, List.getElem_cons_zero, List.getElem_cons_succ, Act.put, List.setIfInBounds_toArray, List.set_cons_zero, List.set_cons_succ]
        refine wpAnyH_take (i := 2) (v := .slice (some ⟨g, 0, none⟩) M gc) rfl (by kernel_rfl) (by kernel_rfl) (by kernel_rfl) (fun _ _ _ h => h) (Or.inl ⟨by rfl, fun w9 hSw => ?_⟩) hHeld ?_
        · obtain _ := hSw
          go_simp
        simp only [List.getElem_toArray, List.getElem_cons_zero, List.getElem_cons_succ, Act.put, List.setIfInBounds_toArray, List.set_cons_zero, List.set_cons_succ]
        refine wpAnyH_take (i := 3) (v := .int .i64 (J : Int)) rfl (by kernel_rfl) (by kernel_rfl) (by kernel_rfl) (fun _ _ _ h => h) (Or.inl ⟨by rfl, fun w9 hSw => ?_⟩) hHeld ?_
        · obtain _ := hSw
          go_simp
        simp only [List.getElem_toArray, List.getElem_cons_zero, List.getElem_cons_succ, Act.put, List.setIfInBounds_toArray, List.set_cons_zero, List.set_cons_succ]
        refine wpAnyH_take (i := 4) (v := .slice (some ⟨g, 0, none⟩) M gc) rfl (by kernel_rfl) (by kernel_rfl) (by kernel_rfl) (fun _ _ _ h => h) (Or.inl ⟨by rfl, fun w9 hSw => ?_⟩) hHeld ?_
        · obtain _ := hSw
          go_simp
        simp only [List.getElem_toArray, List.getElem_cons_zero, List.getElem_cons_succ, Act.put, List.setIfInBounds_toArray, List.set_cons_zero, List.set_cons_succ]
        refine wpAnyH_take (i := 5) (v := .int .i64 (J : Int)) rfl (by kernel_rfl) (by kernel_rfl) (by kernel_rfl) (fun _ _ _ h => h) (Or.inl ⟨by rfl, fun w9 hSw => ?_⟩) hHeld ?_
        · obtain _ := hSw
          go_simp
        simp only [List.getElem_toArray, List.getElem_cons_zero, List.getElem_cons_succ, Act.put, List.setIfInBounds_toArray, List.set_cons_zero, List.set_cons_succ]
        refine wpAnyH_take (i := 8) (v := .slice (some ⟨g, 0, none⟩) M gc) rfl (by kernel_rfl) (by kernel_rfl) (by kernel_rfl) (fun _ _ _ h => h) (Or.inl ⟨by rfl, fun w9 hSw => ?_⟩) hHeld ?_
        · obtain _ := hSw
          go_simp
        simp only [List.getElem_toArray, List.getElem_cons_zero, List.getElem_cons_succ, Act.put, List.setIfInBounds_toArray, List.set_cons_zero, List.set_cons_succ]
        refine wpAnyH_take (i := 9) (v := .int .i64 (K : Int)) rfl (by kernel_rfl) (by kernel_rfl) (by kernel_rfl) (fun _ _ _ h => h) (Or.inl ⟨by rfl, fun w9 hSw => ?_⟩) hHeld ?_
        · obtain _ := hSw
          go_simp
        simp only [List.getElem_toArray, List.getElem_cons_zero, List.getElem_cons_succ, Act.put, List.setIfInBounds_toArray, List.set_cons_zero, List.set_cons_succ]
        refine wpAnyH_take (i := 6) (v := .pointer (some ⟨g, J * 2, none⟩)) rfl (by kernel_rfl) (by kernel_rfl) (by kernel_rfl) (fun _ _ _ h => h) (Or.inl ⟨by rfl, fun w9 hSw => ?_⟩) hHeld ?_
        · obtain _ := hSw
          go_simp
        simp only [List.getElem_toArray, List.getElem_cons_zero, List.getElem_cons_succ, Act.put, List.setIfInBounds_toArray, List.set_cons_zero, List.set_cons_succ]
        refine wpAnyH_take (i := 10) (v := .pointer (some ⟨g, K * 2, none⟩)) rfl (by kernel_rfl) (by kernel_rfl) (by kernel_rfl) (fun _ _ _ h => h) (Or.inl ⟨by rfl, fun w9 hSw => ?_⟩) hHeld ?_
        · obtain _ := hSw
          go_simp
        simp only [List.getElem_toArray, List.getElem_cons_zero, List.getElem_cons_succ, Act.put, List.setIfInBounds_toArray, List.set_cons_zero, List.set_cons_succ]
        refine wpAnyH_ready (rs := [7, 11]) (by kernel_rfl) (by simp) ?_
        refine AllReadyH.cons rfl (fun K9 hK => ?_) (AllReadyH.cons rfl (fun K9 hK => ?_) AllReadyH.nil)
        · go_simp
          refine hK.out _ _ trivial (fun hHeld => ?_)
          clear hK K9
          refine wpAnyH_ready (rs := [11]) (by kernel_rfl) (by simp) ?_
          refine AllReadyH.cons rfl (fun K hK => ?_) AllReadyH.nil
          go_simp
          refine hK.out _ _ trivial (fun hHeld => ?_)
          clear hK K
          refine wpAnyH_take (i := 12) (v := .pointer (some ⟨g, K * 2, none⟩)) rfl (by kernel_rfl) (by kernel_rfl) (by kernel_rfl) (fun _ _ _ h => h) (Or.inl ⟨by rfl, fun w9 hSw => ?_⟩) hHeld ?_
          · obtain _ := hSw
            go_simp
          simp only [List.getElem_toArray, List.getElem_cons_zero, List.getElem_cons_succ, Act.put, List.setIfInBounds_toArray, List.set_cons_zero, List.set_cons_succ]
          refine wpAnyH_ready (rs := [13]) (by kernel_rfl) (by simp) ?_
          refine AllReadyH.cons rfl (fun K hK => ?_) AllReadyH.nil
          go_simp
          refine hK.out _ _ trivial (fun hHeld => ?_)
          clear hK K
          refine wpAnyH_take (i := 14) (v := .pointer (some ⟨g, J * 2, none⟩)) rfl (by kernel_rfl) (by kernel_rfl) (by kernel_rfl) (fun _ _ _ h => h) (Or.inl ⟨by rfl, fun w9 hSw => ?_⟩) hHeld ?_
          · obtain _ := hSw
            go_simp
          simp only [List.getElem_toArray, List.getElem_cons_zero, List.getElem_cons_succ, Act.put, List.setIfInBounds_toArray, List.set_cons_zero, List.set_cons_succ]
          refine wpAnyH_ready (rs := [15]) (by kernel_rfl) (by simp) ?_
          refine AllReadyH.cons rfl (fun K hK => ?_) AllReadyH.nil
          go_simp
          refine hK.out _ _ trivial (fun hHeld => ?_)
          clear hK K
          refine wpAnyH_done (by kernel_rfl) (NoPanic.normal ?_) _
          clear k0 k1 f0 f1 m0 m1 f2 f3 hHeld
          go_wp2
          go_roundw
          case rel => exact ⟨i + 1, swapE ms K J, by omega, by go_num, HI2⟩
          case measure => simp [intOf]; omega
        · go_simp
          refine hK.out _ _ trivial (fun hHeld => ?_)
          clear hK K9
          refine wpAnyH_ready (rs := [7]) (by kernel_rfl) (by simp) ?_
          refine AllReadyH.cons rfl (fun K hK => ?_) AllReadyH.nil
          go_simp
          refine hK.out _ _ trivial (fun hHeld => ?_)
          clear hK K
          refine wpAnyH_take (i := 12) (v := .pointer (some ⟨g, K * 2, none⟩)) rfl (by kernel_rfl) (by kernel_rfl) (by kernel_rfl) (fun _ _ _ h => h) (Or.inl ⟨by rfl, fun w9 hSw => ?_⟩) hHeld ?_
          · obtain _ := hSw
            go_simp
          simp only [List.getElem_toArray, List.getElem_cons_zero, List.getElem_cons_succ, Act.put, List.setIfInBounds_toArray, List.set_cons_zero, List.set_cons_succ]
          refine wpAnyH_ready (rs := [13]) (by kernel_rfl) (by simp) ?_
          refine AllReadyH.cons rfl (fun K hK => ?_) AllReadyH.nil
          go_simp
          refine hK.out _ _ trivial (fun hHeld => ?_)
          clear hK K
          refine wpAnyH_take (i := 14) (v := .pointer (some ⟨g, J * 2, none⟩)) rfl (by kernel_rfl) (by kernel_rfl) (by kernel_rfl) (fun _ _ _ h => h) (Or.inl ⟨by rfl, fun w9 hSw => ?_⟩) hHeld ?_
          · obtain _ := hSw
            go_simp
          simp only [List.getElem_toArray, List.getElem_cons_zero, List.getElem_cons_succ, Act.put, List.setIfInBounds_toArray, List.set_cons_zero, List.set_cons_succ]
          refine wpAnyH_ready (rs := [15]) (by kernel_rfl) (by simp) ?_
          refine AllReadyH.cons rfl (fun K hK => ?_) AllReadyH.nil
          go_simp
          refine hK.out _ _ trivial (fun hHeld => ?_)
          clear hK K
          refine wpAnyH_done (by kernel_rfl) (NoPanic.normal ?_) _
          clear k0 k1 f0 f1 m0 m1 f2 f3 hHeld
          go_wp2
          go_roundw
          case rel => exact ⟨i + 1, swapE ms K J, by omega, by go_num, HI2⟩
          case measure => simp [intOf]; omega
      · obtain ⟨K, hKr⟩ : ∃ K : Nat, (K : Int) = r := ⟨r.toNat, by omega⟩
        have hKM : K < M := by omega
        have hd : decide (r < 0) = false := by simpa using hr0
        subst hKr
        have hId : MixI W V1 wr.drew es (some ⟨g, 0, none⟩) M gc ms := ⟨GramLent.own_below hI.out.own (drew_below wr 1), hI.out.len, hI.out.mem, hI.out.below.drew, hI.out.size⟩
        obtain ⟨⟨⟨k0, k1⟩, ⟨j0, j1⟩, f0, f1⟩, ⟨u, v, m0, m1⟩, ⟨f2, f3⟩, hI2⟩ := hId.swap hW1.out hKM hJM
        have HI2 : Hid (_) := hI2
        generalize ms.getD K (0, 0) = eK at *
        generalize ms.getD J (0, 0) = eJ at *
        clear hI hId hI2
        go_wp2_with fail
        refine wp_region_noPanic ?_
        refine wp_region_held_drew (S := (fun _ => True)) (by kernel_rfl) trivial (fun hHeld => ?_)
        generalize wr.drew = Wd at *
        refine wpAnyH_take (i := 0) (v := .slice (some ⟨g, 0, none⟩) M gc) rfl (by kernel_rfl) (by kernel_rfl) (by kernel_rfl) (fun _ _ _ h => h) (Or.inl ⟨by rfl, fun w9 hSw => ?_⟩) hHeld ?_
        · obtain _ := hSw
          go_simp
        simp only [List.getElem_toArray, List.getElem_cons_zero, List.getElem_cons_succ, Act.put, List.setIfInBounds_toArray, List.set_cons_zero, List.set_cons_succ]
        refine wpAnyH_take (i := 1) (v := .int .i64 (K : Int)) rfl (by kernel_rfl) (by kernel_rfl) (by kernel_rfl) (fun _ _ _ h => h) (Or.inl ⟨by rfl, fun w9 hSw => ?_⟩) hHeld ?_
        · obtain _ := hSw
          go_simp
        simp only [List.getElem_toArray, List.getElem_cons_zero, List.getElem_cons_succ, Act.put, List.setIfInBounds_toArray, List.set_cons_zero, List.set_cons_succ]
        refine wpAnyH_take (i := 2) (v := .slice (some ⟨g, 0, none⟩) M gc) rfl (by kernel_rfl) (by kernel_rfl) (by kernel_rfl) (fun _ _ _ h => h) (Or.inl ⟨by rfl, fun w9 hSw => ?_⟩) hHeld ?_
        · obtain _ := hSw
          go_simp
        simp only [List.getElem_toArray, List.getElem_cons_zero, List.getElem_cons_succ, Act.put, List.setIfInBounds_toArray, List.set_cons_zero, List.set_cons_succ]
        refine wpAnyH_take (i := 3) (v := .int .i64 (J : Int)) rfl (by kernel_rfl) (by kernel_rfl) (by kernel_rfl) (fun _ _ _ h => h) (Or.inl ⟨by rfl, fun w9 hSw => ?_⟩) hHeld ?_
        · obtain _ := hSw
          go_simp
        simp only [List.getElem_toArray, List.getElem_cons_zero, List.getElem_cons_succ, Act.put, List.setIfInBounds_toArray, List.set_cons_zero, List.set_cons_succ]
        refine wpAnyH_take (i := 4) (v := .slice (some ⟨g, 0, none⟩) M gc) rfl (by kernel_rfl) (by kernel_rfl) (by kernel_rfl) (fun _ _ _ h => h) (Or.inl ⟨by rfl, fun w9 hSw => ?_⟩) hHeld ?_
        · obtain _ := hSw
          go_simp
        simp only [List.getElem_toArray, List.getElem_cons_zero, List.getElem_cons_succ, Act.put, List.setIfInBounds_toArray, List.set_cons_zero, List.set_cons_succ]
        refine wpAnyH_take (i := 5) (v := .int .i64 (J : Int)) rfl (by kernel_rfl) (by kernel_rfl) (by kernel_rfl) (fun _ _ _ h => h) (Or.inl ⟨by rfl, fun w9 hSw => ?_⟩) hHeld ?_
        · obtain _ := hSw
          go_simp
        simp only [List.getElem_toArray, List.getElem_cons_zero, List.getElem_cons_succ, Act.put, List.setIfInBounds_toArray, List.set_cons_zero, List.set_cons_succ]
        refine wpAnyH_take (i := 8) (v := .slice (some ⟨g, 0, none⟩) M gc) rfl (by kernel_rfl) (by kernel_rfl) (by kernel_rfl) (fun _ _ _ h => h) (Or.inl ⟨by rfl, fun w9 hSw => ?_⟩) hHeld ?_
        · obtain _ := hSw
          go_simp
        simp only [List.getElem_toArray, List.getElem_cons_zero, List.getElem_cons_succ, Act.put, List.setIfInBounds_toArray, List.set_cons_zero, List.set_cons_succ]
        refine wpAnyH_take (i := 9) (v := .int .i64 (K : Int)) rfl (by kernel_rfl) (by kernel_rfl) (by kernel_rfl) (fun _ _ _ h => h) (Or.inl ⟨by rfl, fun w9 hSw => ?_⟩) hHeld ?_
        · obtain _ := hSw
          go_simp
        simp only [List.getElem_toArray, List.getElem_cons_zero, List.getElem_cons_succ, Act.put, List.setIfInBounds_toArray, List.set_cons_zero, List.set_cons_succ]
        refine wpAnyH_take (i := 6) (v := .pointer (some ⟨g, J * 2, none⟩)) rfl (by kernel_rfl) (by kernel_rfl) (by kernel_rfl) (fun _ _ _ h => h) (Or.inl ⟨by rfl, fun w9 hSw => ?_⟩) hHeld ?_
        · obtain _ := hSw
          go_simp
        simp only [List.getElem_toArray, List.getElem_cons_zero, List.getElem_cons_succ, Act.put, List.setIfInBounds_toArray, List.set_cons_zero, List.set_cons_succ]
        refine wpAnyH_take (i := 10) (v := .pointer (some ⟨g, K * 2, none⟩)) rfl (by kernel_rfl) (by kernel_rfl) (by kernel_rfl) (fun _ _ _ h => h) (Or.inl ⟨by rfl, fun w9 hSw => ?_⟩) hHeld ?_
        · obtain _ := hSw
          go_simp
        simp only [List.getElem_toArray, List.getElem_cons_zero, List.getElem_cons_succ, Act.put, List.setIfInBounds_toArray, List.set_cons_zero, List.set_cons_succ]
        refine wpAnyH_ready (rs := [7, 11]) (by kernel_rfl) (by simp) ?_
        refine AllReadyH.cons rfl (fun K9 hK => ?_) (AllReadyH.cons rfl (fun K9 hK => ?_) AllReadyH.nil)
        · go_simp
          refine hK.out _ _ trivial (fun hHeld => ?_)
          clear hK K9
          refine wpAnyH_ready (rs := [11]) (by kernel_rfl) (by simp) ?_
          refine AllReadyH.cons rfl (fun K hK => ?_) AllReadyH.nil
          go_simp
          refine hK.out _ _ trivial (fun hHeld => ?_)
          clear hK K
          refine wpAnyH_take (i := 12) (v := .pointer (some ⟨g, K * 2, none⟩)) rfl (by kernel_rfl) (by kernel_rfl) (by kernel_rfl) (fun _ _ _ h => h) (Or.inl ⟨by rfl, fun w9 hSw => ?_⟩) hHeld ?_
          · obtain _ := hSw
            go_simp
          simp only [List.getElem_toArray, List.getElem_cons_zero, List.getElem_cons_succ, Act.put, List.setIfInBounds_toArray, List.set_cons_zero, List.set_cons_succ]
          refine wpAnyH_ready (rs := [13]) (by kernel_rfl) (by simp) ?_
          refine AllReadyH.cons rfl (fun K hK => ?_) AllReadyH.nil
          go_simp
          refine hK.out _ _ trivial (fun hHeld => ?_)
          clear hK K
          refine wpAnyH_take (i := 14) (v := .pointer (some ⟨g, J * 2, none⟩)) rfl (by kernel_rfl) (by kernel_rfl) (by kernel_rfl) (fun _ _ _ h => h) (Or.inl ⟨by rfl, fun w9 hSw => ?_⟩) hHeld ?_
          · obtain _ := hSw
            go_simp
          simp only [List.getElem_toArray, List.getElem_cons_zero, List.getElem_cons_succ, Act.put, List.setIfInBounds_toArray, List.set_cons_zero, List.set_cons_succ]
          refine wpAnyH_ready (rs := [15]) (by kernel_rfl) (by simp) ?_
          refine AllReadyH.cons rfl (fun K hK => ?_) AllReadyH.nil
          go_simp
          refine hK.out _ _ trivial (fun hHeld => ?_)
          clear hK K
          refine wpAnyH_done (by kernel_rfl) (NoPanic.normal ?_) _
          clear k0 k1 f0 f1 m0 m1 f2 f3 hHeld
          go_wp2
          go_roundw
          case rel => exact ⟨i + 1, swapE ms K J, by omega, by go_num, HI2⟩
          case measure => simp [intOf]; omega
        · go_simp
          refine hK.out _ _ trivial (fun hHeld => ?_)
          clear hK K9
          refine wpAnyH_ready (rs := [7]) (by kernel_rfl) (by simp) ?_
          refine AllReadyH.cons rfl (fun K hK => ?_) AllReadyH.nil
          go_simp
          refine hK.out _ _ trivial (fun hHeld => ?_)
          clear hK K
          refine wpAnyH_take (i := 12) (v := .pointer (some ⟨g, K * 2, none⟩)) rfl (by kernel_rfl) (by kernel_rfl) (by kernel_rfl) (fun _ _ _ h => h) (Or.inl ⟨by rfl, fun w9 hSw => ?_⟩) hHeld ?_
          · obtain _ := hSw
            go_simp
          simp only [List.getElem_toArray, List.getElem_cons_zero, List.getElem_cons_succ, Act.put, List.setIfInBounds_toArray, List.set_cons_zero, List.set_cons_succ]
          refine wpAnyH_ready (rs := [13]) (by kernel_rfl) (by simp) ?_
          refine AllReadyH.cons rfl (fun K hK => ?_) AllReadyH.nil
          go_simp
          refine hK.out _ _ trivial (fun hHeld => ?_)
          clear hK K
          refine wpAnyH_take (i := 14) (v := .pointer (some ⟨g, J * 2, none⟩)) rfl (by kernel_rfl) (by kernel_rfl) (by kernel_rfl) (fun _ _ _ h => h) (Or.inl ⟨by rfl, fun w9 hSw => ?_⟩) hHeld ?_
          · obtain _ := hSw
            go_simp
          simp only [List.getElem_toArray, List.getElem_cons_zero, List.getElem_cons_succ, Act.put, List.setIfInBounds_toArray, List.set_cons_zero, List.set_cons_succ]
          refine wpAnyH_ready (rs := [15]) (by kernel_rfl) (by simp) ?_
          refine AllReadyH.cons rfl (fun K hK => ?_) AllReadyH.nil
          go_simp
          refine hK.out _ _ trivial (fun hHeld => ?_)
          clear hK K
          refine wpAnyH_done (by kernel_rfl) (NoPanic.normal ?_) _
          clear k0 k1 f0 f1 m0 m1 f2 f3 hHeld
          go_wp2
          go_roundw
          case rel => exact ⟨i + 1, swapE ms K J, by omega, by go_num, HI2⟩
          case measure => simp [intOf]; omega
    · have hal : M ≤ 4096 → GraphNet.Alike es ms := fun h => ⟨fun e => (hI.out.mem e).symm, by omega, by rw [hI.out.len]; omega⟩
      have hal' : Hid (M ≤ 4096 → GraphNet.Alike es ms) := hal
      have hx1 : (¬ (i : Int) < (ts.length : Int)) ∨ ((i : Int) < (ts.length : Int) ∧ M = 0) := by omega
      by_cases h4 : 4096 < M
      · have h4' : (4096 : Int) < (M : Int) := by omega
        have HB : Hid (Below W.heap.size W wr) := hI.out.below
        have hx2 : ¬ (i : Int) < (ts.length : Int) := by omega
        clear hI hal hal' hx1
        go_wp2
        go_ret
        exact ⟨rfl, HB.out⟩
      have h4' : ¬ (4096 : Int) < (M : Int) := by omega
      have HA := hal'.out (by omega)
      clear hal hal'
      rcases hx1 with hx1 | ⟨hx1, hx2⟩
      · skip
        have HS : Hid (St W V1 wr ga M gc ms []) := ⟨hI.out.below, Hold.nil _, hI.out.own⟩
        have HLn : Hid (ms.length = M) := hI.out.len
        clear hI
        go_wp2_with fail
        have hc := lentE ea ec es wr (HE.out.below HS.out.below (Nat.le_refl _)) (by omega) HEn.out
        refine hc.mono ?_
        rintro e w11 ⟨gl, cl, rfl, hL, hb⟩
        replace HS : Hid (St W V1 w11 ga M gc ms []) := HS.out.on hb
        clear hc hb
        have hc := Longest_top p n (some ⟨gl, 0, none⟩) cl es w11 (HS.out.gre hL HErr.out hn HX.out hl)
        clear hL
        go_wp2_with fail
        refine hc.mono ?_
        rintro e w12 ⟨v12, rfl, ⟨a12, r12, rfl, o1, o2⟩, hb⟩
        replace HS : Hid (St W V1 w12 ga M gc ms [(r12, rdL n es), (a12, lvL n es)]) := ((HS.out.on hb).add o1).add o2
        clear hc o1 o2
        clear hb
        have hc := long_m (gc := gc) HA HLn.out (HS.out.grm HA HLn.out HErr.out hn HX.out)
        go_wp2_with fail
        refine hc.mono ?_
        rintro e w13 ⟨v13, rfl, ⟨a13, r13, rfl, o1, o2⟩, hb⟩
        replace HS : Hid (St W V1 w13 ga M gc ms [(r13, rdL n es), (a13, lvL n es), (r12, rdL n es), (a12, lvL n es)]) := ((HS.out.on hb).add o1).add o2
        clear hc o1 o2
        clear hb
        go_wp2_with fail
        have hc := lentE ea ec es w13 (HE.out.below HS.out.below (Nat.le_refl _)) (by omega) HEn.out
        refine hc.mono ?_
        rintro e w14 ⟨gl, cl, rfl, hL, hb⟩
        replace HS : Hid (St W V1 w14 ga M gc ms [(r13, rdL n es), (a13, lvL n es), (r12, rdL n es), (a12, lvL n es)]) := HS.out.on hb
        clear hc hb
        have hc := Order_top p n (some ⟨gl, 0, none⟩) cl es w14 (HS.out.gre hL HErr.out hn HX.out hl) (((HErr.out.1 14 (by omega)).1).below HS.out.below (Nat.le_refl _))
        clear hL
        go_wp2_with fail
        refine hc.mono ?_
        rintro e w15 ⟨v15, rfl, ⟨a15, rfl, o1⟩, hb⟩
        replace HS : Hid (St W V1 w15 ga M gc ms [(a15, odL n es), (r13, rdL n es), (a13, lvL n es), (r12, rdL n es), (a12, lvL n es)]) := (HS.out.on hb).add o1
        clear hc o1
        clear hb
        have hc := order_m (gc := gc) HA HLn.out (HS.out.grm HA HLn.out HErr.out hn HX.out) (((HErr.out.1 14 (by omega)).1).below HS.out.below (Nat.le_refl _))
        go_wp2_with fail
        refine hc.mono ?_
        rintro e w16 ⟨v16, rfl, ⟨a16, rfl, o1⟩, hb⟩
        replace HS : Hid (St W V1 w16 ga M gc ms [(a16, odL n es), (a15, odL n es), (r13, rdL n es), (a13, lvL n es), (r12, rdL n es), (a12, lvL n es)]) := (HS.out.on hb).add o1
        clear hc o1
        clear hb
        go_wp2_with fail
        have hc := lentE ea ec es w16 (HE.out.below HS.out.below (Nat.le_refl _)) (by omega) HEn.out
        refine hc.mono ?_
        rintro e w17 ⟨gl, cl, rfl, hL, hb⟩
        replace HS : Hid (St W V1 w17 ga M gc ms [(a16, odL n es), (a15, odL n es), (r13, rdL n es), (a13, lvL n es), (r12, rdL n es), (a12, lvL n es)]) := HS.out.on hb
        clear hc hb
        have hc := Reach_top p n (some ⟨gl, 0, none⟩) cl es fa fc fr w17 (HS.out.gre hL HErr.out hn HX.out hl) (IRow.below HF.out HS.out.below (Nat.le_refl _)) (by omega) HF64.out
        clear hL
        go_wp2_with fail
        refine hc.mono ?_
        rintro e w18 ⟨v18, rfl, ⟨a18, rfl, o1⟩, hb⟩
        replace HS : Hid (St W V1 w18 ga M gc ms [(a18, reachL n es fr), (a16, odL n es), (a15, odL n es), (r13, rdL n es), (a13, lvL n es), (r12, rdL n es), (a12, lvL n es)]) := (HS.out.on hb).add o1
        clear hc o1
        clear hb
        have hc := reach_m (gc := gc) HA HLn.out (HS.out.grm HA HLn.out HErr.out hn HX.out) fa fc fr (IRow.below HF.out HS.out.below (Nat.le_refl _)) (by omega) HF64.out
        go_wp2_with fail
        refine hc.mono ?_
        rintro e w19 ⟨v19, rfl, ⟨a19, rfl, o1⟩, hb⟩
        replace HS : Hid (St W V1 w19 ga M gc ms [(a19, reachL n es fr), (a18, reachL n es fr), (a16, odL n es), (a15, odL n es), (r13, rdL n es), (a13, lvL n es), (r12, rdL n es), (a12, lvL n es)]) := (HS.out.on hb).add o1
        clear hc o1
        clear hb
        go_wp2_with fail
        have hc := lentE ea ec es w19 (HE.out.below HS.out.below (Nat.le_refl _)) (by omega) HEn.out
        refine hc.mono ?_
        rintro e w20 ⟨gl, cl, rfl, hL, hb⟩
        replace HS : Hid (St W V1 w20 ga M gc ms [(a19, reachL n es fr), (a18, reachL n es fr), (a16, odL n es), (a15, odL n es), (r13, rdL n es), (a13, lvL n es), (r12, rdL n es), (a12, lvL n es)]) := HS.out.on hb
        clear hc hb
        have hc := Parts_top p n (some ⟨gl, 0, none⟩) cl es w20 (HS.out.gre hL HErr.out hn HX.out hl)
        clear hL
        go_wp2_with fail
        refine hc.mono ?_
        rintro e w21 ⟨v21, rfl, ⟨a21, Vs21, rfl, o1⟩, hb⟩
        replace HS : Hid (St W V1 w21 ga M gc ms [(a19, reachL n es fr), (a18, reachL n es fr), (a16, odL n es), (a15, odL n es), (r13, rdL n es), (a13, lvL n es), (r12, rdL n es), (a12, lvL n es)]) := HS.out.on hb
        have HP21 : Hid (Pts w21 w20.heap.size a21 (ptL n es) Vs21) := o1
        clear hc o1
        clear hb
        have hc := parts_m (gc := gc) HA HLn.out (HS.out.grm HA HLn.out HErr.out hn HX.out)
        go_wp2_with fail
        refine hc.mono ?_
        rintro e w22 ⟨v22, rfl, ⟨a22, Vs22, rfl, o1⟩, hb⟩
        replace HS : Hid (St W V1 w22 ga M gc ms [(a19, reachL n es fr), (a18, reachL n es fr), (a16, odL n es), (a15, odL n es), (r13, rdL n es), (a13, lvL n es), (r12, rdL n es), (a12, lvL n es)]) := HS.out.on hb
        have HP22 : Hid (Pts w22 w21.heap.size a22 (ptL n es) Vs22) := o1
        clear hc o1
        replace HP21 : Hid (Pts w22 w20.heap.size a21 (ptL n es) Vs21) := HP21.out.below hb
        clear hb
        go_wp2_with fail
        have hne_long : (((mayE n es : Nat) : Int) != ((mayE n es : Nat) : Int)) = false := by simp
        have hne_order : (((odC n es : Nat) : Int) != ((odC n es : Nat) : Int)) = false := by simp
        have hne_reach : (((reachC n es fr : Nat) : Int) != ((reachC n es fr : Nat) : Int)) = false := by simp
        have hne_parts : (((mayE n es : Nat) : Int) != ((mayE n es : Nat) : Int)) = false := by simp
        have hc := kind_e p (mayE n es) w22 (HErr.out.below HS.out.below (Nat.le_refl _)) (by have := mayE_le n es; omega)
        refine hc.mono ?_
        rintro e w23 ⟨rfl, hb⟩
        replace HS : Hid (St W V1 w23 ga M gc ms [(a19, reachL n es fr), (a18, reachL n es fr), (a16, odL n es), (a15, odL n es), (r13, rdL n es), (a13, lvL n es), (r12, rdL n es), (a12, lvL n es)]) := HS.out.on hb
        replace HP21 : Hid (Pts w23 w20.heap.size a21 (ptL n es) Vs21) := HP21.out.below hb
        replace HP22 : Hid (Pts w23 w21.heap.size a22 (ptL n es) Vs22) := HP22.out.below hb
        clear hc hb
        have hc := kind_e p (mayE n es) w23 (HErr.out.below HS.out.below (Nat.le_refl _)) (by have := mayE_le n es; omega)
        go_wp2_with fail
        refine hc.mono ?_
        rintro e w24 ⟨rfl, hb⟩
        replace HS : Hid (St W V1 w24 ga M gc ms [(a19, reachL n es fr), (a18, reachL n es fr), (a16, odL n es), (a15, odL n es), (r13, rdL n es), (a13, lvL n es), (r12, rdL n es), (a12, lvL n es)]) := HS.out.on hb
        replace HP21 : Hid (Pts w24 w20.heap.size a21 (ptL n es) Vs21) := HP21.out.below hb
        replace HP22 : Hid (Pts w24 w21.heap.size a22 (ptL n es) Vs22) := HP22.out.below hb
        clear hc hb
        have hc := kind_e p (odC n es) w24 (HErr.out.below HS.out.below (Nat.le_refl _)) (odC_le n es)
        go_wp2_with fail
        refine hc.mono ?_
        rintro e w25 ⟨rfl, hb⟩
        replace HS : Hid (St W V1 w25 ga M gc ms [(a19, reachL n es fr), (a18, reachL n es fr), (a16, odL n es), (a15, odL n es), (r13, rdL n es), (a13, lvL n es), (r12, rdL n es), (a12, lvL n es)]) := HS.out.on hb
        replace HP21 : Hid (Pts w25 w20.heap.size a21 (ptL n es) Vs21) := HP21.out.below hb
        replace HP22 : Hid (Pts w25 w21.heap.size a22 (ptL n es) Vs22) := HP22.out.below hb
        clear hc hb
        have hc := kind_e p (odC n es) w25 (HErr.out.below HS.out.below (Nat.le_refl _)) (odC_le n es)
        go_wp2_with fail
        refine hc.mono ?_
        rintro e w26 ⟨rfl, hb⟩
        replace HS : Hid (St W V1 w26 ga M gc ms [(a19, reachL n es fr), (a18, reachL n es fr), (a16, odL n es), (a15, odL n es), (r13, rdL n es), (a13, lvL n es), (r12, rdL n es), (a12, lvL n es)]) := HS.out.on hb
        replace HP21 : Hid (Pts w26 w20.heap.size a21 (ptL n es) Vs21) := HP21.out.below hb
        replace HP22 : Hid (Pts w26 w21.heap.size a22 (ptL n es) Vs22) := HP22.out.below hb
        clear hc hb
        have hc := kind_e p (reachC n es fr) w26 (HErr.out.below HS.out.below (Nat.le_refl _)) (by have := reachC_le n es fr; omega)
        go_wp2_with fail
        refine hc.mono ?_
        rintro e w27 ⟨rfl, hb⟩
        replace HS : Hid (St W V1 w27 ga M gc ms [(a19, reachL n es fr), (a18, reachL n es fr), (a16, odL n es), (a15, odL n es), (r13, rdL n es), (a13, lvL n es), (r12, rdL n es), (a12, lvL n es)]) := HS.out.on hb
        replace HP21 : Hid (Pts w27 w20.heap.size a21 (ptL n es) Vs21) := HP21.out.below hb
        replace HP22 : Hid (Pts w27 w21.heap.size a22 (ptL n es) Vs22) := HP22.out.below hb
        clear hc hb
        have hc := kind_e p (reachC n es fr) w27 (HErr.out.below HS.out.below (Nat.le_refl _)) (by have := reachC_le n es fr; omega)
        go_wp2_with fail
        refine hc.mono ?_
        rintro e w28 ⟨rfl, hb⟩
        replace HS : Hid (St W V1 w28 ga M gc ms [(a19, reachL n es fr), (a18, reachL n es fr), (a16, odL n es), (a15, odL n es), (r13, rdL n es), (a13, lvL n es), (r12, rdL n es), (a12, lvL n es)]) := HS.out.on hb
        replace HP21 : Hid (Pts w28 w20.heap.size a21 (ptL n es) Vs21) := HP21.out.below hb
        replace HP22 : Hid (Pts w28 w21.heap.size a22 (ptL n es) Vs22) := HP22.out.below hb
        clear hc hb
        have hc := kind_e p (mayE n es) w28 (HErr.out.below HS.out.below (Nat.le_refl _)) (by have := mayE_le n es; omega)
        go_wp2_with fail
        refine hc.mono ?_
        rintro e w29 ⟨rfl, hb⟩
        replace HS : Hid (St W V1 w29 ga M gc ms [(a19, reachL n es fr), (a18, reachL n es fr), (a16, odL n es), (a15, odL n es), (r13, rdL n es), (a13, lvL n es), (r12, rdL n es), (a12, lvL n es)]) := HS.out.on hb
        replace HP21 : Hid (Pts w29 w20.heap.size a21 (ptL n es) Vs21) := HP21.out.below hb
        replace HP22 : Hid (Pts w29 w21.heap.size a22 (ptL n es) Vs22) := HP22.out.below hb
        clear hc hb
        have hc := kind_e p (mayE n es) w29 (HErr.out.below HS.out.below (Nat.le_refl _)) (by have := mayE_le n es; omega)
        go_wp2_with fail
        refine hc.mono ?_
        rintro e w30 ⟨rfl, hb⟩
        replace HS : Hid (St W V1 w30 ga M gc ms [(a19, reachL n es fr), (a18, reachL n es fr), (a16, odL n es), (a15, odL n es), (r13, rdL n es), (a13, lvL n es), (r12, rdL n es), (a12, lvL n es)]) := HS.out.on hb
        replace HP21 : Hid (Pts w30 w20.heap.size a21 (ptL n es) Vs21) := HP21.out.below hb
        replace HP22 : Hid (Pts w30 w21.heap.size a22 (ptL n es) Vs22) := HP22.out.below hb
        clear hc hb
        obtain ⟨pa1, pc1, rfl, hcl1⟩ := own_formG HP21.out.outer
        obtain ⟨pa2, pc2, rfl, hcl2⟩ := own_formG HP22.out.outer
        have HC1 : Hid (_) := hcl1
        have HC2 : Hid (_) := hcl2
        obtain ⟨hpl, hpe⟩ := ptL_len n es
        have HPE : Hid (∀ q ∈ ptL n es, q.length ≤ 256) := hpe
        have hlen0 : (((ptL n es).length : Int) != ((ptL n es).length : Int)) = false := by simp
        obtain ⟨wk, hwk⟩ : ∃ x, x = w30 := ⟨w30, rfl⟩
        clear hcl1 hcl2 hpe
        go_wp2
        go_loopw [31] (fun s wr => ∃ (j q : Nat), j ≤ (ptL n es).length ∧ s = .int .i64 (j : Int) ∧ wr = w30.drewN q) (fun s _ => (ptL n es).length - (intOf s).toNat)
        case atStart => exact ⟨0, 0, by omega, rfl, rfl⟩
        case round =>
          obtain ⟨j, q, hj, rfl, rfl⟩ := hrel
          by_cases hlj : j < (ptL n es).length
          · obtain ⟨pq, hpq⟩ : ∃ pq, (ptL n es)[j]? = some pq := ⟨(ptL n es)[j], List.getElem?_eq_getElem hlj⟩
            obtain ⟨u1, hu1, hr1⟩ := HP21.out.row j pq hpq
            obtain ⟨u2, hu2, hr2⟩ := HP22.out.row j pq hpq
            obtain ⟨pg1, rfl, d1⟩ := HC1.out j u1 hu1
            obtain ⟨pg2, rfl, d2⟩ := HC2.out j u2 hu2
            rw [← ints_length] at hr1 hr2
            obtain ⟨ra1, rc1, rfl, i1⟩ := own_form hr1
            obtain ⟨ra2, rc2, rfl, i2⟩ := own_form hr2
            have hql := HPE.out pq (List.mem_of_getElem? hpq)
            have his := fun X (h1 : IRow X ra1 (ints pq)) (h2 : IRow X ra2 (ints pq)) => ints_any ra1 ra2 rc1 rc2 (ints pq) (ints pq) X h1 h2 (by rw [ints_length]; omega) (by rw [ints_length]; omega)
            rw [show eqI (ints pq) (ints pq) = true by unfold eqI; simp] at his
            have hlj2 : (j : Int) < ((ptL n es).length : Int) := by omega
            clear hpq hu1 hu2 hr1 hr2
            go_wp2
            go_quiet ((go_at_call 14; refine (his _ ?_ ?_).mono ?_; exact i1; exact i2; rintro _ _ ⟨h1, m, hm⟩; exact ⟨h1, _, by rw [hm, World.drewN_drewN, Nat.add_assoc]⟩))
            go_wp2
            go_roundw
            case rel => exact ⟨j + 1, _, by omega, by go_num, rfl⟩
            case measure => simp [intOf]; omega
          · have hlj2 : ¬ (j : Int) < ((ptL n es).length : Int) := by omega
            have HSq : Hid (St W V1 (w30.drewN q) ga M gc ms [(a19, reachL n es fr), (a18, reachL n es fr), (a16, odL n es), (a15, odL n es), (r13, rdL n es), (a13, lvL n es), (r12, rdL n es), (a12, lvL n es)]) := HS.out.on (drew_below _ _)
            obtain ⟨wz, hwz⟩ : ∃ wz, wz = w30.drewN q := ⟨_, rfl⟩
            rw [← hwz] at HSq ⊢
            clear HS HC1 HC2 HPE hwk hwz HP21 HP22
            obtain ⟨b0, c0, hf0, i0⟩ := HSq.out.hold.at (v := a12) (L := lvL n es) (by simp)
            obtain ⟨b1, c1, hf1, i1⟩ := HSq.out.hold.at (v := a13) (L := lvL n es) (by simp)
            obtain ⟨b2, c2, hf2, i2⟩ := HSq.out.hold.at (v := r12) (L := rdL n es) (by simp)
            obtain ⟨b3, c3, hf3, i3⟩ := HSq.out.hold.at (v := r13) (L := rdL n es) (by simp)
            obtain ⟨b4, c4, hf4, i4⟩ := HSq.out.hold.at (v := a15) (L := odL n es) (by simp)
            obtain ⟨b5, c5, hf5, i5⟩ := HSq.out.hold.at (v := a16) (L := odL n es) (by simp)
            obtain ⟨b6, c6, hf6, i6⟩ := HSq.out.hold.at (v := a18) (L := reachL n es fr) (by simp)
            obtain ⟨b7, c7, hf7, i7⟩ := HSq.out.hold.at (v := a19) (L := reachL n es fr) (by simp)
            have HBz : Hid (Below W.heap.size W wz) := HSq.out.below
            clear HSq
            subst hf0 hf1 hf2 hf3 hf4 hf5 hf6 hf7
            have hll := lvL_len n es
            have hc := ints_any b0 b1 c0 c1 (lvL n es) (lvL n es) wz i0 i1 (by omega) (by omega)
            rw [show eqI (lvL n es) (lvL n es) = true by unfold eqI; simp] at hc
            go_wp2_with fail
            refine hc.mono ?_
            rintro e w31 ⟨rfl, q9, hw9⟩
            have hb : Below wz.heap.size wz w31 := by rw [hw9]; exact drew_below _ _
            replace HBz : Hid (Below W.heap.size W w31) := HBz.out.trans (hb.mono HBz.out.size)
            replace i2 := IRow.below i2 hb (Nat.le_refl _)
            replace i3 := IRow.below i3 hb (Nat.le_refl _)
            replace i4 := IRow.below i4 hb (Nat.le_refl _)
            replace i5 := IRow.below i5 hb (Nat.le_refl _)
            replace i6 := IRow.below i6 hb (Nat.le_refl _)
            replace i7 := IRow.below i7 hb (Nat.le_refl _)
            clear hc hw9 hb hll i0 i1
            have hll := rdL_len n es
            have hc := ints_any b2 b3 c2 c3 (rdL n es) (rdL n es) w31 i2 i3 (by omega) (by omega)
            rw [show eqI (rdL n es) (rdL n es) = true by unfold eqI; simp] at hc
            go_wp2_with fail
            refine hc.mono ?_
            rintro e w32 ⟨rfl, q9, hw9⟩
            have hb : Below w31.heap.size w31 w32 := by rw [hw9]; exact drew_below _ _
            replace HBz : Hid (Below W.heap.size W w32) := HBz.out.trans (hb.mono HBz.out.size)
            replace i4 := IRow.below i4 hb (Nat.le_refl _)
            replace i5 := IRow.below i5 hb (Nat.le_refl _)
            replace i6 := IRow.below i6 hb (Nat.le_refl _)
            replace i7 := IRow.below i7 hb (Nat.le_refl _)
            clear hc hw9 hb hll i2 i3
            have hll := odL_len n es
            have hc := ints_any b4 b5 c4 c5 (odL n es) (odL n es) w32 i4 i5 (by omega) (by omega)
            rw [show eqI (odL n es) (odL n es) = true by unfold eqI; simp] at hc
            go_wp2_with fail
            refine hc.mono ?_
            rintro e w33 ⟨rfl, q9, hw9⟩
            have hb : Below w32.heap.size w32 w33 := by rw [hw9]; exact drew_below _ _
            replace HBz : Hid (Below W.heap.size W w33) := HBz.out.trans (hb.mono HBz.out.size)
            replace i6 := IRow.below i6 hb (Nat.le_refl _)
            replace i7 := IRow.below i7 hb (Nat.le_refl _)
            clear hc hw9 hb hll i4 i5
            have hll := reachL_len n es fr
            have hc := ints_any b6 b7 c6 c7 (reachL n es fr) (reachL n es fr) w33 i6 i7 (by omega) (by omega)
            rw [show eqI (reachL n es fr) (reachL n es fr) = true by unfold eqI; simp] at hc
            go_wp2_with fail
            refine hc.mono ?_
            rintro e w34 ⟨rfl, q9, hw9⟩
            have hb : Below w33.heap.size w33 w34 := by rw [hw9]; exact drew_below _ _
            replace HBz : Hid (Below W.heap.size W w34) := HBz.out.trans (hb.mono HBz.out.size)
            clear hc hw9 hb hll i6 i7
            go_wp2
            go_ret
            exact ⟨rfl, HBz.out⟩
      · have hx3 : (M : Int) = 0 := by omega
        have hx4 : ¬ (0 : Int) < (M : Int) := by omega
        clear hx2
        have HS : Hid (St W V1 wr ga M gc ms []) := ⟨hI.out.below, Hold.nil _, hI.out.own⟩
        have HLn : Hid (ms.length = M) := hI.out.len
        clear hI
        go_wp2_with fail
        have hc := lentE ea ec es wr (HE.out.below HS.out.below (Nat.le_refl _)) (by omega) HEn.out
        refine hc.mono ?_
        rintro e w11 ⟨gl, cl, rfl, hL, hb⟩
        replace HS : Hid (St W V1 w11 ga M gc ms []) := HS.out.on hb
        clear hc hb
        have hc := Longest_top p n (some ⟨gl, 0, none⟩) cl es w11 (HS.out.gre hL HErr.out hn HX.out hl)
        clear hL
        go_wp2_with fail
        refine hc.mono ?_
        rintro e w12 ⟨v12, rfl, ⟨a12, r12, rfl, o1, o2⟩, hb⟩
        replace HS : Hid (St W V1 w12 ga M gc ms [(r12, rdL n es), (a12, lvL n es)]) := ((HS.out.on hb).add o1).add o2
        clear hc o1 o2
        clear hb
        have hc := long_m (gc := gc) HA HLn.out (HS.out.grm HA HLn.out HErr.out hn HX.out)
        go_wp2_with fail
        refine hc.mono ?_
        rintro e w13 ⟨v13, rfl, ⟨a13, r13, rfl, o1, o2⟩, hb⟩
        replace HS : Hid (St W V1 w13 ga M gc ms [(r13, rdL n es), (a13, lvL n es), (r12, rdL n es), (a12, lvL n es)]) := ((HS.out.on hb).add o1).add o2
        clear hc o1 o2
        clear hb
        go_wp2_with fail
        have hc := lentE ea ec es w13 (HE.out.below HS.out.below (Nat.le_refl _)) (by omega) HEn.out
        refine hc.mono ?_
        rintro e w14 ⟨gl, cl, rfl, hL, hb⟩
        replace HS : Hid (St W V1 w14 ga M gc ms [(r13, rdL n es), (a13, lvL n es), (r12, rdL n es), (a12, lvL n es)]) := HS.out.on hb
        clear hc hb
        have hc := Order_top p n (some ⟨gl, 0, none⟩) cl es w14 (HS.out.gre hL HErr.out hn HX.out hl) (((HErr.out.1 14 (by omega)).1).below HS.out.below (Nat.le_refl _))
        clear hL
        go_wp2_with fail
        refine hc.mono ?_
        rintro e w15 ⟨v15, rfl, ⟨a15, rfl, o1⟩, hb⟩
        replace HS : Hid (St W V1 w15 ga M gc ms [(a15, odL n es), (r13, rdL n es), (a13, lvL n es), (r12, rdL n es), (a12, lvL n es)]) := (HS.out.on hb).add o1
        clear hc o1
        clear hb
        have hc := order_m (gc := gc) HA HLn.out (HS.out.grm HA HLn.out HErr.out hn HX.out) (((HErr.out.1 14 (by omega)).1).below HS.out.below (Nat.le_refl _))
        go_wp2_with fail
        refine hc.mono ?_
        rintro e w16 ⟨v16, rfl, ⟨a16, rfl, o1⟩, hb⟩
        replace HS : Hid (St W V1 w16 ga M gc ms [(a16, odL n es), (a15, odL n es), (r13, rdL n es), (a13, lvL n es), (r12, rdL n es), (a12, lvL n es)]) := (HS.out.on hb).add o1
        clear hc o1
        clear hb
        go_wp2_with fail
        have hc := lentE ea ec es w16 (HE.out.below HS.out.below (Nat.le_refl _)) (by omega) HEn.out
        refine hc.mono ?_
        rintro e w17 ⟨gl, cl, rfl, hL, hb⟩
        replace HS : Hid (St W V1 w17 ga M gc ms [(a16, odL n es), (a15, odL n es), (r13, rdL n es), (a13, lvL n es), (r12, rdL n es), (a12, lvL n es)]) := HS.out.on hb
        clear hc hb
        have hc := Reach_top p n (some ⟨gl, 0, none⟩) cl es fa fc fr w17 (HS.out.gre hL HErr.out hn HX.out hl) (IRow.below HF.out HS.out.below (Nat.le_refl _)) (by omega) HF64.out
        clear hL
        go_wp2_with fail
        refine hc.mono ?_
        rintro e w18 ⟨v18, rfl, ⟨a18, rfl, o1⟩, hb⟩
        replace HS : Hid (St W V1 w18 ga M gc ms [(a18, reachL n es fr), (a16, odL n es), (a15, odL n es), (r13, rdL n es), (a13, lvL n es), (r12, rdL n es), (a12, lvL n es)]) := (HS.out.on hb).add o1
        clear hc o1
        clear hb
        have hc := reach_m (gc := gc) HA HLn.out (HS.out.grm HA HLn.out HErr.out hn HX.out) fa fc fr (IRow.below HF.out HS.out.below (Nat.le_refl _)) (by omega) HF64.out
        go_wp2_with fail
        refine hc.mono ?_
        rintro e w19 ⟨v19, rfl, ⟨a19, rfl, o1⟩, hb⟩
        replace HS : Hid (St W V1 w19 ga M gc ms [(a19, reachL n es fr), (a18, reachL n es fr), (a16, odL n es), (a15, odL n es), (r13, rdL n es), (a13, lvL n es), (r12, rdL n es), (a12, lvL n es)]) := (HS.out.on hb).add o1
        clear hc o1
        clear hb
        go_wp2_with fail
        have hc := lentE ea ec es w19 (HE.out.below HS.out.below (Nat.le_refl _)) (by omega) HEn.out
        refine hc.mono ?_
        rintro e w20 ⟨gl, cl, rfl, hL, hb⟩
        replace HS : Hid (St W V1 w20 ga M gc ms [(a19, reachL n es fr), (a18, reachL n es fr), (a16, odL n es), (a15, odL n es), (r13, rdL n es), (a13, lvL n es), (r12, rdL n es), (a12, lvL n es)]) := HS.out.on hb
        clear hc hb
        have hc := Parts_top p n (some ⟨gl, 0, none⟩) cl es w20 (HS.out.gre hL HErr.out hn HX.out hl)
        clear hL
        go_wp2_with fail
        refine hc.mono ?_
        rintro e w21 ⟨v21, rfl, ⟨a21, Vs21, rfl, o1⟩, hb⟩
        replace HS : Hid (St W V1 w21 ga M gc ms [(a19, reachL n es fr), (a18, reachL n es fr), (a16, odL n es), (a15, odL n es), (r13, rdL n es), (a13, lvL n es), (r12, rdL n es), (a12, lvL n es)]) := HS.out.on hb
        have HP21 : Hid (Pts w21 w20.heap.size a21 (ptL n es) Vs21) := o1
        clear hc o1
        clear hb
        have hc := parts_m (gc := gc) HA HLn.out (HS.out.grm HA HLn.out HErr.out hn HX.out)
        go_wp2_with fail
        refine hc.mono ?_
        rintro e w22 ⟨v22, rfl, ⟨a22, Vs22, rfl, o1⟩, hb⟩
        replace HS : Hid (St W V1 w22 ga M gc ms [(a19, reachL n es fr), (a18, reachL n es fr), (a16, odL n es), (a15, odL n es), (r13, rdL n es), (a13, lvL n es), (r12, rdL n es), (a12, lvL n es)]) := HS.out.on hb
        have HP22 : Hid (Pts w22 w21.heap.size a22 (ptL n es) Vs22) := o1
        clear hc o1
        replace HP21 : Hid (Pts w22 w20.heap.size a21 (ptL n es) Vs21) := HP21.out.below hb
        clear hb
        go_wp2_with fail
        have hne_long : (((mayE n es : Nat) : Int) != ((mayE n es : Nat) : Int)) = false := by simp
        have hne_order : (((odC n es : Nat) : Int) != ((odC n es : Nat) : Int)) = false := by simp
        have hne_reach : (((reachC n es fr : Nat) : Int) != ((reachC n es fr : Nat) : Int)) = false := by simp
        have hne_parts : (((mayE n es : Nat) : Int) != ((mayE n es : Nat) : Int)) = false := by simp
        have hc := kind_e p (mayE n es) w22 (HErr.out.below HS.out.below (Nat.le_refl _)) (by have := mayE_le n es; omega)
        refine hc.mono ?_
        rintro e w23 ⟨rfl, hb⟩
        replace HS : Hid (St W V1 w23 ga M gc ms [(a19, reachL n es fr), (a18, reachL n es fr), (a16, odL n es), (a15, odL n es), (r13, rdL n es), (a13, lvL n es), (r12, rdL n es), (a12, lvL n es)]) := HS.out.on hb
        replace HP21 : Hid (Pts w23 w20.heap.size a21 (ptL n es) Vs21) := HP21.out.below hb
        replace HP22 : Hid (Pts w23 w21.heap.size a22 (ptL n es) Vs22) := HP22.out.below hb
        clear hc hb
        have hc := kind_e p (mayE n es) w23 (HErr.out.below HS.out.below (Nat.le_refl _)) (by have := mayE_le n es; omega)
        go_wp2_with fail
        refine hc.mono ?_
        rintro e w24 ⟨rfl, hb⟩
        replace HS : Hid (St W V1 w24 ga M gc ms [(a19, reachL n es fr), (a18, reachL n es fr), (a16, odL n es), (a15, odL n es), (r13, rdL n es), (a13, lvL n es), (r12, rdL n es), (a12, lvL n es)]) := HS.out.on hb
        replace HP21 : Hid (Pts w24 w20.heap.size a21 (ptL n es) Vs21) := HP21.out.below hb
        replace HP22 : Hid (Pts w24 w21.heap.size a22 (ptL n es) Vs22) := HP22.out.below hb
        clear hc hb
        have hc := kind_e p (odC n es) w24 (HErr.out.below HS.out.below (Nat.le_refl _)) (odC_le n es)
        go_wp2_with fail
        refine hc.mono ?_
        rintro e w25 ⟨rfl, hb⟩
        replace HS : Hid (St W V1 w25 ga M gc ms [(a19, reachL n es fr), (a18, reachL n es fr), (a16, odL n es), (a15, odL n es), (r13, rdL n es), (a13, lvL n es), (r12, rdL n es), (a12, lvL n es)]) := HS.out.on hb
        replace HP21 : Hid (Pts w25 w20.heap.size a21 (ptL n es) Vs21) := HP21.out.below hb
        replace HP22 : Hid (Pts w25 w21.heap.size a22 (ptL n es) Vs22) := HP22.out.below hb
        clear hc hb
        have hc := kind_e p (odC n es) w25 (HErr.out.below HS.out.below (Nat.le_refl _)) (odC_le n es)
        go_wp2_with fail
        refine hc.mono ?_
        rintro e w26 ⟨rfl, hb⟩
        replace HS : Hid (St W V1 w26 ga M gc ms [(a19, reachL n es fr), (a18, reachL n es fr), (a16, odL n es), (a15, odL n es), (r13, rdL n es), (a13, lvL n es), (r12, rdL n es), (a12, lvL n es)]) := HS.out.on hb
        replace HP21 : Hid (Pts w26 w20.heap.size a21 (ptL n es) Vs21) := HP21.out.below hb
        replace HP22 : Hid (Pts w26 w21.heap.size a22 (ptL n es) Vs22) := HP22.out.below hb
        clear hc hb
        have hc := kind_e p (reachC n es fr) w26 (HErr.out.below HS.out.below (Nat.le_refl _)) (by have := reachC_le n es fr; omega)
        go_wp2_with fail
        refine hc.mono ?_
        rintro e w27 ⟨rfl, hb⟩
        replace HS : Hid (St W V1 w27 ga M gc ms [(a19, reachL n es fr), (a18, reachL n es fr), (a16, odL n es), (a15, odL n es), (r13, rdL n es), (a13, lvL n es), (r12, rdL n es), (a12, lvL n es)]) := HS.out.on hb
        replace HP21 : Hid (Pts w27 w20.heap.size a21 (ptL n es) Vs21) := HP21.out.below hb
        replace HP22 : Hid (Pts w27 w21.heap.size a22 (ptL n es) Vs22) := HP22.out.below hb
        clear hc hb
        have hc := kind_e p (reachC n es fr) w27 (HErr.out.below HS.out.below (Nat.le_refl _)) (by have := reachC_le n es fr; omega)
        go_wp2_with fail
        refine hc.mono ?_
        rintro e w28 ⟨rfl, hb⟩
        replace HS : Hid (St W V1 w28 ga M gc ms [(a19, reachL n es fr), (a18, reachL n es fr), (a16, odL n es), (a15, odL n es), (r13, rdL n es), (a13, lvL n es), (r12, rdL n es), (a12, lvL n es)]) := HS.out.on hb
        replace HP21 : Hid (Pts w28 w20.heap.size a21 (ptL n es) Vs21) := HP21.out.below hb
        replace HP22 : Hid (Pts w28 w21.heap.size a22 (ptL n es) Vs22) := HP22.out.below hb
        clear hc hb
        have hc := kind_e p (mayE n es) w28 (HErr.out.below HS.out.below (Nat.le_refl _)) (by have := mayE_le n es; omega)
        go_wp2_with fail
        refine hc.mono ?_
        rintro e w29 ⟨rfl, hb⟩
        replace HS : Hid (St W V1 w29 ga M gc ms [(a19, reachL n es fr), (a18, reachL n es fr), (a16, odL n es), (a15, odL n es), (r13, rdL n es), (a13, lvL n es), (r12, rdL n es), (a12, lvL n es)]) := HS.out.on hb
        replace HP21 : Hid (Pts w29 w20.heap.size a21 (ptL n es) Vs21) := HP21.out.below hb
        replace HP22 : Hid (Pts w29 w21.heap.size a22 (ptL n es) Vs22) := HP22.out.below hb
        clear hc hb
        have hc := kind_e p (mayE n es) w29 (HErr.out.below HS.out.below (Nat.le_refl _)) (by have := mayE_le n es; omega)
        go_wp2_with fail
        refine hc.mono ?_
        rintro e w30 ⟨rfl, hb⟩
        replace HS : Hid (St W V1 w30 ga M gc ms [(a19, reachL n es fr), (a18, reachL n es fr), (a16, odL n es), (a15, odL n es), (r13, rdL n es), (a13, lvL n es), (r12, rdL n es), (a12, lvL n es)]) := HS.out.on hb
        replace HP21 : Hid (Pts w30 w20.heap.size a21 (ptL n es) Vs21) := HP21.out.below hb
        replace HP22 : Hid (Pts w30 w21.heap.size a22 (ptL n es) Vs22) := HP22.out.below hb
        clear hc hb
        obtain ⟨pa1, pc1, rfl, hcl1⟩ := own_formG HP21.out.outer
        obtain ⟨pa2, pc2, rfl, hcl2⟩ := own_formG HP22.out.outer
        have HC1 : Hid (_) := hcl1
        have HC2 : Hid (_) := hcl2
        obtain ⟨hpl, hpe⟩ := ptL_len n es
        have HPE : Hid (∀ q ∈ ptL n es, q.length ≤ 256) := hpe
        have hlen0 : (((ptL n es).length : Int) != ((ptL n es).length : Int)) = false := by simp
        obtain ⟨wk, hwk⟩ : ∃ x, x = w30 := ⟨w30, rfl⟩
        clear hcl1 hcl2 hpe
        go_wp2
        go_loopw [31] (fun s wr => ∃ (j q : Nat), j ≤ (ptL n es).length ∧ s = .int .i64 (j : Int) ∧ wr = w30.drewN q) (fun s _ => (ptL n es).length - (intOf s).toNat)
        case atStart => exact ⟨0, 0, by omega, rfl, rfl⟩
        case round =>
          obtain ⟨j, q, hj, rfl, rfl⟩ := hrel
          by_cases hlj : j < (ptL n es).length
          · obtain ⟨pq, hpq⟩ : ∃ pq, (ptL n es)[j]? = some pq := ⟨(ptL n es)[j], List.getElem?_eq_getElem hlj⟩
            obtain ⟨u1, hu1, hr1⟩ := HP21.out.row j pq hpq
            obtain ⟨u2, hu2, hr2⟩ := HP22.out.row j pq hpq
            obtain ⟨pg1, rfl, d1⟩ := HC1.out j u1 hu1
            obtain ⟨pg2, rfl, d2⟩ := HC2.out j u2 hu2
            rw [← ints_length] at hr1 hr2
            obtain ⟨ra1, rc1, rfl, i1⟩ := own_form hr1
            obtain ⟨ra2, rc2, rfl, i2⟩ := own_form hr2
            have hql := HPE.out pq (List.mem_of_getElem? hpq)
            have his := fun X (h1 : IRow X ra1 (ints pq)) (h2 : IRow X ra2 (ints pq)) => ints_any ra1 ra2 rc1 rc2 (ints pq) (ints pq) X h1 h2 (by rw [ints_length]; omega) (by rw [ints_length]; omega)
            rw [show eqI (ints pq) (ints pq) = true by unfold eqI; simp] at his
            have hlj2 : (j : Int) < ((ptL n es).length : Int) := by omega
            clear hpq hu1 hu2 hr1 hr2
            go_wp2
            go_quiet ((go_at_call 14; refine (his _ ?_ ?_).mono ?_; exact i1; exact i2; rintro _ _ ⟨h1, m, hm⟩; exact ⟨h1, _, by rw [hm, World.drewN_drewN, Nat.add_assoc]⟩))
            go_wp2
            go_roundw
            case rel => exact ⟨j + 1, _, by omega, by go_num, rfl⟩
            case measure => simp [intOf]; omega
          · have hlj2 : ¬ (j : Int) < ((ptL n es).length : Int) := by omega
            have HSq : Hid (St W V1 (w30.drewN q) ga M gc ms [(a19, reachL n es fr), (a18, reachL n es fr), (a16, odL n es), (a15, odL n es), (r13, rdL n es), (a13, lvL n es), (r12, rdL n es), (a12, lvL n es)]) := HS.out.on (drew_below _ _)
            obtain ⟨wz, hwz⟩ : ∃ wz, wz = w30.drewN q := ⟨_, rfl⟩
            rw [← hwz] at HSq ⊢
            clear HS HC1 HC2 HPE hwk hwz HP21 HP22
            obtain ⟨b0, c0, hf0, i0⟩ := HSq.out.hold.at (v := a12) (L := lvL n es) (by simp)
            obtain ⟨b1, c1, hf1, i1⟩ := HSq.out.hold.at (v := a13) (L := lvL n es) (by simp)
            obtain ⟨b2, c2, hf2, i2⟩ := HSq.out.hold.at (v := r12) (L := rdL n es) (by simp)
            obtain ⟨b3, c3, hf3, i3⟩ := HSq.out.hold.at (v := r13) (L := rdL n es) (by simp)
            obtain ⟨b4, c4, hf4, i4⟩ := HSq.out.hold.at (v := a15) (L := odL n es) (by simp)
            obtain ⟨b5, c5, hf5, i5⟩ := HSq.out.hold.at (v := a16) (L := odL n es) (by simp)
            obtain ⟨b6, c6, hf6, i6⟩ := HSq.out.hold.at (v := a18) (L := reachL n es fr) (by simp)
            obtain ⟨b7, c7, hf7, i7⟩ := HSq.out.hold.at (v := a19) (L := reachL n es fr) (by simp)
            have HBz : Hid (Below W.heap.size W wz) := HSq.out.below
            clear HSq
            subst hf0 hf1 hf2 hf3 hf4 hf5 hf6 hf7
            have hll := lvL_len n es
            have hc := ints_any b0 b1 c0 c1 (lvL n es) (lvL n es) wz i0 i1 (by omega) (by omega)
            rw [show eqI (lvL n es) (lvL n es) = true by unfold eqI; simp] at hc
            go_wp2_with fail
            refine hc.mono ?_
            rintro e w31 ⟨rfl, q9, hw9⟩
            have hb : Below wz.heap.size wz w31 := by rw [hw9]; exact drew_below _ _
            replace HBz : Hid (Below W.heap.size W w31) := HBz.out.trans (hb.mono HBz.out.size)
            replace i2 := IRow.below i2 hb (Nat.le_refl _)
            replace i3 := IRow.below i3 hb (Nat.le_refl _)
            replace i4 := IRow.below i4 hb (Nat.le_refl _)
            replace i5 := IRow.below i5 hb (Nat.le_refl _)
            replace i6 := IRow.below i6 hb (Nat.le_refl _)
            replace i7 := IRow.below i7 hb (Nat.le_refl _)
            clear hc hw9 hb hll i0 i1
            have hll := rdL_len n es
            have hc := ints_any b2 b3 c2 c3 (rdL n es) (rdL n es) w31 i2 i3 (by omega) (by omega)
            rw [show eqI (rdL n es) (rdL n es) = true by unfold eqI; simp] at hc
            go_wp2_with fail
            refine hc.mono ?_
            rintro e w32 ⟨rfl, q9, hw9⟩
            have hb : Below w31.heap.size w31 w32 := by rw [hw9]; exact drew_below _ _
            replace HBz : Hid (Below W.heap.size W w32) := HBz.out.trans (hb.mono HBz.out.size)
            replace i4 := IRow.below i4 hb (Nat.le_refl _)
            replace i5 := IRow.below i5 hb (Nat.le_refl _)
            replace i6 := IRow.below i6 hb (Nat.le_refl _)
            replace i7 := IRow.below i7 hb (Nat.le_refl _)
            clear hc hw9 hb hll i2 i3
            have hll := odL_len n es
            have hc := ints_any b4 b5 c4 c5 (odL n es) (odL n es) w32 i4 i5 (by omega) (by omega)
            rw [show eqI (odL n es) (odL n es) = true by unfold eqI; simp] at hc
            go_wp2_with fail
            refine hc.mono ?_
            rintro e w33 ⟨rfl, q9, hw9⟩
            have hb : Below w32.heap.size w32 w33 := by rw [hw9]; exact drew_below _ _
            replace HBz : Hid (Below W.heap.size W w33) := HBz.out.trans (hb.mono HBz.out.size)
            replace i6 := IRow.below i6 hb (Nat.le_refl _)
            replace i7 := IRow.below i7 hb (Nat.le_refl _)
            clear hc hw9 hb hll i4 i5
            have hll := reachL_len n es fr
            have hc := ints_any b6 b7 c6 c7 (reachL n es fr) (reachL n es fr) w33 i6 i7 (by omega) (by omega)
            rw [show eqI (reachL n es fr) (reachL n es fr) = true by unfold eqI; simp] at hc
            go_wp2_with fail
            refine hc.mono ?_
            rintro e w34 ⟨rfl, q9, hw9⟩
            have hb : Below w33.heap.size w33 w34 := by rw [hw9]; exact drew_below _ _
            replace HBz : Hid (Below W.heap.size W w34) := HBz.out.trans (hb.mono HBz.out.size)
            clear hc hw9 hb hll i6 i7
            go_wp2
            go_ret
            exact ⟨rfl, HBz.out⟩

end Go.Proofs.YtgehiohieehgpaaDoor.GraphMixedW
