/-
  The walk of SetsAlgebra: it answers true for every list of sets and every two sets, and writes nothing that was there.
-/
import Derived.Test.YtkjjdmdlkdoedaaDoorSetsAlg2
import Derived.Test.YtkjjdmdlkdoedaaDoorRows
namespace Go.Proofs.YtkjjdmdlkdoedaaDoor.setsAlgebra
open Go.RowKit Go.Proofs.YtkjjdmdlkdoedaaDoor.SetsMath Go.Proofs.YtkjjdmdlkdoedaaDoor.SetsOne Go.Proofs.YtkjjdmdlkdoedaaDoor.SetsMany Go.Proofs.YtkjjdmdlkdoedaaDoor.SetsAlg

theorem infoS : (Tryd.prog.info? 24).map (fun i => (i.zero, i.size, i.bytes)) = some (some (.int .u64 0), 1, 8) := by kernel_rfl

theorem lent_row {w2 : World} {base : Nat} {e : TypeId} {g n c : Nat} {zs : List Int} {last : Int} (hz : n ≤ zs.length)
    (h : w2.ownsRow base e 1 (.slice (some ⟨g, 0, none⟩) (n + 1) c) (n + 1) ((zs.take n).map (Value.int .u64) ++ [.int .u64 last])) :
    Row .u64 w2 (some ⟨g, 0, none⟩) n zs ∧ w2.cell? ⟨g, n, none⟩ = some (.int .u64 last) := by
  have hl : ((zs.take n).map (Value.int .u64)).length = n := by simp; omega
  refine ⟨fun i hi => ⟨g, 0, rfl, ?_⟩, ?_⟩
  · rw [Nat.zero_add, h.cellAt i (by omega), List.getElem?_append_left (by omega), List.getElem?_map, List.getElem?_take, if_pos hi, List.getElem?_eq_getElem (by omega)]
    simp [List.getD_eq_getElem?_getD, List.getElem?_eq_getElem (show i < zs.length by omega)]
  · rw [h.cellAt n (by omega), List.getElem?_append_right (by omega), hl]
    simp

set_option maxHeartbeats 4000000 in
theorem walk (a : Option Addr) (n ca : Nat) (zs : List Int) (s t : Int) (w : World) (ha : Row .u64 w a n zs) (hz : n ≤ zs.length) (hm : n * 8 ≤ 140737488351232) (hnil : a = none → n = 0 ∧ ca = 0)
    (hzs : ∀ x ∈ zs, IsSet x) (hs : IsSet s) (ht : IsSet t) (hT : Tab w) :
    Calls Tryd.prog 3 #[.slice a n ca, .int .u64 s, .int .u64 t] w fun e w' => e = .returned (.bool true) ∧ Below w.heap.size w w' := by
  obtain ⟨i0, hi, hz0, hz1, hz2⟩ := info_parts infoS
  cases a with
  | none =>
    obtain ⟨rfl, rfl⟩ := hnil rfl
    have h77 : ∀ j u, [Value.int .u64 77][j]? = some u → ((w.alloc (.cells #[] 24)).alloc (.cells #[.int .u64 77] 24)).cell? ((⟨w.heap.size + 1, 0, none⟩ : Addr).add j) = some u := by
      intro j u hj
      have h := cell_one_new (w.alloc (.cells #[] 24)) (.int .u64 77) 24 j u hj
      rwa [show (w.alloc (.cells #[] 24)).heap.size = w.heap.size + 1 from by simp] at h
    go_enter Tryd.func3, Tryd.ntmps3
    go_wp2_with (first
      | (at_builtin; refine wpList_append_own_none rfl (.tmp 12) (.tmp 13) 22 rfl w.heap.size 24 i0 1 Tryd.underlying22 hi _ _ _ rfl (World.ownsRow_made w #[] 0 (Nat.le_refl _) (by unfold maxLen; omega) rfl) rfl ?_)
      | (at_builtin; refine wpList_append_own _ rfl (.tmp 14) (.tmp 15) 22 rfl w.heap.size 24 i0 (.int .u64 0) 1 8 Tryd.underlying22 hi hz0 hz1 hz2 rfl (by decide) _ _ _ rfl ((World.ownsRow_made w #[] 0 (Nat.le_refl _) (by unfold maxLen; omega) rfl).alloc _) ⟨_, 0, none⟩ 1 1 [.int .u64 77] rfl rfl h77 (by simp [Value.oneCell']) (by unfold maxLen; omega) (by omega) (by first | (simp; done) | (simp; omega)) ?_; intro v2 w2 hown2 hgrow2 _; obtain ⟨g, c, rfl⟩ := ownsRow_succ hown2; have hcap := own_cap hown2))
    obtain ⟨hr1, hl1⟩ := lent_row (zs := zs) (n := 0) (by omega) hown2
    have B2 : Below w.heap.size w w2 := ((((Below.refl _ _).alloc (Nat.le_refl _) _).alloc (by simp) _).grown hgrow2 (by first | (simp; done) | (simp; omega)) (by intro k hk; cases hk; exact Nat.le_refl _))
    have hr0 : Row .u64 w2 none 0 zs := ha.below B2
    have hT2 : Tab w2 := hT.below B2
    have hs2 := B2.size
    clear hown2 hgrow2
    refine (rnumbers_any _ _ hs).mono ?_
    rintro e w3 ⟨v, rfl, hown, hb3⟩
    obtain ⟨av, cv, rfl, hrow3, hcv, _⟩ := own_row hown
    have B3 : Below w.heap.size w w3 := B2.trans (hb3.mono hs2)
    have hr0 := hr0.below hb3
    have hr1 := hr1.below hb3
    have hl1 : w3.cell? ⟨g, 0, none⟩ = some (.int .u64 77) := by rw [hb3.cell (cell_lt hl1)]; exact hl1
    have hT3 : Tab w3 := hT2.below hb3
    have hle := numsI_le s 64
    clear hown hb3 hT2 B2 hs2
    have hlen_any := fun (w : World) => len_any s w hs
    have hlow := fun (h : ¬ s = 0) => low_facts hs h
    have hemp : s = 0 → numsI s 64 = [] := fun h => by rw [h]; exact numsI_empty
    generalize hns : numsI s 64 = ns at *
    clear hns
    have HL : Hid (_) := hlen_any
    have HW : Hid (_) := hlow
    have HE : Hid (_) := hemp
    clear hlen_any hlow hemp
    go_wp2_with fail
    refine (union_any _ _ _ _ _ hr1 hz (by omega) hzs).mono ?_
    rintro e w' ⟨rfl, rfl⟩
    go_wp2_with fail
    refine (runion_any _ _ _ _ _ hr0 hz (by omega) hzs).mono ?_
    rintro e w4 ⟨rfl, hb4⟩
    have B4 : Below w.heap.size w w4 := B3.trans (hb4.mono B3.size)
    have hr0 := hr0.below hb4
    have hr1 := hr1.below hb4
    have hrow3 := hrow3.below hb4
    have hl1 : w4.cell? ⟨g, 0, none⟩ = some (.int .u64 77) := by rw [hb4.cell (cell_lt hl1)]; exact hl1
    have hT4 : Tab w4 := hT3.below hb4
    clear hb4 hT3 B3
    go_wp2_with fail
    refine (sets_same _ _ _ _ _ _ _ hr1 hr0 (by omega)).mono ?_
    rintro e w' ⟨rfl, q, rfl⟩
    go_wp2_with fail
    refine (meet_any _ _ _ hs ht).mono ?_
    rintro e w' ⟨rfl, rfl⟩
    go_wp2_with fail
    refine (rmeet_any _ _ _ hs ht).mono ?_
    rintro e w' ⟨rfl, rfl⟩
    go_wp2_with fail
    refine (minus_any _ _ _ hs ht).mono ?_
    rintro e w' ⟨rfl, rfl⟩
    go_wp2_with fail
    refine (rminus_any _ _ _ hs ht).mono ?_
    rintro e w' ⟨rfl, rfl⟩
    go_wp2_with fail
    refine (HL.out _).mono ?_
    rintro e w' ⟨rfl, rfl⟩
    go_wp2_with fail
    by_cases h0 : s = 0
    · obtain rfl := HE.out h0
      subst h0
      refine (least_none _).mono ?_
      rintro e w' ⟨rfl, rfl⟩
      go_wp2_with fail
      refine (within_any _ _ _ hs ht).mono ?_
      rintro e w' ⟨rfl, rfl⟩
      go_wp2_with fail
      refine (rminus_any _ _ _ hs ht).mono ?_
      rintro e w' ⟨rfl, rfl⟩
      by_cases h1 : 0 < t
      · have E : (cmpI 0 t == -1) = true := by unfold cmpI; rw [if_pos h1]; rfl
        go_wp2_with fail
        refine (compare_any _ _ _).mono ?_
        rintro e w' ⟨rfl, rfl⟩
        go_wp2_with fail
        go_ret
        exact ⟨rfl, B4.trans ⟨rfl, rfl, rfl, Nat.le_refl _, fun _ _ => rfl⟩⟩
      · by_cases h2 : t < 0
        · have E : (cmpI 0 t == 1) = true := by unfold cmpI; rw [if_neg h1, if_pos h2]; rfl
          go_wp2_with fail
          refine (compare_any _ _ _).mono ?_
          rintro e w' ⟨rfl, rfl⟩
          go_wp2_with fail
          go_ret
          exact ⟨rfl, B4.trans ⟨rfl, rfl, rfl, Nat.le_refl _, fun _ _ => rfl⟩⟩
        · have E : (cmpI 0 t == 0) = true := by unfold cmpI; rw [if_neg h1, if_neg h2]; rfl
          go_wp2_with fail
          refine (compare_any _ _ _).mono ?_
          rintro e w' ⟨rfl, rfl⟩
          go_wp2_with fail
          go_ret
          exact ⟨rfl, B4.trans ⟨rfl, rfl, rfl, Nat.le_refl _, fun _ _ => rfl⟩⟩
    · obtain ⟨c0, hc0, hc64, _, rfl⟩ := HW.out h0
      have Hc0 : Hid (_) := hc0
      clear hc0
      obtain ⟨bb, oo, rfl, hcell0⟩ := hrow3 0 (by simp)
      simp only [List.getD_cons_zero, Nat.add_zero] at hcell0
      have hlpos : (0 : Int) < ((((c0 : Int) :: numsI (withoutI s c0) 64).length : Nat) : Int) := by simp
      have hls : Calls Tryd.prog 17 #[.int .u64 s] (w4.drewN q) fun e w' => e = .returned (.tuple #[.int .i64 c0, .bool true]) ∧ w' = w4.drewN q := by
        have := least_some s (w4.drewN q) hs h0 (fun j hj => hT4 j hj)
        rwa [Hc0.out] at this
      refine hls.mono ?_
      clear hls
      rintro e w' ⟨rfl, rfl⟩
      generalize hrest : numsI (withoutI s c0) 64 = nr at *
      clear hrest HL HW HE
      go_wp2_with fail
      refine (within_any _ _ _ hs ht).mono ?_
      rintro e w' ⟨rfl, rfl⟩
      go_wp2_with fail
      refine (rminus_any _ _ _ hs ht).mono ?_
      rintro e w' ⟨rfl, rfl⟩
      by_cases h1 : s < t
      · have E : (cmpI s t == -1) = true := by unfold cmpI; rw [if_pos h1]; rfl
        go_wp2_with fail
        refine (compare_any _ _ _).mono ?_
        rintro e w' ⟨rfl, rfl⟩
        go_wp2_with fail
        go_ret
        exact ⟨rfl, B4.trans ⟨rfl, rfl, rfl, Nat.le_refl _, fun _ _ => rfl⟩⟩
      · by_cases h2 : t < s
        · have E : (cmpI s t == 1) = true := by unfold cmpI; rw [if_neg h1, if_pos h2]; rfl
          go_wp2_with fail
          refine (compare_any _ _ _).mono ?_
          rintro e w' ⟨rfl, rfl⟩
          go_wp2_with fail
          go_ret
          exact ⟨rfl, B4.trans ⟨rfl, rfl, rfl, Nat.le_refl _, fun _ _ => rfl⟩⟩
        · have E : (cmpI s t == 0) = true := by unfold cmpI; rw [if_neg h1, if_neg h2]; rfl
          go_wp2_with fail
          refine (compare_any _ _ _).mono ?_
          rintro e w' ⟨rfl, rfl⟩
          go_wp2_with fail
          go_ret
          exact ⟨rfl, B4.trans ⟨rfl, rfl, rfl, Nat.le_refl _, fun _ _ => rfl⟩⟩
  | some x =>
    have hnews : ∀ j u, ((zs.take n).map (Value.int .u64))[j]? = some u → (w.alloc (.cells #[] 24)).cell? (x.add j) = some u := by
      intro j u hj
      rw [List.getElem?_map, List.getElem?_take] at hj
      by_cases hjn : j < n
      · obtain ⟨b, off, hx, hc⟩ := ha j hjn
        obtain rfl : x = ⟨b, off, none⟩ := by simpa using hx
        rw [if_pos hjn, List.getElem?_eq_getElem (by omega)] at hj
        simp only [Option.map_some, Option.some.injEq] at hj
        subst hj
        rw [List.getD_eq_getElem?_getD, List.getElem?_eq_getElem (by omega)] at hc
        rw [Addr.add_lit, World.cell?_alloc_past _ _ _ (cell_lt hc)]; simpa using hc
      · rw [if_neg hjn] at hj
        simp at hj
    have hone : ∀ u ∈ (zs.take n).map (Value.int .u64), u.oneCell' = true := by
      intro u hu
      obtain ⟨y, _, rfl⟩ := List.mem_map.1 hu
      rfl
    have hlen : ((zs.take n).map (Value.int .u64)).length = n * 1 := by simp; omega
    go_enter Tryd.func3, Tryd.ntmps3
    go_wp2_with (first
      | (at_builtin; refine wpList_append_own _ rfl (.tmp 12) (.tmp 13) 22 rfl w.heap.size 24 i0 (.int .u64 0) 1 8 Tryd.underlying22 hi hz0 hz1 hz2 rfl (by decide) _ _ _ rfl (World.ownsRow_made w #[] 0 (Nat.le_refl _) (by unfold maxLen; omega) rfl) x n ca ((zs.take n).map (Value.int .u64)) rfl hlen hnews hone (by unfold maxLen; omega) (by omega) (by simp) ?_; intro v1 w1 hown1 hgrow1 _; simp only [Nat.zero_add, List.nil_append] at hown1)
      | (at_builtin; refine wpList_append_own _ rfl (.tmp 14) (.tmp 15) 22 rfl w.heap.size 24 i0 (.int .u64 0) 1 8 Tryd.underlying22 hi hz0 hz1 hz2 rfl (by decide) _ _ _ rfl (hown1.alloc _) ⟨_, 0, none⟩ 1 1 [.int .u64 77] rfl rfl (cell_one_new _ _ _) (by simp [Value.oneCell']) (by unfold maxLen; omega) (by omega) (by have := hgrow1.size; simp at this ⊢; omega) ?_; intro v2 w2 hown2 hgrow2 _; obtain ⟨g, c, rfl⟩ := ownsRow_succ hown2; have hcap := own_cap hown2))
    obtain ⟨hr1, hl1⟩ := lent_row (zs := zs) (n := n) (by omega) hown2
    have hs1 := hgrow1.size
    have B2 : Below w.heap.size w w2 := (((((Below.refl _ _).alloc (Nat.le_refl _) _).grown hgrow1 (by simp) (by intro k hk; cases hk; exact Nat.le_refl _)).alloc (by simp at hs1; omega) _).grown hgrow2 (by simp at hs1 ⊢; omega) (fun k hk => (hown1.lt k hk).1))
    have hr0 : Row .u64 w2 (some x) n zs := ha.below B2
    have hT2 : Tab w2 := hT.below B2
    have hs2 := B2.size
    clear hown2 hgrow2 hgrow1 hown1 hs1 hnews hone hlen
    refine (rnumbers_any _ _ hs).mono ?_
    rintro e w3 ⟨v, rfl, hown, hb3⟩
    obtain ⟨av, cv, rfl, hrow3, hcv, _⟩ := own_row hown
    have B3 : Below w.heap.size w w3 := B2.trans (hb3.mono hs2)
    have hr0 := hr0.below hb3
    have hr1 := hr1.below hb3
    have hl1 : w3.cell? ⟨g, n, none⟩ = some (.int .u64 77) := by rw [hb3.cell (cell_lt hl1)]; exact hl1
    have hT3 : Tab w3 := hT2.below hb3
    have hle := numsI_le s 64
    clear hown hb3 hT2 B2 hs2
    have hlen_any := fun (w : World) => len_any s w hs
    have hlow := fun (h : ¬ s = 0) => low_facts hs h
    have hemp : s = 0 → numsI s 64 = [] := fun h => by rw [h]; exact numsI_empty
    generalize hns : numsI s 64 = ns at *
    clear hns
    have HL : Hid (_) := hlen_any
    have HW : Hid (_) := hlow
    have HE : Hid (_) := hemp
    clear hlen_any hlow hemp
    go_wp2_with fail
    refine (union_any _ _ _ _ _ hr1 hz (by omega) hzs).mono ?_
    rintro e w' ⟨rfl, rfl⟩
    go_wp2_with fail
    refine (runion_any _ _ _ _ _ hr0 hz (by omega) hzs).mono ?_
    rintro e w4 ⟨rfl, hb4⟩
    have B4 : Below w.heap.size w w4 := B3.trans (hb4.mono B3.size)
    have hr0 := hr0.below hb4
    have hr1 := hr1.below hb4
    have hrow3 := hrow3.below hb4
    have hl1 : w4.cell? ⟨g, n, none⟩ = some (.int .u64 77) := by rw [hb4.cell (cell_lt hl1)]; exact hl1
    have hT4 : Tab w4 := hT3.below hb4
    clear hb4 hT3 B3
    go_wp2_with fail
    refine (sets_same _ _ _ _ _ _ _ hr1 hr0 (by omega)).mono ?_
    rintro e w' ⟨rfl, q, rfl⟩
    go_wp2_with fail
    refine (meet_any _ _ _ hs ht).mono ?_
    rintro e w' ⟨rfl, rfl⟩
    go_wp2_with fail
    refine (rmeet_any _ _ _ hs ht).mono ?_
    rintro e w' ⟨rfl, rfl⟩
    go_wp2_with fail
    refine (minus_any _ _ _ hs ht).mono ?_
    rintro e w' ⟨rfl, rfl⟩
    go_wp2_with fail
    refine (rminus_any _ _ _ hs ht).mono ?_
    rintro e w' ⟨rfl, rfl⟩
    go_wp2_with fail
    refine (HL.out _).mono ?_
    rintro e w' ⟨rfl, rfl⟩
    go_wp2_with fail
    by_cases h0 : s = 0
    · obtain rfl := HE.out h0
      subst h0
      refine (least_none _).mono ?_
      rintro e w' ⟨rfl, rfl⟩
      go_wp2_with fail
      refine (within_any _ _ _ hs ht).mono ?_
      rintro e w' ⟨rfl, rfl⟩
      go_wp2_with fail
      refine (rminus_any _ _ _ hs ht).mono ?_
      rintro e w' ⟨rfl, rfl⟩
      by_cases h1 : 0 < t
      · have E : (cmpI 0 t == -1) = true := by unfold cmpI; rw [if_pos h1]; rfl
        go_wp2_with fail
        refine (compare_any _ _ _).mono ?_
        rintro e w' ⟨rfl, rfl⟩
        go_wp2_with fail
        go_ret
        exact ⟨rfl, B4.trans ⟨rfl, rfl, rfl, Nat.le_refl _, fun _ _ => rfl⟩⟩
      · by_cases h2 : t < 0
        · have E : (cmpI 0 t == 1) = true := by unfold cmpI; rw [if_neg h1, if_pos h2]; rfl
          go_wp2_with fail
          refine (compare_any _ _ _).mono ?_
          rintro e w' ⟨rfl, rfl⟩
          go_wp2_with fail
          go_ret
          exact ⟨rfl, B4.trans ⟨rfl, rfl, rfl, Nat.le_refl _, fun _ _ => rfl⟩⟩
        · have E : (cmpI 0 t == 0) = true := by unfold cmpI; rw [if_neg h1, if_neg h2]; rfl
          go_wp2_with fail
          refine (compare_any _ _ _).mono ?_
          rintro e w' ⟨rfl, rfl⟩
          go_wp2_with fail
          go_ret
          exact ⟨rfl, B4.trans ⟨rfl, rfl, rfl, Nat.le_refl _, fun _ _ => rfl⟩⟩
    · obtain ⟨c0, hc0, hc64, _, rfl⟩ := HW.out h0
      have Hc0 : Hid (_) := hc0
      clear hc0
      obtain ⟨bb, oo, rfl, hcell0⟩ := hrow3 0 (by simp)
      simp only [List.getD_cons_zero, Nat.add_zero] at hcell0
      have hlpos : (0 : Int) < ((((c0 : Int) :: numsI (withoutI s c0) 64).length : Nat) : Int) := by simp
      have hls : Calls Tryd.prog 17 #[.int .u64 s] (w4.drewN q) fun e w' => e = .returned (.tuple #[.int .i64 c0, .bool true]) ∧ w' = w4.drewN q := by
        have := least_some s (w4.drewN q) hs h0 (fun j hj => hT4 j hj)
        rwa [Hc0.out] at this
      refine hls.mono ?_
      clear hls
      rintro e w' ⟨rfl, rfl⟩
      generalize hrest : numsI (withoutI s c0) 64 = nr at *
      clear hrest HL HW HE
      go_wp2_with fail
      refine (within_any _ _ _ hs ht).mono ?_
      rintro e w' ⟨rfl, rfl⟩
      go_wp2_with fail
      refine (rminus_any _ _ _ hs ht).mono ?_
      rintro e w' ⟨rfl, rfl⟩
      by_cases h1 : s < t
      · have E : (cmpI s t == -1) = true := by unfold cmpI; rw [if_pos h1]; rfl
        go_wp2_with fail
        refine (compare_any _ _ _).mono ?_
        rintro e w' ⟨rfl, rfl⟩
        go_wp2_with fail
        go_ret
        exact ⟨rfl, B4.trans ⟨rfl, rfl, rfl, Nat.le_refl _, fun _ _ => rfl⟩⟩
      · by_cases h2 : t < s
        · have E : (cmpI s t == 1) = true := by unfold cmpI; rw [if_neg h1, if_pos h2]; rfl
          go_wp2_with fail
          refine (compare_any _ _ _).mono ?_
          rintro e w' ⟨rfl, rfl⟩
          go_wp2_with fail
          go_ret
          exact ⟨rfl, B4.trans ⟨rfl, rfl, rfl, Nat.le_refl _, fun _ _ => rfl⟩⟩
        · have E : (cmpI s t == 0) = true := by unfold cmpI; rw [if_neg h1, if_neg h2]; rfl
          go_wp2_with fail
          refine (compare_any _ _ _).mono ?_
          rintro e w' ⟨rfl, rfl⟩
          go_wp2_with fail
          go_ret
          exact ⟨rfl, B4.trans ⟨rfl, rfl, rfl, Nat.le_refl _, fun _ _ => rfl⟩⟩

end Go.Proofs.YtkjjdmdlkdoedaaDoor.setsAlgebra
