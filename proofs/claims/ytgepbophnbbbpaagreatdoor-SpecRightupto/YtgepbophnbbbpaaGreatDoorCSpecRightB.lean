/-
  Texts that stand together: SpecRightB.
-/
import Derived.Test.YtgepbophnbbbpaaGreatDoorCagSpecRuleT
import Derived.BigQuiet
namespace Go.Proofs.YtgepbophnbbbpaaGreatDoor.SpecRightW
open Go.Proofs.YtgepbophnbbbpaaGreatDoor.GramLess Go.RowKit Go.Maps Go.WideMaps Go.Proofs.YtgepbophnbbbpaaGreatDoor.GramMath Go.Proofs.YtgepbophnbbbpaaGreatDoor.GramRow Go.Proofs.YtgepbophnbbbpaaGreatDoor.GramOne Go.Proofs.YtgepbophnbbbpaaGreatDoor.GramApart Go.Proofs.YtgepbophnbbbpaaGreatDoor.GramCopy Go.Proofs.YtgepbophnbbbpaaGreatDoor.LineMath Go.Proofs.YtgepbophnbbbpaaGreatDoor.SpecLn Go.Proofs.YtgepbophnbbbpaaGreatDoor.SpecMd Go.Proofs.YtgepbophnbbbpaaGreatDoor.SpecTx Go.Proofs.YtgepbophnbbbpaaGreatDoor.SpecRun Go.Proofs.YtgepbophnbbbpaaGreatDoor.SpecNm Go.Proofs.YtgepbophnbbbpaaGreatDoor.SpecMem
set_option linter.unusedVariables false
set_option linter.unusedSimpArgs false

theorem terms_le : ∀ (l : List Int) (t t' : Nat), termsGo l t = some t' → t ≤ t'
  | [], t, t', h => by cases h; exact Nat.le_refl _
  | x :: r, t, t', h => by
    unfold termsGo at h
    split at h
    · cases h
    · have := terms_le r _ _ h
      split at this <;> omega
theorem rules_le : ∀ (l : List R) (n t n' t' : Nat), rulesGo l n t = some (n', t') → n ≤ n' ∧ t ≤ t'
  | [], n, t, n', t', h => by cases h; exact ⟨Nat.le_refl _, Nat.le_refl _⟩
  | r :: l, n, t, n', t', h => by
    unfold rulesGo at h
    split at h
    · cases h
    · split at h
      · cases h
      · rename_i t2 ht
        have h1 := rules_le l _ _ _ _ h
        have h2 := terms_le _ _ _ ht
        have h3 := h1.1
        refine ⟨?_, by omega⟩
        split at h3 <;> omega
theorem rulesZ_len (ns : List ByteArray) : ∀ (l : List Sd) (ts : List ByteArray) (rs : List R), (rulesZ ns l ts rs).2.length = rs.length + l.length
  | [], ts, rs => rfl
  | s :: l, ts, rs => by
    unfold rulesZ
    rw [rulesZ_len ns l]
    simp
    omega
theorem rise_len (m : Nat) : ∀ (l : List Sd) (a : Nat), l.Pairwise (fun a b => a.at_ < b.at_) → (∀ s ∈ l, a ≤ s.at_ ∧ s.at_ ≤ m) → a ≤ m + 1 → l.length ≤ m + 1 - a
  | [], a, h, hb, ha => Nat.zero_le _
  | s :: l, a, h, hb, ha => by
    have hs := hb s (by simp)
    rw [List.pairwise_cons] at h
    have := rise_len m l (s.at_ + 1) h.2 (fun x hx => ⟨h.1 x hx, (hb x (List.mem_cons_of_mem _ hx)).2⟩) (by omega)
    simp only [List.length_cons]
    omega
theorem sum_ge : ∀ (all : List Sd) (s : Sd), s ∈ all → s.names.length ≤ sumN all
  | x :: l, s, h => by
    rcases List.mem_cons.1 h with rfl | h
    · show _ ≤ s.names.length + sumN l; omega
    · have := sum_ge l s h
      show _ ≤ x.names.length + sumN l; omega

set_option maxRecDepth 100000 in
set_option maxHeartbeats 16000000 in
theorem walk_good (l : List UInt8) (all : List Sd) (p : Nat → Addr) (w : World) (hl : l.length ≤ 1048576) (h : St4 w p) (hz : sidesZ l = .ok all) (hck : (checkG (madeZ all)).1 = 0) :
    Calls Tryz.prog 5 #[.string ⟨l.toArray⟩] w fun e w' => e = .returned (.bool true) ∧ Below w.heap.size w w' := by
  have hrd := read_st l p w (by omega) (short_split l (by omega)) h
  rw [hz] at hrd
  obtain ⟨hne, hrise, hin⟩ := (SpecPl.sides_rise l).1 all hz
  obtain ⟨hfit, hsum⟩ := sides_fit hz
  have hal := rise_len l.length all 0 hrise (fun s hs => ⟨Nat.zero_le _, hin s hs⟩) (by omega)
  obtain ⟨hok, hm1, hm2, hm3, hm4⟩ := made_ok 100000000 (by omega) (by omega) (by omega) (fun s hs => ⟨hfit s hs, by have := sum_ge all s hs; omega⟩)
  have hsl : (⟨l.toArray⟩ : ByteArray).size = l.length := by simp [ByteArray.size]
  have hneq0 : ∀ W : World, (binOp .neq 27 .nilIface .nilIface).run Tryz.prog W = .ok (.bool false) W := fun W => by kernel_rfl
  have hgo := made_go all
  have hlen : all.length = (madeZ all).rs.length := by
    have := rulesZ_len (ntsZ all []) all [] []
    simp at this
    exact this.symm
  have hax : (madeZ all).ax = 0 := rfl
  go_enter Tryz.func5, Tryz.ntmps5
  go_wp2_with fail
  refine hrd.mono ?_
  rintro e w2 ⟨⟨_, b1, b2, b3, bs, rfl, hcp⟩ | ⟨hc, _⟩, hb2⟩
  rotate_left
  · exact absurd hck hc
  have HZ : Hid (sidesZ l = .ok all) := hz
  generalize hgz : madeZ all = g at *
  have HGZ : Hid (madeZ all = g) := hgz
  have HGO : Hid (rulesGo g.rs 0 0 = some (g.ns.length, g.ts.length)) := hgo
  have HRI : Hid (all.Pairwise (fun a b => a.at_ < b.at_) ∧ ∀ s ∈ all, s.at_ ≤ l.length) := ⟨hrise, hin⟩
  have HOK : Hid (okG g) := hok
  have HM4 : Hid (∀ r ∈ g.rs, r.right.length ≤ 100000000) := hm4
  have HLEN : Hid (all.length = g.rs.length) := hlen
  obtain ⟨w3, hw3⟩ : ∃ w3, w3 = w2.alloc (.cells #[.slice (some ⟨b1, 0, none⟩) g.ts.length g.ts.length, .slice (some ⟨b2, 0, none⟩) g.ns.length g.ns.length, .int .i64 0, .slice (some ⟨b3, 0, none⟩) g.rs.length g.rs.length] 25) := ⟨_, rfl⟩
  have HW3 : Hid (_) := hw3
  have hB3 : Below w2.heap.size w2 w3 := by rw [hw3]; exact (Below.refl _ _).alloc (Nat.le_refl _) _
  have rG3 : RowAt w3 w2.heap.size 25 #[.slice (some ⟨b1, 0, none⟩) g.ts.length g.ts.length, .slice (some ⟨b2, 0, none⟩) g.ns.length g.ns.length, .int .i64 0, .slice (some ⟨b3, 0, none⟩) g.rs.length g.rs.length] := by rw [hw3]; exact World.alloc_heap_new w2 _
  have hcp3 := hcp.below hB3 (Nat.le_refl _)
  have hB13 := hb2.trans (hB3.mono hb2.size)
  have haw := awake_any p w3 (h.below hB13)
  clear hrd hcp hgo hrise hin hok hm4 hlen hgz hB3 hb2 hw3 hfit hsum hz
  go_wp2_with (rw [← HW3.out])
  refine haw.mono ?_
  rintro e w4 ⟨rfl, hb4⟩
  have hB4 := hB13.trans (hb4.mono hB13.size)
  have hcp4 := hcp3.below hb4 (Nat.le_refl _)
  have rG4 := rG3.below hb4 rG3.lt
  have hpl := places_any l p w4 (by omega) (short_split l (by omega)) (h.below hB4).syn (h.below hB4).errs.sents (h.below hB4).type
  rw [HZ.out] at hpl
  clear haw hb4 hcp3 rG3 hB13
  go_wp2_with fail
  refine hpl.mono ?_
  rintro e w5 ⟨⟨_, pb, hpb, rfl, hpr⟩ | ⟨hc, _⟩, hb5⟩
  rotate_left
  · rw [HGZ.out] at hc
    exact absurd hck hc
  have hB5 := hB4.trans (hb5.mono hB4.size)
  have hcp5 := hcp4.below hb5 (Nat.le_refl _)
  have rG5 := rG4.below hb5 rG4.lt
  have hchk := GramCheck.check_any (some ⟨b1, 0, none⟩) (some ⟨b2, 0, none⟩) (some ⟨b3, 0, none⟩) g.ts.length g.ns.length g.rs.length g p w5 hcp5.row HOK.out (Nat.le_refl _) (Nat.le_refl _) (h.below hB5).errs.sents
  rw [hax] at hchk
  have g0 := rG5.cell (q := 0) rfl
  have g1 := rG5.cell (q := 1) rfl
  have g2 := rG5.cell (q := 2) rfl
  have g3 := rG5.cell (q := 3) rfl
  rw [HLEN.out]
  clear hpl hb5 hcp4 rG4 hB4
  go_wp2_with fail
  refine hchk.mono ?_
  rintro e w6 ⟨⟨v, rfl, hv⟩, hb6⟩
  obtain rfl : v = .nilIface := by
    match hq : checkG g, hck, hv with
    | (0, _), _, hv => exact hv
    | (k + 1, _), hck, _ => cases hck
  have hB6 := hB5.trans (hb6.mono hB5.size)
  have hcp6 := hcp5.below hb6 (Nat.le_refl _)
  have rG6 := rG5.below hb6 rG5.lt
  have hpr6 := hpr.below hb6 hpr.lt
  clear g0 g1 g2 g3
  have g0 := rG6.cell (q := 0) rfl
  have g1 := rG6.cell (q := 1) rfl
  have g2 := rG6.cell (q := 2) rfl
  have g3 := rG6.cell (q := 3) rfl
  clear hchk hv hb6 hcp5 rG5 hpr hB5
  go_wp2
  go_loopw [8, 9, 10] (fun n t i W => ∃ (k nn tt : Nat), k ≤ g.rs.length ∧ i = .int .i64 k ∧ n = .int .i64 nn ∧ t = .int .i64 tt ∧ Hid (rulesGo (g.rs.drop k) nn tt = some (g.ns.length, g.ts.length)) ∧ Below w6.heap.size w6 W) (fun _ _ i _ => g.rs.length - (intOf i).toNat)
  case atStart => exact ⟨0, 0, 0, Nat.zero_le _, rfl, rfl, rfl, (by show _ = _; rw [List.drop_zero]; exact HGO.out), Below.refl _ _⟩
  case round =>
    clear g0 g1 g2 g3
    obtain ⟨k, nn, tt, hk, rfl, rfl, rfl, hG, hB⟩ := hrel
    obtain ⟨V, rfl⟩ : ∃ V, V = wr := ⟨_, rfl⟩
    have rGV := rG6.below hB rG6.lt
    have g0 := rGV.cell (q := 0) rfl
    have g1 := rGV.cell (q := 1) rfl
    have g3 := rGV.cell (q := 3) rfl
    have hbd := (rules_le _ _ _ _ _ hG.out)
    by_cases hlt : k < g.rs.length
    · have hlt2 : (k : Int) < (g.rs.length : Int) := by omega
      obtain ⟨r, hr⟩ : ∃ r, g.rs[k]? = some r := ⟨_, List.getElem?_eq_getElem hlt⟩
      obtain ⟨s, hs⟩ : ∃ s, all[k]? = some s := ⟨_, List.getElem?_eq_getElem (by have := HLEN.out; omega)⟩
      have hdr : g.rs.drop k = r :: g.rs.drop (k + 1) := by
        obtain ⟨hk', e⟩ := List.getElem?_eq_some_iff.1 hr
        rw [← e]
        exact List.drop_eq_getElem_cons hk'
      have hG1 := hG.out
      rw [hdr] at hG1
      unfold rulesGo at hG1
      by_cases hlg : (nn : Int) < r.left
      · rw [if_pos hlg] at hG1; cases hG1
      · rw [if_neg hlg] at hG1
        cases ht0 : termsGo r.right tt with
        | none => rw [ht0] at hG1; cases hG1
        | some t' =>
          rw [ht0] at hG1
          simp only at hG1
          have ht : Hid (termsGo r.right tt = some t') := ht0
          have hcpV := hcp6.below hB (Nat.le_refl _)
          obtain ⟨xb, hxb⟩ : ∃ xb, bs[k]? = some xb := ⟨_, List.getElem?_eq_getElem (by have := hcpV.rs.len; omega)⟩
          obtain ⟨c0, c1, hrx⟩ := hcpV.rs.each k r xb hr hxb
          have hprV := hpr6.below hB hpr6.lt
          have hrl := HM4.out r (List.mem_of_getElem? hr)
          have hbv : Below V.heap.size V (V.alloc (.cells #[.int .i64 r.left, .slice (some ⟨xb, 0, none⟩) r.right.length r.right.length] 46)) := (Below.refl _ _).alloc (Nat.le_refl _) _
          obtain ⟨WX, hWX⟩ : ∃ WX, WX = V.alloc (.cells #[.int .i64 r.left, .slice (some ⟨xb, 0, none⟩) r.right.length r.right.length] 46) := ⟨_, rfl⟩
          have HWX : Hid (_) := hWX
          have hbx : RowAt WX V.heap.size 46 #[.int .i64 r.left, .slice (some ⟨xb, 0, none⟩) r.right.length r.right.length] := by rw [hWX]; exact World.alloc_heap_new V _
          rw [← hWX] at hbv
          have hBx := hB.trans (hbv.mono hB.size)
          replace hrx := hrx.below hbv hrx.lt
          have hpx := hprV.below hbv hprV.lt
          have x0 := hbx.cell (q := 0) rfl
          have hp0 : WX.cell? ⟨pb, k, none⟩ = some (.int .i64 (s.at_ : Int)) := hpx.cell (q := k) (by simp [intsA, placesI, hs])
          have hsa := HRI.out.2 s (List.mem_of_getElem? hs)
          have d1 : decide (r.left > (nn : Int)) = false := decide_eq_false (by omega)
          have d2 : decide ((s.at_ : Int) < 0) = false := decide_eq_false (by omega)
          have d3 : decide ((s.at_ : Int) > ((⟨l.toArray⟩ : ByteArray).size : Int)) = false := decide_eq_false (by omega)
          clear hdr hG hWX ht0 hcpV hprV hbv hB rGV hr hxb
          by_cases hk0 : k = 0
          · have d4 : decide ((k : Int) > 0) = false := decide_eq_false (by omega)
            have HK0 : Hid (k = 0) := hk0
            clear hk0
            obtain ⟨W1, hW1⟩ : ∃ W1, WX.drew = W1 := ⟨_, rfl⟩
            have hbd1 : Below WX.heap.size WX W1 := by rw [← hW1]; exact drew_keep WX
            have hBw1 : Below w6.heap.size w6 W1 := hBx.trans (hbd1.mono hBx.size)
            have e0 : WX.drew.cell? ⟨V.heap.size, 0, none⟩ = some (.int .i64 r.left) := x0
            have e1 : WX.drew.cell? ⟨pb, k, none⟩ = some (.int .i64 (s.at_ : Int)) := hp0
            go_wp2_with fail
            rw [← HWX.out]
            refine wp_region_noPanic ?_
            refine wp_region_held_drew (S := (fun w9 => w9.cell? ⟨V.heap.size, 0, none⟩ = some (.int .i64 r.left) ∧ w9.cell? ⟨pb, k, none⟩ = some (.int .i64 (s.at_ : Int)))) (by kernel_rfl) ⟨e0, e1⟩ (fun hHeld => ?_)
            rw [hW1] at hHeld ⊢
            clear e0 e1
            refine wpAnyH_take (i := 0) (v := .pointer (some ⟨V.heap.size, 0, none⟩)) rfl (by kernel_rfl) (by kernel_rfl) (by kernel_rfl) (fun _ _ _ h => h) (Or.inl ⟨by rfl, fun w9 hSw => ?_⟩) hHeld ?_
            · obtain ⟨s0, s1⟩ := hSw
              go_simp
            simp only [List.getElem_toArray, List.getElem_cons_zero, List.getElem_cons_succ, Act.put, List.setIfInBounds_toArray, List.set_cons_zero, List.set_cons_succ]
            refine wpAnyH_take (i := 1) (v := .int .i64 (r.left)) rfl (by kernel_rfl) (by kernel_rfl) (by kernel_rfl) (fun _ _ _ h => h) (Or.inl ⟨by rfl, fun w9 hSw => ?_⟩) hHeld ?_
            · obtain ⟨s0, s1⟩ := hSw
              go_simp
            simp only [List.getElem_toArray, List.getElem_cons_zero, List.getElem_cons_succ, Act.put, List.setIfInBounds_toArray, List.set_cons_zero, List.set_cons_succ]
            refine wpAnyH_take (i := 2) (v := .int .i64 (nn : Int)) rfl (by kernel_rfl) (by kernel_rfl) (by kernel_rfl) (fun _ _ _ h => h) (Or.inl ⟨by rfl, fun w9 hSw => ?_⟩) hHeld ?_
            · obtain ⟨s0, s1⟩ := hSw
              go_simp
            simp only [List.getElem_toArray, List.getElem_cons_zero, List.getElem_cons_succ, Act.put, List.setIfInBounds_toArray, List.set_cons_zero, List.set_cons_succ]
            refine wpAnyH_take (i := 3) (v := .bool false) rfl (by kernel_rfl) (by kernel_rfl) (by kernel_rfl) (fun _ _ _ h => h) (Or.inl ⟨by rfl, fun w9 hSw => ?_⟩) hHeld ?_
            · obtain ⟨s0, s1⟩ := hSw
              go_simp
              all_goals (first | rfl | omega | go_num | (have := HK0.out; omega) | (have := HK0.out; simp; omega) | exact d1 | exact d2 | exact d3 | exact d4 | exact d5 | (rw [d8]; done) | (rw [d8]; assumption) | (rw [IntKind.wrap_i64]; omega) | (simp; done) | (simp; omega))
            simp only [List.getElem_toArray, List.getElem_cons_zero, List.getElem_cons_succ, Act.put, List.setIfInBounds_toArray, List.set_cons_zero, List.set_cons_succ]
            refine wpAnyH_take (i := 4) (v := .bool false) rfl (by kernel_rfl) (by kernel_rfl) (by kernel_rfl) (fun _ _ _ h => h) (Or.inl ⟨by rfl, fun w9 hSw => ?_⟩) hHeld ?_
            · obtain ⟨s0, s1⟩ := hSw
              go_simp
            simp only [List.getElem_toArray, List.getElem_cons_zero, List.getElem_cons_succ, Act.put, List.setIfInBounds_toArray, List.set_cons_zero, List.set_cons_succ]
            refine wpAnyH_take (i := 5) (v := .slice (some ⟨pb, 0, none⟩) g.rs.length g.rs.length) rfl (by kernel_rfl) (by kernel_rfl) (by kernel_rfl) (fun _ _ _ h => h) (Or.inl ⟨by rfl, fun w9 hSw => ?_⟩) hHeld ?_
            · obtain ⟨s0, s1⟩ := hSw
              go_simp
            simp only [List.getElem_toArray, List.getElem_cons_zero, List.getElem_cons_succ, Act.put, List.setIfInBounds_toArray, List.set_cons_zero, List.set_cons_succ]
            refine wpAnyH_take (i := 6) (v := .int .i64 (k : Int)) rfl (by kernel_rfl) (by kernel_rfl) (by kernel_rfl) (fun _ _ _ h => h) (Or.inl ⟨by rfl, fun w9 hSw => ?_⟩) hHeld ?_
            · obtain ⟨s0, s1⟩ := hSw
              go_simp
            simp only [List.getElem_toArray, List.getElem_cons_zero, List.getElem_cons_succ, Act.put, List.setIfInBounds_toArray, List.set_cons_zero, List.set_cons_succ]
            refine wpAnyH_take (i := 7) (v := .pointer (some ⟨pb, k, none⟩)) rfl (by kernel_rfl) (by kernel_rfl) (by kernel_rfl) (fun _ _ _ h => h) (Or.inl ⟨by rfl, fun w9 hSw => ?_⟩) hHeld ?_
            · obtain ⟨s0, s1⟩ := hSw
              go_simp
              all_goals (first | rfl | omega | go_num | (have := HK0.out; omega) | (have := HK0.out; simp; omega) | exact d1 | exact d2 | exact d3 | exact d4 | exact d5 | (rw [d8]; done) | (rw [d8]; assumption) | (rw [IntKind.wrap_i64]; omega) | (simp; done) | (simp; omega))
            simp only [List.getElem_toArray, List.getElem_cons_zero, List.getElem_cons_succ, Act.put, List.setIfInBounds_toArray, List.set_cons_zero, List.set_cons_succ]
            refine wpAnyH_take (i := 8) (v := .int .i64 (s.at_ : Int)) rfl (by kernel_rfl) (by kernel_rfl) (by kernel_rfl) (fun _ _ _ h => h) (Or.inl ⟨by rfl, fun w9 hSw => ?_⟩) hHeld ?_
            · obtain ⟨s0, s1⟩ := hSw
              go_simp
            simp only [List.getElem_toArray, List.getElem_cons_zero, List.getElem_cons_succ, Act.put, List.setIfInBounds_toArray, List.set_cons_zero, List.set_cons_succ]
            refine wpAnyH_take (i := 9) (v := .bool false) rfl (by kernel_rfl) (by kernel_rfl) (by kernel_rfl) (fun _ _ _ h => h) (Or.inl ⟨by rfl, fun w9 hSw => ?_⟩) hHeld ?_
            · obtain ⟨s0, s1⟩ := hSw
              go_simp
              all_goals (first | rfl | omega | go_num | (have := HK0.out; omega) | (have := HK0.out; simp; omega) | exact d1 | exact d2 | exact d3 | exact d4 | exact d5 | (rw [d8]; done) | (rw [d8]; assumption) | (rw [IntKind.wrap_i64]; omega) | (simp; done) | (simp; omega))
            simp only [List.getElem_toArray, List.getElem_cons_zero, List.getElem_cons_succ, Act.put, List.setIfInBounds_toArray, List.set_cons_zero, List.set_cons_succ]
            refine wpAnyH_take (i := 10) (v := .bool false) rfl (by kernel_rfl) (by kernel_rfl) (by kernel_rfl) (fun _ _ _ h => h) (Or.inl ⟨by rfl, fun w9 hSw => ?_⟩) hHeld ?_
            · obtain ⟨s0, s1⟩ := hSw
              go_simp
            simp only [List.getElem_toArray, List.getElem_cons_zero, List.getElem_cons_succ, Act.put, List.setIfInBounds_toArray, List.set_cons_zero, List.set_cons_succ]
            refine wpAnyH_take (i := 11) (v := .bool false) rfl (by kernel_rfl) (by kernel_rfl) (by kernel_rfl) (fun _ _ _ h => h) (Or.inl ⟨by rfl, fun w9 hSw => ?_⟩) hHeld ?_
            · obtain ⟨s0, s1⟩ := hSw
              go_simp
            simp only [List.getElem_toArray, List.getElem_cons_zero, List.getElem_cons_succ, Act.put, List.setIfInBounds_toArray, List.set_cons_zero, List.set_cons_succ]
            refine wpAnyH_take (i := 12) (v := .slice (some ⟨pb, 0, none⟩) g.rs.length g.rs.length) rfl (by kernel_rfl) (by kernel_rfl) (by kernel_rfl) (fun _ _ _ h => h) (Or.inl ⟨by rfl, fun w9 hSw => ?_⟩) hHeld ?_
            · obtain ⟨s0, s1⟩ := hSw
              go_simp
            simp only [List.getElem_toArray, List.getElem_cons_zero, List.getElem_cons_succ, Act.put, List.setIfInBounds_toArray, List.set_cons_zero, List.set_cons_succ]
            refine wpAnyH_take (i := 13) (v := .int .i64 (k : Int)) rfl (by kernel_rfl) (by kernel_rfl) (by kernel_rfl) (fun _ _ _ h => h) (Or.inl ⟨by rfl, fun w9 hSw => ?_⟩) hHeld ?_
            · obtain ⟨s0, s1⟩ := hSw
              go_simp
            simp only [List.getElem_toArray, List.getElem_cons_zero, List.getElem_cons_succ, Act.put, List.setIfInBounds_toArray, List.set_cons_zero, List.set_cons_succ]
            refine wpAnyH_take (i := 14) (v := .pointer (some ⟨pb, k, none⟩)) rfl (by kernel_rfl) (by kernel_rfl) (by kernel_rfl) (fun _ _ _ h => h) (Or.inl ⟨by rfl, fun w9 hSw => ?_⟩) hHeld ?_
            · obtain ⟨s0, s1⟩ := hSw
              go_simp
              all_goals (first | rfl | omega | go_num | (have := HK0.out; omega) | (have := HK0.out; simp; omega) | exact d1 | exact d2 | exact d3 | exact d4 | exact d5 | (rw [d8]; done) | (rw [d8]; assumption) | (rw [IntKind.wrap_i64]; omega) | (simp; done) | (simp; omega))
            simp only [List.getElem_toArray, List.getElem_cons_zero, List.getElem_cons_succ, Act.put, List.setIfInBounds_toArray, List.set_cons_zero, List.set_cons_succ]
            refine wpAnyH_take (i := 15) (v := .int .i64 (s.at_ : Int)) rfl (by kernel_rfl) (by kernel_rfl) (by kernel_rfl) (fun _ _ _ h => h) (Or.inl ⟨by rfl, fun w9 hSw => ?_⟩) hHeld ?_
            · obtain ⟨s0, s1⟩ := hSw
              go_simp
            simp only [List.getElem_toArray, List.getElem_cons_zero, List.getElem_cons_succ, Act.put, List.setIfInBounds_toArray, List.set_cons_zero, List.set_cons_succ]
            refine wpAnyH_take (i := 16) (v := .string ⟨l.toArray⟩) rfl (by kernel_rfl) (by kernel_rfl) (by kernel_rfl) (fun _ _ _ h => h) (Or.inl ⟨by rfl, fun w9 hSw => ?_⟩) hHeld ?_
            · obtain ⟨s0, s1⟩ := hSw
              go_simp
            simp only [List.getElem_toArray, List.getElem_cons_zero, List.getElem_cons_succ, Act.put, List.setIfInBounds_toArray, List.set_cons_zero, List.set_cons_succ]
            refine wpAnyH_take (i := 17) (v := .int .i64 ((⟨l.toArray⟩ : ByteArray).size : Int)) rfl (by kernel_rfl) (by kernel_rfl) (by kernel_rfl) (fun _ _ _ h => h) (Or.inl ⟨by rfl, fun w9 hSw => ?_⟩) hHeld ?_
            · obtain ⟨s0, s1⟩ := hSw
              go_simp
              all_goals (first | rfl | omega | go_num | (have := HK0.out; omega) | (have := HK0.out; simp; omega) | exact d1 | exact d2 | exact d3 | exact d4 | exact d5 | (rw [d8]; done) | (rw [d8]; assumption) | (rw [IntKind.wrap_i64]; omega) | (simp; done) | (simp; omega))
            simp only [List.getElem_toArray, List.getElem_cons_zero, List.getElem_cons_succ, Act.put, List.setIfInBounds_toArray, List.set_cons_zero, List.set_cons_succ]
            refine wpAnyH_take (i := 18) (v := .bool false) rfl (by kernel_rfl) (by kernel_rfl) (by kernel_rfl) (fun _ _ _ h => h) (Or.inl ⟨by rfl, fun w9 hSw => ?_⟩) hHeld ?_
            · obtain ⟨s0, s1⟩ := hSw
              go_simp
              all_goals (first | rfl | omega | go_num | (have := HK0.out; omega) | (have := HK0.out; simp; omega) | exact d1 | exact d2 | exact d3 | exact d4 | exact d5 | (rw [d8]; done) | (rw [d8]; assumption) | (rw [IntKind.wrap_i64]; omega) | (simp; done) | (simp; omega))
            simp only [List.getElem_toArray, List.getElem_cons_zero, List.getElem_cons_succ, Act.put, List.setIfInBounds_toArray, List.set_cons_zero, List.set_cons_succ]
            refine wpAnyH_take (i := 19) (v := .bool false) rfl (by kernel_rfl) (by kernel_rfl) (by kernel_rfl) (fun _ _ _ h => h) (Or.inl ⟨by rfl, fun w9 hSw => ?_⟩) hHeld ?_
            · obtain ⟨s0, s1⟩ := hSw
              go_simp
            simp only [List.getElem_toArray, List.getElem_cons_zero, List.getElem_cons_succ, Act.put, List.setIfInBounds_toArray, List.set_cons_zero, List.set_cons_succ]
            refine wpAnyH_take (i := 20) (v := .bool false) rfl (by kernel_rfl) (by kernel_rfl) (by kernel_rfl) (fun _ _ _ h => h) (Or.inl ⟨by rfl, fun w9 hSw => ?_⟩) hHeld ?_
            · obtain ⟨s0, s1⟩ := hSw
              go_simp
            simp only [List.getElem_toArray, List.getElem_cons_zero, List.getElem_cons_succ, Act.put, List.setIfInBounds_toArray, List.set_cons_zero, List.set_cons_succ]
            refine wpAnyH_take (i := 21) (v := .int .i64 (k : Int)) rfl (by kernel_rfl) (by kernel_rfl) (by kernel_rfl) (fun _ _ _ h => h) (Or.inl ⟨by rfl, fun w9 hSw => ?_⟩) hHeld ?_
            · obtain ⟨s0, s1⟩ := hSw
              go_simp
            simp only [List.getElem_toArray, List.getElem_cons_zero, List.getElem_cons_succ, Act.put, List.setIfInBounds_toArray, List.set_cons_zero, List.set_cons_succ]
            refine wpAnyH_take (i := 22) (v := .bool false) rfl (by kernel_rfl) (by kernel_rfl) (by kernel_rfl) (fun _ _ _ h => h) (Or.inl ⟨by rfl, fun w9 hSw => ?_⟩) hHeld ?_
            · obtain ⟨s0, s1⟩ := hSw
              go_simp
              all_goals (first | rfl | omega | go_num | (have := HK0.out; omega) | (have := HK0.out; simp; omega) | exact d1 | exact d2 | exact d3 | exact d4 | exact d5 | (rw [d8]; done) | (rw [d8]; assumption) | (rw [IntKind.wrap_i64]; omega) | (simp; done) | (simp; omega))
            simp only [List.getElem_toArray, List.getElem_cons_zero, List.getElem_cons_succ, Act.put, List.setIfInBounds_toArray, List.set_cons_zero, List.set_cons_succ]
            refine wpAnyH_take (i := 23) (v := .bool false) rfl (by kernel_rfl) (by kernel_rfl) (by kernel_rfl) (fun _ _ _ h => h) (Or.inl ⟨by rfl, fun w9 hSw => ?_⟩) hHeld ?_
            · obtain ⟨s0, s1⟩ := hSw
              go_simp
            simp only [List.getElem_toArray, List.getElem_cons_zero, List.getElem_cons_succ, Act.put, List.setIfInBounds_toArray, List.set_cons_zero, List.set_cons_succ]
            refine wpAnyH_take (i := 24) (v := undef) rfl (by kernel_rfl) (by kernel_rfl) (by kernel_rfl) (fun _ _ _ h => h) (Or.inr ⟨by rfl, rfl⟩) hHeld ?_
            simp only [List.getElem_toArray, List.getElem_cons_zero, List.getElem_cons_succ, Act.put, List.setIfInBounds_toArray, List.set_cons_zero, List.set_cons_succ]
            refine wpAnyH_take (i := 25) (v := undef) rfl (by kernel_rfl) (by kernel_rfl) (by kernel_rfl) (fun _ _ _ h => h) (Or.inr ⟨by rfl, rfl⟩) hHeld ?_
            simp only [List.getElem_toArray, List.getElem_cons_zero, List.getElem_cons_succ, Act.put, List.setIfInBounds_toArray, List.set_cons_zero, List.set_cons_succ]
            refine wpAnyH_take (i := 26) (v := undef) rfl (by kernel_rfl) (by kernel_rfl) (by kernel_rfl) (fun _ _ _ h => h) (Or.inr ⟨by rfl, rfl⟩) hHeld ?_
            simp only [List.getElem_toArray, List.getElem_cons_zero, List.getElem_cons_succ, Act.put, List.setIfInBounds_toArray, List.set_cons_zero, List.set_cons_succ]
            refine wpAnyH_take (i := 27) (v := undef) rfl (by kernel_rfl) (by kernel_rfl) (by kernel_rfl) (fun _ _ _ h => h) (Or.inr ⟨by rfl, rfl⟩) hHeld ?_
            simp only [List.getElem_toArray, List.getElem_cons_zero, List.getElem_cons_succ, Act.put, List.setIfInBounds_toArray, List.set_cons_zero, List.set_cons_succ]
            refine wpAnyH_take (i := 28) (v := undef) rfl (by kernel_rfl) (by kernel_rfl) (by kernel_rfl) (fun _ _ _ h => h) (Or.inr ⟨by rfl, rfl⟩) hHeld ?_
            simp only [List.getElem_toArray, List.getElem_cons_zero, List.getElem_cons_succ, Act.put, List.setIfInBounds_toArray, List.set_cons_zero, List.set_cons_succ]
            refine wpAnyH_take (i := 29) (v := undef) rfl (by kernel_rfl) (by kernel_rfl) (by kernel_rfl) (fun _ _ _ h => h) (Or.inr ⟨by rfl, rfl⟩) hHeld ?_
            simp only [List.getElem_toArray, List.getElem_cons_zero, List.getElem_cons_succ, Act.put, List.setIfInBounds_toArray, List.set_cons_zero, List.set_cons_succ]
            refine wpAnyH_take (i := 30) (v := undef) rfl (by kernel_rfl) (by kernel_rfl) (by kernel_rfl) (fun _ _ _ h => h) (Or.inr ⟨by rfl, rfl⟩) hHeld ?_
            simp only [List.getElem_toArray, List.getElem_cons_zero, List.getElem_cons_succ, Act.put, List.setIfInBounds_toArray, List.set_cons_zero, List.set_cons_succ]
            refine wpAnyH_take (i := 31) (v := undef) rfl (by kernel_rfl) (by kernel_rfl) (by kernel_rfl) (fun _ _ _ h => h) (Or.inr ⟨by rfl, rfl⟩) hHeld ?_
            simp only [List.getElem_toArray, List.getElem_cons_zero, List.getElem_cons_succ, Act.put, List.setIfInBounds_toArray, List.set_cons_zero, List.set_cons_succ]
            refine wpAnyH_take (i := 32) (v := undef) rfl (by kernel_rfl) (by kernel_rfl) (by kernel_rfl) (fun _ _ _ h => h) (Or.inr ⟨by rfl, rfl⟩) hHeld ?_
            simp only [List.getElem_toArray, List.getElem_cons_zero, List.getElem_cons_succ, Act.put, List.setIfInBounds_toArray, List.set_cons_zero, List.set_cons_succ]
            refine wpAnyH_take (i := 33) (v := undef) rfl (by kernel_rfl) (by kernel_rfl) (by kernel_rfl) (fun _ _ _ h => h) (Or.inr ⟨by rfl, rfl⟩) hHeld ?_
            simp only [List.getElem_toArray, List.getElem_cons_zero, List.getElem_cons_succ, Act.put, List.setIfInBounds_toArray, List.set_cons_zero, List.set_cons_succ]
            refine wpAnyH_take (i := 34) (v := .bool false) rfl (by kernel_rfl) (by kernel_rfl) (by kernel_rfl) (fun _ _ _ h => h) (Or.inl ⟨by rfl, fun w9 hSw => ?_⟩) hHeld ?_
            · obtain ⟨s0, s1⟩ := hSw
              go_simp
            simp only [List.getElem_toArray, List.getElem_cons_zero, List.getElem_cons_succ, Act.put, List.setIfInBounds_toArray, List.set_cons_zero, List.set_cons_succ]
            refine wpAnyH_take (i := 35) (v := .bool false) rfl (by kernel_rfl) (by kernel_rfl) (by kernel_rfl) (fun _ _ _ h => h) (Or.inl ⟨by rfl, fun w9 hSw => ?_⟩) hHeld ?_
            · obtain ⟨s0, s1⟩ := hSw
              go_simp
            simp only [List.getElem_toArray, List.getElem_cons_zero, List.getElem_cons_succ, Act.put, List.setIfInBounds_toArray, List.set_cons_zero, List.set_cons_succ]
            refine wpAnyH_done (by kernel_rfl) (NoPanic.normal ?_) _
            clear hHeld
            have hbx1 : RowAt W1 V.heap.size 46 #[.int .i64 r.left, .slice (some ⟨xb, 0, none⟩) r.right.length r.right.length] := hbx.below hbd1 hbx.lt
            have hrr1 : RowAt W1 xb 3 (intsA r.right) := hrx.below hbd1 hrx.lt
            have y0 := hbx1.cell (q := 0) rfl
            clear hW1
            by_cases hle : r.left = (nn : Int)
            · have hle2 : (r.left == (nn : Int)) = true := by simpa using hle
              rw [if_pos hle] at hG1
              have hG2 : Hid (rulesGo (g.rs.drop (k + 1)) (nn + 1) t' = some (g.ns.length, g.ts.length)) := hG1
              have hnn := (rules_le _ _ _ _ _ hG1)
              clear hG1
              go_wp2
              go_loopw [9, 12] (fun t j W => ∃ (m tt : Nat), m ≤ r.right.length ∧ j = .int .i64 m ∧ t = .int .i64 tt ∧ Hid (termsGo (r.right.drop m) tt = some t') ∧ Below W1.heap.size W1 W) (fun _ j _ => r.right.length - (intOf j).toNat)
              case atStart => exact ⟨0, tt, Nat.zero_le _, rfl, rfl, (by show _ = _; rw [List.drop_zero]; exact ht.out), Below.refl _ _⟩
              case round =>
                obtain ⟨m, tu, hm, rfl, rfl, hT, hBm⟩ := hrel
                obtain ⟨W2, rfl⟩ : ∃ W2, W2 = wr := ⟨_, rfl⟩
                have hbx2 := hbx1.below hBm hbx1.lt
                have x1 := hbx2.cell (q := 1) rfl
                have htu := (terms_le _ _ _ hT.out)
                by_cases hml : m < r.right.length
                · obtain ⟨x, hx⟩ : ∃ x, r.right[m]? = some x := ⟨_, List.getElem?_eq_getElem hml⟩
                  have hml2 : (m : Int) < (r.right.length : Int) := by omega
                  have hdr : Hid (r.right.drop m = x :: r.right.drop (m + 1)) := by
                    obtain ⟨hk', e⟩ := List.getElem?_eq_some_iff.1 hx
                    show _ = _
                    rw [← e]
                    exact List.drop_eq_getElem_cons hk'
                  have hri := hrr1.below hBm hrr1.lt
                  have ci : W2.cell? ⟨xb, m, none⟩ = some (.int .i64 x) := hri.cell (q := m) (by simp [intsA, hx])
                  have hT2 := hT.out
                  rw [hdr.out] at hT2
                  unfold termsGo at hT2
                  by_cases hgt : (tu : Int) < x
                  · rw [if_pos hgt] at hT2; cases hT2
                  · rw [if_neg hgt] at hT2
                    by_cases heq : x = (tu : Int)
                    · rw [if_pos heq] at hT2
                      have heq2 : (x == (tu : Int)) = true := by simpa using heq
                      have HT2 : Hid (termsGo (r.right.drop (m + 1)) (tu + 1) = some t') := hT2
                      have htv := (terms_le _ _ _ hT2)
                      subst heq
                      clear hT hT2 hdr hx hri hbx2
                      go_wp2
                      go_roundw
                      case rel => exact ⟨m + 1, tu + 1, by omega, by go_num, by go_num, HT2, hBm⟩
                      case measure => simp [intOf]; omega
                    · rw [if_neg heq] at hT2
                      have heq2 : (x == (tu : Int)) = false := by simpa using heq
                      have HT2 : Hid (termsGo (r.right.drop (m + 1)) tu = some t') := hT2
                      clear hT hT2 hdr hx hri hbx2
                      go_wp2
                      go_roundw
                      case rel => exact ⟨m + 1, tu, by omega, by go_num, rfl, HT2, hBm⟩
                      case measure => simp [intOf]; omega
                · obtain rfl : m = r.right.length := by omega
                  have hml2 : ¬ (r.right.length : Int) < (r.right.length : Int) := by omega
                  have hT2 := hT.out
                  rw [List.drop_of_length_le (Nat.le_refl _)] at hT2
                  cases hT2
                  have hBo : Below w6.heap.size w6 W2 := hBw1.trans (hBm.mono hBw1.size)
                  clear hT hbx2 hBm
                  go_wp2
                  go_roundw
                  case rel => exact ⟨k + 1, (nn + 1), t', by omega, by go_num, by go_num, rfl, hG2, hBo⟩
                  case measure => simp [intOf]; omega

            · have hle2 : (r.left == (nn : Int)) = false := by simpa using hle
              rw [if_neg hle] at hG1
              have hG2 : Hid (rulesGo (g.rs.drop (k + 1)) nn t' = some (g.ns.length, g.ts.length)) := hG1
              have hnn := (rules_le _ _ _ _ _ hG1)
              clear hG1
              go_wp2
              go_loopw [9, 12] (fun t j W => ∃ (m tt : Nat), m ≤ r.right.length ∧ j = .int .i64 m ∧ t = .int .i64 tt ∧ Hid (termsGo (r.right.drop m) tt = some t') ∧ Below W1.heap.size W1 W) (fun _ j _ => r.right.length - (intOf j).toNat)
              case atStart => exact ⟨0, tt, Nat.zero_le _, rfl, rfl, (by show _ = _; rw [List.drop_zero]; exact ht.out), Below.refl _ _⟩
              case round =>
                obtain ⟨m, tu, hm, rfl, rfl, hT, hBm⟩ := hrel
                obtain ⟨W2, rfl⟩ : ∃ W2, W2 = wr := ⟨_, rfl⟩
                have hbx2 := hbx1.below hBm hbx1.lt
                have x1 := hbx2.cell (q := 1) rfl
                have htu := (terms_le _ _ _ hT.out)
                by_cases hml : m < r.right.length
                · obtain ⟨x, hx⟩ : ∃ x, r.right[m]? = some x := ⟨_, List.getElem?_eq_getElem hml⟩
                  have hml2 : (m : Int) < (r.right.length : Int) := by omega
                  have hdr : Hid (r.right.drop m = x :: r.right.drop (m + 1)) := by
                    obtain ⟨hk', e⟩ := List.getElem?_eq_some_iff.1 hx
                    show _ = _
                    rw [← e]
                    exact List.drop_eq_getElem_cons hk'
                  have hri := hrr1.below hBm hrr1.lt
                  have ci : W2.cell? ⟨xb, m, none⟩ = some (.int .i64 x) := hri.cell (q := m) (by simp [intsA, hx])
                  have hT2 := hT.out
                  rw [hdr.out] at hT2
                  unfold termsGo at hT2
                  by_cases hgt : (tu : Int) < x
                  · rw [if_pos hgt] at hT2; cases hT2
                  · rw [if_neg hgt] at hT2
                    by_cases heq : x = (tu : Int)
                    · rw [if_pos heq] at hT2
                      have heq2 : (x == (tu : Int)) = true := by simpa using heq
                      have HT2 : Hid (termsGo (r.right.drop (m + 1)) (tu + 1) = some t') := hT2
                      have htv := (terms_le _ _ _ hT2)
                      subst heq
                      clear hT hT2 hdr hx hri hbx2
                      go_wp2
                      go_roundw
                      case rel => exact ⟨m + 1, tu + 1, by omega, by go_num, by go_num, HT2, hBm⟩
                      case measure => simp [intOf]; omega
                    · rw [if_neg heq] at hT2
                      have heq2 : (x == (tu : Int)) = false := by simpa using heq
                      have HT2 : Hid (termsGo (r.right.drop (m + 1)) tu = some t') := hT2
                      clear hT hT2 hdr hx hri hbx2
                      go_wp2
                      go_roundw
                      case rel => exact ⟨m + 1, tu, by omega, by go_num, rfl, HT2, hBm⟩
                      case measure => simp [intOf]; omega
                · obtain rfl : m = r.right.length := by omega
                  have hml2 : ¬ (r.right.length : Int) < (r.right.length : Int) := by omega
                  have hT2 := hT.out
                  rw [List.drop_of_length_le (Nat.le_refl _)] at hT2
                  cases hT2
                  have hBo : Below w6.heap.size w6 W2 := hBw1.trans (hBm.mono hBw1.size)
                  clear hT hbx2 hBm
                  go_wp2
                  go_roundw
                  case rel => exact ⟨k + 1, nn, t', by omega, by go_num, rfl, rfl, hG2, hBo⟩
                  case measure => simp [intOf]; omega

          · have d4 : decide ((k : Int) > 0) = true := decide_eq_true (by omega)
            have HK0 : Hid (0 < k) := Nat.pos_of_ne_zero hk0
            obtain ⟨s0, hs0⟩ : ∃ s0, all[k - 1]? = some s0 := ⟨_, List.getElem?_eq_getElem (by have := HLEN.out; omega)⟩
            have hlt0 : s0.at_ < s.at_ := by
              obtain ⟨e1, e2⟩ := List.getElem?_eq_some_iff.1 hs
              obtain ⟨e3, e4⟩ := List.getElem?_eq_some_iff.1 hs0
              have := List.pairwise_iff_getElem.1 HRI.out.1 (k - 1) k e3 e1 (by omega)
              rw [e2, e4] at this
              exact this
            have pz : WX.cell? ⟨pb, k - 1, none⟩ = some (.int .i64 (s0.at_ : Int)) := hpx.cell (q := k - 1) (by simp [intsA, placesI, hs0])
            have d5 : decide ((s.at_ : Int) ≤ (s0.at_ : Int)) = false := decide_eq_false (by omega)
            have d6 : (0 : Int) ≤ (k : Int) - 1 := by omega
            have d7 : (k : Int) - 1 < (g.rs.length : Int) := by omega
            have d8 : ((k : Int) - 1).toNat = k - 1 := by omega
            obtain ⟨W1, hW1⟩ : ∃ W1, WX.drew = W1 := ⟨_, rfl⟩
            have hbd1 : Below WX.heap.size WX W1 := by rw [← hW1]; exact drew_keep WX
            have hBw1 : Below w6.heap.size w6 W1 := hBx.trans (hbd1.mono hBx.size)
            have e0 : WX.drew.cell? ⟨V.heap.size, 0, none⟩ = some (.int .i64 r.left) := x0
            have e1 : WX.drew.cell? ⟨pb, k, none⟩ = some (.int .i64 (s.at_ : Int)) := hp0
            have e2 : WX.drew.cell? ⟨pb, k - 1, none⟩ = some (.int .i64 (s0.at_ : Int)) := pz
            go_wp2_with fail
            rw [← HWX.out]
            refine wp_region_noPanic ?_
            refine wp_region_held_drew (S := (fun w9 => w9.cell? ⟨V.heap.size, 0, none⟩ = some (.int .i64 r.left) ∧ w9.cell? ⟨pb, k, none⟩ = some (.int .i64 (s.at_ : Int)) ∧ w9.cell? ⟨pb, k - 1, none⟩ = some (.int .i64 (s0.at_ : Int)))) (by kernel_rfl) ⟨e0, e1, e2⟩ (fun hHeld => ?_)
            rw [hW1] at hHeld ⊢
            clear e0 e1 e2
            refine wpAnyH_take (i := 0) (v := .pointer (some ⟨V.heap.size, 0, none⟩)) rfl (by kernel_rfl) (by kernel_rfl) (by kernel_rfl) (fun _ _ _ h => h) (Or.inl ⟨by rfl, fun w9 hSw => ?_⟩) hHeld ?_
            · obtain ⟨s0, s1, s2⟩ := hSw
              go_simp
            simp only [List.getElem_toArray, List.getElem_cons_zero, List.getElem_cons_succ, Act.put, List.setIfInBounds_toArray, List.set_cons_zero, List.set_cons_succ]
            refine wpAnyH_take (i := 1) (v := .int .i64 (r.left)) rfl (by kernel_rfl) (by kernel_rfl) (by kernel_rfl) (fun _ _ _ h => h) (Or.inl ⟨by rfl, fun w9 hSw => ?_⟩) hHeld ?_
            · obtain ⟨s0, s1, s2⟩ := hSw
              go_simp
            simp only [List.getElem_toArray, List.getElem_cons_zero, List.getElem_cons_succ, Act.put, List.setIfInBounds_toArray, List.set_cons_zero, List.set_cons_succ]
            refine wpAnyH_take (i := 2) (v := .int .i64 (nn : Int)) rfl (by kernel_rfl) (by kernel_rfl) (by kernel_rfl) (fun _ _ _ h => h) (Or.inl ⟨by rfl, fun w9 hSw => ?_⟩) hHeld ?_
            · obtain ⟨s0, s1, s2⟩ := hSw
              go_simp
            simp only [List.getElem_toArray, List.getElem_cons_zero, List.getElem_cons_succ, Act.put, List.setIfInBounds_toArray, List.set_cons_zero, List.set_cons_succ]
            refine wpAnyH_take (i := 3) (v := .bool false) rfl (by kernel_rfl) (by kernel_rfl) (by kernel_rfl) (fun _ _ _ h => h) (Or.inl ⟨by rfl, fun w9 hSw => ?_⟩) hHeld ?_
            · obtain ⟨s0, s1, s2⟩ := hSw
              go_simp
              all_goals (first | rfl | omega | go_num | (have := HK0.out; omega) | (have := HK0.out; simp; omega) | exact d1 | exact d2 | exact d3 | exact d4 | exact d5 | (rw [d8]; done) | (rw [d8]; assumption) | (rw [IntKind.wrap_i64]; omega) | (simp; done) | (simp; omega))
            simp only [List.getElem_toArray, List.getElem_cons_zero, List.getElem_cons_succ, Act.put, List.setIfInBounds_toArray, List.set_cons_zero, List.set_cons_succ]
            refine wpAnyH_take (i := 4) (v := .bool false) rfl (by kernel_rfl) (by kernel_rfl) (by kernel_rfl) (fun _ _ _ h => h) (Or.inl ⟨by rfl, fun w9 hSw => ?_⟩) hHeld ?_
            · obtain ⟨s0, s1, s2⟩ := hSw
              go_simp
            simp only [List.getElem_toArray, List.getElem_cons_zero, List.getElem_cons_succ, Act.put, List.setIfInBounds_toArray, List.set_cons_zero, List.set_cons_succ]
            refine wpAnyH_take (i := 5) (v := .slice (some ⟨pb, 0, none⟩) g.rs.length g.rs.length) rfl (by kernel_rfl) (by kernel_rfl) (by kernel_rfl) (fun _ _ _ h => h) (Or.inl ⟨by rfl, fun w9 hSw => ?_⟩) hHeld ?_
            · obtain ⟨s0, s1, s2⟩ := hSw
              go_simp
            simp only [List.getElem_toArray, List.getElem_cons_zero, List.getElem_cons_succ, Act.put, List.setIfInBounds_toArray, List.set_cons_zero, List.set_cons_succ]
            refine wpAnyH_take (i := 6) (v := .int .i64 (k : Int)) rfl (by kernel_rfl) (by kernel_rfl) (by kernel_rfl) (fun _ _ _ h => h) (Or.inl ⟨by rfl, fun w9 hSw => ?_⟩) hHeld ?_
            · obtain ⟨s0, s1, s2⟩ := hSw
              go_simp
            simp only [List.getElem_toArray, List.getElem_cons_zero, List.getElem_cons_succ, Act.put, List.setIfInBounds_toArray, List.set_cons_zero, List.set_cons_succ]
            refine wpAnyH_take (i := 7) (v := .pointer (some ⟨pb, k, none⟩)) rfl (by kernel_rfl) (by kernel_rfl) (by kernel_rfl) (fun _ _ _ h => h) (Or.inl ⟨by rfl, fun w9 hSw => ?_⟩) hHeld ?_
            · obtain ⟨s0, s1, s2⟩ := hSw
              go_simp
              all_goals (first | rfl | omega | go_num | (have := HK0.out; omega) | (have := HK0.out; simp; omega) | exact d1 | exact d2 | exact d3 | exact d4 | exact d5 | (rw [d8]; done) | (rw [d8]; assumption) | (rw [IntKind.wrap_i64]; omega) | (simp; done) | (simp; omega))
            simp only [List.getElem_toArray, List.getElem_cons_zero, List.getElem_cons_succ, Act.put, List.setIfInBounds_toArray, List.set_cons_zero, List.set_cons_succ]
            refine wpAnyH_take (i := 8) (v := .int .i64 (s.at_ : Int)) rfl (by kernel_rfl) (by kernel_rfl) (by kernel_rfl) (fun _ _ _ h => h) (Or.inl ⟨by rfl, fun w9 hSw => ?_⟩) hHeld ?_
            · obtain ⟨s0, s1, s2⟩ := hSw
              go_simp
            simp only [List.getElem_toArray, List.getElem_cons_zero, List.getElem_cons_succ, Act.put, List.setIfInBounds_toArray, List.set_cons_zero, List.set_cons_succ]
            refine wpAnyH_take (i := 9) (v := .bool false) rfl (by kernel_rfl) (by kernel_rfl) (by kernel_rfl) (fun _ _ _ h => h) (Or.inl ⟨by rfl, fun w9 hSw => ?_⟩) hHeld ?_
            · obtain ⟨s0, s1, s2⟩ := hSw
              go_simp
              all_goals (first | rfl | omega | go_num | (have := HK0.out; omega) | (have := HK0.out; simp; omega) | exact d1 | exact d2 | exact d3 | exact d4 | exact d5 | (rw [d8]; done) | (rw [d8]; assumption) | (rw [IntKind.wrap_i64]; omega) | (simp; done) | (simp; omega))
            simp only [List.getElem_toArray, List.getElem_cons_zero, List.getElem_cons_succ, Act.put, List.setIfInBounds_toArray, List.set_cons_zero, List.set_cons_succ]
            refine wpAnyH_take (i := 10) (v := .bool false) rfl (by kernel_rfl) (by kernel_rfl) (by kernel_rfl) (fun _ _ _ h => h) (Or.inl ⟨by rfl, fun w9 hSw => ?_⟩) hHeld ?_
            · obtain ⟨s0, s1, s2⟩ := hSw
              go_simp
            simp only [List.getElem_toArray, List.getElem_cons_zero, List.getElem_cons_succ, Act.put, List.setIfInBounds_toArray, List.set_cons_zero, List.set_cons_succ]
            refine wpAnyH_take (i := 11) (v := .bool false) rfl (by kernel_rfl) (by kernel_rfl) (by kernel_rfl) (fun _ _ _ h => h) (Or.inl ⟨by rfl, fun w9 hSw => ?_⟩) hHeld ?_
            · obtain ⟨s0, s1, s2⟩ := hSw
              go_simp
            simp only [List.getElem_toArray, List.getElem_cons_zero, List.getElem_cons_succ, Act.put, List.setIfInBounds_toArray, List.set_cons_zero, List.set_cons_succ]
            refine wpAnyH_take (i := 12) (v := .slice (some ⟨pb, 0, none⟩) g.rs.length g.rs.length) rfl (by kernel_rfl) (by kernel_rfl) (by kernel_rfl) (fun _ _ _ h => h) (Or.inl ⟨by rfl, fun w9 hSw => ?_⟩) hHeld ?_
            · obtain ⟨s0, s1, s2⟩ := hSw
              go_simp
            simp only [List.getElem_toArray, List.getElem_cons_zero, List.getElem_cons_succ, Act.put, List.setIfInBounds_toArray, List.set_cons_zero, List.set_cons_succ]
            refine wpAnyH_take (i := 13) (v := .int .i64 (k : Int)) rfl (by kernel_rfl) (by kernel_rfl) (by kernel_rfl) (fun _ _ _ h => h) (Or.inl ⟨by rfl, fun w9 hSw => ?_⟩) hHeld ?_
            · obtain ⟨s0, s1, s2⟩ := hSw
              go_simp
            simp only [List.getElem_toArray, List.getElem_cons_zero, List.getElem_cons_succ, Act.put, List.setIfInBounds_toArray, List.set_cons_zero, List.set_cons_succ]
            refine wpAnyH_take (i := 14) (v := .pointer (some ⟨pb, k, none⟩)) rfl (by kernel_rfl) (by kernel_rfl) (by kernel_rfl) (fun _ _ _ h => h) (Or.inl ⟨by rfl, fun w9 hSw => ?_⟩) hHeld ?_
            · obtain ⟨s0, s1, s2⟩ := hSw
              go_simp
              all_goals (first | rfl | omega | go_num | (have := HK0.out; omega) | (have := HK0.out; simp; omega) | exact d1 | exact d2 | exact d3 | exact d4 | exact d5 | (rw [d8]; done) | (rw [d8]; assumption) | (rw [IntKind.wrap_i64]; omega) | (simp; done) | (simp; omega))
            simp only [List.getElem_toArray, List.getElem_cons_zero, List.getElem_cons_succ, Act.put, List.setIfInBounds_toArray, List.set_cons_zero, List.set_cons_succ]
            refine wpAnyH_take (i := 15) (v := .int .i64 (s.at_ : Int)) rfl (by kernel_rfl) (by kernel_rfl) (by kernel_rfl) (fun _ _ _ h => h) (Or.inl ⟨by rfl, fun w9 hSw => ?_⟩) hHeld ?_
            · obtain ⟨s0, s1, s2⟩ := hSw
              go_simp
            simp only [List.getElem_toArray, List.getElem_cons_zero, List.getElem_cons_succ, Act.put, List.setIfInBounds_toArray, List.set_cons_zero, List.set_cons_succ]
            refine wpAnyH_take (i := 16) (v := .string ⟨l.toArray⟩) rfl (by kernel_rfl) (by kernel_rfl) (by kernel_rfl) (fun _ _ _ h => h) (Or.inl ⟨by rfl, fun w9 hSw => ?_⟩) hHeld ?_
            · obtain ⟨s0, s1, s2⟩ := hSw
              go_simp
            simp only [List.getElem_toArray, List.getElem_cons_zero, List.getElem_cons_succ, Act.put, List.setIfInBounds_toArray, List.set_cons_zero, List.set_cons_succ]
            refine wpAnyH_take (i := 17) (v := .int .i64 ((⟨l.toArray⟩ : ByteArray).size : Int)) rfl (by kernel_rfl) (by kernel_rfl) (by kernel_rfl) (fun _ _ _ h => h) (Or.inl ⟨by rfl, fun w9 hSw => ?_⟩) hHeld ?_
            · obtain ⟨s0, s1, s2⟩ := hSw
              go_simp
              all_goals (first | rfl | omega | go_num | (have := HK0.out; omega) | (have := HK0.out; simp; omega) | exact d1 | exact d2 | exact d3 | exact d4 | exact d5 | (rw [d8]; done) | (rw [d8]; assumption) | (rw [IntKind.wrap_i64]; omega) | (simp; done) | (simp; omega))
            simp only [List.getElem_toArray, List.getElem_cons_zero, List.getElem_cons_succ, Act.put, List.setIfInBounds_toArray, List.set_cons_zero, List.set_cons_succ]
            refine wpAnyH_take (i := 18) (v := .bool false) rfl (by kernel_rfl) (by kernel_rfl) (by kernel_rfl) (fun _ _ _ h => h) (Or.inl ⟨by rfl, fun w9 hSw => ?_⟩) hHeld ?_
            · obtain ⟨s0, s1, s2⟩ := hSw
              go_simp
              all_goals (first | rfl | omega | go_num | (have := HK0.out; omega) | (have := HK0.out; simp; omega) | exact d1 | exact d2 | exact d3 | exact d4 | exact d5 | (rw [d8]; done) | (rw [d8]; assumption) | (rw [IntKind.wrap_i64]; omega) | (simp; done) | (simp; omega))
            simp only [List.getElem_toArray, List.getElem_cons_zero, List.getElem_cons_succ, Act.put, List.setIfInBounds_toArray, List.set_cons_zero, List.set_cons_succ]
            refine wpAnyH_take (i := 19) (v := .bool false) rfl (by kernel_rfl) (by kernel_rfl) (by kernel_rfl) (fun _ _ _ h => h) (Or.inl ⟨by rfl, fun w9 hSw => ?_⟩) hHeld ?_
            · obtain ⟨s0, s1, s2⟩ := hSw
              go_simp
            simp only [List.getElem_toArray, List.getElem_cons_zero, List.getElem_cons_succ, Act.put, List.setIfInBounds_toArray, List.set_cons_zero, List.set_cons_succ]
            refine wpAnyH_take (i := 20) (v := .bool false) rfl (by kernel_rfl) (by kernel_rfl) (by kernel_rfl) (fun _ _ _ h => h) (Or.inl ⟨by rfl, fun w9 hSw => ?_⟩) hHeld ?_
            · obtain ⟨s0, s1, s2⟩ := hSw
              go_simp
            simp only [List.getElem_toArray, List.getElem_cons_zero, List.getElem_cons_succ, Act.put, List.setIfInBounds_toArray, List.set_cons_zero, List.set_cons_succ]
            refine wpAnyH_take (i := 21) (v := .int .i64 (k : Int)) rfl (by kernel_rfl) (by kernel_rfl) (by kernel_rfl) (fun _ _ _ h => h) (Or.inl ⟨by rfl, fun w9 hSw => ?_⟩) hHeld ?_
            · obtain ⟨s0, s1, s2⟩ := hSw
              go_simp
            simp only [List.getElem_toArray, List.getElem_cons_zero, List.getElem_cons_succ, Act.put, List.setIfInBounds_toArray, List.set_cons_zero, List.set_cons_succ]
            refine wpAnyH_take (i := 22) (v := .bool true) rfl (by kernel_rfl) (by kernel_rfl) (by kernel_rfl) (fun _ _ _ h => h) (Or.inl ⟨by rfl, fun w9 hSw => ?_⟩) hHeld ?_
            · obtain ⟨s0, s1, s2⟩ := hSw
              go_simp
              all_goals (first | rfl | omega | go_num | (have := HK0.out; omega) | (have := HK0.out; simp; omega) | exact d1 | exact d2 | exact d3 | exact d4 | exact d5 | (rw [d8]; done) | (rw [d8]; assumption) | (rw [IntKind.wrap_i64]; omega) | (simp; done) | (simp; omega))
            simp only [List.getElem_toArray, List.getElem_cons_zero, List.getElem_cons_succ, Act.put, List.setIfInBounds_toArray, List.set_cons_zero, List.set_cons_succ]
            refine wpAnyH_take (i := 23) (v := .bool true) rfl (by kernel_rfl) (by kernel_rfl) (by kernel_rfl) (fun _ _ _ h => h) (Or.inl ⟨by rfl, fun w9 hSw => ?_⟩) hHeld ?_
            · obtain ⟨s0, s1, s2⟩ := hSw
              go_simp
            simp only [List.getElem_toArray, List.getElem_cons_zero, List.getElem_cons_succ, Act.put, List.setIfInBounds_toArray, List.set_cons_zero, List.set_cons_succ]
            refine wpAnyH_take (i := 24) (v := .slice (some ⟨pb, 0, none⟩) g.rs.length g.rs.length) rfl (by kernel_rfl) (by kernel_rfl) (by kernel_rfl) (fun _ _ _ h => h) (Or.inl ⟨by rfl, fun w9 hSw => ?_⟩) hHeld ?_
            · obtain ⟨s0, s1, s2⟩ := hSw
              go_simp
            simp only [List.getElem_toArray, List.getElem_cons_zero, List.getElem_cons_succ, Act.put, List.setIfInBounds_toArray, List.set_cons_zero, List.set_cons_succ]
            refine wpAnyH_take (i := 25) (v := .int .i64 (k : Int)) rfl (by kernel_rfl) (by kernel_rfl) (by kernel_rfl) (fun _ _ _ h => h) (Or.inl ⟨by rfl, fun w9 hSw => ?_⟩) hHeld ?_
            · obtain ⟨s0, s1, s2⟩ := hSw
              go_simp
            simp only [List.getElem_toArray, List.getElem_cons_zero, List.getElem_cons_succ, Act.put, List.setIfInBounds_toArray, List.set_cons_zero, List.set_cons_succ]
            refine wpAnyH_take (i := 26) (v := .pointer (some ⟨pb, k, none⟩)) rfl (by kernel_rfl) (by kernel_rfl) (by kernel_rfl) (fun _ _ _ h => h) (Or.inl ⟨by rfl, fun w9 hSw => ?_⟩) hHeld ?_
            · obtain ⟨s0, s1, s2⟩ := hSw
              go_simp
              all_goals (first | rfl | omega | go_num | (have := HK0.out; omega) | (have := HK0.out; simp; omega) | exact d1 | exact d2 | exact d3 | exact d4 | exact d5 | (rw [d8]; done) | (rw [d8]; assumption) | (rw [IntKind.wrap_i64]; omega) | (simp; done) | (simp; omega))
            simp only [List.getElem_toArray, List.getElem_cons_zero, List.getElem_cons_succ, Act.put, List.setIfInBounds_toArray, List.set_cons_zero, List.set_cons_succ]
            refine wpAnyH_take (i := 27) (v := .int .i64 (s.at_ : Int)) rfl (by kernel_rfl) (by kernel_rfl) (by kernel_rfl) (fun _ _ _ h => h) (Or.inl ⟨by rfl, fun w9 hSw => ?_⟩) hHeld ?_
            · obtain ⟨s0, s1, s2⟩ := hSw
              go_simp
            simp only [List.getElem_toArray, List.getElem_cons_zero, List.getElem_cons_succ, Act.put, List.setIfInBounds_toArray, List.set_cons_zero, List.set_cons_succ]
            refine wpAnyH_take (i := 28) (v := .slice (some ⟨pb, 0, none⟩) g.rs.length g.rs.length) rfl (by kernel_rfl) (by kernel_rfl) (by kernel_rfl) (fun _ _ _ h => h) (Or.inl ⟨by rfl, fun w9 hSw => ?_⟩) hHeld ?_
            · obtain ⟨s0, s1, s2⟩ := hSw
              go_simp
            simp only [List.getElem_toArray, List.getElem_cons_zero, List.getElem_cons_succ, Act.put, List.setIfInBounds_toArray, List.set_cons_zero, List.set_cons_succ]
            refine wpAnyH_take (i := 29) (v := .int .i64 (k : Int)) rfl (by kernel_rfl) (by kernel_rfl) (by kernel_rfl) (fun _ _ _ h => h) (Or.inl ⟨by rfl, fun w9 hSw => ?_⟩) hHeld ?_
            · obtain ⟨s0, s1, s2⟩ := hSw
              go_simp
            simp only [List.getElem_toArray, List.getElem_cons_zero, List.getElem_cons_succ, Act.put, List.setIfInBounds_toArray, List.set_cons_zero, List.set_cons_succ]
            refine wpAnyH_take (i := 30) (v := .int .i64 ((k : Int) - 1)) rfl (by kernel_rfl) (by kernel_rfl) (by kernel_rfl) (fun _ _ _ h => h) (Or.inl ⟨by rfl, fun w9 hSw => ?_⟩) hHeld ?_
            · obtain ⟨s0, s1, s2⟩ := hSw
              go_simp
              all_goals (first | rfl | omega | go_num | (have := HK0.out; omega) | (have := HK0.out; simp; omega) | exact d1 | exact d2 | exact d3 | exact d4 | exact d5 | (rw [d8]; done) | (rw [d8]; assumption) | (rw [IntKind.wrap_i64]; omega) | (simp; done) | (simp; omega))
            simp only [List.getElem_toArray, List.getElem_cons_zero, List.getElem_cons_succ, Act.put, List.setIfInBounds_toArray, List.set_cons_zero, List.set_cons_succ]
            refine wpAnyH_take (i := 31) (v := .pointer (some ⟨pb, k - 1, none⟩)) rfl (by kernel_rfl) (by kernel_rfl) (by kernel_rfl) (fun _ _ _ h => h) (Or.inl ⟨by rfl, fun w9 hSw => ?_⟩) hHeld ?_
            · obtain ⟨s0, s1, s2⟩ := hSw
              go_simp
              all_goals (first | rfl | omega | go_num | (have := HK0.out; omega) | (have := HK0.out; simp; omega) | exact d1 | exact d2 | exact d3 | exact d4 | exact d5 | (rw [d8]; done) | (rw [d8]; assumption) | (rw [IntKind.wrap_i64]; omega) | (simp; done) | (simp; omega))
            simp only [List.getElem_toArray, List.getElem_cons_zero, List.getElem_cons_succ, Act.put, List.setIfInBounds_toArray, List.set_cons_zero, List.set_cons_succ]
            refine wpAnyH_take (i := 32) (v := .int .i64 (s0.at_ : Int)) rfl (by kernel_rfl) (by kernel_rfl) (by kernel_rfl) (fun _ _ _ h => h) (Or.inl ⟨by rfl, fun w9 hSw => ?_⟩) hHeld ?_
            · obtain ⟨s0, s1, s2⟩ := hSw
              go_simp
            simp only [List.getElem_toArray, List.getElem_cons_zero, List.getElem_cons_succ, Act.put, List.setIfInBounds_toArray, List.set_cons_zero, List.set_cons_succ]
            refine wpAnyH_take (i := 33) (v := .bool false) rfl (by kernel_rfl) (by kernel_rfl) (by kernel_rfl) (fun _ _ _ h => h) (Or.inl ⟨by rfl, fun w9 hSw => ?_⟩) hHeld ?_
            · obtain ⟨s0, s1, s2⟩ := hSw
              go_simp
              all_goals (first | rfl | omega | go_num | (have := HK0.out; omega) | (have := HK0.out; simp; omega) | exact d1 | exact d2 | exact d3 | exact d4 | exact d5 | (rw [d8]; done) | (rw [d8]; assumption) | (rw [IntKind.wrap_i64]; omega) | (simp; done) | (simp; omega))
            simp only [List.getElem_toArray, List.getElem_cons_zero, List.getElem_cons_succ, Act.put, List.setIfInBounds_toArray, List.set_cons_zero, List.set_cons_succ]
            refine wpAnyH_take (i := 34) (v := .bool false) rfl (by kernel_rfl) (by kernel_rfl) (by kernel_rfl) (fun _ _ _ h => h) (Or.inl ⟨by rfl, fun w9 hSw => ?_⟩) hHeld ?_
            · obtain ⟨s0, s1, s2⟩ := hSw
              go_simp
            simp only [List.getElem_toArray, List.getElem_cons_zero, List.getElem_cons_succ, Act.put, List.setIfInBounds_toArray, List.set_cons_zero, List.set_cons_succ]
            refine wpAnyH_take (i := 35) (v := .bool false) rfl (by kernel_rfl) (by kernel_rfl) (by kernel_rfl) (fun _ _ _ h => h) (Or.inl ⟨by rfl, fun w9 hSw => ?_⟩) hHeld ?_
            · obtain ⟨s0, s1, s2⟩ := hSw
              go_simp
            simp only [List.getElem_toArray, List.getElem_cons_zero, List.getElem_cons_succ, Act.put, List.setIfInBounds_toArray, List.set_cons_zero, List.set_cons_succ]
            refine wpAnyH_done (by kernel_rfl) (NoPanic.normal ?_) _
            clear hHeld
            have hbx1 : RowAt W1 V.heap.size 46 #[.int .i64 r.left, .slice (some ⟨xb, 0, none⟩) r.right.length r.right.length] := hbx.below hbd1 hbx.lt
            have hrr1 : RowAt W1 xb 3 (intsA r.right) := hrx.below hbd1 hrx.lt
            have y0 := hbx1.cell (q := 0) rfl
            clear hW1
            by_cases hle : r.left = (nn : Int)
            · have hle2 : (r.left == (nn : Int)) = true := by simpa using hle
              rw [if_pos hle] at hG1
              have hG2 : Hid (rulesGo (g.rs.drop (k + 1)) (nn + 1) t' = some (g.ns.length, g.ts.length)) := hG1
              have hnn := (rules_le _ _ _ _ _ hG1)
              clear hG1
              go_wp2
              go_loopw [9, 12] (fun t j W => ∃ (m tt : Nat), m ≤ r.right.length ∧ j = .int .i64 m ∧ t = .int .i64 tt ∧ Hid (termsGo (r.right.drop m) tt = some t') ∧ Below W1.heap.size W1 W) (fun _ j _ => r.right.length - (intOf j).toNat)
              case atStart => exact ⟨0, tt, Nat.zero_le _, rfl, rfl, (by show _ = _; rw [List.drop_zero]; exact ht.out), Below.refl _ _⟩
              case round =>
                obtain ⟨m, tu, hm, rfl, rfl, hT, hBm⟩ := hrel
                obtain ⟨W2, rfl⟩ : ∃ W2, W2 = wr := ⟨_, rfl⟩
                have hbx2 := hbx1.below hBm hbx1.lt
                have x1 := hbx2.cell (q := 1) rfl
                have htu := (terms_le _ _ _ hT.out)
                by_cases hml : m < r.right.length
                · obtain ⟨x, hx⟩ : ∃ x, r.right[m]? = some x := ⟨_, List.getElem?_eq_getElem hml⟩
                  have hml2 : (m : Int) < (r.right.length : Int) := by omega
                  have hdr : Hid (r.right.drop m = x :: r.right.drop (m + 1)) := by
                    obtain ⟨hk', e⟩ := List.getElem?_eq_some_iff.1 hx
                    show _ = _
                    rw [← e]
                    exact List.drop_eq_getElem_cons hk'
                  have hri := hrr1.below hBm hrr1.lt
                  have ci : W2.cell? ⟨xb, m, none⟩ = some (.int .i64 x) := hri.cell (q := m) (by simp [intsA, hx])
                  have hT2 := hT.out
                  rw [hdr.out] at hT2
                  unfold termsGo at hT2
                  by_cases hgt : (tu : Int) < x
                  · rw [if_pos hgt] at hT2; cases hT2
                  · rw [if_neg hgt] at hT2
                    by_cases heq : x = (tu : Int)
                    · rw [if_pos heq] at hT2
                      have heq2 : (x == (tu : Int)) = true := by simpa using heq
                      have HT2 : Hid (termsGo (r.right.drop (m + 1)) (tu + 1) = some t') := hT2
                      have htv := (terms_le _ _ _ hT2)
                      subst heq
                      clear hT hT2 hdr hx hri hbx2
                      go_wp2
                      go_roundw
                      case rel => exact ⟨m + 1, tu + 1, by omega, by go_num, by go_num, HT2, hBm⟩
                      case measure => simp [intOf]; omega
                    · rw [if_neg heq] at hT2
                      have heq2 : (x == (tu : Int)) = false := by simpa using heq
                      have HT2 : Hid (termsGo (r.right.drop (m + 1)) tu = some t') := hT2
                      clear hT hT2 hdr hx hri hbx2
                      go_wp2
                      go_roundw
                      case rel => exact ⟨m + 1, tu, by omega, by go_num, rfl, HT2, hBm⟩
                      case measure => simp [intOf]; omega
                · obtain rfl : m = r.right.length := by omega
                  have hml2 : ¬ (r.right.length : Int) < (r.right.length : Int) := by omega
                  have hT2 := hT.out
                  rw [List.drop_of_length_le (Nat.le_refl _)] at hT2
                  cases hT2
                  have hBo : Below w6.heap.size w6 W2 := hBw1.trans (hBm.mono hBw1.size)
                  clear hT hbx2 hBm
                  go_wp2
                  go_roundw
                  case rel => exact ⟨k + 1, (nn + 1), t', by omega, by go_num, by go_num, rfl, hG2, hBo⟩
                  case measure => simp [intOf]; omega

            · have hle2 : (r.left == (nn : Int)) = false := by simpa using hle
              rw [if_neg hle] at hG1
              have hG2 : Hid (rulesGo (g.rs.drop (k + 1)) nn t' = some (g.ns.length, g.ts.length)) := hG1
              have hnn := (rules_le _ _ _ _ _ hG1)
              clear hG1
              go_wp2
              go_loopw [9, 12] (fun t j W => ∃ (m tt : Nat), m ≤ r.right.length ∧ j = .int .i64 m ∧ t = .int .i64 tt ∧ Hid (termsGo (r.right.drop m) tt = some t') ∧ Below W1.heap.size W1 W) (fun _ j _ => r.right.length - (intOf j).toNat)
              case atStart => exact ⟨0, tt, Nat.zero_le _, rfl, rfl, (by show _ = _; rw [List.drop_zero]; exact ht.out), Below.refl _ _⟩
              case round =>
                obtain ⟨m, tu, hm, rfl, rfl, hT, hBm⟩ := hrel
                obtain ⟨W2, rfl⟩ : ∃ W2, W2 = wr := ⟨_, rfl⟩
                have hbx2 := hbx1.below hBm hbx1.lt
                have x1 := hbx2.cell (q := 1) rfl
                have htu := (terms_le _ _ _ hT.out)
                by_cases hml : m < r.right.length
                · obtain ⟨x, hx⟩ : ∃ x, r.right[m]? = some x := ⟨_, List.getElem?_eq_getElem hml⟩
                  have hml2 : (m : Int) < (r.right.length : Int) := by omega
                  have hdr : Hid (r.right.drop m = x :: r.right.drop (m + 1)) := by
                    obtain ⟨hk', e⟩ := List.getElem?_eq_some_iff.1 hx
                    show _ = _
                    rw [← e]
                    exact List.drop_eq_getElem_cons hk'
                  have hri := hrr1.below hBm hrr1.lt
                  have ci : W2.cell? ⟨xb, m, none⟩ = some (.int .i64 x) := hri.cell (q := m) (by simp [intsA, hx])
                  have hT2 := hT.out
                  rw [hdr.out] at hT2
                  unfold termsGo at hT2
                  by_cases hgt : (tu : Int) < x
                  · rw [if_pos hgt] at hT2; cases hT2
                  · rw [if_neg hgt] at hT2
                    by_cases heq : x = (tu : Int)
                    · rw [if_pos heq] at hT2
                      have heq2 : (x == (tu : Int)) = true := by simpa using heq
                      have HT2 : Hid (termsGo (r.right.drop (m + 1)) (tu + 1) = some t') := hT2
                      have htv := (terms_le _ _ _ hT2)
                      subst heq
                      clear hT hT2 hdr hx hri hbx2
                      go_wp2
                      go_roundw
                      case rel => exact ⟨m + 1, tu + 1, by omega, by go_num, by go_num, HT2, hBm⟩
                      case measure => simp [intOf]; omega
                    · rw [if_neg heq] at hT2
                      have heq2 : (x == (tu : Int)) = false := by simpa using heq
                      have HT2 : Hid (termsGo (r.right.drop (m + 1)) tu = some t') := hT2
                      clear hT hT2 hdr hx hri hbx2
                      go_wp2
                      go_roundw
                      case rel => exact ⟨m + 1, tu, by omega, by go_num, rfl, HT2, hBm⟩
                      case measure => simp [intOf]; omega
                · obtain rfl : m = r.right.length := by omega
                  have hml2 : ¬ (r.right.length : Int) < (r.right.length : Int) := by omega
                  have hT2 := hT.out
                  rw [List.drop_of_length_le (Nat.le_refl _)] at hT2
                  cases hT2
                  have hBo : Below w6.heap.size w6 W2 := hBw1.trans (hBm.mono hBw1.size)
                  clear hT hbx2 hBm
                  go_wp2
                  go_roundw
                  case rel => exact ⟨k + 1, nn, t', by omega, by go_num, rfl, rfl, hG2, hBo⟩
                  case measure => simp [intOf]; omega

    · obtain rfl : k = g.rs.length := by omega
      have hlt2 : ¬ (g.rs.length : Int) < (g.rs.length : Int) := by omega
      have hG1 := hG.out
      rw [List.drop_of_length_le (Nat.le_refl _)] at hG1
      cases hG1
      have hBo := hB6.trans (hB.mono hB6.size)
      have q1 : (((g.ns.length : Nat) : Int) == ((g.ns.length : Nat) : Int)) = true := by simp
      have q2 : (((g.ts.length : Nat) : Int) == ((g.ts.length : Nat) : Int)) = true := by simp
      clear hG
      go_wp2
      go_ret
      exact ⟨rfl, hBo⟩

theorem walkB (s : ByteArray) (p : Nat → Addr) (w : World) (hs : s.size ≤ 1048576) (hE : GramErrs.Errs w p) (hT : GramErrs.ErrType w) :
    Calls Tryz.prog 5 #[.string s] w fun e w' => e = .returned (.bool true) ∧ Below w.heap.size w w' := by
  have hl : s.data.toList.length ≤ 1048576 := by rw [WordsOne.list_size]; exact hs
  have h : Calls Tryz.prog 5 #[.string ⟨s.data.toList.toArray⟩] w fun e w' => e = .returned (.bool true) ∧ Below w.heap.size w w' := by
    cases hz : sidesZ s.data.toList with
    | error q => exact walk_error _ q p w hl ⟨hE, hT⟩ hz
    | ok all =>
      by_cases hck : (checkG (madeZ all)).1 = 0
      · exact walk_good _ all p w hl ⟨hE, hT⟩ hz hck
      · exact walk_big _ all p w hl ⟨hE, hT⟩ hz hck
  have e1 : (⟨s.data.toList.toArray⟩ : ByteArray) = s := by cases s; simp
  rw [e1] at h
  exact h

end Go.Proofs.YtgepbophnbbbpaaGreatDoor.SpecRightW
