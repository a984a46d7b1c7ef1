/-
  Texts that stand together: UsefulTop.
-/
import Derived.Test.YthbbipgngeflnaaGreatDoorBUsefulWithin
import Derived.Test.YthbbipgngeflnaaGreatDoorBGramBase
namespace Go.Proofs.YthbbipgngeflnaaGreatDoor.UsefulTop
open Go.RowKit Go.Proofs.YthbbipgngeflnaaGreatDoor.GramMath Go.Proofs.YthbbipgngeflnaaGreatDoor.GramRow Go.Proofs.YthbbipgngeflnaaGreatDoor.SetsMath Go.Proofs.YthbbipgngeflnaaGreatDoor.UsefulMath Go.Proofs.YthbbipgngeflnaaGreatDoor.UsefulFn Go.Proofs.YthbbipgngeflnaaGreatDoor.GramCheck
set_option linter.unusedVariables false
set_option linter.unusedSimpArgs false

/-- A set, where the grammar may be. -/
def okI (g : G) (x : Int) : Int := if (checkG g).1 = 0 then x else 0
theorem okI_yes {g : G} (h : (checkG g).1 = 0) (x : Int) : okI g x = x := if_pos h
theorem okI_no {g : G} (h : (checkG g).1 ≠ 0) (x : Int) : okI g x = 0 := if_neg h
theorem ck_iface {base : Nat} {p : Nat → Addr} {z : Nat × Option Nat} {w : World} {v : Value} (h : CkV base p z w v) (hz : z.1 ≠ 0) : ∃ t u, v = .iface t u := by
  match z, hz, h with
  | (0, _), h, _ => exact absurd rfl h
  | (k + 1, none), _, h => exact ⟨_, _, h⟩
  | (k + 1, some i), _, ⟨b, _, h, _⟩ => exact ⟨_, _, h⟩
theorem ck_nil {base : Nat} {p : Nat → Addr} {z : Nat × Option Nat} {w : World} {v : Value} (h : CkV base p z w v) (hz : z.1 = 0) : v = .nilIface := by
  match z, hz, h with
  | (0, _), _, h => exact h
theorem ck_of_nil {base : Nat} {p : Nat → Addr} {z : Nat × Option Nat} {w : World} (hz : z.1 = 0) : CkV base p z w .nilIface := by
  match z, hz with
  | (0, _), _ => rfl
theorem ret_sv {a b : Int} {v : Value} (h : a = b) : Ending.returned (.tuple #[.int .u64 a, v]) = .returned (.tuple #[.int .u64 b, v]) := by rw [h]
theorem drew_in (W : World) : Below W.heap.size W W.drew := ⟨rfl, rfl, rfl, Nat.le_refl W.heap.size, fun _ _ => rfl⟩


set_option maxRecDepth 100000 in
set_option maxHeartbeats 2000000 in
theorem Productive_top (ta na ra : Option Addr) (tc nc rc : Nat) (g : G) (p : Nat → Addr) (w : World) (hG : GRow w ta na ra g) (hg : okG g) (htc : g.ts.length ≤ tc) (hnc : g.ns.length ≤ nc) (hS : Sents w p) :
    Calls Tryz.prog 32 #[.agg #[.slice ta g.ts.length tc, .slice na g.ns.length nc, .int .i64 g.ax, .slice ra g.rs.length rc]] w fun e w' => (∃ v, e = .returned (.tuple #[.int .u64 (okI g (prodI g)), v]) ∧ CkV w.heap.size p (checkG g) w' v) ∧ Below w.heap.size w w' := by
  have hneq := neq_nil
  have hB1 : Below w.heap.size w (w.alloc (.cells #[.slice ta g.ts.length tc, .slice na g.ns.length nc, .int .i64 g.ax, .slice ra g.rs.length rc] 25)) := (Below.refl _ _).alloc (Nat.le_refl _) _
  have b0 : (w.alloc (.cells #[.slice ta g.ts.length tc, .slice na g.ns.length nc, .int .i64 g.ax, .slice ra g.rs.length rc] 25)).cell? ⟨w.heap.size, 0, none⟩ = some (.slice ta g.ts.length tc) := by simp [go_sem]
  have b1 : (w.alloc (.cells #[.slice ta g.ts.length tc, .slice na g.ns.length nc, .int .i64 g.ax, .slice ra g.rs.length rc] 25)).cell? ⟨w.heap.size, 1, none⟩ = some (.slice na g.ns.length nc) := by simp [go_sem]
  have b2 : (w.alloc (.cells #[.slice ta g.ts.length tc, .slice na g.ns.length nc, .int .i64 g.ax, .slice ra g.rs.length rc] 25)).cell? ⟨w.heap.size, 2, none⟩ = some (.int .i64 g.ax) := by simp [go_sem]
  have b3 : (w.alloc (.cells #[.slice ta g.ts.length tc, .slice na g.ns.length nc, .int .i64 g.ax, .slice ra g.rs.length rc] 25)).cell? ⟨w.heap.size, 3, none⟩ = some (.slice ra g.rs.length rc) := by simp [go_sem]
  have hz : (w.alloc (.cells #[.slice ta g.ts.length tc, .slice na g.ns.length nc, .int .i64 g.ax, .slice ra g.rs.length rc] 25)).heap.size = w.heap.size + 1 := by simp
  have hck := check_any ta na ra tc nc rc g p _ (hG.below hB1 (Nat.le_refl _)) hg htc hnc (hS.below hB1 (Nat.le_refl _))
  go_enter Tryz.func32, Tryz.ntmps32
  go_wp2_with fail
  generalize w.alloc (.cells #[.slice ta g.ts.length tc, .slice na g.ns.length nc, .int .i64 g.ax, .slice ra g.rs.length rc] 25) = W1 at *
  refine hck.mono ?_
  rintro e w1 ⟨⟨v, rfl, hv⟩, hb1⟩
  have hB2 := hB1.trans (hb1.mono (by omega))
  have c3 := (hb1.cell (p := ⟨w.heap.size, 3, none⟩) (by rw [hz]; simp)).trans b3
  clear hck
  by_cases h0 : (checkG g).1 = 0
  · have hgood := good_of h0
    obtain rfl := ck_nil hv h0
    have hp := productive_any ra rc g.rs w1 (hG.2.2.below hB2 (Nat.le_refl _)) hg.2.2.2.2.1 hg.2.2.1
    have E : Hid (∀ S, Grown addP g.rs 0 S → S = okI g (prodI g)) := fun S h => by rw [okI_yes h0]; exact prod_grown hgood h
    have hv2 : Hid (∀ W, CkV w.heap.size p (checkG g) W .nilIface) := fun W => ck_of_nil h0
    clear hv h0
    go_wp2_with fail
    refine hp.mono ?_
    rintro e w2 ⟨⟨S, rfl, hSg⟩, hb2⟩
    go_wp2
    go_ret2
    exact ⟨⟨_, ret_sv (E.out S hSg), hv2.out _⟩, hB2.trans (hb2.mono hB2.size)⟩
  · obtain ⟨t, u, rfl⟩ := ck_iface hv h0
    have E : Hid (okI g (prodI g) = 0) := okI_no h0 _
    have hv2 : Hid (_) := hv.mono (base' := w.heap.size) (by omega)
    clear h0 hv
    go_wp2
    go_ret2
    exact ⟨⟨_, ret_sv E.out.symm, hv2.out⟩, hB2⟩


set_option maxRecDepth 100000 in
set_option maxHeartbeats 2000000 in
theorem Useful_top (ta na ra : Option Addr) (tc nc rc : Nat) (g : G) (p : Nat → Addr) (w : World) (hG : GRow w ta na ra g) (hg : okG g) (htc : g.ts.length ≤ tc) (hnc : g.ns.length ≤ nc) (hnil : ra = none → g.rs.length = 0 ∧ rc = 0) (hS : Sents w p) :
    Calls Tryz.prog 13 #[.agg #[.slice ta g.ts.length tc, .slice na g.ns.length nc, .int .i64 g.ax, .slice ra g.rs.length rc]] w fun e w' => (∃ v, e = .returned (.tuple #[.int .u64 (okI g (usefulI g)), v]) ∧ CkV w.heap.size p (checkG g) w' v) ∧ Below w.heap.size w w' := by
  have hneq := neq_nil
  have hB1 : Below w.heap.size w (w.alloc (.cells #[.slice ta g.ts.length tc, .slice na g.ns.length nc, .int .i64 g.ax, .slice ra g.rs.length rc] 25)) := (Below.refl _ _).alloc (Nat.le_refl _) _
  have b0 : (w.alloc (.cells #[.slice ta g.ts.length tc, .slice na g.ns.length nc, .int .i64 g.ax, .slice ra g.rs.length rc] 25)).cell? ⟨w.heap.size, 0, none⟩ = some (.slice ta g.ts.length tc) := by simp [go_sem]
  have b1 : (w.alloc (.cells #[.slice ta g.ts.length tc, .slice na g.ns.length nc, .int .i64 g.ax, .slice ra g.rs.length rc] 25)).cell? ⟨w.heap.size, 1, none⟩ = some (.slice na g.ns.length nc) := by simp [go_sem]
  have b2 : (w.alloc (.cells #[.slice ta g.ts.length tc, .slice na g.ns.length nc, .int .i64 g.ax, .slice ra g.rs.length rc] 25)).cell? ⟨w.heap.size, 2, none⟩ = some (.int .i64 g.ax) := by simp [go_sem]
  have b3 : (w.alloc (.cells #[.slice ta g.ts.length tc, .slice na g.ns.length nc, .int .i64 g.ax, .slice ra g.rs.length rc] 25)).cell? ⟨w.heap.size, 3, none⟩ = some (.slice ra g.rs.length rc) := by simp [go_sem]
  have hz : (w.alloc (.cells #[.slice ta g.ts.length tc, .slice na g.ns.length nc, .int .i64 g.ax, .slice ra g.rs.length rc] 25)).heap.size = w.heap.size + 1 := by simp
  have hck := Productive_top ta na ra tc nc rc g p _ (hG.below hB1 (Nat.le_refl _)) hg htc hnc (hS.below hB1 (Nat.le_refl _))
  go_enter Tryz.func13, Tryz.ntmps13
  go_wp2_with fail
  generalize w.alloc (.cells #[.slice ta g.ts.length tc, .slice na g.ns.length nc, .int .i64 g.ax, .slice ra g.rs.length rc] 25) = W1 at *
  refine hck.mono ?_
  rintro e w1 ⟨⟨v, rfl, hv⟩, hb1⟩
  have hB2 := hB1.trans (hb1.mono (by omega))
  have c2 := (hb1.cell (p := ⟨w.heap.size, 2, none⟩) (by rw [hz]; simp)).trans b2
  have c3 := (hb1.cell (p := ⟨w.heap.size, 3, none⟩) (by rw [hz]; simp)).trans b3
  have hWz : w.heap.size < w1.heap.size := by have := hb1.size; omega
  clear hck
  by_cases h0 : (checkG g).1 = 0
  · have hgood := good_of h0
    obtain rfl := ck_nil hv h0
    rw [okI_yes h0] at *
    have E : Hid (∀ S, Grown addR (g.rs.filter (rin (prodI g))) (meetI (prodI g) (ofI [g.ax])) S → S = okI g (usefulI g)) := fun S h => by rw [okI_yes h0]; exact useful_grown hgood h
    have hv2 : Hid (∀ W, CkV w.heap.size p (checkG g) W .nilIface) := fun W => ck_of_nil h0
    have hR1 := hG.2.2.below hB2 (Nat.le_refl _)
    have h120 := hgood.rules
    obtain ⟨_, _, hgl, _, hgo, _⟩ := hg
    have hgo2 : ∀ r ∈ g.rs.filter (rin (prodI g)), okR r := fun r hr => hgo r (List.mem_filter.1 hr).1
    have hgl2 : (g.rs.filter (rin (prodI g))).length ≤ 1125899906842624 := Nat.le_trans (List.length_filter_le _ _) hgl
    have hms : IsSet (meetI (prodI g) (ofI [g.ax])) := meetI_isSet (prodI_isSet g)
    have hd1 := drew_in w1
    clear hv h0 hgood hG
    go_wp2_with fail
    have hS : ∀ w', Below w1.heap.size w1 w' → (w'.cell? ⟨w.heap.size, 2, none⟩ = some (.int .i64 g.ax) ∧ w'.cell? ⟨w.heap.size, 3, none⟩ = some (.slice ra g.rs.length rc)) := fun w' hb => ⟨(hb.cell (p := ⟨w.heap.size, 2, none⟩) hWz).trans c2, (hb.cell (p := ⟨w.heap.size, 3, none⟩) hWz).trans c3⟩
    refine wp_region_noPanic ?_
    refine wp_region_held_drew (S := (fun w' => w'.cell? ⟨w.heap.size, 2, none⟩ = some (.int .i64 g.ax) ∧ w'.cell? ⟨w.heap.size, 3, none⟩ = some (.slice ra g.rs.length rc))) (by kernel_rfl) (hS _ (drew_in w1)) (fun hHeld => ?_)
    refine wpAnyH_take (i := 0) (v := .int .u64 (prodI g)) rfl (by kernel_rfl) (by kernel_rfl) (by kernel_rfl) (fun _ _ _ h => h) (Or.inl ⟨by rfl, fun w9 hSw => ?_⟩) hHeld ?_
    · obtain ⟨s2, s3⟩ := hSw
      go_simp
    simp only [List.getElem_toArray, List.getElem_cons_zero, List.getElem_cons_succ, Act.put, List.setIfInBounds_toArray, List.set_cons_zero, List.set_cons_succ]
    refine wpAnyH_take (i := 1) (v := .pointer (some ⟨w.heap.size, 2, none⟩)) rfl (by kernel_rfl) (by kernel_rfl) (by kernel_rfl) (fun _ _ _ h => h) (Or.inl ⟨by rfl, fun w9 hSw => ?_⟩) hHeld ?_
    · obtain ⟨s2, s3⟩ := hSw
      go_simp
    simp only [List.getElem_toArray, List.getElem_cons_zero, List.getElem_cons_succ, Act.put, List.setIfInBounds_toArray, List.set_cons_zero, List.set_cons_succ]
    refine wpAnyH_take (i := 2) (v := .int .i64 g.ax) rfl (by kernel_rfl) (by kernel_rfl) (by kernel_rfl) (fun _ _ _ h => h) (Or.inl ⟨by rfl, fun w9 hSw => ?_⟩) hHeld ?_
    · obtain ⟨s2, s3⟩ := hSw
      go_simp
    simp only [List.getElem_toArray, List.getElem_cons_zero, List.getElem_cons_succ, Act.put, List.setIfInBounds_toArray, List.set_cons_zero, List.set_cons_succ]
    refine wpAnyH_take (i := 6) (v := .pointer (some ⟨w.heap.size, 3, none⟩)) rfl (by kernel_rfl) (by kernel_rfl) (by kernel_rfl) (fun _ _ _ h => h) (Or.inl ⟨by rfl, fun w9 hSw => ?_⟩) hHeld ?_
    · obtain ⟨s2, s3⟩ := hSw
      go_simp
    simp only [List.getElem_toArray, List.getElem_cons_zero, List.getElem_cons_succ, Act.put, List.setIfInBounds_toArray, List.set_cons_zero, List.set_cons_succ]
    refine wpAnyH_take (i := 7) (v := .slice ra g.rs.length rc) rfl (by kernel_rfl) (by kernel_rfl) (by kernel_rfl) (fun _ _ _ h => h) (Or.inl ⟨by rfl, fun w9 hSw => ?_⟩) hHeld ?_
    · obtain ⟨s2, s3⟩ := hSw
      go_simp
    simp only [List.getElem_toArray, List.getElem_cons_zero, List.getElem_cons_succ, Act.put, List.setIfInBounds_toArray, List.set_cons_zero, List.set_cons_succ]
    refine wpAnyH_take (i := 8) (v := .int .u64 (prodI g)) rfl (by kernel_rfl) (by kernel_rfl) (by kernel_rfl) (fun _ _ _ h => h) (Or.inl ⟨by rfl, fun w9 hSw => ?_⟩) hHeld ?_
    · obtain ⟨s2, s3⟩ := hSw
      go_simp
    simp only [List.getElem_toArray, List.getElem_cons_zero, List.getElem_cons_succ, Act.put, List.setIfInBounds_toArray, List.set_cons_zero, List.set_cons_succ]
    refine wpAnyH_ready (rs := [3]) (by kernel_rfl) (by simp) ?_
    refine AllReadyH.cons rfl (fun K hK => ?_) AllReadyH.nil
    go_simp
    have hA := hd1.alloc hd1.size (.cells #[.int .i64 g.ax] 3)
    have hrow := row_one w1.drew g.ax 3
    have hAs : w1.drew.heap.size ≤ (w1.drew.alloc (.cells #[.int .i64 g.ax] 3)).heap.size := by simp
    have hAb : Below w1.drew.heap.size w1.drew (w1.drew.alloc (.cells #[.int .i64 g.ax] 3)) := (Below.refl _ _).alloc (Nat.le_refl _) _
    refine hK.out _ _ (hS _ hA) (fun hHeld1 => ?_)
    clear hK K
    refine wpAnyH_ready (rs := [4]) (by kernel_rfl) (by simp) ?_
    refine AllReadyH.cons rfl (fun K hK => ?_) AllReadyH.nil
    go_simp
    refine (SetsMany.of_any _ 1 1 [g.ax] _ hrow (by simp) (by omega)).mono ?_
    rintro e w2x ⟨rfl, hw2⟩
    obtain rfl := hw2.symm
    refine hK.out _ _ (hS _ hA) (fun hHeld2 => ?_)
    clear hK K
    refine wpAnyH_ready (rs := [5]) (by kernel_rfl) (by simp) ?_
    refine AllReadyH.cons rfl (fun K hK => ?_) AllReadyH.nil
    go_simp
    refine (SetsAlg.meet_any (prodI g) (ofI [g.ax]) _ (prodI_isSet g) (ofI_isSet _ zero_isSet)).mono ?_
    rintro e w3x ⟨rfl, hw2⟩
    obtain rfl := hw2.symm
    refine hK.out _ _ (hS _ hA) (fun hHeld3 => ?_)
    clear hK K
    refine wpAnyH_ready (rs := [9]) (by kernel_rfl) (by simp) ?_
    refine AllReadyH.cons rfl (fun K hK => ?_) AllReadyH.nil
    go_simp
    refine (within_any (prodI g) ra rc g.rs _ (prodI_isSet g) (hR1.below hA (Nat.le_refl _)) hnil hgo (by omega)).mono ?_
    rintro e w4 ⟨⟨a2, c2', rfl, hR2, _⟩, hb4⟩
    have hC4 := hA.trans (hb4.mono hA.size)
    refine hK.out _ _ (hS _ hC4) (fun hHeld4 => ?_)
    clear hK K
    refine wpAnyH_ready (rs := [10]) (by kernel_rfl) (by simp) ?_
    refine AllReadyH.cons rfl (fun K hK => ?_) AllReadyH.nil
    go_simp
    refine (reached_any (meetI (prodI g) (ofI [g.ax])) a2 c2' (g.rs.filter (rin (prodI g))) _ hms hR2 hgo2 hgl2).mono ?_
    rintro e w8 ⟨⟨S, rfl, hSg⟩, hb8⟩
    have hB8 := hC4.trans (hb8.mono hC4.size)
    have hE : Hid (_) := E.out S hSg
    refine hK.out _ _ (hS _ hB8) (fun hHeldZ => ?_)
    clear hK K
    refine wpAnyH_take (i := 11) (v := .int .u64 S) rfl (by kernel_rfl) (by kernel_rfl) (by kernel_rfl) (fun _ _ _ h => h) (Or.inl ⟨by rfl, fun w9 hSw => ?_⟩) hHeldZ ?_
    · obtain ⟨s2, s3⟩ := hSw
      go_simp
    simp only [List.getElem_toArray, List.getElem_cons_zero, List.getElem_cons_succ, Act.put, List.setIfInBounds_toArray, List.set_cons_zero, List.set_cons_succ]
    refine wpAnyH_take (i := 12) (v := .nilIface) rfl (by kernel_rfl) (by kernel_rfl) (by kernel_rfl) (fun _ _ _ h => h) (Or.inl ⟨by rfl, fun w9 hSw => ?_⟩) hHeldZ ?_
    · obtain ⟨s2, s3⟩ := hSw
      go_simp
    simp only [List.getElem_toArray, List.getElem_cons_zero, List.getElem_cons_succ, Act.put, List.setIfInBounds_toArray, List.set_cons_zero, List.set_cons_succ]
    refine wpAnyH_done (by kernel_rfl) (NoPanic.normal ?_) _
    go_wp2
    go_ret2
    exact ⟨⟨_, ret_sv hE.out, hv2.out _⟩, hB2.trans (hB8.mono hB2.size)⟩
  · obtain ⟨t, u, rfl⟩ := ck_iface hv h0
    have E : Hid (okI g (usefulI g) = 0) := okI_no h0 _
    have hv2 : Hid (_) := hv.mono (base' := w.heap.size) (by omega)
    clear h0 hv
    go_wp2
    go_ret2
    exact ⟨⟨_, ret_sv E.out.symm, hv2.out⟩, hB2⟩

end Go.Proofs.YthbbipgngeflnaaGreatDoor.UsefulTop
