/-
  Texts that stand together: UsefulTrimTop.
-/
import Derived.Test.YthbbipgngeflnaaGreatDoorBUsefulRebuilt
import Derived.Test.YthbbipgngeflnaaGreatDoorBUsefulTop
import Derived.Test.YthbbipgngeflnaaGreatDoorBGramErrs
namespace Go.Proofs.YthbbipgngeflnaaGreatDoor.UsefulTrim
open Go.RowKit Go.Proofs.YthbbipgngeflnaaGreatDoor.GramLess Go.Proofs.YthbbipgngeflnaaGreatDoor.GramMath Go.Proofs.YthbbipgngeflnaaGreatDoor.GramRow Go.Proofs.YthbbipgngeflnaaGreatDoor.GramOne Go.Proofs.YthbbipgngeflnaaGreatDoor.GramApart Go.Proofs.YthbbipgngeflnaaGreatDoor.GramCopy Go.Proofs.YthbbipgngeflnaaGreatDoor.GramRoll Go.Proofs.YthbbipgngeflnaaGreatDoor.GramErrs Go.Proofs.YthbbipgngeflnaaGreatDoor.SetsMath Go.Proofs.YthbbipgngeflnaaGreatDoor.SetsAlg Go.Proofs.YthbbipgngeflnaaGreatDoor.SetsEach Go.Proofs.YthbbipgngeflnaaGreatDoor.UsefulMath Go.Proofs.YthbbipgngeflnaaGreatDoor.UsefulFn Go.Proofs.YthbbipgngeflnaaGreatDoor.UsefulTrimM Go.Proofs.YthbbipgngeflnaaGreatDoor.UsefulTop
set_option linter.unusedVariables false
set_option linter.unusedSimpArgs false

theorem hasB_terms {g : G} (hg : GoodG g) (S : Nat → Bool) (k : Nat) (hk : k < 64) : hasB (tmI (g.rs.filter (inS S))) k = true ↔ k < g.ts.length ∧ useS S g.rs k = true := by
  rw [hasB_tmI]
  constructor
  · rintro ⟨r, hr, hx, _, _⟩
    obtain ⟨h1, h2⟩ := List.mem_filter.1 hr
    have h3 := (ruleK_ok (hg.each r h1)).2.2.2 _ hx
    exact ⟨by omega, by have := useS_of h1 h2 hx (by omega); rwa [Int.toNat_natCast] at this⟩
  · rintro ⟨h1, h2⟩
    unfold useS at h2
    obtain ⟨r, hr, h3⟩ := List.any_eq_true.1 h2
    rw [Bool.and_eq_true, List.any_eq_true] at h3
    obtain ⟨h4, x, hx, h5⟩ := h3
    rw [beq_iff_eq] at h5
    subst h5
    exact ⟨r, List.mem_filter.2 ⟨hr, h4⟩, hx, by omega, by omega⟩

theorem newX_ren {g : G} (hg : GoodG g) {S : Nat → Bool} {r : R} (hr : r ∈ g.rs) (hi : inS S r = true) {x : Int} (hx : x ∈ r.right) (a : Int) (b : List R) : newX g ⟨sel (useS S g.rs) g.ts, sel S g.ns, a, b⟩ x = renX S (useS S g.rs) x := by
  obtain ⟨h1, h2, h3, h4⟩ := ruleK_ok (hg.each r hr)
  have h5 := h4 x hx
  unfold newX renX
  split
  · rename_i h0
    unfold nmI
    simp only
    rw [sel_idx hg.nn (by omega) ((inS_iff.1 hi).2 x hx h0)]
  · rename_i h0
    unfold nmI
    simp only
    rw [sel_idx hg.nt (by omega) (useS_of hr hi hx (by omega))]

theorem newR_ren {g : G} (hg : GoodG g) {S : Nat → Bool} {r : R} (hr : r ∈ g.rs) (hi : inS S r = true) (a : Int) (b : List R) : newR g ⟨sel (useS S g.rs) g.ts, sel S g.ns, a, b⟩ r = ren S (useS S g.rs) r := by
  obtain ⟨h1, h2, h3, h4⟩ := ruleK_ok (hg.each r hr)
  unfold newR ren
  congr 1
  · unfold nmI
    simp only
    rw [sel_idx hg.nn (by omega) (inS_iff.1 hi).1]
  · exact List.map_congr_left (fun x hx => newX_ren hg hr hi hx a b)

theorem known_cut {g : G} (hg : GoodG g) {S : Nat → Bool} {r : R} (hr : r ∈ g.rs) (hi : inS S r = true) (a : Int) (b : List R) : Known g ⟨sel (useS S g.rs) g.ts, sel S g.ns, a, b⟩ r.right := fun x hx => by
  have h5 := (ruleK_ok (hg.each r hr)).2.2.2 x hx
  by_cases h0 : x < 0
  · exact .inr ⟨(-1 - x).toNat, by omega, by omega, sel_mem (by omega) ((inS_iff.1 hi).2 x hx h0)⟩
  · exact .inl ⟨x.toNat, by omega, by omega, sel_mem (by omega) (useS_of hr hi hx (by omega))⟩

theorem cntB_small (S : Nat → Bool) (n : Nat) : cntB S n ≤ n := cntB_le S n

theorem okG_cut {g : G} (hg : GoodG g) (ho : okG g) (S : Nat → Bool) : okG (cutG S g) := by
  have h1 := sel_le (useS S g.rs) g.ts
  have h2 := sel_le S g.ns
  have h3 := hg.few
  have h4 := hg.rules
  have h5 := List.length_filter_le (inS S) g.rs
  have h6 := cntB_small S g.ax.toNat
  have h7 := hg.ax1
  have h8 := hg.ax0
  refine ⟨?_, ?_, ?_, ?_, ?_, ?_, ?_⟩
  · show (sel (useS S g.rs) g.ts).length ≤ _; omega
  · show (sel S g.ns).length ≤ _; omega
  · show ((g.rs.filter (inS S)).map _).length ≤ _; rw [List.length_map]; omega
  · show I64 (cntB S g.ax.toNat : Int)
    unfold I64; omega
  · intro r hr
    obtain ⟨q, hq, rfl⟩ := List.mem_map.1 hr
    obtain ⟨q1, q2⟩ := List.mem_filter.1 hq
    obtain ⟨k1, k2, k3, k4⟩ := ruleK_ok (hg.each q q1)
    have k5 := cntB_small S q.left.toNat
    refine ⟨?_, fun x hx => ?_, ?_⟩
    · show I64 (cntB S q.left.toNat : Int)
      unfold I64; omega
    · obtain ⟨y, hy, rfl⟩ := List.mem_map.1 hx
      have k6 := k4 y hy
      unfold renX I64
      split
      · have := cntB_small S (-1 - y).toNat; omega
      · have := cntB_small (useS S g.rs) y.toNat; omega
    · show (q.right.map _).length ≤ _
      rw [List.length_map]; omega
  · intro s hs
    obtain ⟨j, hj⟩ := List.mem_iff_getElem?.1 hs
    obtain ⟨k, g1, _, _, rfl⟩ := sel_of hj
    exact ho.2.2.2.2.2.1 _ (List.mem_of_getElem? (nmN_get g1))
  · intro s hs
    obtain ⟨j, hj⟩ := List.mem_iff_getElem?.1 hs
    obtain ⟨k, g1, _, _, rfl⟩ := sel_of hj
    exact ho.2.2.2.2.2.2 _ (List.mem_of_getElem? (nmN_get g1))

set_option maxHeartbeats 800000 in
theorem rebuilt_trim (ta na ra : Option Addr) (tc nc rc : Nat) (g : G) (p : Nat → Addr) (w : World)
    (hG : GRow w ta na ra g) (hg : okG g) (hgood : GoodG g) (hnil : ra = none → g.rs.length = 0 ∧ rc = 0) (hS : Sents w p) (hT : Tab w) (hGt : 15 < w.heap.size) (ha : usefulS g g.ax.toNat = true) :
    Calls Tryz.prog 27 #[.agg #[.slice ta g.ts.length tc, .slice na g.ns.length nc, .int .i64 g.ax, .slice ra g.rs.length rc], .int .u64 (usefulI g)] w fun e w' => (∃ b1 b2 b3 bs, e = .returned (.tuple #[.agg #[.slice (some ⟨b1, 0, none⟩) (trimG g).ts.length (trimG g).ts.length, .slice (some ⟨b2, 0, none⟩) (trimG g).ns.length (trimG g).ns.length, .int .i64 (trimG g).ax, .slice (some ⟨b3, 0, none⟩) (trimG g).rs.length (trimG g).rs.length], .nilIface]) ∧ CopyAt w' w.heap.size b1 b2 b3 bs (trimG g)) ∧ Below w.heap.size w w' := by
  have h64 : g.ns.length ≤ 64 ∧ g.ts.length ≤ 64 := by have := hgood.few; omega
  have hax : g.ax.toNat < g.ns.length := by have := hgood.ax0; have := hgood.ax1; omega
  have hu := fun k hk => hasB_useful hgood k hk
  have Ers : g.rs.filter (rin (usefulI g)) = g.rs.filter (inS (usefulS g)) := List.filter_congr (fun r hr => rin_inS hgood (usefulI_isSet hgood) hu hr)
  have Erm : (g.rs.filter (inS (usefulS g))).map (newR g ⟨sel (useS (usefulS g) g.rs) g.ts, sel (usefulS g) g.ns, 0, []⟩) = (trimG g).rs := List.map_congr_left (fun r hr => newR_ren hgood (List.mem_filter.1 hr).1 (List.mem_filter.1 hr).2 _ _)
  have hEq : (⟨sel (useS (usefulS g) g.rs) g.ts, sel (usefulS g) g.ns, (cntB (usefulS g) g.ax.toNat : Int), (g.rs.filter (inS (usefulS g))).map (newR g ⟨sel (useS (usefulS g) g.rs) g.ts, sel (usefulS g) g.ns, 0, []⟩)⟩ : G) = trimG g := by
    rw [Erm]
    rfl
  have hck : (checkG (trimG g)).1 = 0 := by unfold trimG; rw [cut_good hgood ha]
  have h := rebuilt_any ta na ra tc nc rc g (usefulI g) p w (g.rs.filter (inS (usefulS g))) (sel (usefulS g) g.ns) (sel (useS (usefulS g) g.rs) g.ts) (cntB (usefulS g) g.ax.toNat : Int) hG hg hgood hnil hS hT hGt (usefulI_isSet hgood)
    (fun j hj => ((hu j (by have := hasB_range hj; omega)).1 hj).1) Ers (tell_sel hgood.nn h64.1 hu) (tell_sel hgood.nt h64.2 (fun k hk => hasB_terms hgood (usefulS g) k hk))
    (by show _ = _; unfold nmI; exact sel_idx hgood.nn hax ha)
    (fun j hj => ((hasB_terms hgood (usefulS g) j (by have := hasB_range hj; omega)).1 hj).1)
    (fun r hr => by
      obtain ⟨h1, h2⟩ := List.mem_filter.1 hr
      obtain ⟨k1, k2, k3, k4⟩ := ruleK_ok (hgood.each r h1)
      exact ⟨known_cut hgood h1 h2 _ _, r.left.toNat, by omega, by omega, sel_mem (by omega) (inS_iff.1 h2).1⟩)
    ⟨g.ax.toNat, by have := hgood.ax0; omega, hax, sel_mem hax ha⟩
    (by show _ = _; rw [hEq]; exact hck) (by show okG _; rw [hEq]; exact okG_cut hgood hg _)
  rw [hEq] at h
  have hl : (g.rs.filter (inS (usefulS g))).length = (trimG g).rs.length := by rw [← Erm, List.length_map]
  rw [hl] at h
  exact h

/-- What Trim answers. -/
noncomputable def trimZ (g : G) : Nat × Option Nat := if (checkG g).1 ≠ 0 then checkG g else if usefulS g g.ax.toNat = true then (0, none) else (15, none)
theorem trimZ_bad {g : G} (h : (checkG g).1 ≠ 0) : trimZ g = checkG g := if_pos h
theorem trimZ_ok {g : G} (h : (checkG g).1 = 0) (hu : usefulS g g.ax.toNat = true) : trimZ g = (0, none) := by
  unfold trimZ
  rw [if_neg (by simp [h]), if_pos hu]
theorem trimZ_none {g : G} (h : (checkG g).1 = 0) (hu : usefulS g g.ax.toNat = false) : trimZ g = (15, none) := by
  unfold trimZ
  rw [if_neg (by simp [h]), if_neg (by rw [hu]; decide)]

def TrimV (w0 w' : World) (p : Nat → Addr) (g : G) (e : Ending) : Prop :=
  ((trimZ g).1 = 0 ∧ ∃ b1 b2 b3 bs, e = .returned (.tuple #[.agg #[.slice (some ⟨b1, 0, none⟩) (trimG g).ts.length (trimG g).ts.length, .slice (some ⟨b2, 0, none⟩) (trimG g).ns.length (trimG g).ns.length, .int .i64 (trimG g).ax, .slice (some ⟨b3, 0, none⟩) (trimG g).rs.length (trimG g).rs.length], .nilIface]) ∧ CopyAt w' w0.heap.size b1 b2 b3 bs (trimG g))
  ∨ ((trimZ g).1 ≠ 0 ∧ ∃ v, e = .returned (.tuple #[.agg #[.slice none 0 0, .slice none 0 0, .int .i64 0, .slice none 0 0], v]) ∧ CkV w0.heap.size p (trimZ g) w' v)

set_option maxRecDepth 100000 in
set_option maxHeartbeats 4000000 in
theorem trim_top (ta na ra : Option Addr) (tc nc rc : Nat) (g : G) (p : Nat → Addr) (w : World) (hG : GRow w ta na ra g) (hg : okG g) (htc : g.ts.length ≤ tc) (hnc : g.ns.length ≤ nc) (hnil : ra = none → g.rs.length = 0 ∧ rc = 0) (hE : Errs w p) (hT : Tab w) (hGt : 15 < w.heap.size) (hG0 : 1 < w.heap.size) :
    Calls Tryz.prog 8 #[.agg #[.slice ta g.ts.length tc, .slice na g.ns.length nc, .int .i64 g.ax, .slice ra g.rs.length rc]] w fun e w' => TrimV w w' p g e ∧ Below w.heap.size w w' := by
  have hneq := neq_nil
  have hnn := nil_neq
  have hB2 : Below w.heap.size w ((w.alloc (.cells #[.slice ta g.ts.length tc, .slice na g.ns.length nc, .int .i64 g.ax, .slice ra g.rs.length rc] 25)).alloc (.cells #[.slice none 0 0, .slice none 0 0, .int .i64 0, .slice none 0 0] 25)) := ((Below.refl _ _).alloc (Nat.le_refl _) _).alloc (by simp) _
  have hgb2 : RowAt ((w.alloc (.cells #[.slice ta g.ts.length tc, .slice na g.ns.length nc, .int .i64 g.ax, .slice ra g.rs.length rc] 25)).alloc (.cells #[.slice none 0 0, .slice none 0 0, .int .i64 0, .slice none 0 0] 25)) w.heap.size 25 #[.slice ta g.ts.length tc, .slice na g.ns.length nc, .int .i64 g.ax, .slice ra g.rs.length rc] := (rowNew w _ _).alloc _
  have hrb2 : RowAt ((w.alloc (.cells #[.slice ta g.ts.length tc, .slice na g.ns.length nc, .int .i64 g.ax, .slice ra g.rs.length rc] 25)).alloc (.cells #[.slice none 0 0, .slice none 0 0, .int .i64 0, .slice none 0 0] 25)) (w.heap.size + 1) 25 #[.slice none 0 0, .slice none 0 0, .int .i64 0, .slice none 0 0] := by
    have := rowNew (w.alloc (.cells #[.slice ta g.ts.length tc, .slice na g.ns.length nc, .int .i64 g.ax, .slice ra g.rs.length rc] 25)) #[.slice none 0 0, .slice none 0 0, .int .i64 0, .slice none 0 0] 25
    rwa [World.size_alloc] at this
  have hz2 : ((w.alloc (.cells #[.slice ta g.ts.length tc, .slice na g.ns.length nc, .int .i64 g.ax, .slice ra g.rs.length rc] 25)).alloc (.cells #[.slice none 0 0, .slice none 0 0, .int .i64 0, .slice none 0 0] 25)).heap.size = w.heap.size + 2 := by simp
  have hus := Useful_top ta na ra tc nc rc g p _ (hG.below hB2 (Nat.le_refl _)) hg htc hnc hnil (hE.sents.below hB2 (Nat.le_refl _))
  go_enter Tryz.func8, Tryz.ntmps8
  go_wp2_with fail
  generalize (w.alloc (.cells #[.slice ta g.ts.length tc, .slice na g.ns.length nc, .int .i64 g.ax, .slice ra g.rs.length rc] 25)).alloc (.cells #[.slice none 0 0, .slice none 0 0, .int .i64 0, .slice none 0 0] 25) = W2 at *
  refine hus.mono ?_
  rintro e w3 ⟨⟨v, rfl, hv⟩, hb3⟩
  have hB3 := hB2.trans (hb3.mono (by omega))
  have hgb3 := hgb2.below hb3 (by omega)
  have hrb3 := hrb2.below hb3 (by omega)
  have hz3 : w.heap.size + 2 ≤ w3.heap.size := by have := hb3.size; omega
  have a2 := hgb3.cell (q := 2) rfl
  have c0 := hrb3.cell (q := 0) rfl
  have c1 := hrb3.cell (q := 1) rfl
  have c2 := hrb3.cell (q := 2) rfl
  have c3 := hrb3.cell (q := 3) rfl
  have g0 := hrb3.frozen 0
  have g1 := hrb3.frozen 1
  have g2 := hrb3.frozen 2
  have g3 := hrb3.frozen 3
  clear hus hgb2 hrb2 hB2 hb3
  by_cases h0 : (checkG g).1 = 0
  · have hgood := good_of h0
    obtain rfl := ck_nil hv h0
    rw [okI_yes h0]
    have hset := usefulI_isSet hgood
    have hhas := SetsOne.has_any (usefulI g) g.ax w3 hset
    have hiff : hasB (usefulI g) g.ax = usefulS g g.ax.toNat := by
      have h1 := hgood.ax0
      have h2 := hgood.ax1
      have h3 := hgood.few
      have := hasB_useful hgood g.ax.toNat (by omega)
      rw [Int.toNat_of_nonneg h1] at this
      rw [Bool.eq_iff_iff, this]
      exact ⟨fun h => h.2, fun h => ⟨by omega, h⟩⟩
    rw [hiff] at hhas
    clear hv hiff
    cases hu : usefulS g g.ax.toNat with
    | false =>
      rw [hu] at hhas
      have EZ : Hid (trimZ g = (15, none)) := trimZ_none h0 hu
      have s15 : w3.cell? ⟨1, 0, none⟩ = some (.iface 140 (.pointer (some (p 15)))) := ((hE.below hB3 (Nat.le_refl _)).1 14 (by omega)).1
      clear h0 hu hgood hset
      go_wp2_with fail
      refine hhas.mono ?_
      rintro e w4 ⟨rfl, hw4⟩
      obtain rfl := hw4.symm
      clear hhas
      go_wp2_with fail
      have hr4 := (((hrb3.set 0 (.slice none 0 0)).set 1 (.slice none 0 0)).set 2 (.int .i64 0)).set 3 (.slice none 0 0)
      have hBZ := (((hB3.setCell (p := ⟨w.heap.size + 1, 0, none⟩) (by show _ ≤ w.heap.size + 1; omega) (.slice none 0 0)).setCell (p := ⟨w.heap.size + 1, 1, none⟩) (by show _ ≤ w.heap.size + 1; omega) (.slice none 0 0)).setCell (p := ⟨w.heap.size + 1, 2, none⟩) (by show _ ≤ w.heap.size + 1; omega) (.int .i64 0)).setCell (p := ⟨w.heap.size + 1, 3, none⟩) (by show _ ≤ w.heap.size + 1; omega) (.slice none 0 0)
      have HZ : Hid (_) := And.intro hr4 hBZ
      clear hr4 hBZ
      go_region
      obtain ⟨hr4, hBZ⟩ := HZ.out
      have q0 := hr4.cell (q := 0) rfl
      have q1 := hr4.cell (q := 1) rfl
      have q2 := hr4.cell (q := 2) rfl
      have q3 := hr4.cell (q := 3) rfl
      generalize ((((w3.setCell ⟨w.heap.size + 1, 0, none⟩ (.slice none 0 0)).setCell ⟨w.heap.size + 1, 1, none⟩ (.slice none 0 0)).setCell ⟨w.heap.size + 1, 2, none⟩ (.int .i64 0)).setCell ⟨w.heap.size + 1, 3, none⟩ (.slice none 0 0)) = Z at *
      go_wp2
      refine bodyPost_ret (v := .tuple #[.agg #[.slice none 0 0, .slice none 0 0, .int .i64 0, .slice none 0 0], .iface 140 (.pointer (some (p 15)))]) (by simp [results, Tryz.results8, go_sem, q0, q1, q2, q3]) rfl ?_
      refine ⟨.inr ⟨by rw [EZ.out]; decide, _, rfl, by rw [EZ.out]; rfl⟩, hBZ.trans ⟨rfl, rfl, rfl, Nat.le_refl _, fun _ _ => rfl⟩⟩
    | true =>
      rw [hu] at hhas
      have EZ : Hid (trimZ g = (0, none)) := trimZ_ok h0 hu
      have hreb := rebuilt_trim ta na ra tc nc rc g p w3 (hG.below hB3 (Nat.le_refl _)) hg hgood hnil (hE.sents.below hB3 (Nat.le_refl _)) (Tab.from hT hB3 hGt) (by omega) hu
      have a0 := hgb3.cell (q := 0) rfl
      have a1 := hgb3.cell (q := 1) rfl
      have a3 := hgb3.cell (q := 3) rfl
      clear h0 hu hgood hset
      go_wp2_with fail
      refine hhas.mono ?_
      rintro e w4 ⟨rfl, hw4⟩
      obtain rfl := hw4.symm
      clear hhas
      go_wp2_with fail
      refine hreb.mono ?_
      rintro e w5 ⟨⟨b1, b2, b3, bs, rfl, hcp⟩, hb5⟩
      have hB5 := hB3.trans (hb5.mono hB3.size)
      have hrb5 := hrb3.below hb5 (show w.heap.size + 1 < w3.heap.size by omega)
      clear hreb c0 c1 c2 c3 g0 g1 g2 g3 a0 a1 a2 a3
      have c0 := hrb5.cell (q := 0) rfl
      have c1 := hrb5.cell (q := 1) rfl
      have c2 := hrb5.cell (q := 2) rfl
      have c3 := hrb5.cell (q := 3) rfl
      have g0 := hrb5.frozen 0
      have g1 := hrb5.frozen 1
      have g2 := hrb5.frozen 2
      have g3 := hrb5.frozen 3
      obtain ⟨tg, htg⟩ : ∃ tg, trimG g = tg := ⟨_, rfl⟩
      have Htg : Hid (trimG g = tg) := htg
      rw [htg] at hcp ⊢
      clear htg
      have hr4 := (((hrb5.set 0 (.slice (some ⟨b1, 0, none⟩) tg.ts.length tg.ts.length)).set 1 (.slice (some ⟨b2, 0, none⟩) tg.ns.length tg.ns.length)).set 2 (.int .i64 tg.ax)).set 3 (.slice (some ⟨b3, 0, none⟩) tg.rs.length tg.rs.length)
      have hBZ := (((hB5.setCell (p := ⟨w.heap.size + 1, 0, none⟩) (by show _ ≤ w.heap.size + 1; omega) (.slice (some ⟨b1, 0, none⟩) tg.ts.length tg.ts.length)).setCell (p := ⟨w.heap.size + 1, 1, none⟩) (by show _ ≤ w.heap.size + 1; omega) (.slice (some ⟨b2, 0, none⟩) tg.ns.length tg.ns.length)).setCell (p := ⟨w.heap.size + 1, 2, none⟩) (by show _ ≤ w.heap.size + 1; omega) (.int .i64 tg.ax)).setCell (p := ⟨w.heap.size + 1, 3, none⟩) (by show _ ≤ w.heap.size + 1; omega) (.slice (some ⟨b3, 0, none⟩) tg.rs.length tg.rs.length)
      have hkZ : ∀ i, w3.heap.size ≤ i → ((((w5.setCell ⟨w.heap.size + 1, 0, none⟩ (.slice (some ⟨b1, 0, none⟩) tg.ts.length tg.ts.length)).setCell ⟨w.heap.size + 1, 1, none⟩ (.slice (some ⟨b2, 0, none⟩) tg.ns.length tg.ns.length)).setCell ⟨w.heap.size + 1, 2, none⟩ (.int .i64 tg.ax)).setCell ⟨w.heap.size + 1, 3, none⟩ (.slice (some ⟨b3, 0, none⟩) tg.rs.length tg.rs.length)).heap[i]? = w5.heap[i]? := fun i hi => by
        rw [Below.heap_setCell _ _ _ _ (show i ≠ w.heap.size + 1 by omega), Below.heap_setCell _ _ _ _ (show i ≠ w.heap.size + 1 by omega), Below.heap_setCell _ _ _ _ (show i ≠ w.heap.size + 1 by omega), Below.heap_setCell _ _ _ _ (show i ≠ w.heap.size + 1 by omega)]
      have hcZ := CopyAt.kept hcp (fun i hi _ => hkZ i hi) (by simp) (show w.heap.size ≤ w3.heap.size by omega)
      have HZ : Hid (_) := And.intro hr4 (And.intro hBZ hcZ)
      clear hr4 hBZ hcZ hkZ hcp
      go_wp2
      obtain ⟨hr4, hBZ, hcZ⟩ := HZ.out
      have q0 := hr4.cell (q := 0) rfl
      have q1 := hr4.cell (q := 1) rfl
      have q2 := hr4.cell (q := 2) rfl
      have q3 := hr4.cell (q := 3) rfl
      generalize (((w5.setCell ⟨w.heap.size + 1, 0, none⟩ (.slice (some ⟨b1, 0, none⟩) tg.ts.length tg.ts.length)).setCell ⟨w.heap.size + 1, 1, none⟩ (.slice (some ⟨b2, 0, none⟩) tg.ns.length tg.ns.length)).setCell ⟨w.heap.size + 1, 2, none⟩ (.int .i64 tg.ax)).setCell ⟨w.heap.size + 1, 3, none⟩ (.slice (some ⟨b3, 0, none⟩) tg.rs.length tg.rs.length) = Z at *
      refine bodyPost_ret (v := .tuple #[.agg #[.slice (some ⟨b1, 0, none⟩) tg.ts.length tg.ts.length, .slice (some ⟨b2, 0, none⟩) tg.ns.length tg.ns.length, .int .i64 tg.ax, .slice (some ⟨b3, 0, none⟩) tg.rs.length tg.rs.length], .nilIface]) (by simp [results, Tryz.results8, go_sem, q0, q1, q2, q3]) rfl ?_
      refine ⟨?_, hBZ⟩
      unfold TrimV
      rw [Htg.out]
      exact .inl ⟨by rw [EZ.out], b1, b2, b3, bs, rfl, hcZ⟩
  · obtain ⟨t, u, rfl⟩ := ck_iface hv h0
    rw [okI_no h0]
    have EZ : Hid (trimZ g = checkG g) := trimZ_bad h0
    have h0' : Hid ((checkG g).1 ≠ 0) := h0
    have hv2 : Hid (CkV (w.heap.size + 2) p (checkG g) w3 (.iface t u)) := by show CkV _ _ _ _ _; rw [← hz2]; exact hv
    clear h0 hv
    have hr4 := (((hrb3.set 0 (.slice none 0 0)).set 1 (.slice none 0 0)).set 2 (.int .i64 0)).set 3 (.slice none 0 0)
    have hBZ := (((hB3.setCell (p := ⟨w.heap.size + 1, 0, none⟩) (by show _ ≤ w.heap.size + 1; omega) (.slice none 0 0)).setCell (p := ⟨w.heap.size + 1, 1, none⟩) (by show _ ≤ w.heap.size + 1; omega) (.slice none 0 0)).setCell (p := ⟨w.heap.size + 1, 2, none⟩) (by show _ ≤ w.heap.size + 1; omega) (.int .i64 0)).setCell (p := ⟨w.heap.size + 1, 3, none⟩) (by show _ ≤ w.heap.size + 1; omega) (.slice none 0 0)
    have HZ : Hid (_) := And.intro hr4 hBZ
    clear hr4 hBZ
    go_wp2
    obtain ⟨hr4, hBZ⟩ := HZ.out
    have q0 := hr4.cell (q := 0) rfl
    have q1 := hr4.cell (q := 1) rfl
    have q2 := hr4.cell (q := 2) rfl
    have q3 := hr4.cell (q := 3) rfl
    have hvZ : CkV w.heap.size p (checkG g) ((((w3.setCell ⟨w.heap.size + 1, 0, none⟩ (.slice none 0 0)).setCell ⟨w.heap.size + 1, 1, none⟩ (.slice none 0 0)).setCell ⟨w.heap.size + 1, 2, none⟩ (.int .i64 0)).setCell ⟨w.heap.size + 1, 3, none⟩ (.slice none 0 0)) (.iface t u) := by
      exact ((((hv2.out.set (k := w.heap.size + 1) (by omega) 0 _).set (k := w.heap.size + 1) (by omega) 1 _).set (k := w.heap.size + 1) (by omega) 2 _).set (k := w.heap.size + 1) (by omega) 3 _).mono (by omega)
    generalize ((((w3.setCell ⟨w.heap.size + 1, 0, none⟩ (.slice none 0 0)).setCell ⟨w.heap.size + 1, 1, none⟩ (.slice none 0 0)).setCell ⟨w.heap.size + 1, 2, none⟩ (.int .i64 0)).setCell ⟨w.heap.size + 1, 3, none⟩ (.slice none 0 0)) = Z at *
    refine bodyPost_ret (v := .tuple #[.agg #[.slice none 0 0, .slice none 0 0, .int .i64 0, .slice none 0 0], .iface t u]) (by simp [results, Tryz.results8, go_sem, q0, q1, q2, q3]) rfl ?_
    exact ⟨.inr ⟨by rw [EZ.out]; exact h0'.out, _, rfl, by rw [EZ.out]; exact hvZ⟩, hBZ⟩

end Go.Proofs.YthbbipgngeflnaaGreatDoor.UsefulTrim
