/-
  Texts that stand together: PrecAwake2.
-/
import Derived.Test.YtcoepmpgclndiaaGreatDoorBPrecAwake
namespace Go.Proofs.YtcoepmpgclndiaaGreatDoor.PrecAwake
open Go.RowKit Go.Proofs.YtcoepmpgclndiaaGreatDoor.GramMath Go.Proofs.YtcoepmpgclndiaaGreatDoor.GramRow Go.Proofs.YtcoepmpgclndiaaGreatDoor.GramErrs Go.Proofs.YtcoepmpgclndiaaGreatDoor.GramAwake Go.Proofs.YtcoepmpgclndiaaGreatDoor.GramApart Go.Proofs.YtcoepmpgclndiaaGreatDoor.EndsMath Go.Proofs.YtcoepmpgclndiaaGreatDoor.EndsAwake Go.Proofs.YtcoepmpgclndiaaGreatDoor.GramOpen Go.Proofs.YtcoepmpgclndiaaGreatDoor.MatrixMath Go.Proofs.YtcoepmpgclndiaaGreatDoor.MatrixPut Go.Proofs.YtcoepmpgclndiaaGreatDoor.MatrixOf Go.Proofs.YtcoepmpgclndiaaGreatDoor.MatrixClash Go.Proofs.YtcoepmpgclndiaaGreatDoor.GraphMath Go.Proofs.YtcoepmpgclndiaaGreatDoor.GraphNet Go.Proofs.YtcoepmpgclndiaaGreatDoor.PrecFn Go.Proofs.YtcoepmpgclndiaaGreatDoor.GramLess Go.Proofs.YtcoepmpgclndiaaGreatDoor.SetsAlg Go.Proofs.YtcoepmpgclndiaaGreatDoor.GramSame Go.Proofs.YtcoepmpgclndiaaGreatDoor.OpRow
set_option linter.unusedVariables false
set_option linter.unusedSimpArgs false

/-- Functions of a matrix, or none. -/
def fF (t : Nat) (S : Nat → Nat → Int) : List Int := if rdL ((2 * t : Nat) : Int) (edS t S) = [] then fnL t S ((clS t S).take t) else []
def fG (t : Nat) (S : Nat → Nat → Int) : List Int := if rdL ((2 * t : Nat) : Int) (edS t S) = [] then fnL t S ((clS t S).drop t) else []
abbrev fY (t : Nat) (S : Nat → Nat → Int) : List Int := rdL ((2 * t : Nat) : Int) (edS t S)
structure FnL (w : World) (t : Nat) (S : Nat → Nat → Int) (f g c y : Value) : Prop where
  f : ∃ a k, f = .slice a (fF t S).length k ∧ IRow w a (fF t S)
  g : ∃ a k, g = .slice a (fG t S).length k ∧ IRow w a (fG t S)
  c : ∃ a k, c = .slice a (2 * t) k ∧ IRow w a (ints (clS t S))
  y : ∃ a k, y = .slice a (fY t S).length k ∧ IRow w a (fY t S)
theorem FnL.below {w w' : World} {t : Nat} {S : Nat → Nat → Int} {f g c y : Value} (h : FnL w t S f g c y) (hb : Below w.heap.size w w') : FnL w' t S f g c y := by
  obtain ⟨⟨a1, k1, e1, r1⟩, ⟨a2, k2, e2, r2⟩, ⟨a3, k3, e3, r3⟩, ⟨a4, k4, e4, r4⟩⟩ := h
  exact ⟨⟨a1, k1, e1, IRow.below r1 hb (Nat.le_refl _)⟩, ⟨a2, k2, e2, IRow.below r2 hb (Nat.le_refl _)⟩, ⟨a3, k3, e3, IRow.below r3 hb (Nat.le_refl _)⟩, ⟨a4, k4, e4, IRow.below r4 hb (Nat.le_refl _)⟩⟩
theorem irow_nil (w : World) (a : Option Addr) : IRow w a [] := fun i x hx => by simp at hx
theorem fnL_len (t : Nat) (S : Nat → Nat → Int) (cs : List Nat) : (fnL t S cs).length = cs.length := by simp [fnL]
theorem take_len (t : Nat) (S : Nat → Nat → Int) : ((clS t S).take t).length = t := by rw [List.length_take, classL_len]; omega
theorem drop_len (t : Nat) (S : Nat → Nat → Int) : ((clS t S).drop t).length = t := by rw [List.length_drop, classL_len]; omega
theorem of_lists {base : Nat} {p : Nat → Addr} {po : Option Addr} {t : Nat} {S : Nat → Nat → Int} {w : World} {v : Value} (h : OfF base p po t S w v) (hpo : po ≠ none) (hc : clL t S = []) : ∃ f g c y, v = .tuple #[.agg #[f, g, c, y], .nilIface] ∧ FnL w t S f g c y := by
  rcases h with ⟨h, _⟩ | ⟨_, x, l, ev, h, _⟩ | ⟨_, _, g, ca, cc, hr, rfl, hg, hrow, hown⟩ | ⟨_, _, g, gf, gg, hr, rfl, hg, h1, h2, r1, r2, r3⟩
  · exact absurd h hpo
  · rw [hc] at h; cases h
  · obtain ⟨a, k, e, hir⟩ := own_form hown
    refine ⟨_, _, _, _, rfl, ⟨none, 0, ?_, ?_⟩, ⟨none, 0, ?_, ?_⟩, ⟨_, _, rfl, intsA_row hrow⟩, ⟨a, k, e, hir⟩⟩
    · unfold fF; rw [if_neg hr]; rfl
    · unfold fF; rw [if_neg hr]; exact irow_nil _ _
    · unfold fG; rw [if_neg hr]; rfl
    · unfold fG; rw [if_neg hr]; exact irow_nil _ _
  · have e1 : fF t S = fnL t S ((clS t S).take t) := by unfold fF; rw [if_pos hr]
    have e2 : fG t S = fnL t S ((clS t S).drop t) := by unfold fG; rw [if_pos hr]
    refine ⟨_, _, _, _, rfl, ⟨some ⟨gf, 0, none⟩, t, ?_, ?_⟩, ⟨some ⟨gg, 0, none⟩, t, ?_, ?_⟩, ⟨_, _, rfl, intsA_row r1⟩, ⟨none, 0, ?_, ?_⟩⟩
    · rw [e1, fnL_len, take_len]
    · rw [e1]; exact intsA_row r2
    · rw [e2, fnL_len, drop_len]
    · rw [e2]; exact intsA_row r3
    · unfold fY; rw [hr]; rfl
    · unfold fY; rw [hr]; exact irow_nil _ _

theorem s_ok : okG sG := by
  refine ⟨by decide, by decide, by decide, ⟨by decide, by decide⟩, ?_, ?_, ?_⟩
  · intro r hr
    simp only [sG, List.mem_cons, List.not_mem_nil, or_false] at hr
    rcases hr with rfl | rfl | rfl <;> exact ⟨⟨by decide, by decide⟩, by intro x hx; simp only [List.mem_cons, List.not_mem_nil, or_false] at hx; first | (subst hx; exact ⟨by decide, by decide⟩) | (rcases hx with rfl | rfl | rfl <;> exact ⟨by decide, by decide⟩), by decide⟩
  · intro s hs
    simp only [sG, List.mem_cons, List.not_mem_nil, or_false] at hs
    rcases hs with rfl | rfl <;> decide
  · intro s hs
    simp only [sG, List.mem_cons, List.not_mem_nil, or_false] at hs
    rcases hs with rfl | rfl <;> decide
theorem r_ok : okG rG := by
  refine ⟨by decide, by decide, by decide, ⟨by decide, by decide⟩, ?_, ?_, ?_⟩
  · intro r hr
    simp only [rG, List.mem_cons, List.not_mem_nil, or_false] at hr
    rcases hr with rfl | rfl | rfl | rfl | rfl | rfl | rfl | rfl <;> exact ⟨⟨by decide, by decide⟩, by intro x hx; simp only [List.mem_cons, List.not_mem_nil, or_false] at hx; first | (subst hx; exact ⟨by decide, by decide⟩) | (rcases hx with rfl | rfl <;> exact ⟨by decide, by decide⟩), by decide⟩
  · intro s hs
    simp only [rG, List.mem_cons, List.not_mem_nil, or_false] at hs
    rcases hs with rfl | rfl | rfl | rfl <;> decide
  · intro s hs
    simp only [rG, List.mem_cons, List.not_mem_nil, or_false] at hs
    rcases hs with rfl | rfl | rfl | rfl | rfl <;> decide

set_option maxRecDepth 100000 in
set_option maxHeartbeats 8000000 in
theorem lawof_any (ta na ra : Option Addr) (tc nc rc : Nat) (g : G) (p : Nat → Addr) (w : World) (hG : GRow w ta na ra g) (hcap : Caps w ra g.rs.length) (hg : okG g) (htc : g.ts.length ≤ tc) (hnc : g.ns.length ≤ nc) (hE : Errs w p) (hT : Tab w) (hTG : 16 < w.heap.size) (hck : checkG g = (0, none)) (hgood : GoodG g) (hcl : ∀ S, IsMat g S → clL (g.ts.length + 1) S = []) :
    Calls Tryz.prog 12 #[.agg #[.slice ta g.ts.length tc, .slice na g.ns.length nc, .int .i64 g.ax, .slice ra g.rs.length rc]] w fun e w' => (∃ S f h c y, e = .returned (.tuple #[.agg #[f, h, c, y], .int .i64 0]) ∧ IsMat g S ∧ FnL w' (g.ts.length + 1) S f h c y) ∧ Below w.heap.size w w' := by
  have hfew : g.ts.length + 1 ≤ 60 := by have := hgood.few; have := hgood.ax0; have := hgood.ax1; omega
  obtain ⟨W1, hW1⟩ : ∃ W1, W1 = w.alloc (.cells #[.slice ta g.ts.length tc, .slice na g.ns.length nc, .int .i64 g.ax, .slice ra g.rs.length rc] 30) := ⟨_, rfl⟩
  obtain ⟨W2, hW2⟩ : ∃ W2, W2 = W1.alloc (.cells #[.slice none 0 0, .slice none 0 0, .slice none 0 0, .slice none 0 0] 42) := ⟨_, rfl⟩
  have hz1 : W1.heap.size = w.heap.size + 1 := by rw [hW1]; simp
  have hz2 : W2.heap.size = w.heap.size + 1 + 1 := by rw [hW2]; simp; exact hz1
  have hB2 : Below w.heap.size w W2 := by rw [hW2, hW1]; exact ((Below.refl _ _).alloc (Nat.le_refl _) _).alloc (by simp) _
  have hr2 : RowAt W2 (w.heap.size + 1) 42 #[.slice none 0 0, .slice none 0 0, .slice none 0 0, .slice none 0 0] := by rw [hW2, ← hz1]; exact heap_new _ _
  have hof := MOf_top ta na ra tc nc rc g p W2 (hG.below hB2 (Nat.le_refl _)) (caps_below hG.2.2 hcap hB2 (Nat.le_refl _)) hg htc hnc (hE.sents.below hB2 (Nat.le_refl _)) (SetsEach.Tab.from hT hB2 hTG) (by omega)
  rw [hck] at hof
  have HE : Hid (Errs w p) := hE
  have HR2 : Hid (RowAt W2 (w.heap.size + 1) 42 #[.slice none 0 0, .slice none 0 0, .slice none 0 0, .slice none 0 0]) := hr2
  have HB2 : Hid (Below w.heap.size w W2 ∧ W2.heap.size = w.heap.size + 1 + 1) := ⟨hB2, hz2⟩
  have HCL : Hid (∀ S, IsMat g S → clL (g.ts.length + 1) S = []) := hcl
  have HGD : Hid (GoodG g) := hgood
  have HCK : Hid (checkG g = (0, none)) := hck
  have HW2 : Hid (W2 = (w.alloc (.cells #[.slice ta g.ts.length tc, .slice na g.ns.length nc, .int .i64 g.ax, .slice ra g.rs.length rc] 30)).alloc (.cells #[.slice none 0 0, .slice none 0 0, .slice none 0 0, .slice none 0 0] 42)) := by rw [← hW1]; exact hW2
  rw [HW2.out] at hof
  clear hG hcap hg hE hT hTG hB2 hr2 hz1 hz2 hW1 hW2 hcl hgood hck htc hnc
  go_enter Tryz.func12, Tryz.ntmps12
  go_wp2_with fail
  refine hof.mono ?_
  rintro e w3 ⟨⟨u, x, rfl, hO, hx⟩, hb3⟩
  rw [← HW2.out] at hb3
  obtain rfl : x = .nilIface := hx
  rcases hO with ⟨_, M, S, rfl, _, hm, hi⟩ | ⟨hno, _⟩
  · have HB3 : Hid (Below w.heap.size w w3 ∧ w.heap.size + 1 + 1 ≤ w3.heap.size) := ⟨HB2.out.1.trans (hb3.mono HB2.out.1.size), by have := hb3.size; have := HB2.out.2; omega⟩
    have hr3 := HR2.out.below hb3 (by have := HB2.out.2; omega)
    have hof2 := of_any (some ⟨M, 0, none⟩) (g.ts.length + 1) S p w3 (.inr ⟨M, rfl, hm⟩) hfew (tame_of HGD.out hi) (HE.out.below HB3.out.1 (Nat.le_refl _))
    have HI : Hid (IsMat g S) := hi
    have HR3 : Hid (RowAt w3 (w.heap.size + 1) 42 #[.slice none 0 0, .slice none 0 0, .slice none 0 0, .slice none 0 0]) := hr3
    clear hof hb3 hm hi hr3 HW2 HE
    go_wp2_with fail
    refine hof2.mono ?_
    rintro e w4 ⟨v, rfl, hv, hb4⟩
    obtain ⟨f, h, c, y, rfl, hF⟩ := of_lists hv (by simp) (HCL.out S HI.out)
    obtain ⟨W5, hW5⟩ : ∃ W5, W5 = w4.alloc (.cells #[f, h, c, y] 42) := ⟨_, rfl⟩
    have hb5 : Below w4.heap.size w4 W5 := by rw [hW5]; exact (Below.refl _ _).alloc (Nat.le_refl _) _
    have hr5 : RowAt W5 w4.heap.size 42 #[f, h, c, y] := by rw [hW5]; exact heap_new _ _
    have hrr : RowAt W5.drew (w.heap.size + 1) 42 #[.slice none 0 0, .slice none 0 0, .slice none 0 0, .slice none 0 0] := (HR3.out.below hb4 HR3.out.lt).below (hb5.trans (drew_below W5 1)) (HR3.out.below hb4 HR3.out.lt).lt
    have hF5 := hF.below hb5
    have hBW : Below w.heap.size w W5.drew := ((HB3.out.1.trans (hb4.mono HB3.out.1.size)).trans (hb5.mono (HB3.out.1.trans (hb4.mono HB3.out.1.size)).size)).trans (drew_below W5 1)
    obtain ⟨⟨fa, fk, rfl, f1⟩, ⟨ga, gk, rfl, g1⟩, ⟨ca, ck, rfl, c1⟩, ⟨ya, yk, rfl, y1⟩⟩ := hF5
    have hsz4 : w.heap.size + 1 < w4.heap.size := by have := hb4.size; have := HB3.out.2; omega
    obtain ⟨fn, hfn⟩ : ∃ n, n = (fF (g.ts.length + 1) S).length := ⟨_, rfl⟩
    obtain ⟨gn, hgn⟩ : ∃ n, n = (fG (g.ts.length + 1) S).length := ⟨_, rfl⟩
    obtain ⟨yn, hyn⟩ : ∃ n, n = (fY (g.ts.length + 1) S).length := ⟨_, rfl⟩
    have HFI : Hid (∀ w9, Below W5.drew.heap.size W5.drew w9 → FnL w9 (g.ts.length + 1) S (.slice fa fn fk) (.slice ga gn gk) (.slice ca (2 * (g.ts.length + 1)) ck) (.slice ya yn yk)) := fun w9 h9 => by
      have hb9 : Below W5.heap.size W5 w9 := (drew_below W5 1).trans h9
      exact ⟨⟨fa, fk, by rw [hfn], IRow.below f1 hb9 (Nat.le_refl _)⟩, ⟨ga, gk, by rw [hgn], IRow.below g1 hb9 (Nat.le_refl _)⟩, ⟨ca, ck, rfl, IRow.below c1 hb9 (Nat.le_refl _)⟩, ⟨ya, yk, by rw [hyn], IRow.below y1 hb9 (Nat.le_refl _)⟩⟩
    have HFX : Hid (FnL (((( W5.drew.setCell ⟨w.heap.size + 1, 0, none⟩ (.slice fa fn fk)).setCell ⟨w.heap.size + 1, 1, none⟩ (.slice ga gn gk)).setCell ⟨w.heap.size + 1, 2, none⟩ (.slice ca (2 * (g.ts.length + 1)) ck)).setCell ⟨w.heap.size + 1, 3, none⟩ (.slice ya yn yk)) (g.ts.length + 1) S (.slice fa fn fk) (.slice ga gn gk) (.slice ca (2 * (g.ts.length + 1)) ck) (.slice ya yn yk)) := by
      have hk : ∀ (a : Option Addr) (zs : List Int), IRow W5 a zs → IRow ((((W5.drew.setCell ⟨w.heap.size + 1, 0, none⟩ (.slice fa fn fk)).setCell ⟨w.heap.size + 1, 1, none⟩ (.slice ga gn gk)).setCell ⟨w.heap.size + 1, 2, none⟩ (.slice ca (2 * (g.ts.length + 1)) ck)).setCell ⟨w.heap.size + 1, 3, none⟩ (.slice ya yn yk)) a zs := fun a zs h i x hx => by
        obtain ⟨b, off, e1, e2⟩ := h i x hx
        refine ⟨b, off, e1, ?_⟩
        have hne : b ≠ w.heap.size + 1 := fun e => by
          subst e
          have hrow : RowAt W5 (w.heap.size + 1) 42 #[.slice none 0 0, .slice none 0 0, .slice none 0 0, .slice none 0 0] := hrr
          unfold World.cell? at e2
          rw [show W5.heap[w.heap.size + 1]? = _ from hrow] at e2
          match off + i, e2 with
          | 0, e2 => cases e2
          | 1, e2 => cases e2
          | 2, e2 => cases e2
          | 3, e2 => cases e2
          | n + 4, e2 => simp at e2
        rw [World.cell?_of_block (a := ⟨b, off + i, none⟩) (heap4 W5.drew hne _ _ _ _)]
        exact e2
      exact ⟨⟨fa, fk, by rw [hfn], hk _ _ f1⟩, ⟨ga, gk, by rw [hgn], hk _ _ g1⟩, ⟨ca, ck, rfl, hk _ _ c1⟩, ⟨ya, yk, by rw [hyn], hk _ _ y1⟩⟩
    rw [← hfn, ← hgn, ← hyn] at hW5 hr5 ⊢
    have HRR : Hid (RowAt W5.drew (w.heap.size + 1) 42 #[.slice none 0 0, .slice none 0 0, .slice none 0 0, .slice none 0 0]) := hrr
    have HBW : Hid (Below w.heap.size w W5.drew) := hBW
    have t0 : W5.drew.cell? ⟨w4.heap.size, 0, none⟩ = some (.slice fa fn fk) := hr5.cell (q := 0) rfl
    have t1 : W5.drew.cell? ⟨w4.heap.size, 1, none⟩ = some (.slice ga gn gk) := hr5.cell (q := 1) rfl
    have t2 : W5.drew.cell? ⟨w4.heap.size, 2, none⟩ = some (.slice ca (2 * (g.ts.length + 1)) ck) := hr5.cell (q := 2) rfl
    have t3 : W5.drew.cell? ⟨w4.heap.size, 3, none⟩ = some (.slice ya yn yk) := hr5.cell (q := 3) rfl
    have o0 := hrr.cell (q := 0) (v := .slice none 0 0) rfl
    have o1 := hrr.cell (q := 1) (v := .slice none 0 0) rfl
    have o2 := hrr.cell (q := 2) (v := .slice none 0 0) rfl
    have o3 := hrr.cell (q := 3) (v := .slice none 0 0) rfl
    have u0 := hrr.frozen 0
    have u1 := hrr.frozen 1
    have u2 := hrr.frozen 2
    have u3 := hrr.frozen 3
    have hkn := kind_nil W5.drew
    generalize 2 * (g.ts.length + 1) = tt at *
    clear hof2 hv hb4 hF f1 g1 c1 y1 hfn hgn hyn hrr hBW hr5 HR3 HR2 HB2 HFI hb5
    go_wp2_with fail
    rw [← hW5]
    clear hW5
    refine wp_region_noPanic ?_
    refine wp_region_held_drew (S := (fun w9 => w9.cell? ⟨w4.heap.size, 0, none⟩ = some (.slice fa fn fk) ∧ w9.cell? ⟨w4.heap.size, 1, none⟩ = some (.slice ga gn gk) ∧ w9.cell? ⟨w4.heap.size, 2, none⟩ = some (.slice ca tt ck) ∧ w9.cell? ⟨w4.heap.size, 3, none⟩ = some (.slice ya yn yk))) (by kernel_rfl) ⟨t0, t1, t2, t3⟩ (fun hHeld => ?_)
    generalize W5.drew = Wd at *
    refine wpAnyH_take (i := 0) (v := .agg #[.slice fa fn fk, .slice ga gn gk, .slice ca tt ck, .slice ya yn yk]) rfl (by kernel_rfl) (by kernel_rfl) (by kernel_rfl) (fun _ _ _ h => h) (Or.inl ⟨by rfl, fun w9 hSw => ?_⟩) hHeld ?_
    · obtain ⟨s0, s1, s2, s3⟩ := hSw
      go_simp
    simp only [List.getElem_toArray, List.getElem_cons_zero, List.getElem_cons_succ, Act.put, List.setIfInBounds_toArray, List.set_cons_zero, List.set_cons_succ]
    refine wpAnyH_take (i := 1) (v := .nilIface) rfl (by kernel_rfl) (by kernel_rfl) (by kernel_rfl) (fun _ _ _ h => h) (Or.inl ⟨by rfl, fun w9 hSw => ?_⟩) hHeld ?_
    · obtain ⟨s0, s1, s2, s3⟩ := hSw
      go_simp
    simp only [List.getElem_toArray, List.getElem_cons_zero, List.getElem_cons_succ, Act.put, List.setIfInBounds_toArray, List.set_cons_zero, List.set_cons_succ]
    refine wpAnyH_ready (rs := [2]) (by kernel_rfl) (by simp) ?_
    refine AllReadyH.cons rfl (fun K hK => ?_) AllReadyH.nil
    go_simp
    refine hkn.mono ?_
    rintro e wz ⟨rfl, hwz⟩
    obtain rfl := hwz.symm
    refine hK.out _ _ hHeld (fun hHeld => ?_)
    clear hK K hkn
    refine wpAnyH_ready (rs := [3]) (by kernel_rfl) (by simp) ?_
    refine AllReadyH.cons rfl (fun K hK => ?_) AllReadyH.nil
    go_simp
    refine hK.out _ _ ?_ (fun hHeld => ?_)
    · obtain ⟨s0, s1, s2, s3⟩ := hHeld
      have hne : w4.heap.size ≠ w.heap.size + 1 := by omega
      exact ⟨(World.cell?_of_block (a := ⟨w4.heap.size, 0, none⟩) (heap4 Wd hne _ _ _ _)).trans s0, (World.cell?_of_block (a := ⟨w4.heap.size, 1, none⟩) (heap4 Wd hne _ _ _ _)).trans s1, (World.cell?_of_block (a := ⟨w4.heap.size, 2, none⟩) (heap4 Wd hne _ _ _ _)).trans s2, (World.cell?_of_block (a := ⟨w4.heap.size, 3, none⟩) (heap4 Wd hne _ _ _ _)).trans s3⟩
    clear hK K o0 o1 o2 o3 u0 u1 u2 u3 t0 t1 t2 t3
    refine wpAnyH_take (i := 4) (v := .int .i64 0) rfl (by kernel_rfl) (by kernel_rfl) (by kernel_rfl) (fun _ _ _ h => h) (Or.inl ⟨by rfl, fun w9 hSw => ?_⟩) hHeld ?_
    · obtain ⟨s0, s1, s2, s3⟩ := hSw
      go_simp
    simp only [List.getElem_toArray, List.getElem_cons_zero, List.getElem_cons_succ, Act.put, List.setIfInBounds_toArray, List.set_cons_zero, List.set_cons_succ]
    refine wpAnyH_done (by kernel_rfl) (NoPanic.normal ?_) _
    clear hHeld
    go_wp2
    have r9 := row4 HRR.out (.slice fa fn fk) (.slice ga gn gk) (.slice ca tt ck) (.slice ya yn yk)
    have k0 := r9.cell (q := 0) (v := .slice fa fn fk) rfl
    have k1 := r9.cell (q := 1) (v := .slice ga gn gk) rfl
    have k2 := r9.cell (q := 2) (v := .slice ca tt ck) rfl
    have k3 := r9.cell (q := 3) (v := .slice ya yn yk) rfl
    refine bodyPost_ret (v := .tuple #[.agg #[.slice fa fn fk, .slice ga gn gk, .slice ca tt ck, .slice ya yn yk], .int .i64 0]) (by simp [results, Tryz.results12, go_sem, k0, k1, k2, k3]; try rfl) rfl ?_
    exact ⟨⟨S, _, _, _, _, rfl, HI.out, HFX.out⟩, below4 HBW.out (by omega) _ _ _ _⟩
  · exact absurd (by rw [HCK.out]) hno

end Go.Proofs.YtcoepmpgclndiaaGreatDoor.PrecAwake
