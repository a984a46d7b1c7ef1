/-
  Chain, whole: for every grammar, every nonterminal, every terminal, both sides.
-/
import Derived.Test.YtpdkjblmpgmcjaaDoorEndsSearch
import Derived.Test.YtpdkjblmpgmcjaaDoorEndsOfs
import Derived.Test.YtpdkjblmpgmcjaaDoorGramErrs
namespace Go.Proofs.YtpdkjblmpgmcjaaDoor.EndsChain
open Go.RowKit Go.Proofs.YtpdkjblmpgmcjaaDoor.GramMath Go.Proofs.YtpdkjblmpgmcjaaDoor.GramRow Go.Proofs.YtpdkjblmpgmcjaaDoor.GramCheck Go.Proofs.YtpdkjblmpgmcjaaDoor.GramErrs Go.Proofs.YtpdkjblmpgmcjaaDoor.EndsMath Go.Proofs.YtpdkjblmpgmcjaaDoor.EndsFn Go.Proofs.YtpdkjblmpgmcjaaDoor.EndsSearch
set_option linter.unusedVariables false

/-- A nonterminal and a terminal of a grammar. -/
def InG (g : G) (n t : Int) : Prop := 0 ≤ n ∧ n < g.ns.length ∧ 0 ≤ t ∧ t < g.ts.length

/-- What Chain finds, and what is wrong. -/
def ChainR (g : G) (n t : Int) (b : Bool) (z : Nat × Option Nat) (o : Option (List Int)) : Prop :=
  ((checkG g).1 ≠ 0 ∧ z = checkG g ∧ o = none) ∨ ((checkG g).1 = 0 ∧ ¬ InG g n t ∧ z = (1, none) ∧ o = none) ∨
  ((checkG g).1 = 0 ∧ InG g n t ∧ FoundE b g.rs n.toNat t.toNat o ∧ z = ((if o.isSome = true then 0 else 15), none))

theorem ChainR.det {g : G} {n t : Int} {b : Bool} {z z' : Nat × Option Nat} {o o' : Option (List Int)} (h : ChainR g n t b z o) (h' : ChainR g n t b z' o') : z = z' ∧ o = o' := by
  rcases h with ⟨a1, rfl, rfl⟩ | ⟨a1, a2, rfl, rfl⟩ | ⟨a1, a2, a3, rfl⟩
  · rcases h' with ⟨b1, rfl, rfl⟩ | ⟨b1, b2, rfl, rfl⟩ | ⟨b1, b2, b3, rfl⟩
    · exact ⟨rfl, rfl⟩
    · exact absurd b1 a1
    · exact absurd b1 a1
  · rcases h' with ⟨b1, rfl, rfl⟩ | ⟨b1, b2, rfl, rfl⟩ | ⟨b1, b2, b3, rfl⟩
    · exact absurd a1 b1
    · exact ⟨rfl, rfl⟩
    · exact absurd b2 a2
  · rcases h' with ⟨b1, rfl, rfl⟩ | ⟨b1, b2, rfl, rfl⟩ | ⟨b1, b2, b3, rfl⟩
    · exact absurd a1 b1
    · exact absurd a2 b2
    · obtain rfl := a3.det b3
      exact ⟨rfl, rfl⟩

theorem chv_len {base : Nat} {w : World} {v : Value} {o : Option (List Int)} (h : ChV base w v o) : ∃ a l c, v = .slice a l c ∧ (∀ x, o = some x → l = x.length) ∧ (o = none → a = none ∧ l = 0 ∧ c = 0) := by
  match o, h with
  | none, h => exact ⟨none, 0, 0, h, fun x hx => (by cases hx), fun _ => ⟨rfl, rfl, rfl⟩⟩
  | some x, ⟨g, cap, h, _⟩ => exact ⟨_, _, _, h, fun y hy => (by cases hy; rfl), fun h => by cases h⟩

/-- A chain has a rule at least. -/
theorem found_pos {b : Bool} {t : Nat} {rs : List R} {ring : List Wy} {S : Nat → Bool} {o : Option (List Int)} (h : Search b t rs ring S o) : ∀ c, o = some c → 0 < c.length := by
  induction h with
  | none S => intro c hc; cases hc
  | hit hh =>
    intro c hc
    cases hc
    rename_i ring S c'
    revert hh
    generalize ring = ys
    induction ys with
    | nil => intro hh; cases hh
    | cons y ys ih =>
      intro hh
      unfold hitW at hh
      cases hy : hitR b t y.rules y.to 0 rs with
      | none => rw [hy] at hh; exact ih hh
      | some d =>
        rw [hy] at hh
        cases hh
        have := EndsWays.hitR_len hy
        omega
  | step _ _ _ ih => exact ih

set_option maxRecDepth 100000 in
set_option maxHeartbeats 4000000 in
theorem Chain_top (ta na ra : Option Addr) (tc nc rc : Nat) (g : G) (n t : Int) (b : Bool) (p : Nat → Addr) (w : World) (hG : GRow w ta na ra g) (hg : okG g) (htc : g.ts.length ≤ tc) (hnc : g.ns.length ≤ nc) (hE : Errs w p) :
    Calls Tryd.prog 50 #[.agg #[.slice ta g.ts.length tc, .slice na g.ns.length nc, .int .i64 g.ax, .slice ra g.rs.length rc], .int .i64 n, .int .i64 t, .bool b] w fun e w' => (∃ v x z o, e = .returned (.tuple #[v, x]) ∧ ChV w.heap.size w' v o ∧ CkV w.heap.size p z w' x ∧ ChainR g n t b z o) ∧ Below w.heap.size w w' := by
  have hneq := neq_nil
  have hB1 : Below w.heap.size w (w.alloc (.cells #[.slice ta g.ts.length tc, .slice na g.ns.length nc, .int .i64 g.ax, .slice ra g.rs.length rc] 25)) := (Below.refl _ _).alloc (Nat.le_refl _) _
  have b0 : (w.alloc (.cells #[.slice ta g.ts.length tc, .slice na g.ns.length nc, .int .i64 g.ax, .slice ra g.rs.length rc] 25)).cell? ⟨w.heap.size, 0, none⟩ = some (.slice ta g.ts.length tc) := by simp [go_sem]
  have b1 : (w.alloc (.cells #[.slice ta g.ts.length tc, .slice na g.ns.length nc, .int .i64 g.ax, .slice ra g.rs.length rc] 25)).cell? ⟨w.heap.size, 1, none⟩ = some (.slice na g.ns.length nc) := by simp [go_sem]
  have b2 : (w.alloc (.cells #[.slice ta g.ts.length tc, .slice na g.ns.length nc, .int .i64 g.ax, .slice ra g.rs.length rc] 25)).cell? ⟨w.heap.size, 2, none⟩ = some (.int .i64 g.ax) := by simp [go_sem]
  have b3 : (w.alloc (.cells #[.slice ta g.ts.length tc, .slice na g.ns.length nc, .int .i64 g.ax, .slice ra g.rs.length rc] 25)).cell? ⟨w.heap.size, 3, none⟩ = some (.slice ra g.rs.length rc) := by simp [go_sem]
  have hz : (w.alloc (.cells #[.slice ta g.ts.length tc, .slice na g.ns.length nc, .int .i64 g.ax, .slice ra g.rs.length rc] 25)).heap.size = w.heap.size + 1 := by simp
  have hck := check_any ta na ra tc nc rc g p _ (hG.below hB1 (Nat.le_refl _)) hg htc hnc (hE.sents.below hB1 (Nat.le_refl _))
  have a1 : w.cell? ⟨0, 0, none⟩ = some (.iface 189 (.pointer (some (p 1)))) := (hE.1 0 (by omega)).1
  have a15 : w.cell? ⟨1, 0, none⟩ = some (.iface 189 (.pointer (some (p 15)))) := (hE.1 14 (by omega)).1
  go_enter Tryd.func50, Tryd.ntmps50
  go_wp2_with fail
  generalize w.alloc (.cells #[.slice ta g.ts.length tc, .slice na g.ns.length nc, .int .i64 g.ax, .slice ra g.rs.length rc] 25) = W1 at *
  refine hck.mono ?_
  rintro e w1 ⟨⟨v, rfl, hv⟩, hb1⟩
  have hB2 := hB1.trans (hb1.mono (by omega))
  have c0 := (hb1.cell (p := ⟨w.heap.size, 0, none⟩) (by rw [hz]; simp)).trans b0
  have c1 := (hb1.cell (p := ⟨w.heap.size, 1, none⟩) (by rw [hz]; simp)).trans b1
  have c3 := (hb1.cell (p := ⟨w.heap.size, 3, none⟩) (by rw [hz]; simp)).trans b3
  have hWz : w.heap.size < w1.heap.size := by have := hb1.size; omega
  have l1 := (hB2.cell (cell_lt a1)).trans a1
  have l15 := (hB2.cell (cell_lt a15)).trans a15
  have i1 := cell_lt a1
  have i15 := cell_lt a15
  dsimp only at i1 i15
  clear hck b0 b1 b2 b3
  by_cases h0 : (checkG g).1 = 0
  · have hgood := good_of h0
    obtain rfl := ck_nil hv h0
    have hfew := hgood.few
    have hR1 := hG.2.2.below hB2 (Nat.le_refl _)
    clear hv hG
    by_cases hin : InG g n t
    · obtain ⟨hn0, hn1, ht0, ht1⟩ := id hin
      obtain ⟨n', rfl⟩ : ∃ n' : Nat, n = n' := ⟨n.toNat, by omega⟩
      obtain ⟨t', rfl⟩ : ∃ t' : Nat, t = t' := ⟨t.toNat, by omega⟩
      have x1 : ¬ (n' : Int) < 0 := by omega
      have x2 : ¬ (n' : Int) ≥ (g.ns.length : Int) := by omega
      have x3 : ¬ (t' : Int) < 0 := by omega
      have x4 : ¬ (t' : Int) ≥ (g.ts.length : Int) := by omega
      have y1 : decide ((n' : Int) < 0) = false := by simp
      have y2 : decide ((n' : Int) ≥ (g.ns.length : Int)) = false := by simpa using x2
      have y3 : decide ((t' : Int) < 0) = false := by simp
      have y4 : decide ((t' : Int) ≥ (g.ts.length : Int)) = false := by simpa using x4
      have hres : Hid (∀ o, FoundE b g.rs n' t' o → ChainR g n' t' b ((if o.isSome = true then 0 else 15), none) o) := fun o ho => .inr (.inr ⟨h0, hin, by simpa using ho, rfl⟩)
      have hd1 := drew_in w1
      clear h0 hin hn0 ht0
      go_wp2_with fail
      have hS : ∀ w', Below w1.heap.size w1 w' → w'.cell? ⟨w.heap.size, 3, none⟩ = some (.slice ra g.rs.length rc) := fun w' hb => (hb.cell (p := ⟨w.heap.size, 3, none⟩) hWz).trans c3
      refine wp_region_noPanic ?_
      refine wp_region_held_drew (S := (fun w' => w'.cell? ⟨w.heap.size, 3, none⟩ = some (.slice ra g.rs.length rc))) (by kernel_rfl) (hS _ hd1) (fun hHeld => ?_)
      refine wpAnyH_take (i := 0) (v := .pointer (some ⟨w.heap.size, 3, none⟩)) rfl (by kernel_rfl) (by kernel_rfl) (by kernel_rfl) (fun _ _ _ h => h) (Or.inl ⟨by rfl, fun w9 s3 => ?_⟩) hHeld ?_
      · go_simp
      simp only [List.getElem_toArray, List.getElem_cons_zero, Act.put, List.setIfInBounds_toArray, List.set_cons_zero, List.set_cons_succ]
      refine wpAnyH_take (i := 1) (v := .slice ra g.rs.length rc) rfl (by kernel_rfl) (by kernel_rfl) (by kernel_rfl) (fun _ _ _ h => h) (Or.inl ⟨by rfl, fun w9 s3 => ?_⟩) hHeld ?_
      · go_simp
      simp only [List.getElem_toArray, List.getElem_cons_zero, List.getElem_cons_succ, Act.put, List.setIfInBounds_toArray, List.set_cons_zero, List.set_cons_succ]
      refine wpAnyH_take (i := 2) (v := .int .i64 (n' : Int)) rfl (by kernel_rfl) (by kernel_rfl) (by kernel_rfl) (fun _ _ _ h => h) (Or.inl ⟨by rfl, fun w9 s3 => ?_⟩) hHeld ?_
      · go_simp
      simp only [List.getElem_toArray, List.getElem_cons_zero, List.getElem_cons_succ, Act.put, List.setIfInBounds_toArray, List.set_cons_zero, List.set_cons_succ]
      refine wpAnyH_take (i := 3) (v := .int .i64 (t' : Int)) rfl (by kernel_rfl) (by kernel_rfl) (by kernel_rfl) (fun _ _ _ h => h) (Or.inl ⟨by rfl, fun w9 s3 => ?_⟩) hHeld ?_
      · go_simp
      simp only [List.getElem_toArray, List.getElem_cons_zero, List.getElem_cons_succ, Act.put, List.setIfInBounds_toArray, List.set_cons_zero, List.set_cons_succ]
      refine wpAnyH_take (i := 4) (v := .bool b) rfl (by kernel_rfl) (by kernel_rfl) (by kernel_rfl) (fun _ _ _ h => h) (Or.inl ⟨by rfl, fun w9 s3 => ?_⟩) hHeld ?_
      · go_simp
      simp only [List.getElem_toArray, List.getElem_cons_zero, List.getElem_cons_succ, Act.put, List.setIfInBounds_toArray, List.set_cons_zero, List.set_cons_succ]
      refine wpAnyH_ready (rs := [5]) (by kernel_rfl) (by simp) ?_
      refine AllReadyH.cons rfl (fun K hK => ?_) AllReadyH.nil
      go_simp
      refine (facing_any b _).mono ?_
      rintro e w2 ⟨rfl, hc2, hz2, hb2⟩
      have hC2 := hd1.trans hb2
      refine hK.out _ _ (hS _ hC2) (fun hHeld2 => ?_)
      clear hK K hHeld
      refine wpAnyH_ready (rs := [6]) (by kernel_rfl) (by simp) ?_
      refine AllReadyH.cons rfl (fun K hK => ?_) AllReadyH.nil
      go_simp
      refine (search_any b _ ra rc g n' t' w2 hgood hg (hR1.below hC2 (Nat.le_refl _)) hc2 (by omega) (by omega)).mono ?_
      rintro e w3 ⟨⟨u, o, rfl, hch, hF⟩, hb3⟩
      have hC3 := hC2.trans (hb3.mono hC2.size)
      refine hK.out _ _ (hS _ hC3) (fun hHeld3 => ?_)
      clear hK K hHeld2
      refine wpAnyH_take (i := 7) (v := u) rfl (by kernel_rfl) (by kernel_rfl) (by kernel_rfl) (fun _ _ _ h => h) (Or.inl ⟨by rfl, fun w9 s3 => ?_⟩) hHeld3 ?_
      · go_simp
      simp only [List.getElem_toArray, List.getElem_cons_zero, List.getElem_cons_succ, Act.put, List.setIfInBounds_toArray, List.set_cons_zero, List.set_cons_succ]
      refine wpAnyH_done (by kernel_rfl) (NoPanic.normal ?_) _
      have hB3 := hB2.trans (hC3.mono hB2.size)
      have m15 := (hC3.cell (p := ⟨1, 0, none⟩) (show _ < w1.heap.size by dsimp only; omega)).trans l15
      have hres2 : Hid (ChainR g n' t' b ((if o.isSome = true then 0 else 15), none) o) := hres.out o hF
      have hpos := found_pos hF
      have hzz := hC2.size
      have hch2 : Hid (ChV w.heap.size w3 u o) := by
        match o, hch with
        | none, h => exact h
        | some c, ⟨g', cap, h1, h2⟩ => exact ⟨g', cap, h1, GramApart.own_base h2 (by omega)⟩
      clear hS hR1 hres hF
      match o, hch, hch2, hres2, hpos with
      | none, hu, hch2, hres2, _ =>
        obtain rfl : u = .slice none 0 0 := hu
        have hres3 : Hid (ChainR g n' t' b (15, none) none) := hres2.out
        clear hres2
        go_wp2
        go_quiet (fail)
        go_wp2
        go_ret2
        exact ⟨⟨_, _, (15, none), none, rfl, rfl, rfl, hres3.out⟩, bdrew hB3 _⟩
      | some c, ⟨g', cap', hu, hown⟩, hch2, hres2, hpos =>
        subst hu
        have hl := hpos c rfl
        have hl2 : ((c.length : Int) == 0) = false := by rw [beq_eq_false_iff_ne]; omega
        have hres3 : Hid (ChainR g n' t' b (0, none) (some c)) := hres2.out
        clear hown hres2
        go_wp2
        go_ret2
        exact ⟨⟨_, _, (0, none), some c, rfl, hch2.out, rfl, hres3.out⟩, hB3⟩
    · have hres : Hid (ChainR g n t b (1, none) none) := .inr (.inl ⟨h0, hin, rfl, rfl⟩)
      unfold InG at hin
      clear h0 hR1
      by_cases x1 : n < 0
      · have y1 : decide (n < 0) = true := by simpa using x1
        clear hin
        go_wp2
        go_quiet (fail)
        go_wp2
        go_ret2
        exact ⟨⟨_, _, (1, none), none, rfl, rfl, rfl, hres.out⟩, bdrew hB2 _⟩
      · have y1 : decide (n < 0) = false := by simpa using x1
        by_cases x2 : n ≥ (g.ns.length : Int)
        · have y2 : decide (n ≥ (g.ns.length : Int)) = true := by simpa using x2
          clear hin
          go_wp2
          go_quiet (fail)
          go_wp2
          go_ret2
          exact ⟨⟨_, _, (1, none), none, rfl, rfl, rfl, hres.out⟩, bdrew hB2 _⟩
        · have y2 : decide (n ≥ (g.ns.length : Int)) = false := by simpa using x2
          by_cases x3 : t < 0
          · have y3 : decide (t < 0) = true := by simpa using x3
            clear hin
            go_wp2
            go_quiet (fail)
            go_wp2
            go_ret2
            exact ⟨⟨_, _, (1, none), none, rfl, rfl, rfl, hres.out⟩, bdrew hB2 _⟩
          · have y3 : decide (t < 0) = false := by simpa using x3
            have x4 : t ≥ (g.ts.length : Int) := by omega
            have y4 : decide (t ≥ (g.ts.length : Int)) = true := by simpa using x4
            clear hin
            go_wp2
            go_quiet (fail)
            go_wp2
            go_ret2
            exact ⟨⟨_, _, (1, none), none, rfl, rfl, rfl, hres.out⟩, bdrew hB2 _⟩
  · obtain ⟨t1, u, rfl⟩ := ck_iface hv h0
    have hv2 : Hid (_) := hv.mono (base' := w.heap.size) (by omega)
    have hres : Hid (ChainR g n t b (checkG g) none) := .inl ⟨h0, rfl, rfl⟩
    clear h0 hv
    go_wp2
    go_ret2
    exact ⟨⟨_, _, checkG g, none, rfl, rfl, hv2.out, hres.out⟩, hB2⟩

end Go.Proofs.YtpdkjblmpgmcjaaDoor.EndsChain
