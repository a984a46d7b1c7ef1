/-
  The Builder: a rule.
-/
import Derived.Test.YtcmjneabcdpmoaaDoorGramBuild2
import Derived.Deep.RegionHeld3
import Derived.Deep.DeepCutAuto
import Derived.Handy
namespace Go.Proofs.YtcmjneabcdpmoaaDoor.GramRoll
open Go.RowKit Go.Maps Go.WideMaps Go.Proofs.YtcmjneabcdpmoaaDoor.GramLess Go.Proofs.YtcmjneabcdpmoaaDoor.GramMath Go.Proofs.YtcmjneabcdpmoaaDoor.GramRow Go.Proofs.YtcmjneabcdpmoaaDoor.GramOne Go.Proofs.YtcmjneabcdpmoaaDoor.GramApart Go.Proofs.YtcmjneabcdpmoaaDoor.GramCopy Go.Proofs.YtcmjneabcdpmoaaDoor.GramName
set_option linter.unusedVariables false

theorem stepR {ops : Array Oper} {o : Oper} {a : Act} {w : World} {K : Act → World → Prop} {Q' : Exit → Act → World → Prop} {E : Prop} (hg : o.guard = none) (s x : Operand)
    (ho : o.op = .call { callee := .builtin .append, args := #[s, x], argTypes := #[29, 29] }) (base : Nat) (v : Value) (n : Nat) (xs : List Value) (hs : a.eval s = v) (hown : w.ownsRow base 53 2 v n xs)
    (ad : Addr) (u1 u2 : Value) (hx : a.eval x = .slice (some ad) 1 1) (hsrc : ∀ j u, [u1, u2][j]? = some u → w.cell? (ad.add j) = some u) (h1c : ∀ u ∈ [u1, u2], u.oneCell' = true) (hsz : n ≤ 2199023255552) (hbase : base ≤ w.heap.size)
    (h : ∀ v' w', w'.ownsRow base 53 2 v' (n + 1) (xs ++ [u1, u2]) → w.grownBy w' v.ownBlock → K (a.put o.dst v') w') :
    if Region.wanted o (yielded ops a.tmps) = true then Oper.wp Tryd.prog o a w K Q' else E := by
  obtain ⟨i0, hi, hz0, hz1, hz2⟩ := info_parts GramLent.infoR
  have hw : Region.wanted o (yielded ops a.tmps) = true := by simp [Region.wanted, hg]
  rw [if_pos hw]
  refine wp_append_own w s x 29 ho base 53 i0 (.agg #[.int .i64 0, .slice none 0 0]) 2 32 Tryd.underlying29 hi hz0 hz1 hz2 rfl (by decide) v n xs hs hown ad 1 1 [u1, u2] hx rfl hsrc h1c (by unfold maxLen; omega) (by omega) hbase ?_
  intro v' w' h1 h2 _
  exact h v' w' h1 h2

def withRs (g : G) (rs : List R) : G := ⟨g.ts, g.ns, g.ax, rs⟩

set_option maxRecDepth 100000 in
set_option maxHeartbeats 1000000 in
theorem brule_any (b base : Nat) (g : G) (nv mv nv2 mv2 rv : Value) (lq : List Q) (l : Int) (a : Option Addr) (c : Nat) (zs : List Int) (w : World) (h : Build w b base g nv mv nv2 mv2 rv lq) (hr : IRow w a zs) (hm : zs.length * 8 ≤ 140737488351232) (hl : g.rs.length ≤ 2199023255552) :
    Calls Tryd.prog 11 #[.pointer (some ⟨b, 0, none⟩), .int .i64 l, .slice a zs.length c] w fun e w' => (∃ rv' lq', e = .returned (.tuple #[]) ∧ Build w' b base (withRs g (g.rs ++ [⟨l, zs⟩])) nv mv nv2 mv2 rv' lq') ∧ RKeep w w' b 5 (fun k => rv.ownBlock = some k) := by
  have hptr := ptr_some
  have c5 := h.r.c
  have f5 := h.r.f
  have hblt : b < w.heap.size := by have := h.t.lt; have := h.lt; omega
  have hdZ : Below w.heap.size w w.drew := ⟨rfl, rfl, rfl, Nat.le_refl w.heap.size, fun _ _ => rfl⟩
  have hcp := copyRule_any l a c zs w.drew (hr.below hdZ (Nat.le_refl _)) hm
  have hF : Hid (∀ x w1, w.heap.size ≤ x → RowAt w1 x 3 (intsA zs) → Below w.heap.size w w1 → ∀ v5 w5, w5.ownsRow base 53 2 v5 (g.rs.length + 1) (cellsQ lq ++ [.int .i64 l, .slice (some ⟨x, 0, none⟩) zs.length zs.length]) → (w1.alloc (.cells #[.int .i64 l, .slice (some ⟨x, 0, none⟩) zs.length zs.length] 53)).grownBy w5 rv.ownBlock → (w5.cell? ⟨b, 5, none⟩ = some rv ∧ w5.frozen? ⟨b, 5, none⟩ = false) ∧ Build (w5.setCell ⟨b, 5, none⟩ v5) b base (withRs g (g.rs ++ [⟨l, zs⟩])) nv mv nv2 mv2 v5 (lq ++ [⟨⟨l, zs⟩, some ⟨x, 0, none⟩, zs.length⟩]) ∧ RKeep w (w5.setCell ⟨b, 5, none⟩ v5) b 5 (fun k => rv.ownBlock = some k)) := fun x w1 hx hxr hb1 v5 w5 hown hg => by
    have hz1 := hb1.size
    have hbl := h.t.lt
    have hrb : rv.ownBlock ≠ some b := fun e => by have := (h.r.row.lt b e).1; omega
    have hk1 : RKeep w w1 b 5 (fun k => rv.ownBlock = some k) := RKeep.on hb1 hblt
    have hk2 : RKeep w1 (w1.alloc (.cells #[.int .i64 l, .slice (some ⟨x, 0, none⟩) zs.length zs.length] 53)) b 5 (fun k => rv.ownBlock = some k) := RKeep.on ((Below.refl _ _).alloc (Nat.le_refl _) _) (by omega)
    have hk3 : RKeep (w1.alloc (.cells #[.int .i64 l, .slice (some ⟨x, 0, none⟩) zs.length zs.length] 53)) w5 b 5 (fun k => rv.ownBlock = some k) := RKeep.grown hg (fun k hk _ => hk) hrb (by simp; omega)
    have hk4 : RKeep w5 (w5.setCell ⟨b, 5, none⟩ v5) b 5 (fun k => rv.ownBlock = some k) := RKeep.set (.inl rfl) _
    have hkp := ((hk1.trans hk2).trans hk3).trans hk4
    have hblk : ∀ k, k < w1.heap.size → rv.ownBlock ≠ some k → w5.heap[k]? = w1.heap[k]? := fun k hk hn => by
      rw [hg.block k (by simp; omega) (fun e => hn e.symm), Below.heap_alloc _ _ _ hk]
    have hbb : w5.heap[b]? = w.heap[b]? := (hblk b (by omega) hrb).trans (hb1.block b hblt)
    have y0 : w5.cell? ⟨b, 5, none⟩ = some rv := (World.cell?_of_block hbb).trans c5
    have u0 : w5.frozen? ⟨b, 5, none⟩ = false := by
      unfold World.frozen? at f5 ⊢
      rw [hbb]
      exact f5
    have hty : ∀ k, rv.ownBlock = some k → ∃ cur, RowAt w k 53 cur := fun k hk => by
      obtain ⟨_, ⟨hn, _⟩ | ⟨g', cap, cur, hv, _, hr, _⟩⟩ := h.r.row
      · rw [hn] at hk; cases hk
      · rw [hv] at hk
        have e : g' = k := by simpa [Value.ownBlock] using hk
        subst e
        exact ⟨cur, hr⟩
    have hright : ∀ xb zz, base ≤ xb → RowAt w1 xb 3 (intsA zz) → (xb < w.heap.size → RowAt w xb 3 (intsA zz)) → RowAt (w5.setCell ⟨b, 5, none⟩ v5) xb 3 (intsA zz) := fun xb zz hlo hrow hold => by
      have hn : rv.ownBlock ≠ some xb := fun e => by
        obtain ⟨cur, hc⟩ := hty xb e
        exact hc.ne (hold hc.lt) (by decide) rfl
      exact (Below.heap_setCell _ _ _ _ (show xb ≠ b by omega)).trans ((hblk xb hrow.lt hn).trans hrow)
    refine ⟨⟨y0, u0⟩, ⟨h.t.keep hkp (by decide) (by decide) (by decide) (fun k hk e => by obtain ⟨cur, hc⟩ := hty k e; exact h.t.not_row hc (by decide) hk), h.n.keep hkp (by decide) (by decide) (by decide) (fun k hk e => by obtain ⟨cur, hc⟩ := hty k e; exact h.n.not_row hc (by decide) hk), (hkp.cell 4 (by decide) (by decide)).trans h.a, (hkp.frozen 4).trans h.af, ⟨World.cell?_setCell_same (h := y0) .., (World.frozen?_setCell ..).trans u0, ?_, ?_, ?_⟩, h.far, Nat.le_trans h.lt hkp.size⟩, hkp⟩
    · show (w5.setCell ⟨b, 5, none⟩ v5).ownsRow base 53 2 v5 (g.rs ++ [(⟨l, zs⟩ : R)]).length (cellsQ (lq ++ [(⟨⟨l, zs⟩, some ⟨x, 0, none⟩, zs.length⟩ : Q)]))
      rw [List.length_append, cellsQ_app]
      exact own_block hown (fun k hk => Below.heap_setCell _ _ _ _ (show k ≠ b by have := (hown.lt k hk).1; omega))
    · show (lq ++ [(⟨⟨l, zs⟩, some ⟨x, 0, none⟩, zs.length⟩ : Q)]).map (·.r) = g.rs ++ [⟨l, zs⟩]
      rw [List.map_append, h.r.map]
      rfl
    · intro q hq
      rcases List.mem_append.1 hq with hq | hq
      · obtain ⟨xb, e1, e2, e3, e4⟩ := h.r.each q hq
        exact ⟨xb, e1, e2, e3, hright xb _ e3 ((hb1.block xb e4.lt).trans e4) (fun _ => e4)⟩
      · obtain rfl : q = ⟨⟨l, zs⟩, some ⟨x, 0, none⟩, zs.length⟩ := by simpa using hq
        exact ⟨x, rfl, rfl, by have := h.lt; omega, hright x _ (by have := h.lt; omega) hxr (fun hlt => absurd hlt (by omega))⟩
  have hrow0 := h.r.row
  have hlt0 := h.lt
  clear h
  go_enter Tryd.func11, Tryd.ntmps11
  go_wp2_with fail
  refine wp_region_noPanic ?_
  refine wp_region_held_drew (S := (fun _ => True)) (by kernel_rfl) trivial (fun hHeld => ?_)
  refine wpAnyH_take (i := 0) (v := .pointer (some ⟨b, 0, none⟩)) rfl (by kernel_rfl) (by kernel_rfl) (by kernel_rfl) (fun _ _ _ h => h) (Or.inl ⟨by rfl, fun w9 hSw => ?_⟩) hHeld ?_
  · go_simp
  simp only [List.getElem_toArray, List.getElem_cons_zero, Act.put, List.setIfInBounds_toArray, List.set_cons_zero, List.set_cons_succ]
  refine wpAnyH_take (i := 1) (v := .pointer (some ⟨b, 0, none⟩)) rfl (by kernel_rfl) (by kernel_rfl) (by kernel_rfl) (fun _ _ _ h => h) (Or.inl ⟨by rfl, fun w9 hSw => ?_⟩) hHeld ?_
  · go_simp
  simp only [List.getElem_toArray, List.getElem_cons_zero, List.getElem_cons_succ, Act.put, List.setIfInBounds_toArray, List.set_cons_zero, List.set_cons_succ]
  refine wpAnyH_take (i := 2) (v := .pointer (some ⟨b, 0, none⟩)) rfl (by kernel_rfl) (by kernel_rfl) (by kernel_rfl) (fun _ _ _ h => h) (Or.inl ⟨by rfl, fun w9 hSw => ?_⟩) hHeld ?_
  · go_simp
  simp only [List.getElem_toArray, List.getElem_cons_zero, List.getElem_cons_succ, Act.put, List.setIfInBounds_toArray, List.set_cons_zero, List.set_cons_succ]
  refine wpAnyH_take (i := 3) (v := .pointer (some ⟨b, 5, none⟩)) rfl (by kernel_rfl) (by kernel_rfl) (by kernel_rfl) (fun _ _ _ h => h) (Or.inl ⟨by rfl, fun w9 hSw => ?_⟩) hHeld ?_
  · go_simp
  simp only [List.getElem_toArray, List.getElem_cons_zero, List.getElem_cons_succ, Act.put, List.setIfInBounds_toArray, List.set_cons_zero, List.set_cons_succ]
  refine wpAnyH_take (i := 5) (v := .int .i64 l) rfl (by kernel_rfl) (by kernel_rfl) (by kernel_rfl) (fun _ _ _ h => h) (Or.inl ⟨by rfl, fun w9 hSw => ?_⟩) hHeld ?_
  · go_simp
  simp only [List.getElem_toArray, List.getElem_cons_zero, List.getElem_cons_succ, Act.put, List.setIfInBounds_toArray, List.set_cons_zero, List.set_cons_succ]
  refine wpAnyH_take (i := 6) (v := .slice a zs.length c) rfl (by kernel_rfl) (by kernel_rfl) (by kernel_rfl) (fun _ _ _ h => h) (Or.inl ⟨by rfl, fun w9 hSw => ?_⟩) hHeld ?_
  · go_simp
  simp only [List.getElem_toArray, List.getElem_cons_zero, List.getElem_cons_succ, Act.put, List.setIfInBounds_toArray, List.set_cons_zero, List.set_cons_succ]
  refine wpAnyH_ready (rs := [4, 7]) (by kernel_rfl) (by simp) ?_
  refine AllReadyH.cons rfl (fun K hK => ?_) (AllReadyH.cons rfl (fun K hK => ?_) AllReadyH.nil)
  · go_simp
    refine hK.out _ _ trivial (fun _ => ?_)
    clear hK K
    refine wpAnyH_ready (rs := [7]) (by kernel_rfl) (by simp) ?_
    refine AllReadyH.cons rfl (fun K hK => ?_) AllReadyH.nil
    go_simp
    refine hcp.mono ?_
    rintro e w1 ⟨⟨x, rfl, hx, hxr⟩, hb1⟩
    have hw1 : Below w.heap.size w w1 := hdZ.trans hb1
    refine hK.out _ _ trivial (fun _ => ?_)
    clear hK K hcp hb1
    refine wpAnyH_ready (rs := [8]) (by kernel_rfl) (by simp) ?_
    refine AllReadyH.cons rfl (fun K hK => ?_) AllReadyH.nil
    go_simp
    refine hK.out _ _ trivial (fun _ => ?_)
    clear hK K
    refine wpAnyH_ready (rs := [9]) (by kernel_rfl) (by simp) ?_
    refine AllReadyH.cons rfl (fun K hK => ?_) AllReadyH.nil
    refine stepR rfl _ _ rfl base rv g.rs.length (cellsQ lq) (by rfl) (GramApart.own_below hrow0 (hw1.trans ((Below.refl w1.heap.size w1).alloc (Nat.le_refl _) _ |>.mono hw1.size))) ⟨w1.heap.size, 0, none⟩ (.int .i64 l) (.slice (some ⟨x, 0, none⟩) zs.length zs.length) (by rfl) (GramLent.cells_new w1 #[.int .i64 l, .slice (some ⟨x, 0, none⟩) zs.length zs.length] 53) (by simp [Value.oneCell']) hl (by simp; have := hw1.size; omega) ?_
    intro v5 w5 hown5 hgrow5
    obtain ⟨g5, c5'', rfl⟩ := ownsRow_succ hown5
    obtain ⟨⟨y0, u0⟩, hB5, hK5⟩ := hF.out x w1 hx hxr hw1 _ w5 hown5 hgrow5
    refine hK.out _ _ trivial (fun hH2 => ?_)
    clear hK K
    simp only [List.getElem_toArray, List.getElem_cons_zero, List.getElem_cons_succ, Act.put, List.setIfInBounds_toArray, List.set_cons_zero, List.set_cons_succ]
    refine wpAnyH_ready (rs := [10]) (by kernel_rfl) (by simp) ?_
    refine AllReadyH.cons rfl (fun K hK => ?_) AllReadyH.nil
    go_simp
    refine hK.out _ _ trivial (fun _ => ?_)
    clear hK K
    refine wpAnyH_ready (rs := [11]) (by kernel_rfl) (by simp) ?_
    refine AllReadyH.cons rfl (fun K hK => ?_) AllReadyH.nil
    go_simp
    refine hK.out _ _ trivial (fun _ => ?_)
    clear hK K
    refine wpAnyH_ready (rs := [12]) (by kernel_rfl) (by simp) ?_
    refine AllReadyH.cons rfl (fun K hK => ?_) AllReadyH.nil
    go_simp
    refine hK.out _ _ trivial (fun _ => ?_)
    clear hK K
    refine wpAnyH_done (by kernel_rfl) (NoPanic.normal ?_) _
    go_wp2
    go_end0
    exact ⟨⟨_, _, rfl, hB5⟩, hK5⟩
  · go_simp
    refine hcp.mono ?_
    rintro e w1 ⟨⟨x, rfl, hx, hxr⟩, hb1⟩
    have hw1 : Below w.heap.size w w1 := hdZ.trans hb1
    refine hK.out _ _ trivial (fun _ => ?_)
    clear hK K hcp hb1
    have c5' := (hw1.cell (p := ⟨b, 5, none⟩) hblt).trans c5
    refine wpAnyH_ready (rs := [4, 8]) (by kernel_rfl) (by simp) ?_
    refine AllReadyH.cons rfl (fun K hK => ?_) (AllReadyH.cons rfl (fun K hK => ?_) AllReadyH.nil)
    · go_simp
      refine hK.out _ _ trivial (fun _ => ?_)
      clear hK K
      refine wpAnyH_ready (rs := [8]) (by kernel_rfl) (by simp) ?_
      refine AllReadyH.cons rfl (fun K hK => ?_) AllReadyH.nil
      go_simp
      refine hK.out _ _ trivial (fun _ => ?_)
      clear hK K
      refine wpAnyH_ready (rs := [9]) (by kernel_rfl) (by simp) ?_
      refine AllReadyH.cons rfl (fun K hK => ?_) AllReadyH.nil
      refine stepR rfl _ _ rfl base rv g.rs.length (cellsQ lq) (by rfl) (GramApart.own_below hrow0 (hw1.trans ((Below.refl w1.heap.size w1).alloc (Nat.le_refl _) _ |>.mono hw1.size))) ⟨w1.heap.size, 0, none⟩ (.int .i64 l) (.slice (some ⟨x, 0, none⟩) zs.length zs.length) (by rfl) (GramLent.cells_new w1 #[.int .i64 l, .slice (some ⟨x, 0, none⟩) zs.length zs.length] 53) (by simp [Value.oneCell']) hl (by simp; have := hw1.size; omega) ?_
      intro v5 w5 hown5 hgrow5
      obtain ⟨g5, c5'', rfl⟩ := ownsRow_succ hown5
      obtain ⟨⟨y0, u0⟩, hB5, hK5⟩ := hF.out x w1 hx hxr hw1 _ w5 hown5 hgrow5
      refine hK.out _ _ trivial (fun hH2 => ?_)
      clear hK K
      simp only [List.getElem_toArray, List.getElem_cons_zero, List.getElem_cons_succ, Act.put, List.setIfInBounds_toArray, List.set_cons_zero, List.set_cons_succ]
      refine wpAnyH_ready (rs := [10]) (by kernel_rfl) (by simp) ?_
      refine AllReadyH.cons rfl (fun K hK => ?_) AllReadyH.nil
      go_simp
      refine hK.out _ _ trivial (fun _ => ?_)
      clear hK K
      refine wpAnyH_ready (rs := [11]) (by kernel_rfl) (by simp) ?_
      refine AllReadyH.cons rfl (fun K hK => ?_) AllReadyH.nil
      go_simp
      refine hK.out _ _ trivial (fun _ => ?_)
      clear hK K
      refine wpAnyH_ready (rs := [12]) (by kernel_rfl) (by simp) ?_
      refine AllReadyH.cons rfl (fun K hK => ?_) AllReadyH.nil
      go_simp
      refine hK.out _ _ trivial (fun _ => ?_)
      clear hK K
      refine wpAnyH_done (by kernel_rfl) (NoPanic.normal ?_) _
      go_wp2
      go_end0
      exact ⟨⟨_, _, rfl, hB5⟩, hK5⟩
    · go_simp
      refine hK.out _ _ trivial (fun _ => ?_)
      clear hK K
      refine wpAnyH_ready (rs := [4]) (by kernel_rfl) (by simp) ?_
      refine AllReadyH.cons rfl (fun K hK => ?_) AllReadyH.nil
      have c6' := (((Below.refl w1.heap.size w1).alloc (Nat.le_refl _) (.cells #[.int .i64 l, .slice (some ⟨x, 0, none⟩) zs.length zs.length] 53)).cell (p := ⟨b, 5, none⟩) (show b < _ by have := hw1.size; omega)).trans c5'
      go_simp
      refine hK.out _ _ trivial (fun _ => ?_)
      clear hK K
      refine wpAnyH_ready (rs := [9]) (by kernel_rfl) (by simp) ?_
      refine AllReadyH.cons rfl (fun K hK => ?_) AllReadyH.nil
      refine stepR rfl _ _ rfl base rv g.rs.length (cellsQ lq) (by rfl) (GramApart.own_below hrow0 (hw1.trans ((Below.refl w1.heap.size w1).alloc (Nat.le_refl _) _ |>.mono hw1.size))) ⟨w1.heap.size, 0, none⟩ (.int .i64 l) (.slice (some ⟨x, 0, none⟩) zs.length zs.length) (by rfl) (GramLent.cells_new w1 #[.int .i64 l, .slice (some ⟨x, 0, none⟩) zs.length zs.length] 53) (by simp [Value.oneCell']) hl (by simp; have := hw1.size; omega) ?_
      intro v5 w5 hown5 hgrow5
      obtain ⟨g5, c5'', rfl⟩ := ownsRow_succ hown5
      obtain ⟨⟨y0, u0⟩, hB5, hK5⟩ := hF.out x w1 hx hxr hw1 _ w5 hown5 hgrow5
      refine hK.out _ _ trivial (fun hH2 => ?_)
      clear hK K
      simp only [List.getElem_toArray, List.getElem_cons_zero, List.getElem_cons_succ, Act.put, List.setIfInBounds_toArray, List.set_cons_zero, List.set_cons_succ]
      refine wpAnyH_ready (rs := [10]) (by kernel_rfl) (by simp) ?_
      refine AllReadyH.cons rfl (fun K hK => ?_) AllReadyH.nil
      go_simp
      refine hK.out _ _ trivial (fun _ => ?_)
      clear hK K
      refine wpAnyH_ready (rs := [11]) (by kernel_rfl) (by simp) ?_
      refine AllReadyH.cons rfl (fun K hK => ?_) AllReadyH.nil
      go_simp
      refine hK.out _ _ trivial (fun _ => ?_)
      clear hK K
      refine wpAnyH_ready (rs := [12]) (by kernel_rfl) (by simp) ?_
      refine AllReadyH.cons rfl (fun K hK => ?_) AllReadyH.nil
      go_simp
      refine hK.out _ _ trivial (fun _ => ?_)
      clear hK K
      refine wpAnyH_done (by kernel_rfl) (NoPanic.normal ?_) _
      go_wp2
      go_end0
      exact ⟨⟨_, _, rfl, hB5⟩, hK5⟩

end Go.Proofs.YtcmjneabcdpmoaaDoor.GramRoll
