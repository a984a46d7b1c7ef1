/-
  The program's Builder, its blocks counted: what a call changes, and what it then owns.
-/
import Derived.Test.YtcmjneabcdpmoaaDoorGramBuild4
import Derived.Test.YtcmjneabcdpmoaaDoorGramBut
import Derived.Deep.AppendLies
namespace Go.Proofs.YtcmjneabcdpmoaaDoor.GramRoll
open Go.RowKit Go.Maps Go.WideMaps Go.Proofs.YtcmjneabcdpmoaaDoor.GramLess Go.Proofs.YtcmjneabcdpmoaaDoor.GramMath Go.Proofs.YtcmjneabcdpmoaaDoor.GramRow Go.Proofs.YtcmjneabcdpmoaaDoor.GramOne Go.Proofs.YtcmjneabcdpmoaaDoor.GramApart Go.Proofs.YtcmjneabcdpmoaaDoor.GramCopy Go.Proofs.YtcmjneabcdpmoaaDoor.GramName
set_option linter.unusedVariables false

set_option maxRecDepth 100000 in
set_option maxHeartbeats 400000 in
theorem bterm_own (b base : Nat) (g : G) (nv mv nv2 mv2 rv : Value) (lq : List Q) (s : ByteArray) (w : World) (h : Build w b base g nv mv nv2 mv2 rv lq) (hs : s.size ≤ 281474976710656) (hl : g.ts.length ≤ 2199023255552) :
    Calls Tryd.prog 5 #[.pointer (some ⟨b, 0, none⟩), .string s] w fun e w' => (∃ nv' mv', e = .returned (.int .i64 (numZ g.ts s)) ∧ Build w' b base (withTs g (addS g.ts s)) nv' mv' nv2 mv2 rv lq ∧ ∀ k, ofRoll nv' mv' k → ofRoll nv mv k ∨ w.heap.size ≤ k) ∧ RKeep w w' b 0 (ofRoll nv mv) := by
  have hnum := number_any b 0 base g.ts s nv mv w h.t h.lt hs hl
  have hptr := ptr_some
  go_enter Tryd.func5, Tryd.ntmps5
  go_wp2_with fail
  refine hnum.mono ?_
  rintro e w1 ⟨⟨nv', mv', rfl, hroll, hnew⟩, hkp⟩
  have hfin : Hid (Build w1 b base (withTs g (addS g.ts s)) nv' mv' nv2 mv2 rv lq) := by
    refine ⟨hroll, h.n.keep hkp (by decide) (by decide) (by decide) (fun k hk hk2 => h.far k hk2 hk), (hkp.cell 4 (by decide) (by decide)).trans h.a, (hkp.frozen 4).trans h.af, h.r.keep hkp h.t.lt (by decide) (by decide) (fun x t cur hr ht => h.t.not_row hr ht), fun k hk hk2 => ?_, Nat.le_trans h.lt hkp.size⟩
    rcases hnew k hk with hk3 | hk3
    · exact h.far k hk3 hk2
    · have := (h.n.blocks hk2).2
      omega
  have HNEW : Hid (_) := hnew
  clear hnum hroll hnew
  go_wp2
  go_ret
  exact ⟨⟨nv', mv', rfl, hfin.out, HNEW.out⟩, hkp⟩

set_option maxRecDepth 100000 in
set_option maxHeartbeats 400000 in
theorem bnonterm_own (b base : Nat) (g : G) (nv mv nv2 mv2 rv : Value) (lq : List Q) (s : ByteArray) (w : World) (h : Build w b base g nv mv nv2 mv2 rv lq) (hs : s.size ≤ 281474976710656) (hl : g.ns.length ≤ 2199023255552) :
    Calls Tryd.prog 7 #[.pointer (some ⟨b, 0, none⟩), .string s] w fun e w' => (∃ nv' mv', e = .returned (.int .i64 (numZ g.ns s)) ∧ Build w' b base (withNs g (addS g.ns s)) nv mv nv' mv' rv lq ∧ ∀ k, ofRoll nv' mv' k → ofRoll nv2 mv2 k ∨ w.heap.size ≤ k) ∧ RKeep w w' b 2 (ofRoll nv2 mv2) := by
  have hnum := number_any b 2 base g.ns s nv2 mv2 w h.n h.lt hs hl
  have hptr := ptr_some
  go_enter Tryd.func7, Tryd.ntmps7
  go_wp2_with fail
  refine hnum.mono ?_
  rintro e w1 ⟨⟨nv', mv', rfl, hroll, hnew⟩, hkp⟩
  have hfin : Hid (Build w1 b base (withNs g (addS g.ns s)) nv mv nv' mv' rv lq) := by
    refine ⟨h.t.keep hkp (by decide) (by decide) (by decide) (fun k hk hk2 => h.far k hk hk2), hroll, (hkp.cell 4 (by decide) (by decide)).trans h.a, (hkp.frozen 4).trans h.af, h.r.keep hkp h.t.lt (by decide) (by decide) (fun x t cur hr ht => h.n.not_row hr ht), fun k hk hk2 => ?_, Nat.le_trans h.lt hkp.size⟩
    rcases hnew k hk2 with hk3 | hk3
    · exact h.far k hk hk3
    · have := (h.t.blocks hk).2
      omega
  have HNEW : Hid (_) := hnew
  clear hnum hroll hnew
  go_wp2
  go_ret
  exact ⟨⟨nv', mv', rfl, hfin.out, HNEW.out⟩, hkp⟩

theorem stepRL {ops : Array Oper} {o : Oper} {a : Act} {w : World} {K : Act → World → Prop} {Q' : Exit → Act → World → Prop} {E : Prop} (hg : o.guard = none) (s x : Operand)
    (ho : o.op = .call { callee := .builtin .append, args := #[s, x], argTypes := #[29, 29] }) (base : Nat) (v : Value) (n : Nat) (xs : List Value) (hs : a.eval s = v) (hown : w.ownsRow base 53 2 v n xs)
    (ad : Addr) (u1 u2 : Value) (hx : a.eval x = .slice (some ad) 1 1) (hsrc : ∀ j u, [u1, u2][j]? = some u → w.cell? (ad.add j) = some u) (h1c : ∀ u ∈ [u1, u2], u.oneCell' = true) (hsz : n ≤ 2199023255552) (hbase : base ≤ w.heap.size)
    (h : ∀ g c w', w'.ownsRow base 53 2 (.slice (some ⟨g, 0, none⟩) (n + 1) c) (n + 1) (xs ++ [u1, u2]) → w.grownBy w' v.ownBlock → (v.ownBlock = some g ∨ g = w.heap.size) → K (a.put o.dst (.slice (some ⟨g, 0, none⟩) (n + 1) c)) w') :
    if Region.wanted o (yielded ops a.tmps) = true then Oper.wp Tryd.prog o a w K Q' else E := by
  obtain ⟨i0, hi, hz0, hz1, hz2⟩ := info_parts GramLent.infoR
  have hw : Region.wanted o (yielded ops a.tmps) = true := by simp [Region.wanted, hg]
  rw [if_pos hw]
  refine wp_append_lies w s x 29 ho base 53 i0 (.agg #[.int .i64 0, .slice none 0 0]) 2 32 Tryd.underlying29 hi hz0 hz1 hz2 rfl (by decide) v n xs hs hown ad 1 1 [u1, u2] hx rfl hsrc h1c (by omega) (by unfold maxLen; omega) (by omega) hbase w.heap.size rfl ?_
  intro g c w' h1 h2 h3 _
  exact h g c w' h1 h2 h3

set_option maxRecDepth 100000 in
set_option maxHeartbeats 1000000 in
theorem brule_own (b base : Nat) (g : G) (nv mv nv2 mv2 rv : Value) (lq : List Q) (l : Int) (a : Option Addr) (c : Nat) (zs : List Int) (w : World) (h : Build w b base g nv mv nv2 mv2 rv lq) (hr : IRow w a zs) (hm : zs.length * 8 ≤ 140737488351232) (hl : g.rs.length ≤ 2199023255552) :
    Calls Tryd.prog 11 #[.pointer (some ⟨b, 0, none⟩), .int .i64 l, .slice a zs.length c] w fun e w' => (∃ rv' q, e = .returned (.tuple #[]) ∧ Build w' b base (withRs g (g.rs ++ [⟨l, zs⟩])) nv mv nv2 mv2 rv' (lq ++ [q]) ∧ (∀ k, rv'.ownBlock = some k → rv.ownBlock = some k ∨ w.heap.size ≤ k) ∧ ∀ k, q.a = some ⟨k, 0, none⟩ → w.heap.size ≤ k) ∧ RKeep w w' b 5 (fun k => rv.ownBlock = some k) := by
  have hptr := ptr_some
  have c5 := h.r.c
  have f5 := h.r.f
  have hblt : b < w.heap.size := by have := h.t.lt; have := h.lt; omega
  have hdZ : Below w.heap.size w w.drew := ⟨rfl, rfl, rfl, Nat.le_refl w.heap.size, fun _ _ => rfl⟩
  have hcp := copyRule_any l a c zs w.drew (hr.below hdZ (Nat.le_refl _)) hm
  have hF : Hid (∀ x w1, w.heap.size ≤ x → RowAt w1 x 3 (intsA zs) → Below w.heap.size w w1 → ∀ v5 w5, w5.ownsRow base 53 2 v5 (g.rs.length + 1) (cellsQ lq ++ [.int .i64 l, .slice (some ⟨x, 0, none⟩) zs.length zs.length]) → (w1.alloc (.cells #[.int .i64 l, .slice (some ⟨x, 0, none⟩) zs.length zs.length] 53)).grownBy w5 rv.ownBlock → (w5.cell? ⟨b, 5, none⟩ = some rv ∧ w5.frozen? ⟨b, 5, none⟩ = false) ∧ Build (w5.setCell ⟨b, 5, none⟩ v5) b base (withRs g (g.rs ++ [⟨l, zs⟩])) nv mv nv2 mv2 v5 (lq ++ [⟨⟨l, zs⟩, some ⟨x, 0, none⟩, zs.length⟩]) ∧ RKeep w (w5.setCell ⟨b, 5, none⟩ v5) b 5 (fun k => rv.ownBlock = some k)) := fun x w1 hx hxr hb1 v5 w5 hown hg => by
    have hz1 := hb1.size
    have hbl := h.t.lt
    have hrb : rv.ownBlock ≠ some b := fun e => by have := (h.r.row.lt b e).1; omega
    have hk1 : RKeep w w1 b 5 (fun k => rv.ownBlock = some k) := RKeep.on hb1 hblt
    have hk2 : RKeep w1 (w1.alloc (.cells #[.int .i64 l, .slice (some ⟨x, 0, none⟩) zs.length zs.length] 53)) b 5 (fun k => rv.ownBlock = some k) := RKeep.on ((Below.refl _ _).alloc (Nat.le_refl _) _) (by omega)
    have hk3 : RKeep (w1.alloc (.cells #[.int .i64 l, .slice (some ⟨x, 0, none⟩) zs.length zs.length] 53)) w5 b 5 (fun k => rv.ownBlock = some k) := RKeep.grown hg (fun k hk _ => hk) hrb (by simp; omega)
    have hk4 : RKeep w5 (w5.setCell ⟨b, 5, none⟩ v5) b 5 (fun k => rv.ownBlock = some k) := RKeep.set (.inl rfl) _
    have hkp := ((hk1.trans hk2).trans hk3).trans hk4
    have hblk : ∀ k, k < w1.heap.size → rv.ownBlock ≠ some k → w5.heap[k]? = w1.heap[k]? := fun k hk hn => by
      rw [hg.block k (by simp; omega) (fun e => hn e.symm), Below.heap_alloc _ _ _ hk]
    have hbb : w5.heap[b]? = w.heap[b]? := (hblk b (by omega) hrb).trans (hb1.block b hblt)
    have y0 : w5.cell? ⟨b, 5, none⟩ = some rv := (World.cell?_of_block hbb).trans c5
    have u0 : w5.frozen? ⟨b, 5, none⟩ = false := by
      unfold World.frozen? at f5 ⊢
      rw [hbb]
      exact f5
    have hty : ∀ k, rv.ownBlock = some k → ∃ cur, RowAt w k 53 cur := fun k hk => by
      obtain ⟨_, ⟨hn, _⟩ | ⟨g', cap, cur, hv, _, hr, _⟩⟩ := h.r.row
      · rw [hn] at hk; cases hk
      · rw [hv] at hk
        have e : g' = k := by simpa [Value.ownBlock] using hk
        subst e
        exact ⟨cur, hr⟩
    have hright : ∀ xb zz, base ≤ xb → RowAt w1 xb 3 (intsA zz) → (xb < w.heap.size → RowAt w xb 3 (intsA zz)) → RowAt (w5.setCell ⟨b, 5, none⟩ v5) xb 3 (intsA zz) := fun xb zz hlo hrow hold => by
      have hn : rv.ownBlock ≠ some xb := fun e => by
        obtain ⟨cur, hc⟩ := hty xb e
        exact hc.ne (hold hc.lt) (by decide) rfl
      exact (Below.heap_setCell _ _ _ _ (show xb ≠ b by omega)).trans ((hblk xb hrow.lt hn).trans hrow)
    refine ⟨⟨y0, u0⟩, ⟨h.t.keep hkp (by decide) (by decide) (by decide) (fun k hk e => by obtain ⟨cur, hc⟩ := hty k e; exact h.t.not_row hc (by decide) hk), h.n.keep hkp (by decide) (by decide) (by decide) (fun k hk e => by obtain ⟨cur, hc⟩ := hty k e; exact h.n.not_row hc (by decide) hk), (hkp.cell 4 (by decide) (by decide)).trans h.a, (hkp.frozen 4).trans h.af, ⟨World.cell?_setCell_same (h := y0) .., (World.frozen?_setCell ..).trans u0, ?_, ?_, ?_⟩, h.far, Nat.le_trans h.lt hkp.size⟩, hkp⟩
    · show (w5.setCell ⟨b, 5, none⟩ v5).ownsRow base 53 2 v5 (g.rs ++ [(⟨l, zs⟩ : R)]).length (cellsQ (lq ++ [(⟨⟨l, zs⟩, some ⟨x, 0, none⟩, zs.length⟩ : Q)]))
      rw [List.length_append, cellsQ_app]
      exact own_block hown (fun k hk => Below.heap_setCell _ _ _ _ (show k ≠ b by have := (hown.lt k hk).1; omega))
    · show (lq ++ [(⟨⟨l, zs⟩, some ⟨x, 0, none⟩, zs.length⟩ : Q)]).map (·.r) = g.rs ++ [⟨l, zs⟩]
      rw [List.map_append, h.r.map]
      rfl
    · intro q hq
      rcases List.mem_append.1 hq with hq | hq
      · obtain ⟨xb, e1, e2, e3, e4⟩ := h.r.each q hq
        exact ⟨xb, e1, e2, e3, hright xb _ e3 ((hb1.block xb e4.lt).trans e4) (fun _ => e4)⟩
      · obtain rfl : q = ⟨⟨l, zs⟩, some ⟨x, 0, none⟩, zs.length⟩ := by simpa using hq
        exact ⟨x, rfl, rfl, by have := h.lt; omega, hright x _ (by have := h.lt; omega) hxr (fun hlt => absurd hlt (by omega))⟩
  have hrow0 := h.r.row
  have hlt0 := h.lt
  clear h
  go_enter Tryd.func11, Tryd.ntmps11
  go_wp2_with fail
  refine wp_region_noPanic ?_
  refine wp_region_held_drew (S := (fun _ => True)) (by kernel_rfl) trivial (fun hHeld => ?_)
  refine wpAnyH_take (i := 0) (v := .pointer (some ⟨b, 0, none⟩)) rfl (by kernel_rfl) (by kernel_rfl) (by kernel_rfl) (fun _ _ _ h => h) (Or.inl ⟨by rfl, fun w9 hSw => ?_⟩) hHeld ?_
  · go_simp
  simp only [List.getElem_toArray, List.getElem_cons_zero, Act.put, List.setIfInBounds_toArray, List.set_cons_zero, List.set_cons_succ]
  refine wpAnyH_take (i := 1) (v := .pointer (some ⟨b, 0, none⟩)) rfl (by kernel_rfl) (by kernel_rfl) (by kernel_rfl) (fun _ _ _ h => h) (Or.inl ⟨by rfl, fun w9 hSw => ?_⟩) hHeld ?_
  · go_simp
  simp only [List.getElem_toArray, List.getElem_cons_zero, List.getElem_cons_succ, Act.put, List.setIfInBounds_toArray, List.set_cons_zero, List.set_cons_succ]
  refine wpAnyH_take (i := 2) (v := .pointer (some ⟨b, 0, none⟩)) rfl (by kernel_rfl) (by kernel_rfl) (by kernel_rfl) (fun _ _ _ h => h) (Or.inl ⟨by rfl, fun w9 hSw => ?_⟩) hHeld ?_
  · go_simp
  simp only [List.getElem_toArray, List.getElem_cons_zero, List.getElem_cons_succ, Act.put, List.setIfInBounds_toArray, List.set_cons_zero, List.set_cons_succ]
  refine wpAnyH_take (i := 3) (v := .pointer (some ⟨b, 5, none⟩)) rfl (by kernel_rfl) (by kernel_rfl) (by kernel_rfl) (fun _ _ _ h => h) (Or.inl ⟨by rfl, fun w9 hSw => ?_⟩) hHeld ?_
  · go_simp
  simp only [List.getElem_toArray, List.getElem_cons_zero, List.getElem_cons_succ, Act.put, List.setIfInBounds_toArray, List.set_cons_zero, List.set_cons_succ]
  refine wpAnyH_take (i := 5) (v := .int .i64 l) rfl (by kernel_rfl) (by kernel_rfl) (by kernel_rfl) (fun _ _ _ h => h) (Or.inl ⟨by rfl, fun w9 hSw => ?_⟩) hHeld ?_
  · go_simp
  simp only [List.getElem_toArray, List.getElem_cons_zero, List.getElem_cons_succ, Act.put, List.setIfInBounds_toArray, List.set_cons_zero, List.set_cons_succ]
  refine wpAnyH_take (i := 6) (v := .slice a zs.length c) rfl (by kernel_rfl) (by kernel_rfl) (by kernel_rfl) (fun _ _ _ h => h) (Or.inl ⟨by rfl, fun w9 hSw => ?_⟩) hHeld ?_
  · go_simp
  simp only [List.getElem_toArray, List.getElem_cons_zero, List.getElem_cons_succ, Act.put, List.setIfInBounds_toArray, List.set_cons_zero, List.set_cons_succ]
  refine wpAnyH_ready (rs := [4, 7]) (by kernel_rfl) (by simp) ?_
  refine AllReadyH.cons rfl (fun K hK => ?_) (AllReadyH.cons rfl (fun K hK => ?_) AllReadyH.nil)
  · go_simp
    refine hK.out _ _ trivial (fun _ => ?_)
    clear hK K
    refine wpAnyH_ready (rs := [7]) (by kernel_rfl) (by simp) ?_
    refine AllReadyH.cons rfl (fun K hK => ?_) AllReadyH.nil
    go_simp
    refine hcp.mono ?_
    rintro e w1 ⟨⟨x, rfl, hx, hxr⟩, hb1⟩
    have hw1 : Below w.heap.size w w1 := hdZ.trans hb1
    refine hK.out _ _ trivial (fun _ => ?_)
    clear hK K hcp hb1
    refine wpAnyH_ready (rs := [8]) (by kernel_rfl) (by simp) ?_
    refine AllReadyH.cons rfl (fun K hK => ?_) AllReadyH.nil
    go_simp
    refine hK.out _ _ trivial (fun _ => ?_)
    clear hK K
    refine wpAnyH_ready (rs := [9]) (by kernel_rfl) (by simp) ?_
    refine AllReadyH.cons rfl (fun K hK => ?_) AllReadyH.nil
    refine stepRL rfl _ _ rfl base rv g.rs.length (cellsQ lq) (by rfl) (GramApart.own_below hrow0 (hw1.trans ((Below.refl w1.heap.size w1).alloc (Nat.le_refl _) _ |>.mono hw1.size))) ⟨w1.heap.size, 0, none⟩ (.int .i64 l) (.slice (some ⟨x, 0, none⟩) zs.length zs.length) (by rfl) (GramLent.cells_new w1 #[.int .i64 l, .slice (some ⟨x, 0, none⟩) zs.length zs.length] 53) (by simp [Value.oneCell']) hl (by simp; have := hw1.size; omega) ?_
    intro g5 c5'' w5 hown5 hgrow5 hat5
    obtain ⟨⟨y0, u0⟩, hB5, hK5⟩ := hF.out x w1 hx hxr hw1 _ w5 hown5 hgrow5
    have HO5 : Hid (∀ k, (Value.slice (some ⟨g5, 0, none⟩) (g.rs.length + 1) c5'').ownBlock = some k → rv.ownBlock = some k ∨ w.heap.size ≤ k) := fun k hk => by
      have e : g5 = k := by simpa [Value.ownBlock] using hk
      subst e
      rcases hat5 with h9 | h9
      · exact .inl h9
      · exact .inr (by rw [h9]; have := hw1.size; simp; omega)
    clear hat5
    refine hK.out _ _ trivial (fun hH2 => ?_)
    clear hK K
    simp only [List.getElem_toArray, List.getElem_cons_zero, List.getElem_cons_succ, Act.put, List.setIfInBounds_toArray, List.set_cons_zero, List.set_cons_succ]
    refine wpAnyH_ready (rs := [10]) (by kernel_rfl) (by simp) ?_
    refine AllReadyH.cons rfl (fun K hK => ?_) AllReadyH.nil
    go_simp
    refine hK.out _ _ trivial (fun _ => ?_)
    clear hK K
    refine wpAnyH_ready (rs := [11]) (by kernel_rfl) (by simp) ?_
    refine AllReadyH.cons rfl (fun K hK => ?_) AllReadyH.nil
    go_simp
    refine hK.out _ _ trivial (fun _ => ?_)
    clear hK K
    refine wpAnyH_ready (rs := [12]) (by kernel_rfl) (by simp) ?_
    refine AllReadyH.cons rfl (fun K hK => ?_) AllReadyH.nil
    go_simp
    refine hK.out _ _ trivial (fun _ => ?_)
    clear hK K
    refine wpAnyH_done (by kernel_rfl) (NoPanic.normal ?_) _
    go_wp2
    go_end0
    exact ⟨⟨_, _, rfl, hB5, HO5.out, fun k hk => by cases hk; exact hx⟩, hK5⟩
  · go_simp
    refine hcp.mono ?_
    rintro e w1 ⟨⟨x, rfl, hx, hxr⟩, hb1⟩
    have hw1 : Below w.heap.size w w1 := hdZ.trans hb1
    refine hK.out _ _ trivial (fun _ => ?_)
    clear hK K hcp hb1
    have c5' := (hw1.cell (p := ⟨b, 5, none⟩) hblt).trans c5
    refine wpAnyH_ready (rs := [4, 8]) (by kernel_rfl) (by simp) ?_
    refine AllReadyH.cons rfl (fun K hK => ?_) (AllReadyH.cons rfl (fun K hK => ?_) AllReadyH.nil)
    · go_simp
      refine hK.out _ _ trivial (fun _ => ?_)
      clear hK K
      refine wpAnyH_ready (rs := [8]) (by kernel_rfl) (by simp) ?_
      refine AllReadyH.cons rfl (fun K hK => ?_) AllReadyH.nil
      go_simp
      refine hK.out _ _ trivial (fun _ => ?_)
      clear hK K
      refine wpAnyH_ready (rs := [9]) (by kernel_rfl) (by simp) ?_
      refine AllReadyH.cons rfl (fun K hK => ?_) AllReadyH.nil
      refine stepRL rfl _ _ rfl base rv g.rs.length (cellsQ lq) (by rfl) (GramApart.own_below hrow0 (hw1.trans ((Below.refl w1.heap.size w1).alloc (Nat.le_refl _) _ |>.mono hw1.size))) ⟨w1.heap.size, 0, none⟩ (.int .i64 l) (.slice (some ⟨x, 0, none⟩) zs.length zs.length) (by rfl) (GramLent.cells_new w1 #[.int .i64 l, .slice (some ⟨x, 0, none⟩) zs.length zs.length] 53) (by simp [Value.oneCell']) hl (by simp; have := hw1.size; omega) ?_
      intro g5 c5'' w5 hown5 hgrow5 hat5
      obtain ⟨⟨y0, u0⟩, hB5, hK5⟩ := hF.out x w1 hx hxr hw1 _ w5 hown5 hgrow5
      have HO5 : Hid (∀ k, (Value.slice (some ⟨g5, 0, none⟩) (g.rs.length + 1) c5'').ownBlock = some k → rv.ownBlock = some k ∨ w.heap.size ≤ k) := fun k hk => by
        have e : g5 = k := by simpa [Value.ownBlock] using hk
        subst e
        rcases hat5 with h9 | h9
        · exact .inl h9
        · exact .inr (by rw [h9]; have := hw1.size; simp; omega)
      clear hat5
      refine hK.out _ _ trivial (fun hH2 => ?_)
      clear hK K
      simp only [List.getElem_toArray, List.getElem_cons_zero, List.getElem_cons_succ, Act.put, List.setIfInBounds_toArray, List.set_cons_zero, List.set_cons_succ]
      refine wpAnyH_ready (rs := [10]) (by kernel_rfl) (by simp) ?_
      refine AllReadyH.cons rfl (fun K hK => ?_) AllReadyH.nil
      go_simp
      refine hK.out _ _ trivial (fun _ => ?_)
      clear hK K
      refine wpAnyH_ready (rs := [11]) (by kernel_rfl) (by simp) ?_
      refine AllReadyH.cons rfl (fun K hK => ?_) AllReadyH.nil
      go_simp
      refine hK.out _ _ trivial (fun _ => ?_)
      clear hK K
      refine wpAnyH_ready (rs := [12]) (by kernel_rfl) (by simp) ?_
      refine AllReadyH.cons rfl (fun K hK => ?_) AllReadyH.nil
      go_simp
      refine hK.out _ _ trivial (fun _ => ?_)
      clear hK K
      refine wpAnyH_done (by kernel_rfl) (NoPanic.normal ?_) _
      go_wp2
      go_end0
      exact ⟨⟨_, _, rfl, hB5, HO5.out, fun k hk => by cases hk; exact hx⟩, hK5⟩
    · go_simp
      refine hK.out _ _ trivial (fun _ => ?_)
      clear hK K
      refine wpAnyH_ready (rs := [4]) (by kernel_rfl) (by simp) ?_
      refine AllReadyH.cons rfl (fun K hK => ?_) AllReadyH.nil
      have c6' := (((Below.refl w1.heap.size w1).alloc (Nat.le_refl _) (.cells #[.int .i64 l, .slice (some ⟨x, 0, none⟩) zs.length zs.length] 53)).cell (p := ⟨b, 5, none⟩) (show b < _ by have := hw1.size; omega)).trans c5'
      go_simp
      refine hK.out _ _ trivial (fun _ => ?_)
      clear hK K
      refine wpAnyH_ready (rs := [9]) (by kernel_rfl) (by simp) ?_
      refine AllReadyH.cons rfl (fun K hK => ?_) AllReadyH.nil
      refine stepRL rfl _ _ rfl base rv g.rs.length (cellsQ lq) (by rfl) (GramApart.own_below hrow0 (hw1.trans ((Below.refl w1.heap.size w1).alloc (Nat.le_refl _) _ |>.mono hw1.size))) ⟨w1.heap.size, 0, none⟩ (.int .i64 l) (.slice (some ⟨x, 0, none⟩) zs.length zs.length) (by rfl) (GramLent.cells_new w1 #[.int .i64 l, .slice (some ⟨x, 0, none⟩) zs.length zs.length] 53) (by simp [Value.oneCell']) hl (by simp; have := hw1.size; omega) ?_
      intro g5 c5'' w5 hown5 hgrow5 hat5
      obtain ⟨⟨y0, u0⟩, hB5, hK5⟩ := hF.out x w1 hx hxr hw1 _ w5 hown5 hgrow5
      have HO5 : Hid (∀ k, (Value.slice (some ⟨g5, 0, none⟩) (g.rs.length + 1) c5'').ownBlock = some k → rv.ownBlock = some k ∨ w.heap.size ≤ k) := fun k hk => by
        have e : g5 = k := by simpa [Value.ownBlock] using hk
        subst e
        rcases hat5 with h9 | h9
        · exact .inl h9
        · exact .inr (by rw [h9]; have := hw1.size; simp; omega)
      clear hat5
      refine hK.out _ _ trivial (fun hH2 => ?_)
      clear hK K
      simp only [List.getElem_toArray, List.getElem_cons_zero, List.getElem_cons_succ, Act.put, List.setIfInBounds_toArray, List.set_cons_zero, List.set_cons_succ]
      refine wpAnyH_ready (rs := [10]) (by kernel_rfl) (by simp) ?_
      refine AllReadyH.cons rfl (fun K hK => ?_) AllReadyH.nil
      go_simp
      refine hK.out _ _ trivial (fun _ => ?_)
      clear hK K
      refine wpAnyH_ready (rs := [11]) (by kernel_rfl) (by simp) ?_
      refine AllReadyH.cons rfl (fun K hK => ?_) AllReadyH.nil
      go_simp
      refine hK.out _ _ trivial (fun _ => ?_)
      clear hK K
      refine wpAnyH_ready (rs := [12]) (by kernel_rfl) (by simp) ?_
      refine AllReadyH.cons rfl (fun K hK => ?_) AllReadyH.nil
      go_simp
      refine hK.out _ _ trivial (fun _ => ?_)
      clear hK K
      refine wpAnyH_done (by kernel_rfl) (NoPanic.normal ?_) _
      go_wp2
      go_end0
      exact ⟨⟨_, _, rfl, hB5, HO5.out, fun k hk => by cases hk; exact hx⟩, hK5⟩

/-- The blocks of a Builder. -/
def ownP (b : Nat) (nv mv nv2 mv2 rv : Value) (lq : List Q) (k : Nat) : Prop := k = b ∨ ofRoll nv mv k ∨ ofRoll nv2 mv2 k ∨ rv.ownBlock = some k ∨ ∃ x ∈ lq, x.a = some ⟨k, 0, none⟩
theorem cell_but {S : Nat → Prop} {w w' : World} {b o : Nat} {v : Value} (h : w.cell? ⟨b, o, none⟩ = some v) (hb : But S w w') (hs : ¬ S b) : w'.cell? ⟨b, o, none⟩ = some v :=
  (hb.cell (p := ⟨b, o, none⟩) (cell_lt h) hs).trans h
theorem frozen_but {S : Nat → Prop} {w w' : World} {b o : Nat} {v : Value} (h : w.cell? ⟨b, o, none⟩ = some v) (hf : w.frozen? ⟨b, o, none⟩ = false) (hb : But S w w') (hs : ¬ S b) : w'.frozen? ⟨b, o, none⟩ = false :=
  (hb.frozen (p := ⟨b, o, none⟩) (cell_lt h) hs).trans hf
theorem Roll.but {S : Nat → Prop} {w w' : World} {b off base : Nat} {ss : List ByteArray} {nv mv : Value} (h : Roll w b off base ss nv mv) (hb : But S w w') (h0 : ¬ S b) (hs : ∀ k, ofRoll nv mv k → ¬ S k) : Roll w' b off base ss nv mv where
  c0 := cell_but h.c0 hb h0
  c1 := cell_but h.c1 hb h0
  f0 := frozen_but h.c0 h.f0 hb h0
  f1 := frozen_but h.c1 h.f1 hb h0
  row := own_block h.row (fun g hg => hb.block g (h.blocks (.inl hg)).2 (hs g (.inl hg)))
  map := by
    rcases h.map with hn | ⟨mb, D, hne, hm, hbb, hown, hD⟩
    · exact .inl hn
    · exact .inr ⟨mb, D, hne, hm, hbb, ownsMap_of hown (hb.block mb (h.blocks (.inr hm)).2 (hs mb (.inr hm))), hD⟩
  nil := h.nil
  lt := h.lt
theorem Build.but {S : Nat → Prop} {w w' : World} {b base : Nat} {g : G} {nv mv nv2 mv2 rv : Value} {lq : List Q} (h : Build w b base g nv mv nv2 mv2 rv lq) (hb : But S w w') (hs : ∀ k, ownP b nv mv nv2 mv2 rv lq k → ¬ S k) : Build w' b base g nv mv nv2 mv2 rv lq where
  t := h.t.but hb (hs b (.inl rfl)) (fun k hk => hs k (.inr (.inl hk)))
  n := h.n.but hb (hs b (.inl rfl)) (fun k hk => hs k (.inr (.inr (.inl hk))))
  a := cell_but h.a hb (hs b (.inl rfl))
  af := frozen_but h.a h.af hb (hs b (.inl rfl))
  r := {
    c := cell_but h.r.c hb (hs b (.inl rfl))
    f := frozen_but h.r.c h.r.f hb (hs b (.inl rfl))
    row := own_block h.r.row (fun g hg => hb.block g (h.r.row.lt g hg).2 (hs g (.inr (.inr (.inr (.inl hg))))))
    map := h.r.map
    each := fun x hx => by
      obtain ⟨xb, e1, e2, e3, e4⟩ := h.r.each x hx
      exact ⟨xb, e1, e2, e3, e4.but hb (hs xb (.inr (.inr (.inr (.inr ⟨x, hx, e1⟩)))))⟩ }
  far := h.far
  lt := Nat.le_trans h.lt hb.size
theorem Build.blocks {w : World} {b base : Nat} {g : G} {nv mv nv2 mv2 rv : Value} {lq : List Q} (h : Build w b base g nv mv nv2 mv2 rv lq) {k : Nat} (hk : ownP b nv mv nv2 mv2 rv lq k) : k < w.heap.size := by
  rcases hk with rfl | hk | hk | hk | ⟨x, hx, e⟩
  · have := h.t.lt; have := h.lt; omega
  · exact (h.t.blocks hk).2
  · exact (h.n.blocks hk).2
  · exact (h.r.row.lt k hk).2
  · obtain ⟨xb, e1, _, _, e4⟩ := h.r.each x hx
    rw [e1] at e
    cases e
    exact e4.lt
theorem RKeep.toBut {w w' : World} {b off : Nat} {T : Nat → Prop} (h : RKeep w w' b off T) : But (fun k => k = b ∨ T k) w w' := ⟨h.os, h.tape, h.output, h.size, fun k hk hn => h.block k hk (fun e => hn (.inl e)) (fun e => hn (.inr e))⟩

/-- What is owned after a call: what was, and what is new. -/
def more (O : Nat → Prop) (w w' : World) (k : Nat) : Prop := O k ∨ (w.heap.size ≤ k ∧ k < w'.heap.size)
/-- A Builder of the program that was told a grammar, or none, and its blocks. -/
def PO (w : World) (v : Value) (og : Option G) (O : Nat → Prop) : Prop := match og with
  | none => v = .pointer none
  | some g => ∃ b base nv mv nv2 mv2 rv lq, v = .pointer (some ⟨b, 0, none⟩) ∧ Build w b base g nv mv nv2 mv2 rv lq ∧ ∀ k, ownP b nv mv nv2 mv2 rv lq k → O k
theorem PO.but {S O : Nat → Prop} {w w' : World} {v : Value} {og : Option G} (h : PO w v og O) (hb : But S w w') (hs : ∀ k, O k → ¬ S k) : PO w' v og O := by
  cases og with
  | none => exact h
  | some g =>
    obtain ⟨b, base, nv, mv, nv2, mv2, rv, lq, e, hB, hO⟩ := h
    exact ⟨b, base, nv, mv, nv2, mv2, rv, lq, e, hB.but hb (fun k hk => hs k (hO k hk)), hO⟩
def numO (og : Option G) (f : G → List ByteArray) (s : ByteArray) : Int := match og with
  | none => 0
  | some g => numZ (f g) s

theorem ptr_none (w : World) : (binOp .eql 23 (.pointer none) (.pointer none)).run Tryd.prog w = .ok (.bool true) w := by kernel_rfl

set_option maxRecDepth 100000 in
set_option maxHeartbeats 400000 in
theorem po_term {w : World} {v : Value} {og : Option G} {O : Nat → Prop} (h : PO w v og O) (s : ByteArray) (hs : s.size ≤ 281474976710656) (hl : ∀ g, og = some g → g.ts.length ≤ 2199023255552) :
    Calls Tryd.prog 5 #[v, .string s] w fun e w' => e = .returned (.int .i64 (numO og (·.ts) s)) ∧ PO w' v (og.map fun g => withTs g (addS g.ts s)) (more O w w') ∧ But O w w' := by
  cases og with
  | none =>
    obtain rfl : v = _ := h
    have hptr := ptr_none
    go_enter Tryd.func5, Tryd.ntmps5
    go_wp2
    go_ret
    exact ⟨rfl, rfl, But.refl _ _⟩
  | some g =>
    obtain ⟨b, base, nv, mv, nv2, mv2, rv, lq, rfl, hB, hO⟩ := h
    refine (bterm_own b base g nv mv nv2 mv2 rv lq s w hB hs (hl g rfl)).mono ?_
    rintro e w' ⟨⟨nv', mv', rfl, hB', hnew⟩, hk⟩
    refine ⟨rfl, ⟨b, base, nv', mv', nv2, mv2, rv, lq, rfl, hB', fun k hk2 => ?_⟩, hk.toBut.mono (fun k _ hk2 => by rcases hk2 with rfl | hk2; exact hO _ (.inl rfl); exact hO _ (.inr (.inl hk2)))⟩
    have hlt := hB'.blocks hk2
    rcases hk2 with rfl | hk2 | hk2
    · exact .inl (hO _ (.inl rfl))
    · rcases hnew k hk2 with h1 | h1
      · exact .inl (hO _ (.inr (.inl h1)))
      · exact .inr ⟨h1, hlt⟩
    · exact .inl (hO _ (.inr (.inr hk2)))

set_option maxRecDepth 100000 in
set_option maxHeartbeats 400000 in
theorem po_nonterm {w : World} {v : Value} {og : Option G} {O : Nat → Prop} (h : PO w v og O) (s : ByteArray) (hs : s.size ≤ 281474976710656) (hl : ∀ g, og = some g → g.ns.length ≤ 2199023255552) :
    Calls Tryd.prog 7 #[v, .string s] w fun e w' => e = .returned (.int .i64 (numO og (·.ns) s)) ∧ PO w' v (og.map fun g => withNs g (addS g.ns s)) (more O w w') ∧ But O w w' := by
  cases og with
  | none =>
    obtain rfl : v = _ := h
    have hptr := ptr_none
    go_enter Tryd.func7, Tryd.ntmps7
    go_wp2
    go_ret
    exact ⟨rfl, rfl, But.refl _ _⟩
  | some g =>
    obtain ⟨b, base, nv, mv, nv2, mv2, rv, lq, rfl, hB, hO⟩ := h
    refine (bnonterm_own b base g nv mv nv2 mv2 rv lq s w hB hs (hl g rfl)).mono ?_
    rintro e w' ⟨⟨nv', mv', rfl, hB', hnew⟩, hk⟩
    refine ⟨rfl, ⟨b, base, nv, mv, nv', mv', rv, lq, rfl, hB', fun k hk2 => ?_⟩, hk.toBut.mono (fun k _ hk2 => by rcases hk2 with rfl | hk2; exact hO _ (.inl rfl); exact hO _ (.inr (.inr (.inl hk2))))⟩
    have hlt := hB'.blocks hk2
    rcases hk2 with rfl | hk2 | hk2 | hk2
    · exact .inl (hO _ (.inl rfl))
    · exact .inl (hO _ (.inr (.inl hk2)))
    · rcases hnew k hk2 with h1 | h1
      · exact .inl (hO _ (.inr (.inr (.inl h1))))
      · exact .inr ⟨h1, hlt⟩
    · exact .inl (hO _ (.inr (.inr (.inr hk2))))

set_option maxRecDepth 100000 in
set_option maxHeartbeats 400000 in
theorem po_axiom {w : World} {v : Value} {og : Option G} {O : Nat → Prop} (h : PO w v og O) (n : Int) :
    Calls Tryd.prog 14 #[v, .int .i64 n] w fun e w' => e = .returned (.tuple #[]) ∧ PO w' v (og.map fun g => withAx g n) (more O w w') ∧ But O w w' := by
  cases og with
  | none =>
    obtain rfl : v = _ := h
    have hptr := ptr_none
    go_enter Tryd.func14, Tryd.ntmps14
    go_wp2
    exact bodyPost_ret (by simp [results, Tryd.results14, go_sem]) rfl ⟨rfl, rfl, But.refl _ _⟩
  | some g =>
    obtain ⟨b, base, nv, mv, nv2, mv2, rv, lq, rfl, hB, hO⟩ := h
    refine (baxiom_any b base g nv mv nv2 mv2 rv lq n w hB).mono ?_
    rintro e w' ⟨rfl, hB', hk⟩
    exact ⟨rfl, ⟨b, base, nv, mv, nv2, mv2, rv, lq, rfl, hB', fun k hk2 => .inl (hO k hk2)⟩, hk.toBut.mono (fun k _ hk2 => by rcases hk2 with rfl | hk2; exact hO _ (.inl rfl); exact hk2.elim)⟩

set_option maxRecDepth 100000 in
set_option maxHeartbeats 400000 in
theorem po_rule {w : World} {v : Value} {og : Option G} {O : Nat → Prop} (h : PO w v og O) (l : Int) (a : Option Addr) (c : Nat) (zs : List Int) (hr : IRow w a zs) (hm : zs.length * 8 ≤ 140737488351232) (hl : ∀ g, og = some g → g.rs.length ≤ 2199023255552) :
    Calls Tryd.prog 11 #[v, .int .i64 l, .slice a zs.length c] w fun e w' => e = .returned (.tuple #[]) ∧ PO w' v (og.map fun g => withRs g (g.rs ++ [⟨l, zs⟩])) (more O w w') ∧ But O w w' := by
  cases og with
  | none =>
    obtain rfl : v = _ := h
    have hptr := ptr_none
    go_enter Tryd.func11, Tryd.ntmps11
    go_wp2
    exact bodyPost_ret (by simp [results, Tryd.results11, go_sem]) rfl ⟨rfl, rfl, But.refl _ _⟩
  | some g =>
    obtain ⟨b, base, nv, mv, nv2, mv2, rv, lq, rfl, hB, hO⟩ := h
    refine (brule_own b base g nv mv nv2 mv2 rv lq l a c zs w hB hr hm (hl g rfl)).mono ?_
    rintro e w' ⟨⟨rv', q, rfl, hB', hnew, hq⟩, hk⟩
    refine ⟨rfl, ⟨b, base, nv, mv, nv2, mv2, rv', lq ++ [q], rfl, hB', fun k hk2 => ?_⟩, hk.toBut.mono (fun k _ hk2 => by rcases hk2 with rfl | hk2; exact hO _ (.inl rfl); exact hO _ (.inr (.inr (.inr (.inl hk2)))))⟩
    have hlt := hB'.blocks hk2
    rcases hk2 with rfl | hk2 | hk2 | hk2 | ⟨x, hx, e⟩
    · exact .inl (hO _ (.inl rfl))
    · exact .inl (hO _ (.inr (.inl hk2)))
    · exact .inl (hO _ (.inr (.inr (.inl hk2))))
    · rcases hnew k hk2 with h1 | h1
      · exact .inl (hO _ (.inr (.inr (.inr (.inl h1)))))
      · exact .inr ⟨h1, hlt⟩
    · rcases List.mem_append.1 hx with hx | hx
      · exact .inl (hO _ (.inr (.inr (.inr (.inr ⟨x, hx, e⟩)))))
      · obtain rfl := List.mem_singleton.1 hx
        exact .inr ⟨hq k e, hlt⟩

/-- What is wrong with what a Builder was told. -/
def wantZ : Option G → Nat × Option Nat
  | none => (1, none)
  | some g => checkG g
/-- What Grammar answers. -/
def GrA (p : Nat → Addr) (B : Nat) (og : Option G) (e : Ending) (w' : World) : Prop :=
  ((wantZ og).1 = 0 ∧ ∃ g b1 b2 b3 bs, og = some g ∧ e = .returned (.tuple #[.agg #[.slice (some ⟨b1, 0, none⟩) g.ts.length g.ts.length, .slice (some ⟨b2, 0, none⟩) g.ns.length g.ns.length, .int .i64 g.ax, .slice (some ⟨b3, 0, none⟩) g.rs.length g.rs.length], .nilIface]) ∧ CopyAt w' B b1 b2 b3 bs g)
  ∨ ((wantZ og).1 ≠ 0 ∧ ∃ v, e = .returned (.tuple #[.agg #[.slice none 0 0, .slice none 0 0, .int .i64 0, .slice none 0 0], v]) ∧ CkV B p (wantZ og) w' v)

set_option maxRecDepth 100000 in
set_option maxHeartbeats 400000 in
theorem po_grammar {w : World} {v : Value} {og : Option G} {O : Nat → Prop} (p : Nat → Addr) (h : PO w v og O) (hS : Sents w p) (hl : ∀ g, og = some g → okG g ∧ g.ts.length * 16 ≤ 140737488351232 ∧ g.ns.length * 16 ≤ 140737488351232 ∧ g.rs.length * 32 ≤ 140737488351232 ∧ ∀ r ∈ g.rs, r.right.length * 8 ≤ 140737488351232) :
    Calls Tryd.prog 21 #[v] w fun e w' => GrA p w.heap.size og e w' ∧ Below w.heap.size w w' := by
  cases og with
  | none =>
    obtain rfl : v = _ := h
    have hptr := ptr_none
    obtain ⟨W1, hW1⟩ : ∃ W1, W1 = w.alloc (.cells #[.slice none 0 0, .slice none 0 0, .int .i64 0, .slice none 0 0] 35) := ⟨_, rfl⟩
    have HW1 : Hid (_) := hW1
    have hB1 : Below w.heap.size w W1 := by rw [hW1]; exact (Below.refl _ _).alloc (Nat.le_refl _) _
    have rA : RowAt W1 w.heap.size 35 #[.slice none 0 0, .slice none 0 0, .int .i64 0, .slice none 0 0] := by rw [hW1]; exact World.alloc_heap_new w _
    have hS1 := hS.below hB1 (Nat.le_refl _)
    have hs1 : W1.cell? ⟨0, 0, none⟩ = some (.iface 129 (.pointer (some (p 1)))) := hS1.1
    have f0 := rA.frozen 0
    have f1 := rA.frozen 1
    have f2 := rA.frozen 2
    have f3 := rA.frozen 3
    have x0 := rA.cell (q := 0) rfl
    have x1 := rA.cell (q := 1) rfl
    have x2 := rA.cell (q := 2) rfl
    have x3 := rA.cell (q := 3) rfl
    obtain ⟨Wf, hWf⟩ : ∃ Wf, Wf = (((W1.setCell ⟨w.heap.size, 0, none⟩ (.slice none 0 0)).setCell ⟨w.heap.size, 1, none⟩ (.slice none 0 0)).setCell ⟨w.heap.size, 2, none⟩ (.int .i64 0)).setCell ⟨w.heap.size, 3, none⟩ (.slice none 0 0) := ⟨_, rfl⟩
    have k1 : RowAt Wf w.heap.size 35 #[.slice none 0 0, .slice none 0 0, .int .i64 0, .slice none 0 0] := by
      rw [hWf]; exact (((rA.set 0 _).set 1 _).set 2 _).set 3 _
    have hBf : Below w.heap.size w Wf := by
      rw [hWf]
      exact (((hB1.setCell (p := ⟨w.heap.size, 0, none⟩) (Nat.le_refl _) _).setCell (p := ⟨w.heap.size, 1, none⟩) (Nat.le_refl _) _).setCell (p := ⟨w.heap.size, 2, none⟩) (Nat.le_refl _) _).setCell (p := ⟨w.heap.size, 3, none⟩) (Nat.le_refl _) _
    clear hW1 rA hS1 hB1
    go_enter Tryd.func21, Tryd.ntmps21
    have hgl : 0 < w.heap.size := cell_lt hS.1
    have hgn : ¬ (w.heap.size = 0) := by omega
    have HF : Hid (_) := And.intro k1 hBf
    clear k1 hBf
    go_wp2_with (rw [← HW1.out])
    go_region
    obtain ⟨k1, hBf⟩ := HF.out
    rw [← hWf]
    go_wp2
    have z0 := k1.cell (q := 0) rfl
    have z1 := k1.cell (q := 1) rfl
    have z2 := k1.cell (q := 2) rfl
    have z3 := k1.cell (q := 3) rfl
    refine bodyPost_ret (v := .tuple #[.agg #[.slice none 0 0, .slice none 0 0, .int .i64 0, .slice none 0 0], .iface 129 (.pointer (some (p 1)))]) (by simp [results, Tryd.results21, go_sem, z0, z1, z2, z3]) rfl ?_
    exact ⟨.inr ⟨by decide, _, rfl, rfl⟩, hBf.trans ⟨rfl, rfl, rfl, Nat.le_refl _, fun _ _ => rfl⟩⟩
  | some g =>
    obtain ⟨b, base, nv, mv, nv2, mv2, rv, lq, rfl, hB, hO⟩ := h
    obtain ⟨h1, h2, h3, h4, h5⟩ := hl g rfl
    refine (bgrammar_any b base g nv mv nv2 mv2 rv lq p w hB h1 hS h2 h3 h4 h5).mono ?_
    rintro e w' ⟨⟨h0, b1, b2, b3, bs, rfl, hc⟩ | ⟨h0, v, rfl, hv⟩, hb⟩
    · exact ⟨.inl ⟨h0, g, b1, b2, b3, bs, rfl, rfl, hc⟩, hb⟩
    · exact ⟨.inr ⟨h0, v, rfl, hv⟩, hb⟩

end Go.Proofs.YtcmjneabcdpmoaaDoor.GramRoll
