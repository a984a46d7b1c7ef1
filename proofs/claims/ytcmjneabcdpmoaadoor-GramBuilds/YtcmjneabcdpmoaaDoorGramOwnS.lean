/-
  The document's Builder: a rule, and what it tells.
-/
import Derived.Test.YtcmjneabcdpmoaaDoorGramOwnR
namespace Go.Proofs.YtcmjneabcdpmoaaDoor.GramRoll
open Go.RowKit Go.Maps Go.WideMaps Go.Proofs.YtcmjneabcdpmoaaDoor.GramLess Go.Proofs.YtcmjneabcdpmoaaDoor.GramMath Go.Proofs.YtcmjneabcdpmoaaDoor.GramRow Go.Proofs.YtcmjneabcdpmoaaDoor.GramOne Go.Proofs.YtcmjneabcdpmoaaDoor.GramApart Go.Proofs.YtcmjneabcdpmoaaDoor.GramCopy Go.Proofs.YtcmjneabcdpmoaaDoor.GramName Go.Proofs.YtcmjneabcdpmoaaDoor.GramRef
set_option linter.unusedVariables false
set_option linter.unusedSimpArgs false

set_option maxRecDepth 100000 in
set_option maxHeartbeats 4000000 in
theorem ro_rule {w : World} {v : Value} {og : Option G} {O : Nat → Prop} (h0 : RO w v og O) (l : Int) (a : Option Addr) (c : Nat) (zs : List Int) (hr : IRow w a zs) (hn : a = none → zs.length = 0 ∧ c = 0) (hz : zs.length * 8 ≤ 140737488351232) (hl : ∀ g, og = some g → g.rs.length ≤ 2199023255552) :
    Calls Tryd.prog 10 #[v, .int .i64 l, .slice a zs.length c] w fun e w' => e = .returned (.tuple #[]) ∧ RO w' v (og.map fun g => withRs g (g.rs ++ [⟨l, zs⟩])) (more O w w') ∧ But O w w' := by
  cases og with
  | none =>
    obtain rfl : v = _ := h0
    have hptr := ptr_noneR
    go_enter Tryd.func10, Tryd.ntmps10
    go_wp2
    exact bodyPost_ret (by simp [results, Tryd.results10, go_sem]) rfl ⟨rfl, rfl, But.refl _ _⟩
  | some g =>
    obtain ⟨b, tv, nv, rv, lq, rfl, h, hO⟩ := h0
    have hlen := hl g rfl
    obtain ⟨i0, hi, hz0, hz1, hz2⟩ := info_parts GramLent.infoR
    obtain ⟨i1, hi1, hz3, hz4, hz5⟩ := info_parts GramLent.infoI
    have hptr := ptr_someR
    have hnil : w.ownsRow w.heap.size 3 1 (.slice none 0 0) 0 [] := World.ownsRow_nil _ _ _ _
    cases a with
    | none =>
      obtain ⟨e1, rfl⟩ := hn rfl
      obtain rfl : zs = [] := List.length_eq_zero_iff.1 e1
      simp only [List.length_nil]
      have hown00 : w.ownsRow 0 3 1 (.slice none ([] : List Int).length 0) ([] : List Int).length (([] : List Int).map (Value.int .i64)) := World.ownsRow_nil _ _ _ _
      have hnew0 : ∀ k, (Value.slice none ([] : List Int).length 0).ownBlock = some k → w.heap.size ≤ k := fun k hk => by simp [Value.ownBlock] at hk
      have hj0 : But (fun k => k = b ∨ rv.ownBlock = some k) w w := But.refl _ _
      have ybx := h.box.cell (q := 3) rfl
      go_enter Tryd.func10, Tryd.ntmps10
      go_wp2_with (at_builtin; first | (refine wpList_append_own_none rfl _ _ 39 rfl w.heap.size 3 i1 1 Tryd.underlying39 hi1 (.slice none 0 0) 0 [] rfl hnil rfl ?_) | (refine wpList_append_lies _ rfl _ _ 29 rfl 0 53 i0 (.agg #[.int .i64 0, .slice none 0 0]) 2 32 Tryd.underlying29 hi hz0 hz1 hz2 rfl (by decide) _ _ _ rfl (h.rs.alloc _) ⟨w.heap.size, 0, none⟩ 1 1 [.int .i64 l, .slice none 0 0] rfl rfl (GramLent.cells_new _ #[_, _] _) (by simp [Value.oneCell']) (by omega) (by unfold maxLen; omega) (by omega) (by omega) (w.heap.size + 1) (by simp) ?_; intro a1 c1 w3 hown1 hgrow1 hat1 hlt1; have hbox3 := (h.box.alloc (.cells #[.int .i64 l, .slice none 0 0] 53)).grown hgrow1 ((h.box.alloc (.cells #[.int .i64 l, .slice none 0 0] 53)).not_own (by decide) (h.rs.alloc (.cells #[.int .i64 l, .slice none 0 0] 53))); have f3 := hbox3.frozen 3; have y3 := hbox3.cell (q := 3) rfl))
      have hown1' : w3.ownsRow 0 53 2 (.slice (some ⟨a1, 0, none⟩) (g.rs.length + 1) c1) (g.rs.length + 1) (cellsQ lq ++ qv ⟨⟨l, []⟩, none, 0⟩) := hown1
      have hbut : But (fun k => k = b ∨ rv.ownBlock = some k) w (w3.setCell ⟨b, 3, none⟩ (.slice (some ⟨a1, 0, none⟩) (g.rs.length + 1) c1)) := by
        have j1 : But (fun k => k = b ∨ rv.ownBlock = some k) w (w.alloc (.cells #[.int .i64 l, .slice none 0 0] 53)) := But.of ((Below.refl _ _).alloc (Nat.le_refl _) _)
        have j2 : But (fun k => k = b ∨ rv.ownBlock = some k) (w.alloc (.cells #[.int .i64 l, .slice none 0 0] 53)) w3 := (but_grown hgrow1).mono (fun k _ hk => .inr hk)
        exact (hj0.trans (j1.trans j2)).setCell (p := ⟨b, 3, none⟩) (.inl rfl) _
      have hrb : RB2 (w3.setCell ⟨b, 3, none⟩ (.slice (some ⟨a1, 0, none⟩) (g.rs.length + 1) c1)) b (withRs g (g.rs ++ [⟨l, []⟩])) tv nv (.slice (some ⟨a1, 0, none⟩) (g.rs.length + 1) c1) (lq ++ [⟨⟨l, []⟩, none, 0⟩]) := by
        have hoR : w3.ownsRow 0 53 2 (.slice (some ⟨a1, 0, none⟩) (g.rs.length + 1) c1) (g.rs ++ [(⟨l, []⟩ : R)]).length (cellsQ (lq ++ [⟨⟨l, []⟩, none, 0⟩])) := by
          rw [List.length_append, cellsQ_snocR]
          exact hown1'
        refine ⟨hbox3.set 3 _, own_setR (GramAll.own_grown (h.ts.alloc _) (h.rs.alloc _) (by decide) hgrow1) hbox3 (by decide), own_setR (GramAll.own_grown (h.ns.alloc _) (h.rs.alloc _) (by decide) hgrow1) hbox3 (by decide), own_setR hoR hbox3 (by decide), by rw [List.map_append, h.len]; rfl, fun q hq => ?_, h.far⟩
        rcases List.mem_append.1 hq with hq | hq
        · exact own_setR (GramAll.own_grown ((h.each q hq).alloc _) (h.rs.alloc _) (by decide) hgrow1) hbox3 (by decide)
        · obtain rfl := List.mem_singleton.1 hq
          exact own_setR (GramAll.own_grown (hown00.alloc _) (h.rs.alloc _) (by decide) hgrow1) hbox3 (by decide)
      have HR : Hid (RO (w3.setCell ⟨b, 3, none⟩ (.slice (some ⟨a1, 0, none⟩) (g.rs.length + 1) c1)) (.pointer (some ⟨b, 0, none⟩)) (some (withRs g (g.rs ++ [⟨l, []⟩]))) (more O w (w3.setCell ⟨b, 3, none⟩ (.slice (some ⟨a1, 0, none⟩) (g.rs.length + 1) c1))) ∧ But O w (w3.setCell ⟨b, 3, none⟩ (.slice (some ⟨a1, 0, none⟩) (g.rs.length + 1) c1))) := by
        refine ⟨⟨b, tv, nv, _, _, rfl, hrb, fun k hk => ?_⟩, hbut.mono (fun k _ hk2 => by rcases hk2 with rfl | hk2; exact hO _ (.inl rfl); exact hO _ (.inr (.inr (.inr (.inl hk2)))))⟩
        have hlt := hrb.blocks hk
        rcases hk with rfl | hk | hk | hk | ⟨q, hq, hk⟩
        · exact .inl (hO _ (.inl rfl))
        · exact .inl (hO _ (.inr (.inl hk)))
        · exact .inl (hO _ (.inr (.inr (.inl hk))))
        · have e : some a1 = some k := hk
          cases e
          rcases hat1 with e4 | e4
          · exact .inl (hO _ (.inr (.inr (.inr (.inl e4)))))
          · exact .inr ⟨by omega, hlt⟩
        · rcases List.mem_append.1 hq with hq | hq
          · exact .inl (hO _ (.inr (.inr (.inr (.inr ⟨q, hq, hk⟩)))))
          · obtain rfl := List.mem_singleton.1 hq
            exact .inr ⟨hnew0 k hk, hlt⟩
      clear hgrow1 hown1 hown1' hbox3 hrb hbut
      go_wp2
      go_end0
      exact ⟨rfl, HR.out.1, HR.out.2⟩

    | some x =>
      have hnews : ∀ (j : Nat) (u : Value), (zs.map (Value.int .i64))[j]? = some u → w.cell? (x.add j) = some u := by
        intro j u hu
        rw [List.getElem?_map, Option.map_eq_some_iff] at hu
        obtain ⟨y, hy, rfl⟩ := hu
        obtain ⟨b9, off, hx, hc⟩ := hr j y hy
        obtain rfl : x = ⟨b9, off, none⟩ := by simpa using hx
        rw [Addr.add_lit]
        exact hc
      have h1c : ∀ u ∈ zs.map (Value.int .i64), u.oneCell' = true := by
        intro u hu
        obtain ⟨z, _, rfl⟩ := List.mem_map.1 hu
        rfl
      go_enter Tryd.func10, Tryd.ntmps10
      go_wp2_with (at_builtin; first | (refine wpList_append_own _ rfl _ _ 39 rfl w.heap.size 3 i1 (.int .i64 0) 1 8 Tryd.underlying39 hi1 hz3 hz4 hz5 rfl (by decide) _ _ _ rfl hnil x zs.length c (zs.map (Value.int .i64)) rfl (by simp) hnews h1c (by unfold maxLen; omega) (by omega) (Nat.le_refl _) ?_; intro u0 w2 hown0 hgrow0 _; rw [Nat.zero_add, List.nil_append] at hown0; obtain ⟨a0, c0, hu0, _⟩ := formR hown0; subst hu0; have hj := but_grown hgrow0; have h2 := h.but hj (fun k _ hk => by have h9 : (Value.slice none 0 0).ownBlock = some k := hk; cases h9); have hs2 := hgrow0.size; have ybx := h2.box.cell (q := 3) rfl) | (refine wpList_append_lies _ rfl _ _ 29 rfl 0 53 i0 (.agg #[.int .i64 0, .slice none 0 0]) 2 32 Tryd.underlying29 hi hz0 hz1 hz2 rfl (by decide) _ _ _ rfl (h2.rs.alloc _) ⟨w2.heap.size, 0, none⟩ 1 1 [.int .i64 l, .slice a0 zs.length c0] rfl rfl (GramLent.cells_new _ #[_, _] _) (by simp [Value.oneCell']) (by omega) (by unfold maxLen; omega) (by omega) (by omega) (w2.heap.size + 1) (by simp) ?_; intro a1 c1 w3 hown1 hgrow1 hat1 hlt1; have hbox3 := (h2.box.alloc (.cells #[.int .i64 l, .slice a0 zs.length c0] 53)).grown hgrow1 ((h2.box.alloc (.cells #[.int .i64 l, .slice a0 zs.length c0] 53)).not_own (by decide) (h2.rs.alloc (.cells #[.int .i64 l, .slice a0 zs.length c0] 53))); have f3 := hbox3.frozen 3; have y3 := hbox3.cell (q := 3) rfl))
      have hown00 := GramApart.own_base hown0 (Nat.zero_le _)
      have hnew0 : ∀ k, (Value.slice a0 zs.length c0).ownBlock = some k → w.heap.size ≤ k := fun k hk => (hown0.lt k hk).1
      have hj0 : But (fun k => k = b ∨ rv.ownBlock = some k) w w2 := hj.mono (fun k _ hk => by have h9 : (Value.slice none 0 0).ownBlock = some k := hk; cases h9)
      have hown1' : w3.ownsRow 0 53 2 (.slice (some ⟨a1, 0, none⟩) (g.rs.length + 1) c1) (g.rs.length + 1) (cellsQ lq ++ qv ⟨⟨l, zs⟩, a0, c0⟩) := hown1
      have hbut : But (fun k => k = b ∨ rv.ownBlock = some k) w (w3.setCell ⟨b, 3, none⟩ (.slice (some ⟨a1, 0, none⟩) (g.rs.length + 1) c1)) := by
        have j1 : But (fun k => k = b ∨ rv.ownBlock = some k) w2 (w2.alloc (.cells #[.int .i64 l, .slice a0 zs.length c0] 53)) := But.of ((Below.refl _ _).alloc (Nat.le_refl _) _)
        have j2 : But (fun k => k = b ∨ rv.ownBlock = some k) (w2.alloc (.cells #[.int .i64 l, .slice a0 zs.length c0] 53)) w3 := (but_grown hgrow1).mono (fun k _ hk => .inr hk)
        exact (hj0.trans (j1.trans j2)).setCell (p := ⟨b, 3, none⟩) (.inl rfl) _
      have hrb : RB2 (w3.setCell ⟨b, 3, none⟩ (.slice (some ⟨a1, 0, none⟩) (g.rs.length + 1) c1)) b (withRs g (g.rs ++ [⟨l, zs⟩])) tv nv (.slice (some ⟨a1, 0, none⟩) (g.rs.length + 1) c1) (lq ++ [⟨⟨l, zs⟩, a0, c0⟩]) := by
        have hoR : w3.ownsRow 0 53 2 (.slice (some ⟨a1, 0, none⟩) (g.rs.length + 1) c1) (g.rs ++ [(⟨l, zs⟩ : R)]).length (cellsQ (lq ++ [⟨⟨l, zs⟩, a0, c0⟩])) := by
          rw [List.length_append, cellsQ_snocR]
          exact hown1'
        refine ⟨hbox3.set 3 _, own_setR (GramAll.own_grown (h2.ts.alloc _) (h2.rs.alloc _) (by decide) hgrow1) hbox3 (by decide), own_setR (GramAll.own_grown (h2.ns.alloc _) (h2.rs.alloc _) (by decide) hgrow1) hbox3 (by decide), own_setR hoR hbox3 (by decide), by rw [List.map_append, h.len]; rfl, fun q hq => ?_, h.far⟩
        rcases List.mem_append.1 hq with hq | hq
        · exact own_setR (GramAll.own_grown ((h2.each q hq).alloc _) (h2.rs.alloc _) (by decide) hgrow1) hbox3 (by decide)
        · obtain rfl := List.mem_singleton.1 hq
          exact own_setR (GramAll.own_grown (hown00.alloc _) (h2.rs.alloc _) (by decide) hgrow1) hbox3 (by decide)
      have HR : Hid (RO (w3.setCell ⟨b, 3, none⟩ (.slice (some ⟨a1, 0, none⟩) (g.rs.length + 1) c1)) (.pointer (some ⟨b, 0, none⟩)) (some (withRs g (g.rs ++ [⟨l, zs⟩]))) (more O w (w3.setCell ⟨b, 3, none⟩ (.slice (some ⟨a1, 0, none⟩) (g.rs.length + 1) c1))) ∧ But O w (w3.setCell ⟨b, 3, none⟩ (.slice (some ⟨a1, 0, none⟩) (g.rs.length + 1) c1))) := by
        refine ⟨⟨b, tv, nv, _, _, rfl, hrb, fun k hk => ?_⟩, hbut.mono (fun k _ hk2 => by rcases hk2 with rfl | hk2; exact hO _ (.inl rfl); exact hO _ (.inr (.inr (.inr (.inl hk2)))))⟩
        have hlt := hrb.blocks hk
        rcases hk with rfl | hk | hk | hk | ⟨q, hq, hk⟩
        · exact .inl (hO _ (.inl rfl))
        · exact .inl (hO _ (.inr (.inl hk)))
        · exact .inl (hO _ (.inr (.inr (.inl hk))))
        · have e : some a1 = some k := hk
          cases e
          rcases hat1 with e4 | e4
          · exact .inl (hO _ (.inr (.inr (.inr (.inl e4)))))
          · exact .inr ⟨by omega, hlt⟩
        · rcases List.mem_append.1 hq with hq | hq
          · exact .inl (hO _ (.inr (.inr (.inr (.inr ⟨q, hq, hk⟩)))))
          · obtain rfl := List.mem_singleton.1 hq
            exact .inr ⟨hnew0 k hk, hlt⟩
      clear hgrow1 hown1 hown1' hbox3 hrb hbut
      go_wp2
      go_end0
      exact ⟨rfl, HR.out.1, HR.out.2⟩


theorem rules_zero {t n : Nat} : ∀ {rs : List R} {i : Nat} {o : Option Nat}, rulesK t n rs i = (0, o) → o = none
  | [], i, o, h => by cases h; rfl
  | r :: l, i, o, h => by
    unfold rulesK at h
    split at h
    · exact rules_zero h
    · rename_i h9
      have := congrArg Prod.fst h
      exact absurd this h9
theorem ck_zero {g : G} {o : Option Nat} (h : checkG g = (0, o)) : o = none := by
  unfold checkG at h
  split at h
  · cases h
  · split at h
    · cases h
    · split at h
      · cases h
      · exact rules_zero h
/-- What the document's Grammar answers. -/
def RGr (og : Option G) (e : Ending) (w' : World) : Prop :=
  ∃ g ta tc na nc ra rc, e = .returned (.tuple #[.agg #[.slice ta g.ts.length tc, .slice na g.ns.length nc, .int .i64 g.ax, .slice ra g.rs.length rc], .int .i64 ((wantZ og).1 : Int), .int .i64 (ruI (wantZ og).2)]) ∧ GRow w' ta na ra g ∧ (((wantZ og).1 = 0 ∧ og = some g) ∨ ((wantZ og).1 ≠ 0 ∧ g = emptyG))

set_option maxRecDepth 100000 in
set_option maxHeartbeats 4000000 in
theorem ro_grammar {w : World} {v : Value} {og : Option G} {O : Nat → Prop} (h0 : RO w v og O) (hl : ∀ g, og = some g → okG g) :
    Calls Tryd.prog 20 #[v] w fun e w' => RGr og e w' ∧ Below w.heap.size w w' := by
  obtain ⟨W1, hW1⟩ : ∃ W1, W1 = w.alloc (.cells #[.slice none 0 0, .slice none 0 0, .int .i64 0, .slice none 0 0] 35) := ⟨_, rfl⟩
  have HW1 : Hid (_) := hW1
  have hB1 : Below w.heap.size w W1 := by rw [hW1]; exact (Below.refl _ _).alloc (Nat.le_refl _) _
  have rA : RowAt W1 w.heap.size 35 #[.slice none 0 0, .slice none 0 0, .int .i64 0, .slice none 0 0] := by rw [hW1]; exact World.alloc_heap_new w _
  have hput : ∀ (W : World) (x0 x1 x2 x3 : Value) (cur : Array Value), RowAt W w.heap.size 35 #[.slice none 0 0, .slice none 0 0, .int .i64 0, .slice none 0 0] → ∀ Wf, Wf = (((W.setCell ⟨w.heap.size, 0, none⟩ x0).setCell ⟨w.heap.size, 1, none⟩ x1).setCell ⟨w.heap.size, 2, none⟩ x2).setCell ⟨w.heap.size, 3, none⟩ x3 → RowAt Wf w.heap.size 35 #[x0, x1, x2, x3] ∧ (∀ B w0, Below B w0 W → B ≤ w.heap.size → Below B w0 Wf) ∧ (∀ j, j ≠ w.heap.size → Wf.heap[j]? = W.heap[j]?) := fun W x0 x1 x2 x3 cur hr Wf e => by
    subst e
    refine ⟨(((hr.set 0 _).set 1 _).set 2 _).set 3 _, fun B w0 hb hB => (((hb.setCell (p := ⟨w.heap.size, 0, none⟩) hB _).setCell (p := ⟨w.heap.size, 1, none⟩) hB _).setCell (p := ⟨w.heap.size, 2, none⟩) hB _).setCell (p := ⟨w.heap.size, 3, none⟩) hB _, fun j hj => ?_⟩
    rw [Below.heap_setCell _ ⟨w.heap.size, 3, none⟩ _ _ hj, Below.heap_setCell _ ⟨w.heap.size, 2, none⟩ _ _ hj, Below.heap_setCell _ ⟨w.heap.size, 1, none⟩ _ _ hj, Below.heap_setCell _ ⟨w.heap.size, 0, none⟩ _ _ hj]
  clear hW1
  have hzrow : ∀ W, GRow W none none none emptyG := fun W => ⟨fun i x hx => by simp [emptyG] at hx, fun i x hx => by simp [emptyG] at hx, fun i x hx => by simp [emptyG] at hx⟩
  cases og with
  | none =>
    obtain rfl : v = _ := h0
    have hptr := ptr_noneR
    have f0 := rA.frozen 0
    have f1 := rA.frozen 1
    have f2 := rA.frozen 2
    have f3 := rA.frozen 3
    have x0 := rA.cell (q := 0) rfl
    have x1 := rA.cell (q := 1) rfl
    have x2 := rA.cell (q := 2) rfl
    have x3 := rA.cell (q := 3) rfl
    obtain ⟨Wf, hWf⟩ : ∃ Wf, Wf = (((W1.setCell ⟨w.heap.size, 0, none⟩ (.slice none 0 0)).setCell ⟨w.heap.size, 1, none⟩ (.slice none 0 0)).setCell ⟨w.heap.size, 2, none⟩ (.int .i64 0)).setCell ⟨w.heap.size, 3, none⟩ (.slice none 0 0) := ⟨_, rfl⟩
    obtain ⟨k1, k2, _⟩ := hput W1 _ _ _ _ #[] rA Wf hWf
    have hBf := k2 _ _ hB1 (Nat.le_refl _)
    clear rA hB1 hput k2
    go_enter Tryd.func20, Tryd.ntmps20
    go_wp2_with (rw [← HW1.out])
    rw [← hWf]
    have z0 := k1.cell (q := 0) rfl
    have z1 := k1.cell (q := 1) rfl
    have z2 := k1.cell (q := 2) rfl
    have z3 := k1.cell (q := 3) rfl
    refine bodyPost_ret (v := .tuple #[.agg #[.slice none 0 0, .slice none 0 0, .int .i64 0, .slice none 0 0], .int .i64 1, .int .i64 (-1)]) (by simp [results, Tryd.results20, go_sem, z0, z1, z2, z3]) rfl ?_
    exact ⟨⟨emptyG, none, 0, none, 0, none, 0, rfl, hzrow _, .inr ⟨by decide, rfl⟩⟩, hBf⟩
  | some g =>
    obtain ⟨b, tv, nv, rv, lq, rfl, h, hO⟩ := h0
    have hok := hl g rfl
    have hptr := ptr_someR
    obtain ⟨ta, tc, hv1, _⟩ := formR h.ts
    obtain ⟨na, nc, hv2, _⟩ := formR h.ns
    obtain ⟨ra, rc, hv3, _⟩ := formR h.rs
    subst hv1 hv2 hv3
    have hG := h.grow rfl rfl rfl
    have hbx1 := h.box.below hB1 h.box.lt
    have hne := h.box.lt
    have hG1 := hG.below hB1 (Nat.le_refl _)
    have hck := rcheck_any ta na ra tc nc rc g W1 hG1 hok
    have y0 := hbx1.cell (q := 0) rfl
    have y1 := hbx1.cell (q := 1) rfl
    have y2 := hbx1.cell (q := 2) rfl
    have y3 := hbx1.cell (q := 3) rfl
    clear h
    go_enter Tryd.func20, Tryd.ntmps20
    go_wp2_with (rw [← HW1.out])
    refine hck.mono ?_
    rintro e w2 ⟨rfl, hb2⟩
    clear y0 y1 y2 y3
    have rA2 := rA.below hb2 rA.lt
    have hbx2 := hbx1.below hb2 hbx1.lt
    have hG2 := hG1.below hb2 (Nat.le_refl _)
    have hB2 := hB1.trans (hb2.mono hB1.size)
    have y0 := hbx2.cell (q := 0) rfl
    have y1 := hbx2.cell (q := 1) rfl
    have y2 := hbx2.cell (q := 2) rfl
    have y3 := hbx2.cell (q := 3) rfl
    have f0 := rA2.frozen 0
    have f1 := rA2.frozen 1
    have f2 := rA2.frozen 2
    have f3 := rA2.frozen 3
    have x0 := rA2.cell (q := 0) rfl
    have x1 := rA2.cell (q := 1) rfl
    have x2 := rA2.cell (q := 2) rfl
    have x3 := rA2.cell (q := 3) rfl
    clear hck hb2 rA hbx1 hG1 hB1
    cases hz : checkG g with
    | mk k o =>
    have hw : wantZ (some g) = (k, o) := hz
    have HW : Hid (_) := hw
    clear hw hz
    by_cases hk : k = 0
    · have hk2 : ((k : Int) != 0) = false := by rw [hk]; rfl
      obtain ⟨Wf, hWf⟩ : ∃ Wf, Wf = (((w2.setCell ⟨w.heap.size, 0, none⟩ (.slice ta g.ts.length tc)).setCell ⟨w.heap.size, 1, none⟩ (.slice na g.ns.length nc)).setCell ⟨w.heap.size, 2, none⟩ (.int .i64 g.ax)).setCell ⟨w.heap.size, 3, none⟩ (.slice ra g.rs.length rc) := ⟨_, rfl⟩
      obtain ⟨k1, k2, k3⟩ := hput w2 _ _ _ _ #[] rA2 Wf hWf
      have hBf := k2 _ _ hB2 (Nat.le_refl _)
      have hGf : GRow Wf ta na ra g := hG.below hBf (Nat.le_refl _)
      clear rA2 hB2 hput k2 k3 hG2 hbx2
      go_wp2
      rw [← hWf]
      have z0 := k1.cell (q := 0) rfl
      have z1 := k1.cell (q := 1) rfl
      have z2 := k1.cell (q := 2) rfl
      have z3 := k1.cell (q := 3) rfl
      refine bodyPost_ret (v := .tuple #[.agg #[.slice ta g.ts.length tc, .slice na g.ns.length nc, .int .i64 g.ax, .slice ra g.rs.length rc], .int .i64 0, .int .i64 (-1)]) (by simp [results, Tryd.results20, go_sem, z0, z1, z2, z3]) rfl ?_
      refine ⟨⟨g, ta, tc, na, nc, ra, rc, ?_, hGf, .inl ⟨by rw [HW.out]; exact hk, rfl⟩⟩, hBf⟩
      have h9 : o = none := ck_zero (g := g) (o := o) (by rw [show checkG g = (k, o) from HW.out, hk])
      rw [HW.out, hk, h9]
      rfl
    · have hk2 : ((k : Int) != 0) = true := by simp; omega
      obtain ⟨Wf, hWf⟩ : ∃ Wf, Wf = (((w2.setCell ⟨w.heap.size, 0, none⟩ (.slice none 0 0)).setCell ⟨w.heap.size, 1, none⟩ (.slice none 0 0)).setCell ⟨w.heap.size, 2, none⟩ (.int .i64 0)).setCell ⟨w.heap.size, 3, none⟩ (.slice none 0 0) := ⟨_, rfl⟩
      obtain ⟨k1, k2, k3⟩ := hput w2 _ _ _ _ #[] rA2 Wf hWf
      have hBf := k2 _ _ hB2 (Nat.le_refl _)
      clear rA2 hB2 hput k2 k3 hG2 hbx2
      go_wp2
      rw [← hWf]
      have z0 := k1.cell (q := 0) rfl
      have z1 := k1.cell (q := 1) rfl
      have z2 := k1.cell (q := 2) rfl
      have z3 := k1.cell (q := 3) rfl
      refine bodyPost_ret (v := .tuple #[.agg #[.slice none 0 0, .slice none 0 0, .int .i64 0, .slice none 0 0], .int .i64 (k : Int), .int .i64 (ruI o)]) (by simp [results, Tryd.results20, go_sem, z0, z1, z2, z3]) rfl ?_
      refine ⟨⟨emptyG, none, 0, none, 0, none, 0, ?_, hzrow _, .inr ⟨by rw [HW.out]; exact hk, rfl⟩⟩, hBf⟩
      rw [HW.out]
      rfl

end Go.Proofs.YtcmjneabcdpmoaaDoor.GramRoll
