/-
  A lent row of numbers, with the row that it lies in.
-/
import Derived.Test.YtcmjneabcdpmoaaDoorGramLent
import Derived.Test.YtcmjneabcdpmoaaDoorGramApart0
namespace Go.Proofs.YtcmjneabcdpmoaaDoor.GramLent
open Go.RowKit Go.Proofs.YtcmjneabcdpmoaaDoor.GramMath Go.Proofs.YtcmjneabcdpmoaaDoor.GramRow Go.Proofs.YtcmjneabcdpmoaaDoor.GramSame Go.Proofs.YtcmjneabcdpmoaaDoor.GramApart
set_option linter.unusedVariables false

theorem own_cells {w : World} {base : Nat} {e : TypeId} {g n c : Nat} {xs : List Value} (h : w.ownsRow base e 1 (.slice (some ⟨g, 0, none⟩) n c) n xs) : ∃ cur, RowAt w g e cur ∧ n ≤ cur.size := by
  obtain ⟨_, ⟨h, _⟩ | ⟨g', cap, cur, hv, _, hc, hn, _, hs, _⟩⟩ := h
  · cases h
  · cases hv
    exact ⟨cur, hc, by omega⟩

set_option maxRecDepth 100000 in
set_option maxHeartbeats 1600000 in
theorem lentI2 (a : Option Addr) (ca : Nat) (zs : List Int) (w : World) (ha : IRow w a zs) (hm : zs.length * 8 ≤ 140737488351232) (hnil : a = none → zs.length = 0 ∧ ca = 0) :
    Calls Tryd.prog 9 #[.slice a zs.length ca] w fun e w' => (∃ g c, e = .returned (.slice (some ⟨g, 0, none⟩) zs.length c) ∧ zs.length < c ∧ c ≤ maxLen ∧ w.heap.size ≤ g ∧ IRow w' (some ⟨g, 0, none⟩) (zs ++ [-7171]) ∧ (∃ cur, RowAt w' g 3 cur ∧ zs.length ≤ cur.size)) ∧ Below w.heap.size w w' := by
  obtain ⟨i0, hi, hz0, hz1, hz2⟩ := info_parts infoI
  cases a with
  | none =>
    obtain ⟨hz, rfl⟩ := hnil rfl
    obtain rfl : zs = [] := List.length_eq_zero_iff.1 hz
    go_enter Tryd.func9, Tryd.ntmps9
    go_wp2_with (first
      | (at_builtin; refine wpList_append_own_none rfl (.tmp 4) (.tmp 5) 39 rfl w.heap.size 3 i0 1 Tryd.underlying39 hi _ _ _ rfl (World.ownsRow_nil _ _ _ _) rfl ?_)
      | (at_builtin; refine wpList_append_own _ rfl (.tmp 7) (.tmp 8) 39 rfl w.heap.size 3 i0 (.int .i64 0) 1 8 Tryd.underlying39 hi hz0 hz1 hz2 rfl (by decide) _ _ _ rfl ((World.ownsRow_nil w w.heap.size 3 1).alloc _) ⟨w.heap.size, 0, none⟩ 1 1 [.int .i64 (-7171)] rfl rfl (cell_one_new _ _ _) (by simp [Value.oneCell']) (by unfold maxLen; omega) (by omega) (by simp) ?_; intro v2 w2 hown2 hgrow2 _; obtain ⟨g, c, rfl⟩ := ownsRow_succ hown2; have hcap := own_cap hown2))
    have hr := lent_rowI (zs := [-7171]) hown2 rfl
    have hrw := own_cells hown2
    go_ret
    exact ⟨⟨g, c, rfl, by omega, hcap.2.1, hcap.2.2, hr, by obtain ⟨cur, h1, h2⟩ := hrw; exact ⟨cur, h1⟩⟩, ((Below.refl _ _).alloc (Nat.le_refl _) _).grown hgrow2 (by simp) (by intro k hk; cases hk)⟩
  | some x =>
    have hnews : ∀ j u, (zs.map (Value.int .i64))[j]? = some u → w.cell? (x.add j) = some u := by
      intro j u hj
      rw [List.getElem?_map, Option.map_eq_some_iff] at hj
      obtain ⟨y, hy, rfl⟩ := hj
      obtain ⟨b, off, hx, hc⟩ := ha j y hy
      obtain rfl : x = ⟨b, off, none⟩ := by simpa using hx
      rw [Addr.add_lit]; exact hc
    have hone : ∀ u ∈ zs.map (Value.int .i64), u.oneCell' = true := by
      intro u hu
      obtain ⟨y, _, rfl⟩ := List.mem_map.1 hu
      rfl
    have hlen : (zs.map (Value.int .i64)).length = zs.length * 1 := by simp
    go_enter Tryd.func9, Tryd.ntmps9
    go_wp2_with (first
      | (at_builtin; refine wpList_append_own _ rfl (.tmp 4) (.tmp 5) 39 rfl w.heap.size 3 i0 (.int .i64 0) 1 8 Tryd.underlying39 hi hz0 hz1 hz2 rfl (by decide) _ _ _ rfl (World.ownsRow_nil w w.heap.size 3 1) x zs.length ca (zs.map (Value.int .i64)) rfl hlen hnews hone (by unfold maxLen; omega) (by omega) (Nat.le_refl _) ?_; intro v1 w1 hown1 hgrow1 _; simp only [Nat.zero_add, List.nil_append] at hown1)
      | (at_builtin; refine wpList_append_own _ rfl (.tmp 7) (.tmp 8) 39 rfl w.heap.size 3 i0 (.int .i64 0) 1 8 Tryd.underlying39 hi hz0 hz1 hz2 rfl (by decide) _ _ _ rfl (hown1.alloc _) ⟨w1.heap.size, 0, none⟩ 1 1 [.int .i64 (-7171)] rfl rfl (cell_one_new _ _ _) (by simp [Value.oneCell']) (by unfold maxLen; omega) (by omega) (by have := hgrow1.size; simp; omega) ?_; intro v2 w2 hown2 hgrow2 _; obtain ⟨g, c, rfl⟩ := ownsRow_succ hown2; have hcap := own_cap hown2))
    have hr := lent_rowI (zs := zs ++ [-7171]) (n := zs.length + 1) (by simpa using hown2) (by simp)
    have hs1 := hgrow1.size
    have hrw := own_cells hown2
    go_ret
    exact ⟨⟨g, c, rfl, by omega, hcap.2.1, hcap.2.2, hr, by obtain ⟨cur, h1, h2⟩ := hrw; exact ⟨cur, h1, by omega⟩⟩, ((((Below.refl _ _).grown hgrow1 (Nat.le_refl _) (by intro k hk; cases hk)).alloc hs1 _).grown hgrow2 (by simp; omega) (fun k hk => (hown1.lt k hk).1))⟩

end Go.Proofs.YtcmjneabcdpmoaaDoor.GramLent
