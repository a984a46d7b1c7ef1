/-
  The reference's with: a list and one more, as a list of its own.
-/
import Derived.Test.YtmepnjnpfmgokaaDoorEndsRef
import Derived.Test.YtmepnjnpfmgokaaDoorEndsSearch
import Derived.Laws.AppendOwnNone
namespace Go.Proofs.YtmepnjnpfmgokaaDoor.EndsRWith
open Go.RowKit Go.Proofs.YtmepnjnpfmgokaaDoor.GramMath Go.Proofs.YtmepnjnpfmgokaaDoor.GramRow Go.Proofs.YtmepnjnpfmgokaaDoor.GramLent Go.Proofs.YtmepnjnpfmgokaaDoor.EndsMath Go.Proofs.YtmepnjnpfmgokaaDoor.EndsSearch Go.Proofs.YtmepnjnpfmgokaaDoor.EndsConcat
set_option linter.unusedVariables false

set_option maxRecDepth 100000 in
set_option maxHeartbeats 1600000 in
theorem rwith_any (a : Option Addr) (ca : Nat) (zs : List Int) (x : Int) (w : World) (ha : IRow w a zs) (hm : zs.length ≤ 1000) (hnil : a = none → zs.length = 0 ∧ ca = 0) :
    Calls Tryd.prog 37 #[.slice a zs.length ca, .int .i64 x] w fun e w' => (∃ g c, e = .returned (.slice (some ⟨g, 0, none⟩) (zs.length + 1) c) ∧ w'.ownsRow w.heap.size 3 1 (.slice (some ⟨g, 0, none⟩) (zs.length + 1) c) (zs.length + 1) (intsL (zs ++ [x]))) ∧ Below w.heap.size w w' := by
  obtain ⟨i0, hi, hz0, hz1, hz2⟩ := info_parts infoI
  cases a with
  | none =>
    obtain ⟨hz, rfl⟩ := hnil rfl
    obtain rfl : zs = [] := List.length_eq_zero_iff.1 hz
    go_enter Tryd.func37, Tryd.ntmps37
    go_wp2_with (first
      | (at_builtin; refine wpList_append_own_none rfl (.tmp 6) (.tmp 7) 43 rfl w.heap.size 3 i0 1 Tryd.underlying43 hi _ _ _ rfl (World.ownsRow_nil _ _ _ _) rfl ?_)
      | (at_builtin; refine wpList_append_own _ rfl (.tmp 9) (.tmp 11) 43 rfl w.heap.size 3 i0 (.int .i64 0) 1 8 Tryd.underlying43 hi hz0 hz1 hz2 rfl (by decide) _ _ _ rfl ((World.ownsRow_nil w w.heap.size 3 1).alloc _) ⟨w.heap.size, 0, none⟩ 1 1 [.int .i64 x] rfl rfl (cell_one_new _ _ _) (by simp [Value.oneCell']) (by unfold maxLen; omega) (by omega) (by simp) ?_; intro v2 w2 hown2 hgrow2 _; obtain ⟨g, c, rfl⟩ := ownsRow_succ hown2))
    go_ret
    exact ⟨⟨g, c, rfl, hown2⟩, ((Below.refl _ _).alloc (Nat.le_refl _) _).grown hgrow2 (by simp) (by intro k hk; cases hk)⟩
  | some y =>
    have hnews : ∀ j u, (zs.map (Value.int .i64))[j]? = some u → w.cell? (y.add j) = some u := by
      intro j u hj
      rw [List.getElem?_map, Option.map_eq_some_iff] at hj
      obtain ⟨z, hz, rfl⟩ := hj
      obtain ⟨b, off, hx, hc⟩ := ha j z hz
      obtain rfl : y = ⟨b, off, none⟩ := by simpa using hx
      rw [Addr.add_lit]; exact hc
    have hone : ∀ u ∈ zs.map (Value.int .i64), u.oneCell' = true := by
      intro u hu
      obtain ⟨y, _, rfl⟩ := List.mem_map.1 hu
      rfl
    have hlen : (zs.map (Value.int .i64)).length = zs.length * 1 := by simp
    go_enter Tryd.func37, Tryd.ntmps37
    go_wp2_with (first
      | (at_builtin; refine wpList_append_own _ rfl (.tmp 6) (.tmp 7) 43 rfl w.heap.size 3 i0 (.int .i64 0) 1 8 Tryd.underlying43 hi hz0 hz1 hz2 rfl (by decide) _ _ _ rfl (World.ownsRow_nil w w.heap.size 3 1) y zs.length ca (zs.map (Value.int .i64)) rfl hlen hnews hone (by unfold maxLen; omega) (by omega) (Nat.le_refl _) ?_; intro v1 w1 hown1 hgrow1 _; simp only [Nat.zero_add, List.nil_append] at hown1)
      | (at_builtin; refine wpList_append_own _ rfl (.tmp 9) (.tmp 11) 43 rfl w.heap.size 3 i0 (.int .i64 0) 1 8 Tryd.underlying43 hi hz0 hz1 hz2 rfl (by decide) _ _ _ rfl (hown1.alloc _) ⟨w1.heap.size, 0, none⟩ 1 1 [.int .i64 x] rfl rfl (cell_one_new _ _ _) (by simp [Value.oneCell']) (by unfold maxLen; omega) (by omega) (by have := hgrow1.size; simp; omega) ?_; intro v2 w2 hown2 hgrow2 _; obtain ⟨g, c, rfl⟩ := ownsRow_succ hown2))
    have hs1 := hgrow1.size
    go_ret
    exact ⟨⟨g, c, rfl, by simpa [intsL] using hown2⟩, ((((Below.refl _ _).grown hgrow1 (Nat.le_refl _) (by intro k hk; cases hk)).alloc hs1 _).grown hgrow2 (by simp; omega) (fun k hk => (hown1.lt k hk).1))⟩

end Go.Proofs.YtmepnjnpfmgokaaDoor.EndsRWith
