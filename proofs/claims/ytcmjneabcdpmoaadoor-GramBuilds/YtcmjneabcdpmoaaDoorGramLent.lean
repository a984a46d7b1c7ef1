/-
  Lent lists of numbers and of names: what the statements' LentInts, LentStrings, KeptInts and KeptStrings come to. What is lent has a mark behind it.
-/
import Derived.Test.YtcmjneabcdpmoaaDoorGramEq
import Derived.Laws.AppendOwnNone
import Derived.WalkSpells
import Derived.Maps.AppendAt
import Derived.RangeFuncBox
namespace Go.Proofs.YtcmjneabcdpmoaaDoor.GramLent
open Go.RowKit Go.Proofs.YtcmjneabcdpmoaaDoor.GramMath Go.Proofs.YtcmjneabcdpmoaaDoor.GramRow Go.Proofs.YtcmjneabcdpmoaaDoor.GramSame
set_option linter.unusedVariables false

theorem own_cap {w : World} {base : Nat} {e : TypeId} {g n c : Nat} {xs : List Value} (h : w.ownsRow base e 1 (.slice (some ⟨g, 0, none⟩) n c) n xs) : n ≤ c ∧ c ≤ maxLen ∧ base ≤ g := by
  obtain ⟨_, h | ⟨g', cap, cur, hv, hb, _, hn, hm, _⟩⟩ := h
  · exact absurd h.1 (by simp)
  · simp at hv
    obtain ⟨rfl, rfl⟩ := hv
    exact ⟨hn, hm, hb⟩

def markS : ByteArray := ByteArray.mk #[109, 97, 114, 107]

theorem infoI : (Tryd.prog.info? 3).map (fun i => (i.zero, i.size, i.bytes)) = some (some (.int .i64 0), 1, 8) := by kernel_rfl

theorem lent_rowI {w2 : World} {base : Nat} {e : TypeId} {g n c : Nat} {zs : List Int} (h : w2.ownsRow base e 1 (.slice (some ⟨g, 0, none⟩) n c) n (zs.map (Value.int .i64))) (hn : n = zs.length) : IRow w2 (some ⟨g, 0, none⟩) zs := fun i x hx => by
  have hi : i < zs.length := by
    rcases Nat.lt_or_ge i zs.length with h | h
    · exact h
    · rw [List.getElem?_eq_none h] at hx; cases hx
  exact ⟨g, 0, rfl, by rw [Nat.zero_add, h.cellAt i (by omega), List.getElem?_map, hx]; rfl⟩

set_option maxRecDepth 100000 in
set_option maxHeartbeats 1600000 in
theorem lentI (a : Option Addr) (ca : Nat) (zs : List Int) (w : World) (ha : IRow w a zs) (hm : zs.length * 8 ≤ 140737488351232) (hnil : a = none → zs.length = 0 ∧ ca = 0) :
    Calls Tryd.prog 9 #[.slice a zs.length ca] w fun e w' => (∃ g c, e = .returned (.slice (some ⟨g, 0, none⟩) zs.length c) ∧ zs.length < c ∧ c ≤ maxLen ∧ w.heap.size ≤ g ∧ IRow w' (some ⟨g, 0, none⟩) (zs ++ [-7171])) ∧ Below w.heap.size w w' := by
  obtain ⟨i0, hi, hz0, hz1, hz2⟩ := info_parts infoI
  cases a with
  | none =>
    obtain ⟨hz, rfl⟩ := hnil rfl
    obtain rfl : zs = [] := List.length_eq_zero_iff.1 hz
    go_enter Tryd.func9, Tryd.ntmps9
    go_wp2_with (first
      | (at_builtin; refine wpList_append_own_none rfl (.tmp 4) (.tmp 5) 39 rfl w.heap.size 3 i0 1 Tryd.underlying39 hi _ _ _ rfl (World.ownsRow_nil _ _ _ _) rfl ?_)
      | (at_builtin; refine wpList_append_own _ rfl (.tmp 7) (.tmp 8) 39 rfl w.heap.size 3 i0 (.int .i64 0) 1 8 Tryd.underlying39 hi hz0 hz1 hz2 rfl (by decide) _ _ _ rfl ((World.ownsRow_nil w w.heap.size 3 1).alloc _) ⟨w.heap.size, 0, none⟩ 1 1 [.int .i64 (-7171)] rfl rfl (cell_one_new _ _ _) (by simp [Value.oneCell']) (by unfold maxLen; omega) (by omega) (by simp) ?_; intro v2 w2 hown2 hgrow2 _; obtain ⟨g, c, rfl⟩ := ownsRow_succ hown2; have hcap := own_cap hown2))
    have hr := lent_rowI (zs := [-7171]) hown2 rfl
    go_ret
    exact ⟨⟨g, c, rfl, by omega, hcap.2.1, hcap.2.2, hr⟩, ((Below.refl _ _).alloc (Nat.le_refl _) _).grown hgrow2 (by simp) (by intro k hk; cases hk)⟩
  | some x =>
    have hnews : ∀ j u, (zs.map (Value.int .i64))[j]? = some u → w.cell? (x.add j) = some u := by
      intro j u hj
      rw [List.getElem?_map, Option.map_eq_some_iff] at hj
      obtain ⟨y, hy, rfl⟩ := hj
      obtain ⟨b, off, hx, hc⟩ := ha j y hy
      obtain rfl : x = ⟨b, off, none⟩ := by simpa using hx
      rw [Addr.add_lit]; exact hc
    have hone : ∀ u ∈ zs.map (Value.int .i64), u.oneCell' = true := by
      intro u hu
      obtain ⟨y, _, rfl⟩ := List.mem_map.1 hu
      rfl
    have hlen : (zs.map (Value.int .i64)).length = zs.length * 1 := by simp
    go_enter Tryd.func9, Tryd.ntmps9
    go_wp2_with (first
      | (at_builtin; refine wpList_append_own _ rfl (.tmp 4) (.tmp 5) 39 rfl w.heap.size 3 i0 (.int .i64 0) 1 8 Tryd.underlying39 hi hz0 hz1 hz2 rfl (by decide) _ _ _ rfl (World.ownsRow_nil w w.heap.size 3 1) x zs.length ca (zs.map (Value.int .i64)) rfl hlen hnews hone (by unfold maxLen; omega) (by omega) (Nat.le_refl _) ?_; intro v1 w1 hown1 hgrow1 _; simp only [Nat.zero_add, List.nil_append] at hown1)
      | (at_builtin; refine wpList_append_own _ rfl (.tmp 7) (.tmp 8) 39 rfl w.heap.size 3 i0 (.int .i64 0) 1 8 Tryd.underlying39 hi hz0 hz1 hz2 rfl (by decide) _ _ _ rfl (hown1.alloc _) ⟨w1.heap.size, 0, none⟩ 1 1 [.int .i64 (-7171)] rfl rfl (cell_one_new _ _ _) (by simp [Value.oneCell']) (by unfold maxLen; omega) (by omega) (by have := hgrow1.size; simp; omega) ?_; intro v2 w2 hown2 hgrow2 _; obtain ⟨g, c, rfl⟩ := ownsRow_succ hown2; have hcap := own_cap hown2))
    have hr := lent_rowI (zs := zs ++ [-7171]) (n := zs.length + 1) (by simpa using hown2) (by simp)
    have hs1 := hgrow1.size
    go_ret
    exact ⟨⟨g, c, rfl, by omega, hcap.2.1, hcap.2.2, hr⟩, ((((Below.refl _ _).grown hgrow1 (Nat.le_refl _) (by intro k hk; cases hk)).alloc hs1 _).grown hgrow2 (by simp; omega) (fun k hk => (hown1.lt k hk).1))⟩

theorem infoS : (Tryd.prog.info? 9).map (fun i => (i.zero, i.size, i.bytes)) = some (some (.string ByteArray.empty), 1, 16) := by kernel_rfl

theorem lent_rowS {w2 : World} {base : Nat} {e : TypeId} {g n c : Nat} {zs : List ByteArray} (h : w2.ownsRow base e 1 (.slice (some ⟨g, 0, none⟩) n c) n (zs.map Value.string)) (hn : n = zs.length) : SRow w2 (some ⟨g, 0, none⟩) zs := fun i x hx => by
  have hi : i < zs.length := by
    rcases Nat.lt_or_ge i zs.length with h | h
    · exact h
    · rw [List.getElem?_eq_none h] at hx; cases hx
  exact ⟨g, 0, rfl, by rw [Nat.zero_add, h.cellAt i (by omega), List.getElem?_map, hx]; rfl⟩

theorem row_frontI {w : World} {a : Option Addr} {zs ys : List Int} (h : IRow w a (zs ++ ys)) : IRow w a zs := fun i x hx => h i x (by
  have hi : i < zs.length := by
    rcases Nat.lt_or_ge i zs.length with h | h
    · exact h
    · rw [List.getElem?_eq_none h] at hx; cases hx
  rw [List.getElem?_append_left hi]; exact hx)

theorem row_markI {w : World} {g : Nat} {zs : List Int} {x : Int} (h : IRow w (some ⟨g, 0, none⟩) (zs ++ [x])) : w.cell? ⟨g, zs.length, none⟩ = some (.int .i64 x) := by
  obtain ⟨b, off, ha, hc⟩ := h zs.length x (by simp)
  simp only [Option.some.injEq, Addr.mk.injEq] at ha
  obtain ⟨rfl, rfl, _⟩ := ha
  simpa using hc

set_option maxRecDepth 100000 in
set_option maxHeartbeats 1600000 in
theorem keptI (g : Nat) (b : Option Addr) (ca cb : Nat) (zs : List Int) (w : World) (ha : IRow w (some ⟨g, 0, none⟩) (zs ++ [-7171])) (hb : IRow w b zs) (hm : zs.length ≤ 1125899906842624) (hc : zs.length < ca) :
    Calls Tryd.prog 12 #[.slice (some ⟨g, 0, none⟩) zs.length ca, .slice b zs.length cb] w fun e w' => e = .returned (.bool true) ∧ ∃ q, w' = w.drewN q := by
  have hq := ints_any (some ⟨g, 0, none⟩) b ca cb zs zs w (row_frontI ha) hb hm hm
  have e : eqI zs zs = true := by unfold eqI; simp
  rw [e] at hq
  have hl := row_markI ha
  go_enter Tryd.func12, Tryd.ntmps12
  go_wp2_with (go_at_call 19; refine hq.mono ?_; rintro e w' ⟨rfl, q, rfl⟩)
  go_ret
  exact ⟨rfl, _, rfl⟩

theorem row_frontS {w : World} {a : Option Addr} {zs ys : List ByteArray} (h : SRow w a (zs ++ ys)) : SRow w a zs := fun i x hx => h i x (by
  have hi : i < zs.length := by
    rcases Nat.lt_or_ge i zs.length with h | h
    · exact h
    · rw [List.getElem?_eq_none h] at hx; cases hx
  rw [List.getElem?_append_left hi]; exact hx)

theorem row_markS {w : World} {g : Nat} {zs : List ByteArray} {x : ByteArray} (h : SRow w (some ⟨g, 0, none⟩) (zs ++ [x])) : w.cell? ⟨g, zs.length, none⟩ = some (.string x) := by
  obtain ⟨b, off, ha, hc⟩ := h zs.length x (by simp)
  simp only [Option.some.injEq, Addr.mk.injEq] at ha
  obtain ⟨rfl, rfl, _⟩ := ha
  simpa using hc

end Go.Proofs.YtcmjneabcdpmoaaDoor.GramLent
