/-
  Texts that stand together: GramLent, GramLessMath, GramLentR, GramKept.
-/
import Derived.Test.YtbeflhpekklgoaaGreatDoorBagGramAboveFn
import Derived.Laws.AppendOwnNone
import Derived.WalkSpells
import Derived.Maps.AppendAt
import Derived.RangeFuncBox
import Derived.Test.YtbeflhpekklgoaaGreatDoorBGramBase
import Derived.Laws.OwnMore
import Derived.Deep.RegionLaw
import Derived.Deep.Slices
import Derived.Deep.RegionHeld3
import Derived.Deep.AppendLies
import Derived.Deep.DeepCutAuto
namespace Go.Proofs.YtbeflhpekklgoaaGreatDoor.GramLent
open Go.RowKit Go.Proofs.YtbeflhpekklgoaaGreatDoor.GramMath Go.Proofs.YtbeflhpekklgoaaGreatDoor.GramRow Go.Proofs.YtbeflhpekklgoaaGreatDoor.GramSame
set_option linter.unusedVariables false

theorem own_cap {w : World} {base : Nat} {e : TypeId} {g n c : Nat} {xs : List Value} (h : w.ownsRow base e 1 (.slice (some ⟨g, 0, none⟩) n c) n xs) : n ≤ c ∧ c ≤ maxLen ∧ base ≤ g := by
  obtain ⟨_, h | ⟨g', cap, cur, hv, hb, _, hn, hm, _⟩⟩ := h
  · exact absurd h.1 (by simp)
  · simp at hv
    obtain ⟨rfl, rfl⟩ := hv
    exact ⟨hn, hm, hb⟩

def markS : ByteArray := ByteArray.mk #[109, 97, 114, 107]

theorem infoI : (Tryz.prog.info? 3).map (fun i => (i.zero, i.size, i.bytes)) = some (some (.int .i64 0), 1, 8) := by kernel_rfl

theorem lent_rowI {w2 : World} {base : Nat} {e : TypeId} {g n c : Nat} {zs : List Int} (h : w2.ownsRow base e 1 (.slice (some ⟨g, 0, none⟩) n c) n (zs.map (Value.int .i64))) (hn : n = zs.length) : IRow w2 (some ⟨g, 0, none⟩) zs := fun i x hx => by
  have hi : i < zs.length := by
    rcases Nat.lt_or_ge i zs.length with h | h
    · exact h
    · rw [List.getElem?_eq_none h] at hx; cases hx
  exact ⟨g, 0, rfl, by rw [Nat.zero_add, h.cellAt i (by omega), List.getElem?_map, hx]; rfl⟩

set_option maxRecDepth 100000 in
set_option maxHeartbeats 1600000 in
theorem lentI (a : Option Addr) (ca : Nat) (zs : List Int) (w : World) (ha : IRow w a zs) (hm : zs.length * 8 ≤ 140737488351232) (hnil : a = none → zs.length = 0 ∧ ca = 0) :
    Calls Tryz.prog 33 #[.slice a zs.length ca] w fun e w' => (∃ g c, e = .returned (.slice (some ⟨g, 0, none⟩) zs.length c) ∧ zs.length < c ∧ c ≤ maxLen ∧ w.heap.size ≤ g ∧ IRow w' (some ⟨g, 0, none⟩) (zs ++ [-7171])) ∧ Below w.heap.size w w' := by
  obtain ⟨i0, hi, hz0, hz1, hz2⟩ := info_parts infoI
  cases a with
  | none =>
    obtain ⟨hz, rfl⟩ := hnil rfl
    obtain rfl : zs = [] := List.length_eq_zero_iff.1 hz
    go_enter Tryz.func33, Tryz.ntmps33
    go_wp2_with (first
      | (at_builtin; refine wpList_append_own_none rfl (.tmp 4) (.tmp 5) 38 rfl w.heap.size 3 i0 1 Tryz.underlying38 hi _ _ _ rfl (World.ownsRow_nil _ _ _ _) rfl ?_)
      | (at_builtin; refine wpList_append_own _ rfl (.tmp 7) (.tmp 8) 38 rfl w.heap.size 3 i0 (.int .i64 0) 1 8 Tryz.underlying38 hi hz0 hz1 hz2 rfl (by decide) _ _ _ rfl ((World.ownsRow_nil w w.heap.size 3 1).alloc _) ⟨w.heap.size, 0, none⟩ 1 1 [.int .i64 (-7171)] rfl rfl (cell_one_new _ _ _) (by simp [Value.oneCell']) (by unfold maxLen; omega) (by omega) (by simp) ?_; intro v2 w2 hown2 hgrow2 _; obtain ⟨g, c, rfl⟩ := ownsRow_succ hown2; have hcap := own_cap hown2))
    have hr := lent_rowI (zs := [-7171]) hown2 rfl
    go_ret
    exact ⟨⟨g, c, rfl, by omega, hcap.2.1, hcap.2.2, hr⟩, ((Below.refl _ _).alloc (Nat.le_refl _) _).grown hgrow2 (by simp) (by intro k hk; cases hk)⟩
  | some x =>
    have hnews : ∀ j u, (zs.map (Value.int .i64))[j]? = some u → w.cell? (x.add j) = some u := by
      intro j u hj
      rw [List.getElem?_map, Option.map_eq_some_iff] at hj
      obtain ⟨y, hy, rfl⟩ := hj
      obtain ⟨b, off, hx, hc⟩ := ha j y hy
      obtain rfl : x = ⟨b, off, none⟩ := by simpa using hx
      rw [Addr.add_lit]; exact hc
    have hone : ∀ u ∈ zs.map (Value.int .i64), u.oneCell' = true := by
      intro u hu
      obtain ⟨y, _, rfl⟩ := List.mem_map.1 hu
      rfl
    have hlen : (zs.map (Value.int .i64)).length = zs.length * 1 := by simp
    go_enter Tryz.func33, Tryz.ntmps33
    go_wp2_with (first
      | (at_builtin; refine wpList_append_own _ rfl (.tmp 4) (.tmp 5) 38 rfl w.heap.size 3 i0 (.int .i64 0) 1 8 Tryz.underlying38 hi hz0 hz1 hz2 rfl (by decide) _ _ _ rfl (World.ownsRow_nil w w.heap.size 3 1) x zs.length ca (zs.map (Value.int .i64)) rfl hlen hnews hone (by unfold maxLen; omega) (by omega) (Nat.le_refl _) ?_; intro v1 w1 hown1 hgrow1 _; simp only [Nat.zero_add, List.nil_append] at hown1)
      | (at_builtin; refine wpList_append_own _ rfl (.tmp 7) (.tmp 8) 38 rfl w.heap.size 3 i0 (.int .i64 0) 1 8 Tryz.underlying38 hi hz0 hz1 hz2 rfl (by decide) _ _ _ rfl (hown1.alloc _) ⟨w1.heap.size, 0, none⟩ 1 1 [.int .i64 (-7171)] rfl rfl (cell_one_new _ _ _) (by simp [Value.oneCell']) (by unfold maxLen; omega) (by omega) (by have := hgrow1.size; simp; omega) ?_; intro v2 w2 hown2 hgrow2 _; obtain ⟨g, c, rfl⟩ := ownsRow_succ hown2; have hcap := own_cap hown2))
    have hr := lent_rowI (zs := zs ++ [-7171]) (n := zs.length + 1) (by simpa using hown2) (by simp)
    have hs1 := hgrow1.size
    go_ret
    exact ⟨⟨g, c, rfl, by omega, hcap.2.1, hcap.2.2, hr⟩, ((((Below.refl _ _).grown hgrow1 (Nat.le_refl _) (by intro k hk; cases hk)).alloc hs1 _).grown hgrow2 (by simp; omega) (fun k hk => (hown1.lt k hk).1))⟩

theorem infoS : (Tryz.prog.info? 9).map (fun i => (i.zero, i.size, i.bytes)) = some (some (.string ByteArray.empty), 1, 16) := by kernel_rfl

theorem lent_rowS {w2 : World} {base : Nat} {e : TypeId} {g n c : Nat} {zs : List ByteArray} (h : w2.ownsRow base e 1 (.slice (some ⟨g, 0, none⟩) n c) n (zs.map Value.string)) (hn : n = zs.length) : SRow w2 (some ⟨g, 0, none⟩) zs := fun i x hx => by
  have hi : i < zs.length := by
    rcases Nat.lt_or_ge i zs.length with h | h
    · exact h
    · rw [List.getElem?_eq_none h] at hx; cases hx
  exact ⟨g, 0, rfl, by rw [Nat.zero_add, h.cellAt i (by omega), List.getElem?_map, hx]; rfl⟩

set_option maxRecDepth 100000 in
set_option maxHeartbeats 1600000 in
theorem lentS (a : Option Addr) (ca : Nat) (zs : List ByteArray) (w : World) (ha : SRow w a zs) (hm : zs.length * 16 ≤ 140737488351232) (hnil : a = none → zs.length = 0 ∧ ca = 0) :
    Calls Tryz.prog 14 #[.slice a zs.length ca] w fun e w' => (∃ g c, e = .returned (.slice (some ⟨g, 0, none⟩) zs.length c) ∧ zs.length < c ∧ c ≤ maxLen ∧ w.heap.size ≤ g ∧ SRow w' (some ⟨g, 0, none⟩) (zs ++ [markS])) ∧ Below w.heap.size w w' := by
  obtain ⟨i0, hi, hz0, hz1, hz2⟩ := info_parts infoS
  cases a with
  | none =>
    obtain ⟨hz, rfl⟩ := hnil rfl
    obtain rfl : zs = [] := List.length_eq_zero_iff.1 hz
    go_enter Tryz.func14, Tryz.ntmps14
    go_wp2_with (first
      | (at_builtin; refine wpList_append_own_none rfl (.tmp 4) (.tmp 5) 22 rfl w.heap.size 9 i0 1 Tryz.underlying22 hi _ _ _ rfl (World.ownsRow_nil _ _ _ _) rfl ?_)
      | (at_builtin; refine wpList_append_own _ rfl (.tmp 7) (.tmp 8) 22 rfl w.heap.size 9 i0 (.string ByteArray.empty) 1 16 Tryz.underlying22 hi hz0 hz1 hz2 rfl (by decide) _ _ _ rfl ((World.ownsRow_nil w w.heap.size 9 1).alloc _) ⟨w.heap.size, 0, none⟩ 1 1 [Value.string (markS)] rfl rfl (cell_one_new _ _ _) (by simp [Value.oneCell']) (by unfold maxLen; omega) (by omega) (by simp) ?_; intro v2 w2 hown2 hgrow2 _; obtain ⟨g, c, rfl⟩ := ownsRow_succ hown2; have hcap := own_cap hown2))
    have hr := lent_rowS (zs := [markS]) hown2 rfl
    go_ret
    exact ⟨⟨g, c, rfl, by omega, hcap.2.1, hcap.2.2, hr⟩, ((Below.refl _ _).alloc (Nat.le_refl _) _).grown hgrow2 (by simp) (by intro k hk; cases hk)⟩
  | some x =>
    have hnews : ∀ j u, (zs.map Value.string)[j]? = some u → w.cell? (x.add j) = some u := by
      intro j u hj
      rw [List.getElem?_map, Option.map_eq_some_iff] at hj
      obtain ⟨y, hy, rfl⟩ := hj
      obtain ⟨b, off, hx, hc⟩ := ha j y hy
      obtain rfl : x = ⟨b, off, none⟩ := by simpa using hx
      rw [Addr.add_lit]; exact hc
    have hone : ∀ u ∈ zs.map Value.string, u.oneCell' = true := by
      intro u hu
      obtain ⟨y, _, rfl⟩ := List.mem_map.1 hu
      rfl
    have hlen : (zs.map Value.string).length = zs.length * 1 := by simp
    go_enter Tryz.func14, Tryz.ntmps14
    go_wp2_with (first
      | (at_builtin; refine wpList_append_own _ rfl (.tmp 4) (.tmp 5) 22 rfl w.heap.size 9 i0 (.string ByteArray.empty) 1 16 Tryz.underlying22 hi hz0 hz1 hz2 rfl (by decide) _ _ _ rfl (World.ownsRow_nil w w.heap.size 9 1) x zs.length ca (zs.map Value.string) rfl hlen hnews hone (by unfold maxLen; omega) (by omega) (Nat.le_refl _) ?_; intro v1 w1 hown1 hgrow1 _; simp only [Nat.zero_add, List.nil_append] at hown1)
      | (at_builtin; refine wpList_append_own _ rfl (.tmp 7) (.tmp 8) 22 rfl w.heap.size 9 i0 (.string ByteArray.empty) 1 16 Tryz.underlying22 hi hz0 hz1 hz2 rfl (by decide) _ _ _ rfl (hown1.alloc _) ⟨w1.heap.size, 0, none⟩ 1 1 [Value.string (markS)] rfl rfl (cell_one_new _ _ _) (by simp [Value.oneCell']) (by unfold maxLen; omega) (by omega) (by have := hgrow1.size; simp; omega) ?_; intro v2 w2 hown2 hgrow2 _; obtain ⟨g, c, rfl⟩ := ownsRow_succ hown2; have hcap := own_cap hown2))
    have hr := lent_rowS (zs := zs ++ [markS]) (n := zs.length + 1) (by simpa using hown2) (by simp)
    have hs1 := hgrow1.size
    go_ret
    exact ⟨⟨g, c, rfl, by omega, hcap.2.1, hcap.2.2, hr⟩, ((((Below.refl _ _).grown hgrow1 (Nat.le_refl _) (by intro k hk; cases hk)).alloc hs1 _).grown hgrow2 (by simp; omega) (fun k hk => (hown1.lt k hk).1))⟩

theorem row_frontI {w : World} {a : Option Addr} {zs ys : List Int} (h : IRow w a (zs ++ ys)) : IRow w a zs := fun i x hx => h i x (by
  have hi : i < zs.length := by
    rcases Nat.lt_or_ge i zs.length with h | h
    · exact h
    · rw [List.getElem?_eq_none h] at hx; cases hx
  rw [List.getElem?_append_left hi]; exact hx)

theorem row_markI {w : World} {g : Nat} {zs : List Int} {x : Int} (h : IRow w (some ⟨g, 0, none⟩) (zs ++ [x])) : w.cell? ⟨g, zs.length, none⟩ = some (.int .i64 x) := by
  obtain ⟨b, off, ha, hc⟩ := h zs.length x (by simp)
  simp only [Option.some.injEq, Addr.mk.injEq] at ha
  obtain ⟨rfl, rfl, _⟩ := ha
  simpa using hc

theorem row_frontS {w : World} {a : Option Addr} {zs ys : List ByteArray} (h : SRow w a (zs ++ ys)) : SRow w a zs := fun i x hx => h i x (by
  have hi : i < zs.length := by
    rcases Nat.lt_or_ge i zs.length with h | h
    · exact h
    · rw [List.getElem?_eq_none h] at hx; cases hx
  rw [List.getElem?_append_left hi]; exact hx)

end Go.Proofs.YtbeflhpekklgoaaGreatDoor.GramLent

namespace Go.Proofs.YtbeflhpekklgoaaGreatDoor.GramLess
open Go.RowKit Go.Proofs.YtbeflhpekklgoaaGreatDoor.GramMath Go.Proofs.YtbeflhpekklgoaaGreatDoor.GramRow
set_option linter.unusedVariables false

def withR (g : G) (rs : List R) : G := ⟨g.ts, g.ns, g.ax, rs⟩

/-- A rule and where its right side lies. -/
structure Q where
  r : R
  a : Option Addr
  c : Nat

def qv (x : Q) : List Value := [.int .i64 x.r.left, .slice x.a x.r.right.length x.c]
def cellsQ (l : List Q) : List Value := l.flatMap qv

theorem cellsQ_app (l m : List Q) : cellsQ (l ++ m) = cellsQ l ++ cellsQ m := by simp [cellsQ]

theorem cellsQ_get : ∀ (l : List Q) (i : Nat) (x : Q), l[i]? = some x → (cellsQ l)[i * 2]? = some (.int .i64 x.r.left) ∧ (cellsQ l)[i * 2 + 1]? = some (.slice x.a x.r.right.length x.c)
  | [], i, x, h => by simp at h
  | y :: r, 0, x, h => by
    obtain rfl : y = x := by simpa using h
    exact ⟨rfl, rfl⟩
  | y :: r, i + 1, x, h => by
    have ih := cellsQ_get r i x (by simpa using h)
    have e : cellsQ (y :: r) = qv y ++ cellsQ r := rfl
    rw [e, show (i + 1) * 2 = (qv y).length + i * 2 from by simp [qv]; omega]
    refine ⟨?_, ?_⟩
    · rw [List.getElem?_append_right (by omega), Nat.add_sub_cancel_left]; exact ih.1
    · rw [Nat.add_assoc, List.getElem?_append_right (by omega), Nat.add_sub_cancel_left]; exact ih.2

/-- Rules in a row, with the places of their right sides. -/
def QRow (w : World) (a : Option Addr) (l : List Q) : Prop := ∀ i x, l[i]? = some x → ∃ b off, a = some ⟨b, off, none⟩ ∧ w.cell? ⟨b, off + i * 2, none⟩ = some (.int .i64 x.r.left) ∧ w.cell? ⟨b, off + i * 2 + 1, none⟩ = some (.slice x.a x.r.right.length x.c)

theorem QRow.below {w w' : World} {a : Option Addr} {l : List Q} {B : Nat} (h : QRow w a l) (hb : Below B w w') (hB : w.heap.size ≤ B) : QRow w' a l := fun i x hx => by
  obtain ⟨b, off, ha, h1, h2⟩ := h i x hx
  exact ⟨b, off, ha, by rw [hb.cell (Nat.lt_of_lt_of_le (cell_lt h1) hB)]; exact h1, by rw [hb.cell (Nat.lt_of_lt_of_le (cell_lt h2) hB)]; exact h2⟩

theorem rrow_of {w : World} {a : Option Addr} {l : List Q} (h : QRow w a l) (hi : ∀ x ∈ l, IRow w x.a x.r.right) : RRow w a (l.map (·.r)) := fun i r hr => by
  rw [List.getElem?_map] at hr
  cases hx : l[i]? with
  | none => rw [hx] at hr; cases hr
  | some x =>
    rw [hx] at hr
    obtain rfl : x.r = r := by simpa using hr
    obtain ⟨b, off, ha, h1, h2⟩ := h i x hx
    exact ⟨b, off, x.a, x.c, ha, h1, h2, hi x (List.mem_of_getElem? hx)⟩

theorem qrow_own {w : World} {base : Nat} {e : TypeId} {g c n : Nat} {l : List Q} (hn : n = l.length) (h : w.ownsRow base e 2 (.slice (some ⟨g, 0, none⟩) n c) n (cellsQ l)) : QRow w (some ⟨g, 0, none⟩) l := by
  intro i x hi
  subst hn
  have hlt := (List.getElem?_eq_some_iff.1 hi).1
  obtain ⟨h1, h2⟩ := cellsQ_get l i x hi
  refine ⟨g, 0, rfl, ?_, ?_⟩
  · rw [Nat.zero_add, h.cellAt (i * 2) (by omega)]; exact h1
  · rw [Nat.zero_add, h.cellAt (i * 2 + 1) (by omega)]; exact h2

end Go.Proofs.YtbeflhpekklgoaaGreatDoor.GramLess

namespace Go.Proofs.YtbeflhpekklgoaaGreatDoor.GramLent
open Go.RowKit Go.Proofs.YtbeflhpekklgoaaGreatDoor.GramMath Go.Proofs.YtbeflhpekklgoaaGreatDoor.GramRow Go.Proofs.YtbeflhpekklgoaaGreatDoor.GramSame Go.Proofs.YtbeflhpekklgoaaGreatDoor.GramLess
set_option linter.unusedVariables false

theorem infoR : (Tryz.prog.info? 40).map (fun i => (i.zero, i.size, i.bytes)) = some (some (.agg #[.int .i64 0, .slice none 0 0]), 2, 32) := by kernel_rfl

/-- Rules in a row; a right side that is no list has no place behind it. -/
def RRowN (w : World) (a : Option Addr) (rs : List R) : Prop :=
  ∀ i r, rs[i]? = some r → ∃ b off ra rc, a = some ⟨b, off, none⟩ ∧ w.cell? ⟨b, off + i * 2, none⟩ = some (.int .i64 r.left) ∧ w.cell? ⟨b, off + i * 2 + 1, none⟩ = some (.slice ra r.right.length rc) ∧ IRow w ra r.right ∧ (ra = none → r.right.length = 0 ∧ rc = 0)

theorem RRowN.below {w w' : World} {a : Option Addr} {rs : List R} {B : Nat} (h : RRowN w a rs) (hb : Below B w w') (hB : w.heap.size ≤ B) : RRowN w' a rs := fun i x hx => by
  obtain ⟨b, off, ra, rc, ha, h1, h2, h3, h4⟩ := h i x hx
  exact ⟨b, off, ra, rc, ha, by rw [hb.cell (Nat.lt_of_lt_of_le (cell_lt h1) hB)]; exact h1, by rw [hb.cell (Nat.lt_of_lt_of_le (cell_lt h2) hB)]; exact h2, h3.below hb hB, h4⟩

/-- A rule whose right side is a lent list that lies elsewhere than a value. -/
def LentAt (B : Nat) (w : World) (u : Value) (x : Q) : Prop := ∃ b, x.a = some ⟨b, 0, none⟩ ∧ B ≤ b ∧ u.ownBlock ≠ some b ∧ x.r.right.length < x.c ∧ IRow w x.a (x.r.right ++ [-7171])

theorem LentAt.below {w w' : World} {u : Value} {x : Q} {B C : Nat} (h : LentAt C w u x) (hb : Below B w w') (hB : w.heap.size ≤ B) : LentAt C w' u x := by
  obtain ⟨b, h1, h0, h2, h3, h4⟩ := h
  exact ⟨b, h1, h0, h2, h3, h4.below hb hB⟩

theorem LentAt.weak {w : World} {u : Value} {x : Q} {B : Nat} (h : LentAt B w u x) : LentAt 0 w u x := by
  obtain ⟨b, h1, h0, h2, h3, h4⟩ := h
  exact ⟨b, h1, Nat.zero_le _, h2, h3, h4⟩

theorem cells_new (w : World) (C : Array Value) (t : TypeId) : ∀ j u, C.toList[j]? = some u → (w.alloc (.cells C t)).cell? ((⟨w.heap.size, 0, none⟩ : Addr).add j) = some u := by
  intro j u hj
  have h := World.cell?_alloc_mark w C t (0, 0) j
  rw [Addr.add_lit, Nat.zero_add]
  rw [show (w.alloc (.cells C t)).cell? ⟨w.heap.size, j, none⟩ = C[j]? from h]
  simpa using hj

theorem own_cap2 {w : World} {base : Nat} {e : TypeId} {g n c : Nat} {xs : List Value} (h : w.ownsRow base e 2 (.slice (some ⟨g, 0, none⟩) n c) n xs) : n ≤ c ∧ c ≤ maxLen ∧ base ≤ g := by
  obtain ⟨_, h | ⟨g', cap, cur, hv, hb, _, hn, hm, _⟩⟩ := h
  · exact absurd h.1 (by simp)
  · simp at hv
    obtain ⟨rfl, rfl⟩ := hv
    exact ⟨hn, hm, hb⟩

theorem own_below {w w' : World} {base : Nat} {e : TypeId} {size n : Nat} {v : Value} {xs : List Value} (h : w.ownsRow base e size v n xs) (hb : Below w.heap.size w w') : w'.ownsRow base e size v n xs := by
  obtain ⟨h1, h | ⟨g, cap, cur, hv, hbb, hg, rest⟩⟩ := h
  · exact ⟨h1, .inl h⟩
  · exact ⟨h1, .inr ⟨g, cap, cur, hv, hbb, (hb.block g (Array.getElem?_eq_some_iff.1 hg).1).trans hg, rest⟩⟩

theorem grown_cell {w w' : World} {o : Option Nat} {p : Addr} {v : Value} (h : w.grownBy w' o) (hc : w.cell? p = some v) (ho : o ≠ some p.block) : w'.cell? p = some v := by
  rw [World.cell?_of_block (h.block p.block (cell_lt hc) (fun e => ho e.symm))]
  exact hc

theorem grown_row {w w' : World} {o : Option Nat} {b : Nat} {zs : List Int} (h : w.grownBy w' o) (hr : IRow w (some ⟨b, 0, none⟩) zs) (ho : o ≠ some b) : IRow w' (some ⟨b, 0, none⟩) zs := fun i x hx => by
  obtain ⟨b', off, ha, hc⟩ := hr i x hx
  cases ha
  exact ⟨b, 0, rfl, grown_cell h hc ho⟩

theorem row_lt {w : World} {b : Nat} {zs : List Int} {x : Int} (h : IRow w (some ⟨b, 0, none⟩) (zs ++ [x])) : b < w.heap.size := cell_lt (row_markI h)

/-- An append to the row of rules leaves the lent right sides alone. -/
theorem LentAt.step {B : Nat} {w w1 w' : World} {o : Obj} {g' m c' : Nat} {u : Value} {x : Q} (h : LentAt B w u x) (hb : Below w.heap.size w w1) (hg : (w1.alloc o).grownBy w' u.ownBlock) (hat : u.ownBlock = some g' ∨ g' = w1.heap.size + 1) : LentAt B w' (.slice (some ⟨g', 0, none⟩) m c') x := by
  obtain ⟨b, h1, h0, h2, h3, h4⟩ := h
  rw [h1] at h4
  have hl := row_lt h4
  have hs := hb.size
  have h5 := (h4.below hb (Nat.le_refl _)).below ((Below.refl w1.heap.size w1).alloc (Nat.le_refl _) o) (Nat.le_refl _)
  refine ⟨b, h1, h0, ?_, h3, by rw [h1]; exact grown_row hg h5 h2⟩
  simp only [Value.ownBlock, ne_eq, Option.some.injEq]
  rintro rfl
  rcases hat with hat | hat
  · exact h2 hat
  · omega

theorem LentAt.new {B : Nat} {w w1 w' : World} {o : Obj} {base n g g' m c c' : Nat} {e : TypeId} {u : Value} {xs : List Value} {r : R} (hown : w.ownsRow base e 2 u n xs) (hrow : IRow w1 (some ⟨g, 0, none⟩) (r.right ++ [-7171])) (hBg : B ≤ g) (hgs : w.heap.size ≤ g) (hgc : r.right.length < c) (hg : (w1.alloc o).grownBy w' u.ownBlock) (hat : u.ownBlock = some g' ∨ g' = w1.heap.size + 1) : LentAt B w' (.slice (some ⟨g', 0, none⟩) m c') ⟨r, some ⟨g, 0, none⟩, c⟩ := by
  have hl := row_lt hrow
  have h5 := hrow.below ((Below.refl w1.heap.size w1).alloc (Nat.le_refl _) o) (Nat.le_refl _)
  have hne : u.ownBlock ≠ some g := fun e => by
    have := (hown.lt _ e).2
    omega
  refine ⟨g, rfl, hBg, ?_, hgc, grown_row hg h5 hne⟩
  simp only [Value.ownBlock, ne_eq, Option.some.injEq]
  rintro rfl
  rcases hat with hat | hat
  · exact hne hat
  · omega

set_option maxRecDepth 100000 in
set_option maxHeartbeats 1600000 in
theorem lentR (a : Option Addr) (ca : Nat) (rs : List R) (w : World) (ha : RRowN w a rs) (hm : rs.length * 32 ≤ 140737488351232) (hr : ∀ r ∈ rs, okR r ∧ r.right.length * 8 ≤ 140737488351232) :
    Calls Tryz.prog 15 #[.slice a rs.length ca] w fun e w' => (∃ g c lq, e = .returned (.slice (some ⟨g, 0, none⟩) rs.length c) ∧ rs.length < c ∧ c ≤ maxLen ∧ w.heap.size ≤ g ∧ lq.map (·.r) = rs ∧ QRow w' (some ⟨g, 0, none⟩) (lq ++ [⟨⟨-7171, []⟩, none, 0⟩]) ∧ ∀ x ∈ lq, LentAt w.heap.size w' .nilIface x) ∧ Below w.heap.size w w' := by
  obtain ⟨i0, hi, hz0, hz1, hz2⟩ := info_parts infoR
  go_enter Tryz.func15, Tryz.ntmps15
  go_wp2
  go_loopw [3, 4] (fun u i wr => ∃ (k : Nat) (lq : List Q), k ≤ rs.length ∧ i = .int .i64 k ∧ lq.map (·.r) = rs.take k ∧ wr.ownsRow w.heap.size 40 2 u k (cellsQ lq) ∧ (∀ x ∈ lq, LentAt w.heap.size wr u x) ∧ Below w.heap.size w wr) (fun _ i _ => rs.length - (intOf i).toNat)
  case atStart => exact ⟨0, [], by omega, rfl, rfl, World.ownsRow_nil _ _ _ _, (fun x hx => by cases hx), Below.refl _ _⟩
  case round =>
    obtain ⟨k, lq, hk, rfl, hlq, hown, hlent, hB⟩ := hrel
    have hsB := hB.size
    by_cases hlt : k < rs.length
    · obtain ⟨r, hrk⟩ : ∃ r, rs[k]? = some r := ⟨rs[k], List.getElem?_eq_getElem hlt⟩
      have hrm := hr r (List.mem_of_getElem? hrk)
      obtain ⟨b, off, ra, rc, rfl, hc1, hc2, hrow, hnil⟩ := (ha.below hB (Nat.le_refl _)) k r hrk
      have hq := lentI ra rc r.right wr hrow hrm.2 hnil
      go_wp2_with fail
      refine hq.mono ?_
      rintro e w1 ⟨⟨g, c, rfl, hgc, hcm, hgs, hrow1⟩, hb1⟩
      have hs1 := hb1.size
      have hown1 := own_below hown hb1
      have hc1' : w1.cell? ⟨b, off + k * 2, none⟩ = some (.int .i64 r.left) := by rw [hb1.cell (cell_lt hc1)]; exact hc1
      have hB1 : Below w.heap.size w w1 := hB.trans (hb1.mono hsB)
      go_wp2_with (at_builtin; refine wpList_append_lies _ rfl _ _ 23 rfl w.heap.size 40 i0 (.agg #[.int .i64 0, .slice none 0 0]) 2 32 Tryz.underlying23 hi hz0 hz1 hz2 rfl (by decide) _ _ _ rfl (hown1.alloc _) ⟨w1.heap.size, 0, none⟩ 1 1 [.int .i64 r.left, .slice (some ⟨g, 0, none⟩) r.right.length c] rfl rfl (cells_new _ #[_, _] _) (by simp [Value.oneCell']) (by omega) (by unfold maxLen; omega) (by omega) (by simp; omega) (w1.heap.size + 1) (by simp) ?_; intro g' c' w' hown' hgrow' hat' hlt')
      have hl2 : ∀ x ∈ lq ++ [⟨r, some ⟨g, 0, none⟩, c⟩], LentAt w.heap.size w' (.slice (some ⟨g', 0, none⟩) (k + 1) c') x := fun x hx => by
        rcases List.mem_append.1 hx with hx | hx
        · exact (hlent x hx).step hb1 hgrow' hat'
        · obtain rfl := List.mem_singleton.1 hx
          exact LentAt.new hown hrow1 (by omega) hgs hgc hgrow' hat'
      have hB2 : Below w.heap.size w w' := (hB1.alloc (by omega) _).grown hgrow' (by simp; omega) (fun k hk => (hown.lt k hk).1)
      have hmap : (lq ++ [(⟨r, some ⟨g, 0, none⟩, c⟩ : Q)]).map (·.r) = rs.take (k + 1) := by rw [List.map_append, hlq, List.take_add_one, hrk]; rfl
      have hown2 : w'.ownsRow w.heap.size 40 2 (.slice (some ⟨g', 0, none⟩) (k + 1) c') (k + 1) (cellsQ (lq ++ [⟨r, some ⟨g, 0, none⟩, c⟩])) := by rw [cellsQ_app]; exact hown'
      go_roundw
      case rel => exact ⟨k + 1, _, by omega, by go_num, hmap, hown2, hl2, hB2⟩
      case measure => simp [intOf]; omega
    · obtain rfl : k = rs.length := by omega
      rw [List.take_length] at hlq
      go_wp2_with (at_builtin; refine wpList_append_lies _ rfl _ _ 23 rfl w.heap.size 40 i0 (.agg #[.int .i64 0, .slice none 0 0]) 2 32 Tryz.underlying23 hi hz0 hz1 hz2 rfl (by decide) _ _ _ rfl (hown.alloc _) ⟨wr.heap.size, 0, none⟩ 1 1 [.int .i64 (-7171), .slice none 0 0] rfl rfl (cells_new _ #[_, _] _) (by simp [Value.oneCell']) (by omega) (by unfold maxLen; omega) (by omega) (by simp; omega) (wr.heap.size + 1) (by simp) ?_; intro g' c' w' hown' hgrow' hat' hlt'; have hcap := own_cap2 hown')
      have hlen : lq.length = rs.length := by rw [← hlq, List.length_map]
      have hown2 : w'.ownsRow w.heap.size 40 2 (.slice (some ⟨g', 0, none⟩) (rs.length + 1) c') (rs.length + 1) (cellsQ (lq ++ [⟨⟨-7171, []⟩, none, 0⟩])) := by rw [cellsQ_app]; exact hown'
      have hQ := qrow_own (by simp [hlen]) hown2
      have hl2 : ∀ x ∈ lq, LentAt w.heap.size w' .nilIface x := fun x hx => by
        obtain ⟨b, h1, h0, _, h3, h4⟩ := (hlent x hx).step (m := 0) (c' := 0) (Below.refl _ _) hgrow' hat'
        exact ⟨b, h1, h0, (fun e => by cases e), h3, h4⟩
      have hB2 : Below w.heap.size w w' := (hB.alloc (by omega) _).grown hgrow' (by simp; omega) (fun k hk => (hown.lt k hk).1)
      go_ret
      exact ⟨⟨g', c', lq, rfl, by omega, hcap.2.1, hcap.2.2, hlq, hQ, hl2⟩, hB2⟩

end Go.Proofs.YtbeflhpekklgoaaGreatDoor.GramLent

namespace Go.Proofs.YtbeflhpekklgoaaGreatDoor.GramLent
open Go.RowKit Go.Proofs.YtbeflhpekklgoaaGreatDoor.GramMath Go.Proofs.YtbeflhpekklgoaaGreatDoor.GramRow Go.Proofs.YtbeflhpekklgoaaGreatDoor.GramSame Go.Proofs.YtbeflhpekklgoaaGreatDoor.GramLess
set_option linter.unusedVariables false

end Go.Proofs.YtbeflhpekklgoaaGreatDoor.GramLent
