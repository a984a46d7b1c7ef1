/-
  A list and one number behind it: what the library's Grow and Concat come to there.
-/
import Derived.Test.YtffdnpjkcchmnaaDoorGramLentR
import Derived.Lib.AppendZeros
import Derived.Lib.SliceRun
namespace Go.Proofs.YtffdnpjkcchmnaaDoor.EndsConcat
open Go.RowKit Go.Proofs.YtffdnpjkcchmnaaDoor.GramMath Go.Proofs.YtffdnpjkcchmnaaDoor.GramRow Go.Proofs.YtffdnpjkcchmnaaDoor.GramLent
set_option linter.unusedVariables false

abbrev intsL (zs : List Int) : List Value := zs.map (Value.int .i64)

set_option maxRecDepth 100000 in
set_option maxHeartbeats 1600000 in
theorem grow_nil (n : Nat) (w : World) (h0 : 0 < n) (hn : n ≤ 1000000) :
    Calls Tryd.prog 97 #[.slice none 0 0, .int .i64 n] w fun e w' => (∃ c, e = .returned (.slice (some ⟨w.heap.size, 0, none⟩) 0 c) ∧ w'.ownsRow w.heap.size 3 1 (.slice (some ⟨w.heap.size, 0, none⟩) 0 c) 0 []) ∧ Below w.heap.size w w' := by
  obtain ⟨i0, hi, hz0, hz1, hz2⟩ := info_parts infoI
  have hrun : ∀ ty, (Builtin.append_ #[27, 3] ty #[.slice none 0 0, .int .i64 n]).run Tryd.prog w = .ok (.slice (some ⟨w.heap.size, 0, none⟩) n (grownCap w n 0 3)) (w.drew.alloc (.cells (Builtin.zeroCells (Value.int .i64 0).cells n ++ Builtin.zeroCells (Value.int .i64 0).cells (grownCap w n 0 3 - n)) 3)) := fun ty =>
    Lib.run_append_nil_zeros w 27 3 ty 3 i0 (.int .i64 0) .i64 .i64 Tryd.underlying27 Tryd.underlying3 hi hz0 n h0 (by rw [hz1]; decide) (by omega) (by rw [hz2]; omega)
  have hG := grownCap_ge w n 0 3
  have hG2 := grownCap_le_maxLen w n 0 3 (by unfold maxLen; omega)
  have hG3 : Hid (grownCap w n 0 3 ≤ maxLen) := hG2
  have hG4 : (grownCap w n 0 3 : Int) ≤ 9223372036854775807 := by unfold maxLen at hG2; omega
  clear hG2
  generalize grownCap w n 0 3 = c at *
  have hcz : (Builtin.zeroCells (Value.int .i64 0).cells n ++ Builtin.zeroCells (Value.int .i64 0).cells (c - n)).size = c * 1 := by
    rw [Array.size_append, size_zeroCells, size_zeroCells]
    simp [Value.cells]
    omega
  generalize Builtin.zeroCells (Value.int .i64 0).cells n ++ Builtin.zeroCells (Value.int .i64 0).cells (c - n) = cur at *
  have hB : Below w.heap.size w (w.drew.alloc (.cells cur 3)) := (show Below w.heap.size w w.drew from ⟨rfl, rfl, rfl, Nat.le_refl _, fun _ _ => rfl⟩).alloc (Nat.le_refl _) _
  have hown : (w.drew.alloc (.cells cur 3)).ownsRow w.heap.size 3 1 (.slice (some ⟨w.heap.size, 0, none⟩) 0 c) 0 [] := ⟨rfl, .inr ⟨w.heap.size, c, cur, rfl, Nat.le_refl _, heap_alloc_new w.drew _, Nat.zero_le _, hG3.out, hcz, rfl⟩⟩
  have h1 : ¬ ((n : Int) < 0) := by omega
  have h4 : (n : Int) > 0 := by omega
  go_enter Tryd.func97, Tryd.ntmps97
  go_wp2_with (at_builtin; refine Lib.wpList_append_run _ rfl _ _ _ _ rfl _ _ rfl rfl _ _ (hrun _) ?_)
  go_ret
  exact ⟨⟨c, rfl, hown⟩, hB⟩

theorem irow_src {w : World} {x : Addr} {zs : List Int} (h : IRow w (some x) zs) : ∀ j u, (intsL zs)[j]? = some u → w.cell? (x.add j) = some u := by
  intro j u hj
  rw [List.getElem?_map, Option.map_eq_some_iff] at hj
  obtain ⟨y, hy, rfl⟩ := hj
  obtain ⟨b, off, hx, hc⟩ := h j y hy
  obtain rfl : x = ⟨b, off, none⟩ := by simpa using hx
  rw [Addr.add_lit]; exact hc
theorem ints_one (zs : List Int) : ∀ u ∈ intsL zs, u.oneCell' = true := by
  intro u hu
  obtain ⟨y, _, rfl⟩ := List.mem_map.1 hu
  rfl

/-- What is known of the new list in each round. -/
def CRel (l : List Int) (k : Int) (w w1 : World) (c1 : Nat) (v i : Value) (wr : World) : Prop :=
  (v = .slice (some ⟨w.heap.size, 0, none⟩) 0 c1 ∧ i = .int .i64 0 ∧ wr = w1) ∨ (i = .int .i64 1 ∧ wr.ownsRow w.heap.size 3 1 v l.length (intsL l) ∧ Below w.heap.size w wr) ∨ (i = .int .i64 2 ∧ wr.ownsRow w.heap.size 3 1 v (l.length + 1) (intsL (l ++ [k])) ∧ Below w.heap.size w wr)

set_option maxRecDepth 100000 in
set_option maxHeartbeats 4000000 in
theorem concat_any (b d : Nat) (a : Option Addr) (c : Nat) (l : List Int) (k : Int) (w : World) (h0 : w.cell? ⟨b, 0, none⟩ = some (.slice a l.length c)) (h1 : w.cell? ⟨b, 1, none⟩ = some (.slice (some ⟨d, 0, none⟩) 1 1)) (hd : w.cell? ⟨d, 0, none⟩ = some (.int .i64 k)) (hI : IRow w a l) (hnil : a = none → l.length = 0 ∧ c = 0) (hl : l.length ≤ 1000) :
    Calls Tryd.prog 91 #[.slice (some ⟨b, 0, none⟩) 2 2] w fun e w' => (∃ g cap, e = .returned (.slice (some ⟨g, 0, none⟩) (l.length + 1) cap) ∧ w'.ownsRow w.heap.size 3 1 (.slice (some ⟨g, 0, none⟩) (l.length + 1) cap) (l.length + 1) (intsL (l ++ [k]))) ∧ Below w.heap.size w w' := by
  obtain ⟨i0, hi, hz0, hz1, hz2⟩ := info_parts infoI
  go_enter Tryd.func91, Tryd.ntmps91
  go_wp2
  go_loop [3, 11] (fun s i => (s = .int .i64 0 ∧ i = .int .i64 0) ∨ (s = .int .i64 (l.length : Int) ∧ i = .int .i64 1) ∨ (s = .int .i64 ((l.length + 1 : Nat) : Int) ∧ i = .int .i64 2)) (fun _ i => 2 - (intOf i).toNat)
  case atStart => exact .inl ⟨rfl, rfl⟩
  case round =>
    rcases hrel with ⟨rfl, rfl⟩ | ⟨rfl, rfl⟩ | ⟨rfl, rfl⟩
    · have hp : ¬ (l.length : Int) < 0 := by omega
      go_wp2
      go_round
      case rel => exact .inr (.inl ⟨by go_num, rfl⟩)
      case measure => simp [intOf]
    · have hp : ¬ (l.length : Int) + 1 < 0 := by omega
      go_wp2
      go_round
      case rel => exact .inr (.inr ⟨by go_num, rfl⟩)
      case measure => simp [intOf]
    · go_wp2_with fail
      refine (grow_nil (l.length + 1) w (by omega) (by omega)).mono ?_
      rintro e w1 ⟨⟨c1, rfl, hown1⟩, hb1⟩
      have hI1 := hI.below hb1 (Nat.le_refl _)
      have h01 := (hb1.cell (cell_lt h0)).trans h0
      have h11 := (hb1.cell (cell_lt h1)).trans h1
      have hd1 := (hb1.cell (cell_lt hd)).trans hd
      have lb := cell_lt h0
      have ld := cell_lt hd
      dsimp only at lb ld
      have hs1 := hb1.size
      go_wp2
      go_loopw [6, 27] (fun v i wr => CRel l k w w1 c1 v i wr) (fun _ i _ => 2 - (intOf i).toNat)
      case atStart => exact .inl ⟨rfl, rfl, rfl⟩
      case round =>
        rcases hrel with ⟨rfl, rfl, hwr⟩ | ⟨rfl, hown, hB⟩ | ⟨rfl, hown, hB⟩
        · obtain rfl := hwr.symm
          cases a with
          | none =>
            obtain ⟨hz, rfl⟩ := hnil rfl
            obtain rfl : l = [] := List.length_eq_zero_iff.1 hz
            go_wp2_with (at_builtin; refine wpList_append_own_none rfl _ _ 27 rfl w.heap.size 3 i0 1 Tryd.underlying27 hi _ _ _ rfl hown1 rfl ?_)
            go_roundw
            case rel => exact ⟨_, _, _, .inr (.inl ⟨rfl, hown1, hb1⟩), rfl, rfl, rfl⟩
            case measure => simp [intOf]
          | some x =>
            have hsrc := irow_src hI1
            go_wp2_with (at_builtin; refine wpList_append_own _ rfl _ _ 27 rfl w.heap.size 3 i0 (.int .i64 0) 1 8 Tryd.underlying27 hi hz0 hz1 hz2 rfl (by decide) _ _ _ rfl hown1 x l.length c (intsL l) rfl (by simp) hsrc (ints_one l) (by unfold maxLen; omega) (by omega) (by omega) ?_; intro v2 w2 hown2 hgrow2 hnn; simp only [Nat.zero_add, List.nil_append] at hown2)
            have hB2 := hb1.grown hgrow2 (by omega) (fun k hk => (hown1.lt k hk).1)
            go_roundw
            case rel => exact .inr (.inl ⟨rfl, hown2, hB2⟩)
            case measure => simp [intOf]
        · have hd2 := (hB.cell (cell_lt hd)).trans hd
          have h12 := (hB.cell (cell_lt h1)).trans h1
          have hs2 := hB.size
          have hsrc : ∀ j u, [Value.int .i64 k][j]? = some u → wr.cell? ((⟨d, 0, none⟩ : Addr).add j) = some u := fun j u hj => by
            match j, hj with
            | 0, hj => obtain rfl : Value.int .i64 k = u := by simpa using hj
                       simpa [Addr.add] using hd2
            | j + 1, hj => simp at hj
          clear h0 h1 hd h01 h11 hd1 hI hI1
          go_wp2_with (at_builtin; refine wpList_append_own _ rfl _ _ 27 rfl w.heap.size 3 i0 (.int .i64 0) 1 8 Tryd.underlying27 hi hz0 hz1 hz2 rfl (by decide) _ _ _ rfl hown ⟨d, 0, none⟩ 1 1 [.int .i64 k] rfl rfl hsrc (by simp [Value.oneCell']) (by unfold maxLen; omega) (by omega) (by omega) ?_; intro v2 w2 hown2 hgrow2 hnn)
          have hB2 := hB.grown hgrow2 (by omega) (fun k hk => (hown.lt k hk).1)
          have hown3 : w2.ownsRow w.heap.size 3 1 v2 (l.length + 1) (intsL (l ++ [k])) := by simpa [intsL] using hown2
          go_roundw
          case rel => exact .inr (.inr ⟨rfl, hown3, hB2⟩)
          case measure => simp [intOf]
        · obtain ⟨g, cap, rfl⟩ := ownsRow_succ hown
          clear h0 h1 hd h01 h11 hd1 hI hI1
          go_wp2
          go_ret
          exact ⟨⟨g, cap, rfl, hown⟩, hB⟩

end Go.Proofs.YtffdnpjkcchmnaaDoor.EndsConcat
