/-
  Texts that stand together: GraphSort, GramBut, GraphFn.
-/
import Derived.Test.YtcoepmpgclndiaaGreatDoorBagGraphMath
import Derived.Test.YtcoepmpgclndiaaGreatDoorBGramBase
import Derived.Sort.OwnSortedInts
import Derived.OwnWalk
import Derived.Test.YtcoepmpgclndiaaGreatDoorBagGramEq
import Derived.Maps.AppendAt
namespace Go.Proofs.YtcoepmpgclndiaaGreatDoor.GraphSort
open Go.RowKit Go.Sort Go.Proofs.YtcoepmpgclndiaaGreatDoor.GramMath Go.Proofs.YtcoepmpgclndiaaGreatDoor.GramRow Go.Proofs.YtcoepmpgclndiaaGreatDoor.GraphMath
set_option linter.unusedVariables false

def srt (zs : List Int) : List Int := zs.mergeSort fun x y => decide (x ≤ y)
theorem srt_length (zs : List Int) : (srt zs).length = zs.length := List.length_mergeSort ..
theorem grow_none (w : World) : grow w #[] = w := by simp [grow]
def iV (zs : List Int) : List Value := zs.map (Value.int .i64)
theorem sort_own (base n : Nat) (v : Value) (zs : List Int) (w : World) (h : w.ownsRow base 3 1 v n (iV zs)) (hn : n ≤ 1000000) :
    Calls Tryz.prog 68 #[v] w fun e w' => e = .returned (.tuple #[]) ∧ w'.ownsRow base 3 1 v n (iV (srt zs)) ∧ w.grownBy w' v.ownBlock := by
  obtain ⟨hl, ⟨rfl, rfl⟩ | ⟨g, cap, cur, rfl, hb, hg, h1, h2, h3, h4⟩⟩ := h
  · obtain rfl : zs = [] := List.length_eq_zero_iff.1 (by simpa [iV] using hl)
    refine (Tryz.slices_Sort_int_none none 0 w).mono ?_
    rintro e w' ⟨he, rfl⟩
    exact ⟨he, ⟨by simp [iV, srt], .inl ⟨rfl, rfl⟩⟩, ⟨rfl, rfl, rfl, Nat.le_refl _, fun _ _ _ => rfl⟩⟩
  · have e0 : n = zs.length := by simpa [iV] using hl.symm
    subst e0
    refine (Tryz.slices_Sort_int g 0 cap zs w (holds_of_blockI hg (by rw [Nat.mul_one] at h4; exact h4)) (Array.getElem?_eq_some_iff.1 hg).1 (by omega)).mono ?_
    rintro e w' ⟨he, q, os, rfl⟩
    exact ⟨he, ownsRow_sortedI (srt_length zs) hb hg h1 h2 h3, grownBy_sortedI _⟩

theorem reverse_own (base n : Nat) (v : Value) (zs : List Int) (w : World) (h : w.ownsRow base 3 1 v n (iV zs)) (hn : n ≤ 1000000) :
    Calls Tryz.prog 87 #[v] w fun e w' => e = .returned (.tuple #[]) ∧ w'.ownsRow base 3 1 v n (iV zs.reverse) ∧ w.grownBy w' v.ownBlock := by
  obtain ⟨hl, ⟨rfl, rfl⟩ | ⟨g, cap, cur, rfl, hb, hg, h1, h2, h3, h4⟩⟩ := h
  · obtain rfl : zs = [] := List.length_eq_zero_iff.1 (by simpa [iV] using hl)
    refine (Tryz.slices_Reverse_int_empty none 0 w).mono ?_
    rintro e w' ⟨he, rfl⟩
    exact ⟨he, ⟨by simp [iV], .inl ⟨rfl, rfl⟩⟩, ⟨rfl, rfl, rfl, Nat.le_refl _, fun _ _ _ => rfl⟩⟩
  · have e0 : n = zs.length := by simpa [iV] using hl.symm
    subst e0
    refine (Tryz.slices_Reverse_int g 0 cap zs w (holds_of_blockI hg (by rw [Nat.mul_one] at h4; exact h4)) (by omega)).mono ?_
    rintro e w' ⟨he, q, rfl⟩
    rw [← grow_none (putRow _ _ _ _ _)]
    exact ⟨he, ownsRow_sortedI (by simp) hb hg h1 h2 h3, grownBy_sortedI _⟩

theorem compact_le (zs : List Int) : (Lib.compact zs).length ≤ zs.length := by
  unfold Lib.compact Lib.compactUpTo
  rw [List.length_map]
  refine Nat.le_trans (List.length_filter_le _ _) ?_
  simp

theorem compact_own (base n : Nat) (v : Value) (zs : List Int) (w : World) (h : w.ownsRow base 3 1 v n (iV zs)) (hn : n ≤ 1000000) :
    Calls Tryz.prog 69 #[v] w fun e w' => ∃ v', e = .returned v' ∧ w'.ownsRow base 3 1 v' (Lib.compact zs).length (iV (Lib.compact zs)) ∧ w.grownBy w' v.ownBlock ∧ v'.ownBlock = v.ownBlock := by
  obtain ⟨hl, ⟨rfl, rfl⟩ | ⟨g, cap, cur, rfl, hb, hg, h1, h2, h3, h4⟩⟩ := h
  · obtain rfl : zs = [] := List.length_eq_zero_iff.1 (by simpa [iV] using hl)
    refine (Tryz.slices_Compact_int_empty none 0 w).mono ?_
    rintro e w' ⟨he, rfl⟩
    exact ⟨_, he, ⟨by simp [iV, Lib.compact, Lib.compactUpTo], .inl ⟨rfl, rfl⟩⟩, ⟨rfl, rfl, rfl, Nat.le_refl _, fun _ _ _ => rfl⟩, rfl⟩
  · have e0 : n = zs.length := by simpa [iV] using hl.symm
    subst e0
    have hle := compact_le zs
    refine (Tryz.slices_Compact_int g 0 cap zs w (holds_of_blockI hg (by rw [Nat.mul_one] at h4; exact h4)) (by omega) h1).mono ?_
    rintro e w' ⟨he, q, rfl⟩
    rw [← grow_none (putRow _ _ _ _ _)]
    obtain ⟨L, hL⟩ : ∃ L, L = Lib.compact zs ++ List.replicate (zs.length - (Lib.compact zs).length) 0 := ⟨_, rfl⟩
    have hLl : L.length = zs.length := by rw [hL]; simp; omega
    rw [← hL]
    refine ⟨_, he, ⟨by simp [iV], .inr ⟨g, cap, _, rfl, hb, heap_sortedI _ hg, by omega, h2, by simp [putCells, h3], ?_⟩⟩, grownBy_sortedI _, rfl⟩
    have hp := take_putCellsI cur L (by omega)
    rw [Nat.mul_one]
    have h5 : ((putCells (Value.int .i64) 0 L.toArray cur).toList.take L.length).take (Lib.compact zs).length = (L.map (Value.int .i64)).take (Lib.compact zs).length := by rw [hp]
    rw [List.take_take, Nat.min_eq_left (by omega)] at h5
    rw [h5, hL, List.map_append, List.take_left' (by simp)]
    rfl

end Go.Proofs.YtcoepmpgclndiaaGreatDoor.GraphSort

namespace Go.Proofs.YtcoepmpgclndiaaGreatDoor.GramApart
open Go.RowKit Go.Proofs.YtcoepmpgclndiaaGreatDoor.GramMath Go.Proofs.YtcoepmpgclndiaaGreatDoor.GramRow
set_option linter.unusedVariables false

structure But (S : Nat → Prop) (w w' : World) : Prop where
  os : w'.os = w.os
  tape : w'.tape = w.tape
  output : w'.output = w.output
  size : w.heap.size ≤ w'.heap.size
  block : ∀ k, k < w.heap.size → ¬ S k → w'.heap[k]? = w.heap[k]?

theorem But.refl (S : Nat → Prop) (w : World) : But S w w := ⟨rfl, rfl, rfl, Nat.le_refl _, fun _ _ _ => rfl⟩

theorem But.trans {S : Nat → Prop} {w w' w'' : World} (h : But S w w') (h2 : But S w' w'') : But S w w'' :=
  ⟨h2.os.trans h.os, h2.tape.trans h.tape, h2.output.trans h.output, Nat.le_trans h.size h2.size, fun k hk hs => (h2.block k (Nat.lt_of_lt_of_le hk h.size) hs).trans (h.block k hk hs)⟩

theorem But.of {S : Nat → Prop} {w w' : World} (h : Below w.heap.size w w') : But S w w' := ⟨h.os, h.tape, h.output, h.size, fun k hk _ => h.block k hk⟩

theorem But.on {S : Nat → Prop} {w w' w'' : World} (h : But S w w') (h2 : Below w'.heap.size w' w'') : But S w w'' := h.trans (But.of h2)

theorem But.setCell {S : Nat → Prop} {w w' : World} (h : But S w w') {p : Addr} (hp : S p.block) (v : Value) : But S w (w'.setCell p v) :=
  ⟨h.os, h.tape, h.output, by simpa using h.size, fun k hk hs => by
    rw [Below.heap_setCell _ _ _ _ (fun e => hs (by rw [e]; exact hp))]
    exact h.block k hk hs⟩

theorem But.mono {S T : Nat → Prop} {w w' : World} (h : But S w w') (hst : ∀ k, k < w.heap.size → S k → T k) : But T w w' := ⟨h.os, h.tape, h.output, h.size, fun k hk hs => h.block k hk (fun e => hs (hst k hk e))⟩

theorem But.below {S : Nat → Prop} {w w' : World} {B : Nat} (h : But S w w') (hB : B ≤ w.heap.size) (hs : ∀ k, S k → B ≤ k) : Below B w w' := ⟨h.os, h.tape, h.output, h.size, fun k hk => h.block k (by omega) (fun e => by have := hs k e; omega)⟩

theorem RowAt.but {S : Nat → Prop} {w w' : World} {b : Nat} {t : TypeId} {cur : Array Value} (h : RowAt w b t cur) (hb : But S w w') (hs : ¬ S b) : RowAt w' b t cur := (hb.block b h.lt hs).trans h

theorem But.cell {S : Nat → Prop} {w w' : World} {p : Addr} (h : But S w w') (hlt : p.block < w.heap.size) (hs : ¬ S p.block) : w'.cell? p = w.cell? p := World.cell?_of_block (h.block p.block hlt hs)
theorem But.frozen {S : Nat → Prop} {w w' : World} {p : Addr} (h : But S w w') (hlt : p.block < w.heap.size) (hs : ¬ S p.block) : w'.frozen? p = w.frozen? p := by
  unfold World.frozen?
  rw [h.block p.block hlt hs]

end Go.Proofs.YtcoepmpgclndiaaGreatDoor.GramApart

namespace Go.Proofs.YtcoepmpgclndiaaGreatDoor.GraphFn
open Go.RowKit Go.Proofs.YtcoepmpgclndiaaGreatDoor.GramMath Go.Proofs.YtcoepmpgclndiaaGreatDoor.GramRow Go.Proofs.YtcoepmpgclndiaaGreatDoor.GramApart Go.Proofs.YtcoepmpgclndiaaGreatDoor.GraphMath
set_option linter.unusedVariables false

/-- Are all these numbers nodes? -/
def hasB (m : Nat) (zs : List Int) : Bool := zs.all (fun x => decide (0 ≤ x) && decide (x < (m : Int)))
theorem hasB_iff {m : Nat} {zs : List Int} : hasB m zs = true ↔ ∀ x ∈ zs, 0 ≤ x ∧ x < (m : Int) := by
  unfold hasB
  rw [List.all_eq_true]
  simp
theorem hasB_step {m k : Nat} {zs : List Int} {x : Int} (h : hasB m (zs.take k) = true) (hx : zs[k]? = some x) (h0 : 0 ≤ x) (h1 : x < (m : Int)) : hasB m (zs.take (k + 1)) = true := by
  rw [List.take_add_one, hx]
  unfold hasB at *
  rw [List.all_append, h]
  simp [h0, h1]
theorem hasB_no {m k : Nat} {zs : List Int} {x : Int} (hx : zs[k]? = some x) (h0 : ¬ (0 ≤ x ∧ x < (m : Int))) : hasB m zs = false := by
  cases h : hasB m zs with
  | false => rfl
  | true => exact absurd (hasB_iff.1 h x (List.mem_of_getElem? hx)) h0

set_option maxRecDepth 100000 in
set_option maxHeartbeats 1000000 in
theorem has_any (ga : Option Addr) (m gc : Nat) (a : Option Addr) (c : Nat) (zs : List Int) (w : World) (hI : IRow w a zs) (hl : zs.length ≤ 1125899906842624) (hx : ∀ x ∈ zs, I64 x) (hm : m ≤ 256) :
    Calls Tryz.prog 67 #[.slice ga m gc, .slice a zs.length c] w fun e w' => e = .returned (.bool (hasB m zs)) ∧ w' = w := by
  go_enter Tryz.func67, Tryz.ntmps67
  go_wp2
  go_loop [9] (fun i => ∃ k : Nat, k ≤ zs.length ∧ i = .int .i64 k ∧ Hid (hasB m (zs.take k) = true)) (fun i => zs.length - (intOf i).toNat)
  case atStart => exact ⟨0, by omega, rfl, rfl⟩
  case round =>
    obtain ⟨k, hk, rfl, hal⟩ := hrel
    by_cases hlt : k < zs.length
    · obtain ⟨x, hx1⟩ : ∃ x, zs[k]? = some x := ⟨zs[k], List.getElem?_eq_getElem hlt⟩
      obtain ⟨b', off, rfl, hc⟩ := hI k x hx1
      have hlt2 : (k : Int) < (zs.length : Int) := by omega
      obtain ⟨x1, x2⟩ := hx x (List.mem_of_getElem? hx1)
      by_cases h0 : x < 0
      · have E : Hid (hasB m zs = false) := hasB_no hx1 (by omega)
        have hd : decide (x < 0) = true := by simpa using h0
        clear hx1 hI hx hal
        go_wp2
        go_ret
        exact ⟨ret_bool E.out.symm, rfl⟩
      · have hd : decide (x < 0) = false := by simpa using h0
        by_cases h1 : (m : Int) ≤ x
        · have E : Hid (hasB m zs = false) := hasB_no hx1 (by omega)
          have hd1 : decide ((m : Int) ≤ x) = true := by simpa using h1
          clear hx1 hI hx hal
          go_wp2
          go_ret
          exact ⟨ret_bool E.out.symm, rfl⟩
        · have E : Hid (hasB m (zs.take (k + 1)) = true) := hasB_step hal.out hx1 (by omega) (by omega)
          have hd1 : decide ((m : Int) ≤ x) = false := by simpa using h1
          clear hx1 hI hx hal
          go_wp2
          go_round
          case rel => exact ⟨k + 1, by omega, by go_num, E⟩
          case measure => simp [intOf]; omega
    · have E : Hid (hasB m zs = true) := by show _ = _; rw [← hal.out, show k = zs.length by omega, List.take_length]
      clear hI hx hal
      go_wp2
      go_ret
      exact ⟨ret_bool E.out.symm, rfl⟩

theorem and32 {m : Nat} (h : m ≤ 256) : bits .and .u64 (m : Int) 4294967295 = (m : Int) := by
  have h2 : (List.range 257).all (fun m => decide (bits .and .u64 (m : Int) 4294967295 = (m : Int))) = true := by kernel_rfl
  exact of_decide_eq_true (List.all_eq_true.1 h2 m (by simp; omega))

set_option maxHeartbeats 1000000 in
theorem mul64_one (m : Nat) (hm : m ≤ 256) (w : World) :
    Calls Tryz.prog 111 #[.int .u64 1, .int .u64 (m : Int)] w fun e w' => e = .returned (.tuple #[.int .u64 0, .int .u64 (m : Int)]) ∧ w' = w := by
  have h1 := and32 hm
  have h2 : bits .and .u64 1 4294967295 = 1 := by kernel_rfl
  have h3 : bits .and .u64 0 4294967295 = 0 := by kernel_rfl
  have h4 : (m : Int) / 4294967296 = 0 := by omega
  go_enter Tryz.func111, Tryz.ntmps111
  go_wp2
  go_ret2
  exact ⟨rfl, rfl⟩

set_option maxHeartbeats 1000000 in
theorem mul_one (m : Nat) (hm : m ≤ 256) (w : World) :
    Calls Tryz.prog 101 #[.int .u64 1, .int .u64 (m : Int)] w fun e w' => e = .returned (.tuple #[.int .u64 0, .int .u64 (m : Int)]) ∧ w' = w := by
  have h1 := mul64_one m hm w
  go_enter Tryz.func101, Tryz.ntmps101
  go_wp2_with fail
  refine h1.mono ?_
  rintro e w1 ⟨rfl, hw1⟩
  obtain rfl := hw1.symm
  go_wp2
  go_ret2
  exact ⟨rfl, rfl⟩

/-- A tour in memory: where its nodes and what is ahead of them lie. -/
structure TourAt (w : World) (bt ba base m : Nat) (t : Tr) (v : Value) : Prop where
  box : RowAt w bt 146 #[v, .slice (some ⟨ba, 0, none⟩) m m]
  ahead : ∀ i, i < m → w.cell? ⟨ba, i, none⟩ = some (.int .i64 (t.ahead i)) ∧ w.frozen? ⟨ba, i, none⟩ = false
  nodes : w.ownsRow base 3 1 v t.nodes.length ((ints t.nodes).map (Value.int .i64))

set_option maxHeartbeats 1000000 in
theorem met_any (v : Value) (ba m : Nat) (f : Nat → Int) (x : Nat) (w : World) (hx : x < m) (ha : ∀ i, i < m → w.cell? ⟨ba, i, none⟩ = some (.int .i64 (f i))) (hm : m ≤ 256) :
    Calls Tryz.prog 102 #[.agg #[v, .slice (some ⟨ba, 0, none⟩) m m], .int .i64 (x : Int)] w fun e w' => e = .returned (.bool (f x != -1)) ∧ Below w.heap.size w w' := by
  have hc := ha x hx
  have hlt := cell_lt hc
  have hx2 : (x : Int) < (m : Int) := by omega
  have hc2 : (w.alloc (.cells #[v, .slice (some ⟨ba, 0, none⟩) m m] 146)).cell? ⟨ba, x, none⟩ = some (.int .i64 (f x)) := by
    rw [((Below.refl w.heap.size w).alloc (Nat.le_refl _) _).cell (p := ⟨ba, x, none⟩) hlt]; exact hc
  clear ha
  generalize f x = z at *
  go_enter Tryz.func102, Tryz.ntmps102
  go_wp2
  go_ret
  exact ⟨rfl, (Below.refl _ _).alloc (Nat.le_refl _) _⟩

end Go.Proofs.YtcoepmpgclndiaaGreatDoor.GraphFn
