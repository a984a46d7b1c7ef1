/-
  Texts that stand together: GraphFn, OpRow.
-/
import Derived.Test.YtcoepmpgclndiaaGreatDoorGraphMath
import Derived.Test.YtcoepmpgclndiaaGreatDoorGramBase
import Derived.Test.YtcoepmpgclndiaaGreatDoorBagShelf
import Derived.OwnWalk
import Derived.Maps.AppendAt
import Derived.Test.YtcoepmpgclndiaaGreatDoorBagOrdersZ
import Derived.Test.YtcoepmpgclndiaaGreatDoorBagGramLessMath
import Derived.Laws.CopyOwn
import Derived.Handy
namespace Go.Proofs.YtcoepmpgclndiaaGreatDoor.GraphFn
open Go.RowKit Go.Proofs.YtcoepmpgclndiaaGreatDoor.GramMath Go.Proofs.YtcoepmpgclndiaaGreatDoor.GramRow Go.Proofs.YtcoepmpgclndiaaGreatDoor.GramApart Go.Proofs.YtcoepmpgclndiaaGreatDoor.GraphMath
set_option linter.unusedVariables false

/-- Are all these numbers nodes? -/
def hasB (m : Nat) (zs : List Int) : Bool := zs.all (fun x => decide (0 ≤ x) && decide (x < (m : Int)))
theorem hasB_iff {m : Nat} {zs : List Int} : hasB m zs = true ↔ ∀ x ∈ zs, 0 ≤ x ∧ x < (m : Int) := by
  unfold hasB
  rw [List.all_eq_true]
  simp
theorem hasB_step {m k : Nat} {zs : List Int} {x : Int} (h : hasB m (zs.take k) = true) (hx : zs[k]? = some x) (h0 : 0 ≤ x) (h1 : x < (m : Int)) : hasB m (zs.take (k + 1)) = true := by
  rw [List.take_add_one, hx]
  unfold hasB at *
  rw [List.all_append, h]
  simp [h0, h1]
theorem hasB_no {m k : Nat} {zs : List Int} {x : Int} (hx : zs[k]? = some x) (h0 : ¬ (0 ≤ x ∧ x < (m : Int))) : hasB m zs = false := by
  cases h : hasB m zs with
  | false => rfl
  | true => exact absurd (hasB_iff.1 h x (List.mem_of_getElem? hx)) h0

set_option maxRecDepth 100000 in
set_option maxHeartbeats 1000000 in
theorem has_any (ga : Option Addr) (m gc : Nat) (a : Option Addr) (c : Nat) (zs : List Int) (w : World) (hI : IRow w a zs) (hl : zs.length ≤ 1125899906842624) (hx : ∀ x ∈ zs, I64 x) (hm : m ≤ 256) :
    Calls Tryz.prog 67 #[.slice ga m gc, .slice a zs.length c] w fun e w' => e = .returned (.bool (hasB m zs)) ∧ w' = w := by
  go_enter Tryz.func67, Tryz.ntmps67
  go_wp2
  go_loop [9] (fun i => ∃ k : Nat, k ≤ zs.length ∧ i = .int .i64 k ∧ Hid (hasB m (zs.take k) = true)) (fun i => zs.length - (intOf i).toNat)
  case atStart => exact ⟨0, by omega, rfl, rfl⟩
  case round =>
    obtain ⟨k, hk, rfl, hal⟩ := hrel
    by_cases hlt : k < zs.length
    · obtain ⟨x, hx1⟩ : ∃ x, zs[k]? = some x := ⟨zs[k], List.getElem?_eq_getElem hlt⟩
      obtain ⟨b', off, rfl, hc⟩ := hI k x hx1
      have hlt2 : (k : Int) < (zs.length : Int) := by omega
      obtain ⟨x1, x2⟩ := hx x (List.mem_of_getElem? hx1)
      by_cases h0 : x < 0
      · have E : Hid (hasB m zs = false) := hasB_no hx1 (by omega)
        have hd : decide (x < 0) = true := by simpa using h0
        clear hx1 hI hx hal
        go_wp2
        go_ret
        exact ⟨ret_bool E.out.symm, rfl⟩
      · have hd : decide (x < 0) = false := by simpa using h0
        by_cases h1 : (m : Int) ≤ x
        · have E : Hid (hasB m zs = false) := hasB_no hx1 (by omega)
          have hd1 : decide ((m : Int) ≤ x) = true := by simpa using h1
          clear hx1 hI hx hal
          go_wp2
          go_ret
          exact ⟨ret_bool E.out.symm, rfl⟩
        · have E : Hid (hasB m (zs.take (k + 1)) = true) := hasB_step hal.out hx1 (by omega) (by omega)
          have hd1 : decide ((m : Int) ≤ x) = false := by simpa using h1
          clear hx1 hI hx hal
          go_wp2
          go_round
          case rel => exact ⟨k + 1, by omega, by go_num, E⟩
          case measure => simp [intOf]; omega
    · have E : Hid (hasB m zs = true) := by show _ = _; rw [← hal.out, show k = zs.length by omega, List.take_length]
      clear hI hx hal
      go_wp2
      go_ret
      exact ⟨ret_bool E.out.symm, rfl⟩

theorem and32 {m : Nat} (h : m ≤ 256) : bits .and .u64 (m : Int) 4294967295 = (m : Int) := by
  have h2 : (List.range 257).all (fun m => decide (bits .and .u64 (m : Int) 4294967295 = (m : Int))) = true := by kernel_rfl
  exact of_decide_eq_true (List.all_eq_true.1 h2 m (by simp; omega))

set_option maxHeartbeats 1000000 in
theorem mul64_one (m : Nat) (hm : m ≤ 256) (w : World) :
    Calls Tryz.prog 111 #[.int .u64 1, .int .u64 (m : Int)] w fun e w' => e = .returned (.tuple #[.int .u64 0, .int .u64 (m : Int)]) ∧ w' = w := by
  have h1 := and32 hm
  have h2 : bits .and .u64 1 4294967295 = 1 := by kernel_rfl
  have h3 : bits .and .u64 0 4294967295 = 0 := by kernel_rfl
  have h4 : (m : Int) / 4294967296 = 0 := by omega
  go_enter Tryz.func111, Tryz.ntmps111
  go_wp2
  go_ret2
  exact ⟨rfl, rfl⟩

set_option maxHeartbeats 1000000 in
theorem mul_one (m : Nat) (hm : m ≤ 256) (w : World) :
    Calls Tryz.prog 101 #[.int .u64 1, .int .u64 (m : Int)] w fun e w' => e = .returned (.tuple #[.int .u64 0, .int .u64 (m : Int)]) ∧ w' = w := by
  have h1 := mul64_one m hm w
  go_enter Tryz.func101, Tryz.ntmps101
  go_wp2_with fail
  refine h1.mono ?_
  rintro e w1 ⟨rfl, hw1⟩
  obtain rfl := hw1.symm
  go_wp2
  go_ret2
  exact ⟨rfl, rfl⟩

/-- A tour in memory: where its nodes and what is ahead of them lie. -/
structure TourAt (w : World) (bt ba base m : Nat) (t : Tr) (v : Value) : Prop where
  box : RowAt w bt 146 #[v, .slice (some ⟨ba, 0, none⟩) m m]
  ahead : ∀ i, i < m → w.cell? ⟨ba, i, none⟩ = some (.int .i64 (t.ahead i)) ∧ w.frozen? ⟨ba, i, none⟩ = false
  nodes : w.ownsRow base 3 1 v t.nodes.length ((ints t.nodes).map (Value.int .i64))

set_option maxHeartbeats 1000000 in
theorem met_any (v : Value) (ba m : Nat) (f : Nat → Int) (x : Nat) (w : World) (hx : x < m) (ha : ∀ i, i < m → w.cell? ⟨ba, i, none⟩ = some (.int .i64 (f i))) (hm : m ≤ 256) :
    Calls Tryz.prog 102 #[.agg #[v, .slice (some ⟨ba, 0, none⟩) m m], .int .i64 (x : Int)] w fun e w' => e = .returned (.bool (f x != -1)) ∧ Below w.heap.size w w' := by
  have hc := ha x hx
  have hlt := cell_lt hc
  have hx2 : (x : Int) < (m : Int) := by omega
  have hc2 : (w.alloc (.cells #[v, .slice (some ⟨ba, 0, none⟩) m m] 146)).cell? ⟨ba, x, none⟩ = some (.int .i64 (f x)) := by
    rw [((Below.refl w.heap.size w).alloc (Nat.le_refl _) _).cell (p := ⟨ba, x, none⟩) hlt]; exact hc
  clear ha
  generalize f x = z at *
  go_enter Tryz.func102, Tryz.ntmps102
  go_wp2
  go_ret
  exact ⟨rfl, (Below.refl _ _).alloc (Nat.le_refl _) _⟩

end Go.Proofs.YtcoepmpgclndiaaGreatDoor.GraphFn

namespace Go.Proofs.YtcoepmpgclndiaaGreatDoor.OpRow
open Go.RowKit Go.Proofs.YtcoepmpgclndiaaGreatDoor.GramMath Go.Proofs.YtcoepmpgclndiaaGreatDoor.GramRow Go.Proofs.YtcoepmpgclndiaaGreatDoor.GramApart Go.Proofs.YtcoepmpgclndiaaGreatDoor.GramLent
set_option linter.unusedVariables false

def intsA (zs : List Int) : Array Value := (zs.map (Value.int .i64)).toArray

theorem intsA_size (zs : List Int) : (intsA zs).size = zs.length := by simp [intsA]
theorem intsA_get {zs : List Int} {k : Nat} {x : Int} (h : zs[k]? = some x) : (intsA zs)[k]? = some (.int .i64 x) := by
  unfold intsA
  rw [List.getElem?_toArray, List.getElem?_map, h]
  rfl
theorem intsA_row {w : World} {b : Nat} {t : TypeId} {zs : List Int} (h : RowAt w b t (intsA zs)) : IRow w (some ⟨b, 0, none⟩) zs := fun i x hx => ⟨b, 0, rfl, by
  rw [Nat.zero_add]
  exact h.cell (intsA_get hx)⟩
theorem intsA_set {zs : List Int} (k : Nat) (x : Int) : (intsA zs).setIfInBounds k (.int .i64 x) = intsA (zs.set k x) := by
  unfold intsA
  rw [List.setIfInBounds_toArray, List.map_set]

theorem madeI_any (n : Nat) (hn : n * 8 ≤ 140737488351232) (w : World) : (Instr.makeSlice 32 (.int .i64 (n : Int)) (.int .i64 (n : Int))).run Tryz.prog w = .ok (.slice (some ⟨w.heap.size, 0, none⟩) n n) (w.alloc (.cells (madeCells #[.int .i64 0] n) 3)) := by
  obtain ⟨i0, hi, hz0, hz1, hz2⟩ := info_parts infoI
  have h := run_make (P := Tryz.prog) w 32 3 i0 (.int .i64 0) Tryz.underlying32 hi hz0 .i64 .i64 (n : Int) (n : Int) (by omega) (by omega) (by rw [hz2]; omega) (by omega)
  rw [hz1] at h
  simpa [Value.cells] using h

theorem made_row (w : World) (n : Nat) (t : TypeId) : RowAt (w.alloc (.cells (madeCells #[.int .i64 0] n) t)) w.heap.size t (intsA (List.replicate n 0)) := by
  show (w.alloc _).heap[w.heap.size]? = _
  rw [heap_new]
  congr 2
  unfold intsA
  rw [List.map_replicate, ← toList_madeCells_one]

theorem infoI1 : (Tryz.prog.info? 3).map (·.size) = some 1 := by kernel_rfl

/-- A list copied into a row that was just made. -/
theorem copy_any (a : Option Addr) (c b : Nat) (zs ys : List Int) (w : World) (hr : IRow w a zs) (hb : RowAt w b 3 (intsA ys)) (hl : ys.length = zs.length) :
    ∃ w', (Builtin.copy_ #[32, 32] 3 #[.slice (some ⟨b, 0, none⟩) zs.length zs.length, .slice a zs.length c]).run Tryz.prog w = .ok (.int .i64 (zs.length : Int)) w' ∧ RowAt w' b 3 (intsA zs) ∧ Below b w w' ∧ (∀ j, j ≠ b → w'.heap[j]? = w.heap[j]?) ∧ w'.heap.size = w.heap.size := by
  have hone : ∀ v ∈ zs.map (Value.int .i64), v.oneCell' = true := fun v hv => by
    obtain ⟨y, _, rfl⟩ := List.mem_map.1 hv
    rfl
  by_cases h0 : zs.length = 0
  · have hrun := run_copy_none (P := Tryz.prog) w 32 32 3 3 (some ⟨b, 0, none⟩) a zs.length zs.length zs.length c Tryz.underlying32 infoI1 (by rw [h0]; rfl)
    refine ⟨_, hrun.trans (by rw [h0]; rfl), ?_, Below.refl _ _, fun _ _ => rfl, rfl⟩
    obtain rfl : zs = [] := List.length_eq_zero_iff.1 h0
    obtain rfl : ys = [] := List.length_eq_zero_iff.1 hl
    exact hb
  · obtain ⟨x, hx⟩ : ∃ x, zs[0]? = some x := ⟨zs[0]'(by omega), List.getElem?_eq_getElem _⟩
    obtain ⟨b', off, rfl, _⟩ := hr 0 x hx
    have hrun := run_copy_row (P := Tryz.prog) w 32 32 3 3 b 0 zs.length zs.length ⟨b', off, none⟩ zs.length c _ 3 (zs.map (Value.int .i64)) Tryz.underlying32 infoI1 hb (by simp) (fun j v hj => by
      rw [List.getElem?_map, Option.map_eq_some_iff] at hj
      obtain ⟨y, hy, rfl⟩ := hj
      obtain ⟨b2, off2, hb2, hc⟩ := hr j y hy
      cases hb2
      rw [Addr.add_lit]
      exact hc) (by rw [intsA_size]; simp; omega) hone
    have hd : (intsA ys).toList.drop (0 + (zs.map (Value.int .i64)).length) = [] := by
      apply List.drop_eq_nil_of_le
      rw [Array.length_toList, intsA_size, List.length_map]
      omega
    rw [hd] at hrun
    refine ⟨_, hrun.trans (by simp [goInt]; rfl), ?_, below_setRow (Below.refl _ _) (Nat.le_refl _) _, fun j hj => ?_, ?_⟩
    · exact setRow_heap _ _ _ (zs.map (Value.int .i64)).toArray _ _ hb
    · simp only [World.setRow]
      rw [Array.getElem?_modify, if_neg (fun e => hj e.symm)]
    · simp [World.setRow]

end Go.Proofs.YtcoepmpgclndiaaGreatDoor.OpRow
