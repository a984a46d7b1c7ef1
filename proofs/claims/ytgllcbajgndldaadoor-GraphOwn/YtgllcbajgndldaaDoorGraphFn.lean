/-
  The program's small functions on graphs: which numbers are nodes, which node is met, and the library's product of two numbers.
-/
import Derived.Test.YtgllcbajgndldaaDoorGraphMath
import Derived.Test.YtgllcbajgndldaaDoorGramBase
import Derived.Test.YtgllcbajgndldaaDoorGramBut
import Derived.OwnWalk
import Derived.Maps.AppendAt
namespace Go.Proofs.YtgllcbajgndldaaDoor.GraphFn
open Go.RowKit Go.Proofs.YtgllcbajgndldaaDoor.GramMath Go.Proofs.YtgllcbajgndldaaDoor.GramRow Go.Proofs.YtgllcbajgndldaaDoor.GramApart Go.Proofs.YtgllcbajgndldaaDoor.GraphMath
set_option linter.unusedVariables false

/-- Are all these numbers nodes? -/
def hasB (m : Nat) (zs : List Int) : Bool := zs.all (fun x => decide (0 ≤ x) && decide (x < (m : Int)))
theorem hasB_iff {m : Nat} {zs : List Int} : hasB m zs = true ↔ ∀ x ∈ zs, 0 ≤ x ∧ x < (m : Int) := by
  unfold hasB
  rw [List.all_eq_true]
  simp
theorem hasB_step {m k : Nat} {zs : List Int} {x : Int} (h : hasB m (zs.take k) = true) (hx : zs[k]? = some x) (h0 : 0 ≤ x) (h1 : x < (m : Int)) : hasB m (zs.take (k + 1)) = true := by
  rw [List.take_add_one, hx]
  unfold hasB at *
  rw [List.all_append, h]
  simp [h0, h1]
theorem hasB_no {m k : Nat} {zs : List Int} {x : Int} (hx : zs[k]? = some x) (h0 : ¬ (0 ≤ x ∧ x < (m : Int))) : hasB m zs = false := by
  cases h : hasB m zs with
  | false => rfl
  | true => exact absurd (hasB_iff.1 h x (List.mem_of_getElem? hx)) h0

set_option maxRecDepth 100000 in
set_option maxHeartbeats 1000000 in
theorem has_any (ga : Option Addr) (m gc : Nat) (a : Option Addr) (c : Nat) (zs : List Int) (w : World) (hI : IRow w a zs) (hl : zs.length ≤ 1125899906842624) (hx : ∀ x ∈ zs, I64 x) (hm : m ≤ 256) :
    Calls Tryd.prog 25 #[.slice ga m gc, .slice a zs.length c] w fun e w' => e = .returned (.bool (hasB m zs)) ∧ w' = w := by
  go_enter Tryd.func25, Tryd.ntmps25
  go_wp2
  go_loop [9] (fun i => ∃ k : Nat, k ≤ zs.length ∧ i = .int .i64 k ∧ Hid (hasB m (zs.take k) = true)) (fun i => zs.length - (intOf i).toNat)
  case atStart => exact ⟨0, by omega, rfl, rfl⟩
  case round =>
    obtain ⟨k, hk, rfl, hal⟩ := hrel
    by_cases hlt : k < zs.length
    · obtain ⟨x, hx1⟩ : ∃ x, zs[k]? = some x := ⟨zs[k], List.getElem?_eq_getElem hlt⟩
      obtain ⟨b', off, rfl, hc⟩ := hI k x hx1
      have hlt2 : (k : Int) < (zs.length : Int) := by omega
      obtain ⟨x1, x2⟩ := hx x (List.mem_of_getElem? hx1)
      by_cases h0 : x < 0
      · have E : Hid (hasB m zs = false) := hasB_no hx1 (by omega)
        have hd : decide (x < 0) = true := by simpa using h0
        clear hx1 hI hx hal
        go_wp2
        go_ret
        exact ⟨ret_bool E.out.symm, rfl⟩
      · have hd : decide (x < 0) = false := by simpa using h0
        by_cases h1 : (m : Int) ≤ x
        · have E : Hid (hasB m zs = false) := hasB_no hx1 (by omega)
          have hd1 : decide ((m : Int) ≤ x) = true := by simpa using h1
          clear hx1 hI hx hal
          go_wp2
          go_ret
          exact ⟨ret_bool E.out.symm, rfl⟩
        · have E : Hid (hasB m (zs.take (k + 1)) = true) := hasB_step hal.out hx1 (by omega) (by omega)
          have hd1 : decide ((m : Int) ≤ x) = false := by simpa using h1
          clear hx1 hI hx hal
          go_wp2
          go_round
          case rel => exact ⟨k + 1, by omega, by go_num, E⟩
          case measure => simp [intOf]; omega
    · have E : Hid (hasB m zs = true) := by show _ = _; rw [← hal.out, show k = zs.length by omega, List.take_length]
      clear hI hx hal
      go_wp2
      go_ret
      exact ⟨ret_bool E.out.symm, rfl⟩

theorem and32 {m : Nat} (h : m ≤ 256) : bits .and .u64 (m : Int) 4294967295 = (m : Int) := by
  have h2 : (List.range 257).all (fun m => decide (bits .and .u64 (m : Int) 4294967295 = (m : Int))) = true := by kernel_rfl
  exact of_decide_eq_true (List.all_eq_true.1 h2 m (by simp; omega))

set_option maxHeartbeats 1000000 in
theorem mul64_one (m : Nat) (hm : m ≤ 256) (w : World) :
    Calls Tryd.prog 58 #[.int .u64 1, .int .u64 (m : Int)] w fun e w' => e = .returned (.tuple #[.int .u64 0, .int .u64 (m : Int)]) ∧ w' = w := by
  have h1 := and32 hm
  have h2 : bits .and .u64 1 4294967295 = 1 := by kernel_rfl
  have h3 : bits .and .u64 0 4294967295 = 0 := by kernel_rfl
  have h4 : (m : Int) / 4294967296 = 0 := by omega
  go_enter Tryd.func58, Tryd.ntmps58
  go_wp2
  go_ret2
  exact ⟨rfl, rfl⟩

set_option maxHeartbeats 1000000 in
theorem mul_one (m : Nat) (hm : m ≤ 256) (w : World) :
    Calls Tryd.prog 45 #[.int .u64 1, .int .u64 (m : Int)] w fun e w' => e = .returned (.tuple #[.int .u64 0, .int .u64 (m : Int)]) ∧ w' = w := by
  have h1 := mul64_one m hm w
  go_enter Tryd.func45, Tryd.ntmps45
  go_wp2_with fail
  refine h1.mono ?_
  rintro e w1 ⟨rfl, hw1⟩
  obtain rfl := hw1.symm
  go_wp2
  go_ret2
  exact ⟨rfl, rfl⟩

/-- A tour in memory: where its nodes and what is ahead of them lie. -/
structure TourAt (w : World) (bt ba base m : Nat) (t : Tr) (v : Value) : Prop where
  box : RowAt w bt 61 #[v, .slice (some ⟨ba, 0, none⟩) m m]
  ahead : ∀ i, i < m → w.cell? ⟨ba, i, none⟩ = some (.int .i64 (t.ahead i)) ∧ w.frozen? ⟨ba, i, none⟩ = false
  nodes : w.ownsRow base 3 1 v t.nodes.length ((ints t.nodes).map (Value.int .i64))

set_option maxHeartbeats 1000000 in
theorem met_any (v : Value) (ba m : Nat) (f : Nat → Int) (x : Nat) (w : World) (hx : x < m) (ha : ∀ i, i < m → w.cell? ⟨ba, i, none⟩ = some (.int .i64 (f i))) (hm : m ≤ 256) :
    Calls Tryd.prog 37 #[.agg #[v, .slice (some ⟨ba, 0, none⟩) m m], .int .i64 (x : Int)] w fun e w' => e = .returned (.bool (f x != -1)) ∧ Below w.heap.size w w' := by
  have hc := ha x hx
  have hlt := cell_lt hc
  have hx2 : (x : Int) < (m : Int) := by omega
  have hc2 : (w.alloc (.cells #[v, .slice (some ⟨ba, 0, none⟩) m m] 61)).cell? ⟨ba, x, none⟩ = some (.int .i64 (f x)) := by
    rw [((Below.refl w.heap.size w).alloc (Nat.le_refl _) _).cell (p := ⟨ba, x, none⟩) hlt]; exact hc
  clear ha
  generalize f x = z at *
  go_enter Tryd.func37, Tryd.ntmps37
  go_wp2
  go_ret
  exact ⟨rfl, (Below.refl _ _).alloc (Nat.le_refl _) _⟩

end Go.Proofs.YtgllcbajgndldaaDoor.GraphFn
