/-
  The terminals of all right sides, by the program.
-/
import Derived.Test.YtkbljcfkokiceaaDoorShowLists
namespace Go.Proofs.YtkbljcfkokiceaaDoor.ShowOrd
open Go.RowKit Go.Proofs.YtkbljcfkokiceaaDoor.GramMath Go.Proofs.YtkbljcfkokiceaaDoor.GramRow Go.Proofs.YtkbljcfkokiceaaDoor.GramOne Go.Proofs.YtkbljcfkokiceaaDoor.GramApart Go.Proofs.YtkbljcfkokiceaaDoor.GramCopy Go.Proofs.YtkbljcfkokiceaaDoor.ShowMath Go.Proofs.YtkbljcfkokiceaaDoor.ShowSym
set_option linter.unusedVariables false

set_option maxRecDepth 100000 in
set_option maxHeartbeats 4000000 in
theorem terms_any (ta na ra : Option Addr) (tc nc rc : Nat) (g : G) (w : World) (hR : RRow w ra g.rs) (hm : g.rs.length ≤ 120) (hr32 : ∀ r ∈ g.rs, r.right.length ≤ 32) :
    Calls Tryd.prog 32 #[.agg #[.slice ta g.ts.length tc, .slice na g.ns.length nc, .int .i64 g.ax, .slice ra g.rs.length rc]] w fun e w' => (∃ a c, e = .returned (.slice a (termsL g.rs).length c) ∧ IRow w' a (termsL g.rs)) ∧ Below w.heap.size w w' := by
  obtain ⟨i0, hi, hz0, hz1, hz2⟩ := info_parts GramLent.infoI
  have hB1 : Below w.heap.size w (w.alloc (.cells #[.slice ta g.ts.length tc, .slice na g.ns.length nc, .int .i64 g.ax, .slice ra g.rs.length rc] 25)) := (Below.refl _ _).alloc (Nat.le_refl _) _
  have hR1 := hR.below hB1 (Nat.le_refl _)
  have hs1 : Hid ((w.alloc (.cells #[.slice ta g.ts.length tc, .slice na g.ns.length nc, .int .i64 g.ax, .slice ra g.rs.length rc] 25)).heap.size = w.heap.size + 1) := by show _ = _; simp
  have hlen : ∀ k, (termsL (g.rs.take k)).length ≤ 3840 := fun k => Nat.le_trans (terms_take hr32 k) (by omega)
  clear hR
  go_enter Tryd.func32, Tryd.ntmps32
  go_wp2
  generalize w.alloc (.cells #[.slice ta g.ts.length tc, .slice na g.ns.length nc, .int .i64 g.ax, .slice ra g.rs.length rc] 25) = W1 at *
  go_loopw [3, 11] (fun v i wr => ∃ k : Nat, k ≤ g.rs.length ∧ i = .int .i64 k ∧ Own wr (w.heap.size + 1) v (termsL (g.rs.take k)) ∧ Below (w.heap.size + 1) W1 wr) (fun _ i _ => g.rs.length - (intOf i).toNat)
  case atStart => exact ⟨0, by omega, rfl, World.ownsRow_nil _ _ _ _, Below.refl _ _⟩
  case round =>
    obtain ⟨k, hk, rfl, hrow, hB⟩ := hrel
    by_cases hlt : k < g.rs.length
    · obtain ⟨r, hr⟩ : ∃ r, g.rs[k]? = some r := ⟨g.rs[k], List.getElem?_eq_getElem hlt⟩
      obtain ⟨b, off, qa, qc, rfl, X0, X1, x2⟩ := hR1 k r hr
      have x0 := (hB.cell (Nat.lt_of_lt_of_le (cell_lt X0) (Nat.le_of_eq hs1.out))).trans X0
      have x1 := (hB.cell (Nat.lt_of_lt_of_le (cell_lt X1) (Nat.le_of_eq hs1.out))).trans X1
      have hlt2 : (k : Int) < (g.rs.length : Int) := by omega
      have h32 := hr32 r (List.mem_of_getElem? hr)
      have F : Hid (termsL (g.rs.take (k + 1)) = termsL (g.rs.take k) ++ termsR r.right) := terms_step hr
      have hl0 := hlen k
      have hsB : w.heap.size + 1 ≤ wr.heap.size := Nat.le_trans (Nat.le_of_eq hs1.out.symm) hB.size
      have hB2 : Below (w.heap.size + 1) W1 (wr.alloc (.cells #[.int .i64 r.left, .slice qa r.right.length qc] 49)) := hB.alloc hsB _
      have hrow2 : Own (wr.alloc (.cells #[.int .i64 r.left, .slice qa r.right.length qc] 49)) (w.heap.size + 1) u3 (termsL (g.rs.take k)) := hrow.alloc _
      have x2' : Hid (IRow W1 qa r.right) := x2
      clear hr hR1 hrow hlen hr32 X0 X1 x2
      generalize termsL (g.rs.take k) = acc at *
      go_wp2
      generalize wr.alloc (.cells #[.int .i64 r.left, .slice qa r.right.length qc] 49) = W2 at *
      go_loopw [3, 18] (fun v i wr => ∃ j : Nat, j ≤ r.right.length ∧ i = .int .i64 j ∧ Own wr (w.heap.size + 1) v (acc ++ termsR (r.right.take j)) ∧ Below (w.heap.size + 1) W1 wr) (fun _ i _ => r.right.length - (intOf i).toNat)
      case atStart => exact ⟨0, by omega, rfl, by simpa [termsR] using hrow2, hB2⟩
      case round =>
        clear hrow2 hB2 x0 x1
        obtain ⟨j, hj, rfl, hrow3, hB3⟩ := hrel
        by_cases hjl : j < r.right.length
        · obtain ⟨x, hx⟩ : ∃ x, r.right[j]? = some x := ⟨r.right[j], List.getElem?_eq_getElem hjl⟩
          obtain ⟨b', off', rfl, hc'⟩ := (x2'.out.below hB3 (Nat.le_of_eq hs1.out)) j x hx
          have hjl2 : (j : Int) < (r.right.length : Int) := by omega
          have hla := termsR_len (r.right.take j)
          rw [List.length_take] at hla
          have hsC : w.heap.size + 1 ≤ wr.heap.size := Nat.le_trans (Nat.le_of_eq hs1.out.symm) hB3.size
          by_cases h0 : 0 ≤ x
          · have F2 : Hid (acc ++ termsR (r.right.take (j + 1)) = acc ++ termsR (r.right.take j) ++ [x]) := by show _ = _; rw [termsR_in hx h0, List.append_assoc]
            clear hx x2'
            have hl4 : (acc ++ termsR (r.right.take j)).length ≤ 3872 := by rw [List.length_append]; omega
            generalize acc ++ termsR (r.right.take j) = acc1 at *
            go_wp2_with (at_builtin; refine wpList_append_own _ rfl _ _ 38 rfl (w.heap.size + 1) 3 i0 (.int .i64 0) 1 8 Tryd.underlying38 hi hz0 hz1 hz2 rfl (by decide) _ _ _ rfl (hrow3.alloc _) ⟨wr.heap.size, 0, none⟩ 1 1 [.int .i64 x] rfl rfl (WordsBytes.cells_new _ #[_] _) (by simp [Value.oneCell']) (by unfold maxLen; omega) (by omega) (by simp; omega) ?_; intro v4 w4 hown4 hgrow4 _; have hr4 := Own.next hown4 F2.out; have hB4 := WordsBytes.Below.app hB3 hsC hrow3 hgrow4)
            clear hown4 hgrow4 hrow3
            go_roundw
            case rel => exact ⟨j + 1, by omega, by go_num, hr4, hB4⟩
            case measure => simp [intOf]; omega
          · have F2 : Hid (acc ++ termsR (r.right.take (j + 1)) = acc ++ termsR (r.right.take j)) := by show _ = _; rw [termsR_out hx h0]
            clear hx x2'
            go_wp2
            go_roundw
            case rel => exact ⟨j + 1, by omega, by go_num, by rw [F2.out]; exact hrow3, hB3⟩
            case measure => simp [intOf]; omega
        · obtain rfl : j = r.right.length := by omega
          rw [List.take_length, ← F.out] at hrow3
          have hnl : ¬ (r.right.length : Int) < (r.right.length : Int) := by omega
          go_wp2
          go_roundw
          case rel => exact ⟨k + 1, by omega, by go_num, hrow3, hB3⟩
          case measure => simp [intOf]; omega
    · obtain rfl : k = g.rs.length := by omega
      rw [List.take_length] at hrow
      have hnl : ¬ (g.rs.length : Int) < (g.rs.length : Int) := by omega
      obtain ⟨a, c, rfl, E⟩ := Own.row hrow
      clear hR1 hrow hlen hr32
      go_wp2
      go_ret
      exact ⟨⟨a, ⟨c, rfl⟩, E⟩, hB1.trans (hB.mono (by omega))⟩

end Go.Proofs.YtkbljcfkokiceaaDoor.ShowOrd
