/-
  Many numbers: what the program's Of and Full, and the document's own answers, come to, for every slice of numbers and every n.
-/
import Derived.Test.YtkjjdmdlkdoedaaDoorSetsOne
import Derived.Laws.AppendOwnNone
import Derived.WalkSpells
import Derived.RangeFuncBox
namespace Go.Proofs.YtkjjdmdlkdoedaaDoor.SetsMany
open Go.RowKit Go.Proofs.YtkjjdmdlkdoedaaDoor.SetsMath Go.Proofs.YtkjjdmdlkdoedaaDoor.SetsOne

/-- The first 'len' cells of a slice are the numbers 'zs'. -/
def Row (k : IntKind) (w : World) (a : Option Addr) (len : Nat) (zs : List Int) : Prop :=
  ∀ i, i < len → ∃ b off, a = some ⟨b, off, none⟩ ∧ w.cell? ⟨b, off + i, none⟩ = some (.int k (zs.getD i 0))

set_option maxHeartbeats 400000 in
theorem of_any (a : Option Addr) (len cap : Nat) (zs : List Int) (w : World) (hr : Row .i64 w a len zs) (hl : len ≤ zs.length) (hm : len ≤ 4611686018427387904) :
    Calls Tryd.prog 27 #[.slice a len cap] w fun e w' => e = .returned (.int .u64 (ofI (zs.take len))) ∧ w' = w := by
  go_enter Tryd.func27, Tryd.ntmps27
  go_wp2
  go_loop [3, 8] (fun s i => ∃ k : Nat, k ≤ len ∧ i = .int .i64 k ∧ s = .int .u64 (ofI (zs.take k))) (fun _ i => len - (intOf i).toNat)
  case atStart => exact ⟨0, by omega, rfl, rfl⟩
  case round =>
    obtain ⟨k, hk, rfl, rfl⟩ := hrel
    by_cases hlt : k < len
    · obtain ⟨b, off, rfl, hcell⟩ := hr k hlt
      obtain ⟨z, hz⟩ : ∃ z, zs.getD k 0 = z := ⟨_, rfl⟩
      have E : Hid (bits .or .u64 (ofI (zs.take k)) (oneI z) = ofI (zs.take (k + 1))) := by
        have := ofI_take (l := zs) (k := k) (by omega)
        rw [hz] at this
        rw [bits_or _ (ofI_take_isSet zs k)]; exact this.symm
      rw [hz] at hcell
      clear hz
      go_wp2_with (go_at_call 42; refine (only_any _ _).mono ?_; rintro e w' ⟨rfl, rfl⟩)
      go_round
      case rel => exact ⟨k + 1, by omega, by go_num, by rw [E.out]⟩
      case measure => simp [intOf]; omega
    · go_wp2
      go_ret
      exact ⟨ret_int (by rw [show k = len by omega]), rfl⟩

set_option maxHeartbeats 400000 in
theorem full_any (n : Int) (w : World) : Calls Tryd.prog 41 #[.int .i64 n] w fun e w' => e = .returned (.int .u64 (fullI n)) ∧ w' = w := by
  by_cases h0 : n < 1
  · have E : Hid (0 = fullI n) := by show 0 = fullI n; unfold fullI; rw [if_pos h0]
    go_enter Tryd.func41, Tryd.ntmps41
    go_wp2
    go_ret
    exact ⟨ret_int E.out, rfl⟩
  · by_cases h1 : 64 ≤ n
    · have E : Hid (18446744073709551615 = fullI n) := by show _ = fullI n; unfold fullI; rw [if_neg h0, if_pos h1]
      go_enter Tryd.func41, Tryd.ntmps41
      go_wp2
      go_ret
      exact ⟨ret_int E.out, rfl⟩
    · have E : Hid (_) := fullI_wrap (n := n) (by omega) (by omega)
      go_enter Tryd.func41, Tryd.ntmps41
      go_wp2
      go_ret
      exact ⟨ret_int E.out, rfl⟩

set_option maxHeartbeats 400000 in
theorem ints_same (a b : Option Addr) (n ca cb : Nat) (zs : List Int) (w : World) (ha : Row .i64 w a n zs) (hb : Row .i64 w b n zs) (hm : n ≤ 4611686018427387904) :
    Calls Tryd.prog 22 #[.slice a n ca, .slice b n cb] w fun e w' => e = .returned (.bool true) ∧ ∃ q, w' = w.drewN q := by
  go_enter Tryd.func22, Tryd.ntmps22
  go_wp2
  go_loopw [5] (fun i wr => ∃ k q : Nat, k ≤ n ∧ i = .int .i64 k ∧ wr = w.drewN q) (fun i _ => n - (intOf i).toNat)
  case atStart => exact ⟨0, 0, by omega, rfl, rfl⟩
  case round =>
    obtain ⟨k, q, hk, rfl, rfl⟩ := hrel
    by_cases hlt : k < n
    · obtain ⟨b1, off1, rfl, hc1⟩ := ha k hlt
      obtain ⟨b2, off2, rfl, hc2⟩ := hb k hlt
      obtain ⟨z, hz⟩ : ∃ z, zs.getD k 0 = z := ⟨_, rfl⟩
      rw [hz] at hc1 hc2
      clear hz
      go_wp2
      go_quiet (fail)
      go_wp2
      go_roundw
      case rel => exact ⟨k + 1, _, by omega, by go_num, rfl⟩
      case measure => simp [intOf]; omega
    · go_wp2
      go_ret
      exact ⟨rfl, _, rfl⟩

theorem Row.drewN {k : IntKind} {w : World} {a : Option Addr} {n : Nat} {zs : List Int} (h : Row k w a n zs) (q : Nat) : Row k (w.drewN q) a n zs := h

theorem cell_lt {w : World} {p : Addr} {v : Value} (h : w.cell? p = some v) : p.block < w.heap.size := by
  unfold World.cell? at h
  by_cases hb : p.block < w.heap.size
  · exact hb
  · rw [Array.getElem?_eq_none (by omega)] at h
    simp at h

theorem Row.below {k : IntKind} {w w' : World} {a : Option Addr} {n : Nat} {zs : List Int} (h : Row k w a n zs) (hb : Below w.heap.size w w') : Row k w' a n zs := by
  intro i hi
  obtain ⟨b, off, ha, hc⟩ := h i hi
  exact ⟨b, off, ha, by rw [hb.cell (cell_lt hc)]; exact hc⟩

theorem own_cap {w : World} {base : Nat} {e : TypeId} {g n c : Nat} {xs : List Value} (h : w.ownsRow base e 1 (.slice (some ⟨g, 0, none⟩) n c) n xs) : n ≤ c ∧ c ≤ maxLen ∧ base ≤ g := by
  obtain ⟨_, h | ⟨g', cap, cur, hv, hb, _, hn, hm, _⟩⟩ := h
  · exact absurd h.1 (by simp)
  · simp at hv
    obtain ⟨rfl, rfl⟩ := hv
    exact ⟨hn, hm, hb⟩

theorem lent_row {w2 : World} {base : Nat} {e : TypeId} {g n c : Nat} {zs : List Int} (hz : n ≤ zs.length)
    (h : w2.ownsRow base e 1 (.slice (some ⟨g, 0, none⟩) (n + 1) c) (n + 1) ((zs.take n).map (Value.int .i64) ++ [.int .i64 (-7171)])) :
    Row .i64 w2 (some ⟨g, 0, none⟩) n zs ∧ w2.cell? ⟨g, n, none⟩ = some (.int .i64 (-7171)) := by
  have hl : ((zs.take n).map (Value.int .i64)).length = n := by simp; omega
  refine ⟨fun i hi => ⟨g, 0, rfl, ?_⟩, ?_⟩
  · rw [Nat.zero_add, h.cellAt i (by omega), List.getElem?_append_left (by omega), List.getElem?_map, List.getElem?_take, if_pos hi, List.getElem?_eq_getElem (by omega)]
    simp [List.getD_eq_getElem?_getD, List.getElem?_eq_getElem (show i < zs.length by omega)]
  · rw [h.cellAt n (by omega), List.getElem?_append_right (by omega), hl]
    simp

theorem Tryd.info3 : (Tryd.prog.info? 3).map (fun i => (i.zero, i.size, i.bytes)) = some (some (.int .i64 0), 1, 8) := by kernel_rfl

end Go.Proofs.YtkjjdmdlkdoedaaDoor.SetsMany
