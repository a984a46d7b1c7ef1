/-
  A set's numbers by the document's own answer, unions of lists of sets by the program and by the document, and two lists of sets that are the same.
-/
import Derived.Test.YtnlaffhhbabjaaaDoorSetsFns
namespace Go.Proofs.YtnlaffhhbabjaaaDoor.SetsAlg
open Go.RowKit Go.Proofs.YtnlaffhhbabjaaaDoor.SetsMath Go.Proofs.YtnlaffhhbabjaaaDoor.SetsOne Go.Proofs.YtnlaffhhbabjaaaDoor.SetsMany

theorem below_self {w w' : World} (h : Below w.heap.size w w') : w.heap.size ≤ w'.heap.size := h.size

set_option maxHeartbeats 400000 in
theorem union_any (a : Option Addr) (len cap : Nat) (zs : List Int) (w : World) (hr : Row .u64 w a len zs) (hl : len ≤ zs.length) (hm : len ≤ 4611686018427387904) (hz : ∀ x ∈ zs, IsSet x) :
    Calls Tryd.prog 71 #[.slice a len cap] w fun e w' => e = .returned (.int .u64 (allI (zs.take len))) ∧ w' = w := by
  go_enter Tryd.func71, Tryd.ntmps71
  go_wp2
  go_loop [3, 8] (fun s i => ∃ k : Nat, k ≤ len ∧ i = .int .i64 k ∧ s = .int .u64 (allI (zs.take k))) (fun _ i => len - (intOf i).toNat)
  case atStart => exact ⟨0, by omega, rfl, rfl⟩
  case round =>
    obtain ⟨k, hk, rfl, rfl⟩ := hrel
    by_cases hlt : k < len
    · obtain ⟨b, off, rfl, hcell⟩ := hr k hlt
      obtain ⟨z, hzz⟩ : ∃ z, zs.getD k 0 = z := ⟨_, rfl⟩
      have hzs : IsSet z := by rw [← hzz]; exact hz _ (by rw [List.getD_eq_getElem?_getD, List.getElem?_eq_getElem (by omega)]; exact List.getElem_mem _)
      have E : Hid (bits .or .u64 (allI (zs.take k)) z = allI (zs.take (k + 1))) := by
        have := allI_take (l := zs) (k := k) (by omega)
        rw [hzz] at this
        rw [bits_or2 (allI_isSet (fun x hx => hz x (List.mem_of_mem_take hx))) hzs]; exact this.symm
      rw [hzz] at hcell
      clear hzz hzs hz
      go_wp2
      go_round
      case rel => exact ⟨k + 1, by omega, by go_num, by rw [E.out]⟩
      case measure => simp [intOf]; omega
    · go_wp2
      go_ret
      exact ⟨ret_int (by rw [show k = len by omega]), rfl⟩

/-- An owned row of numbers, as a slice whose cells are known. -/
theorem own_row {w : World} {base : Nat} {e : TypeId} {v : Value} {l : List Int} (h : w.ownsRow base e 1 v l.length (l.map (Value.int .i64))) :
    ∃ a c, v = .slice a l.length c ∧ Row .i64 w a l.length l ∧ l.length ≤ c ∧ ∀ x, a = some x → base ≤ x.block ∧ x.off = 0 ∧ x.spot = none := by
  obtain ⟨_, ⟨rfl, h0⟩ | ⟨g, cap, cur, rfl, hb, hg, hn, _, _, _⟩⟩ := id h
  · refine ⟨none, 0, by rw [h0], fun i hi => absurd hi (by omega), by omega, fun x hx => by cases hx⟩
  · refine ⟨_, cap, rfl, fun i hi => ⟨g, 0, rfl, ?_⟩, hn, fun x hx => by cases hx; exact ⟨hb, rfl, rfl⟩⟩
    rw [Nat.zero_add, h.cellAt i (by omega), List.getElem?_map, List.getElem?_eq_getElem hi]
    simp [List.getD_eq_getElem?_getD, List.getElem?_eq_getElem hi]

end Go.Proofs.YtnlaffhhbabjaaaDoor.SetsAlg
