/-
  A set as a text by the document's own answer: digits, or the names of a list.
-/
import Derived.Test.YtkjjdmdlkdoedaaDoorSetsKnown
import Derived.Laws.IdiomStrings
namespace Go.Proofs.YtkjjdmdlkdoedaaDoor.SetsRText
open Go.RowKit Go.Proofs.YtkjjdmdlkdoedaaDoor.SetsMath Go.Proofs.YtkjjdmdlkdoedaaDoor.SetsOne Go.Proofs.YtkjjdmdlkdoedaaDoor.SetsMany Go.Proofs.YtkjjdmdlkdoedaaDoor.SetsAlg Go.Proofs.YtkjjdmdlkdoedaaDoor.SetsEach

/-- A digit as a byte. -/
def digB (n : Nat) : UInt8 := UInt8.ofNat (48 + n)

theorem digB_nat {n : Nat} (h : n < 10) : ((digB n).toNat : Int) = 48 + (n : Int) := by
  have : (digB n).toNat = 48 + n := by
    unfold digB
    rw [UInt8.toNat_ofNat']
    omega
  omega

theorem str_at (W : World) (a : Addr) (n : Nat) (h : n < 10) (hc : W.cell? a = some (.int .u8 (48 + (n : Int)))) : (convert 60 9 (.slice (some a) 1 1)).run Tryd.prog W = .ok (.string ⟨#[digB n]⟩) W :=
  run_convert_bytes_back (P := Tryd.prog) W 60 9 5 a 1 [digB n] Tryd.underlying60 Tryd.underlying5 Tryd.underlying9 (fun j hj => by
    have hj0 : j = 0 := by simpa using hj
    subst hj0
    rw [Addr.add_zero', hc, ← digB_nat h]
    rfl)

theorem str_of_dig (w : World) (n : Nat) (h : n < 10) : (convert 60 9 (.slice (some ⟨w.heap.size, 0, none⟩) 1 1)).run Tryd.prog (w.alloc (.cells #[.int .u8 (48 + (n : Int))] 5)) = .ok (.string ⟨#[digB n]⟩) (w.alloc (.cells #[.int .u8 (48 + (n : Int))] 5)) := by
  refine str_at _ _ n h ?_
  have := cell_one_new w (.int .u8 (48 + (n : Int))) 5 0 _ rfl
  rwa [Addr.add_zero'] at this

set_option maxHeartbeats 1000000 in
theorem number_small (n : Nat) (w : World) (hn : n < 10) : Calls Tryd.prog 40 #[.int .i64 n] w fun e w' => e = .returned (.string ⟨#[digB n]⟩) ∧ w' = w.alloc (.cells #[.int .u8 (48 + (n : Int))] 5) := by
  have h1 : (n : Int) < 10 := by omega
  have h2 := str_of_dig w n hn
  go_enter Tryd.func40, Tryd.ntmps40
  go_wp2
  go_ret
  exact ⟨rfl, rfl⟩

set_option maxRecDepth 100000 in
set_option maxHeartbeats 4000000 in
theorem number_big (n a b : Nat) (w : World) (ha : 1 ≤ a) (ha2 : a < 10) (hb : b < 10) (hn : n = 10 * a + b) : Calls Tryd.prog 40 #[.int .i64 n] w fun e w' => e = .returned (.string ⟨#[digB a, digB b]⟩) ∧ Below w.heap.size w w' := by
  have h1 : ¬ (n : Int) < 10 := by omega
  have q1 : (n : Int) / 10 = (a : Int) := by omega
  have q2 : (n : Int) % 10 = (b : Int) := by omega
  have t1 : IntKind.i64.wrap ((n : Int).tdiv 10) = (a : Int) := by rw [Int.tdiv_eq_ediv_of_nonneg (by omega), q1, IntKind.wrap_i64]; omega
  have t5 : IntKind.i64.wrap (a : Int) = (a : Int) := by rw [IntKind.wrap_i64]; omega
  have t2 : (n : Int).tmod 10 = (b : Int) := by rw [Int.tmod_eq_emod_of_nonneg (by omega), q2]
  have t3 : IntKind.i64.wrap (48 + (b : Int)) = 48 + (b : Int) := by rw [IntKind.wrap_i64]; omega
  have t4 : IntKind.u8.wrap (48 + (b : Int)) = 48 + (b : Int) := by simp [IntKind.wrap, IntKind.bits, IntKind.signed]; omega
  have hconv := fun (W : World) (x : Addr) (hc : W.cell? x = some (.int .u8 (48 + (b : Int)))) => str_at W x b hb hc
  clear hn
  go_enter Tryd.func40, Tryd.ntmps40
  go_wp2
  go_region_with (go_at_call 40; refine (number_small a _ ha2).mono ?_; rintro e w' ⟨rfl, rfl⟩)
  all_goals go_wp2
  all_goals go_ret
  all_goals exact ⟨rfl, (((Below.refl _ _).alloc (Nat.le_refl _) _).alloc (by simp) _).drew⟩

theorem number_any (x : Int) (w : World) (h0 : 0 ≤ x) (h1 : x < 100) : Calls Tryd.prog 40 #[.int .i64 x] w fun e w' => e = .returned (.string (digS x)) ∧ Below w.heap.size w w' := by
  obtain ⟨n, rfl⟩ : ∃ n : Nat, x = (n : Int) := ⟨x.toNat, by omega⟩
  by_cases h : n < 10
  · refine (number_small n w h).mono fun e w' ⟨he, hw⟩ => ⟨?_, by rw [hw]; exact (Below.refl _ _).alloc (Nat.le_refl _) _⟩
    rw [he]
    unfold digS
    rw [Int.toNat_natCast, Lib.decDigits, dif_pos h]
    rfl
  · refine (number_big n (n / 10) (n % 10) w (by omega) (by omega) (by omega) (by omega)).mono fun e w' ⟨he, hb⟩ => ⟨?_, hb⟩
    rw [he]
    unfold digS
    rw [Int.toNat_natCast, Lib.decDigits, dif_neg h, Lib.decDigits, dif_pos (by omega)]
    rfl

end Go.Proofs.YtkjjdmdlkdoedaaDoor.SetsRText
