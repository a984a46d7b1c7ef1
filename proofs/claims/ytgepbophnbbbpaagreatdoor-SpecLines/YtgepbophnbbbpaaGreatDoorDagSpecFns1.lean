/-
  Texts that stand together: SpecFns1, SpecFns2.
-/
import Derived.Test.YtgepbophnbbbpaaGreatDoorDWordsLine
import Derived.Test.YtgepbophnbbbpaaGreatDoorDagSpecRuleT
import Derived.Test.YtgepbophnbbbpaaGreatDoorDagSpecTextM
namespace Go.Proofs.YtgepbophnbbbpaaGreatDoor.SpecFn
open Go.RowKit Go.Proofs.YtgepbophnbbbpaaGreatDoor.WordsOne Go.Proofs.YtgepbophnbbbpaaGreatDoor.WordsBytes Go.Proofs.YtgepbophnbbbpaaGreatDoor.SpecLn
set_option linter.unusedVariables false
set_option linter.unusedSimpArgs false

/-- A text, n times. -/
def manyL (s : List UInt8) : Nat → List UInt8
  | 0 => []
  | n + 1 => manyL s n ++ s
theorem bytes_app (a b : List UInt8) : (⟨a.toArray⟩ : ByteArray) ++ (⟨b.toArray⟩ : ByteArray) = ⟨(a ++ b).toArray⟩ := by
  apply ByteArray.ext
  simp [ByteArray.data_append]

end Go.Proofs.YtgepbophnbbbpaaGreatDoor.SpecFn

namespace Go.Proofs.YtgepbophnbbbpaaGreatDoor.SpecFn
open Go.RowKit Go.Proofs.YtgepbophnbbbpaaGreatDoor.WordsMath Go.Proofs.YtgepbophnbbbpaaGreatDoor.WordsOne Go.Proofs.YtgepbophnbbbpaaGreatDoor.WordsBytes Go.Proofs.YtgepbophnbbbpaaGreatDoor.SpecLn Go.Proofs.YtgepbophnbbbpaaGreatDoor.SpecLs Go.Proofs.YtgepbophnbbbpaaGreatDoor.SpecSp
set_option linter.unusedVariables false
set_option linter.unusedSimpArgs false

theorem digit_cut (a : Nat) (h : a < 16) : (⟨#[48, 49, 50, 51, 52, 53, 54, 55, 56, 57, 65, 66, 67, 68, 69, 70]⟩ : ByteArray).extract a (a + 1) = ⟨#[hexB a]⟩ := by
  have : ∀ x : Fin 16, (⟨#[48, 49, 50, 51, 52, 53, 54, 55, 56, 57, 65, 66, 67, 68, 69, 70]⟩ : ByteArray).extract x.1 (x.1 + 1) = ⟨#[hexB x.1]⟩ := by decide +kernel
  exact this ⟨a, h⟩

set_option maxRecDepth 100000 in
set_option maxHeartbeats 4000000 in
theorem escaped_any (s : List UInt8) (w : World) (hs : s.length ≤ 4194304) :
    Calls Tryz.prog 41 #[.string ⟨s.toArray⟩] w fun e w' => e = .returned (.string ⟨(s.flatMap hexE).toArray⟩) ∧ Below w.heap.size w w' := by
  have hsz : (⟨s.toArray⟩ : ByteArray).size = s.length := by simp [ByteArray.size]
  go_enter Tryz.func41, Tryz.ntmps41
  go_wp2
  go_loopw [3, 4] (fun o i W => ∃ k : Nat, k ≤ s.length ∧ i = .int .i64 k ∧ o = .string ⟨((s.take k).flatMap hexE).toArray⟩ ∧ Below w.heap.size w W) (fun _ i _ => s.length - (intOf i).toNat)
  case atStart => exact ⟨0, by omega, rfl, rfl, Below.refl _ _⟩
  case round =>
    obtain ⟨k, hk, rfl, rfl, hB⟩ := hrel
    obtain ⟨V, rfl⟩ : ∃ V, V = wr := ⟨_, rfl⟩
    by_cases hlt : k < s.length
    · have hlt2 : (k : Int) < (s.length : Int) := by omega
      obtain ⟨c, hc⟩ : ∃ c, s[k] = c := ⟨_, rfl⟩
      have hck : ∀ (h : k < (⟨s.toArray⟩ : ByteArray).size), (⟨s.toArray⟩ : ByteArray)[k]'h = c := fun _ => hc
      have hO : ((s.take k).flatMap hexE).length = 4 * k := by rw [hex_len]; simp; omega
      have E : Hid ((s.take (k + 1)).flatMap hexE = (s.take k).flatMap hexE ++ hexE c) := by
        show _ = _
        rw [List.take_succ_eq_append_getElem hlt, List.flatMap_append, hc]
        simp
      generalize (s.take k).flatMap hexE = O at *
      obtain ⟨a, ha⟩ : ∃ a, c.toNat / 16 = a := ⟨_, rfl⟩
      obtain ⟨b, hb⟩ : ∃ b, c.toNat % 16 = b := ⟨_, rfl⟩
      have hcn : c.toNat < 256 := c.toNat_lt
      have hd1 := digit_cut a (by omega)
      have hd2 := digit_cut b (by omega)
      have E2 : Hid (hexE c = [92, 120, hexB a, hexB b]) := by
        show _ = _
        unfold hexE
        rw [ha, hb]
      obtain ⟨Wd, hWd⟩ : ∃ Wd, V.drew = Wd := ⟨_, rfl⟩
      go_wp2_with fail
      refine wp_region_noPanic ?_
      refine wp_region_held_drew (S := fun _ => True) (by kernel_rfl) trivial (fun hHeld => ?_)
      rw [hWd]
      refine wpAnyH_take (i := 0) (v := .string ⟨O.toArray⟩) rfl (by kernel_rfl) (by kernel_rfl) (by kernel_rfl) (fun _ _ _ h => h) (Or.inl ⟨by rfl, fun w9 hSw => ?_⟩) hHeld ?_
      · obtain _ := hSw
        go_simp
      simp only [List.getElem_toArray, List.getElem_cons_zero, List.getElem_cons_succ, Act.put, List.setIfInBounds_toArray, List.set_cons_zero, List.set_cons_succ]
      refine wpAnyH_take (i := 1) (v := .string ⟨(O ++ [92, 120]).toArray⟩) rfl (by kernel_rfl) (by kernel_rfl) (by kernel_rfl) (fun _ _ _ h => h) (Or.inl ⟨by rfl, fun w9 hSw => ?_⟩) hHeld ?_
      · obtain _ := hSw
        go_simp
        all_goals (first | rfl | omega | (rw [if_neg (by omega)]; refine congrArg (fun x => Result.ok (Next.value (Value.string x)) w9) ?_; apply ByteArray.ext; simp [ByteArray.data_append]; done) | (rw [hck]; done) | (rw [if_pos (by omega), if_pos (by omega)]; done) | (rw [Int.tmod_eq_emod_of_nonneg (by omega)]; omega) | (rw [IntKind.wrap_u8]; omega))
      simp only [List.getElem_toArray, List.getElem_cons_zero, List.getElem_cons_succ, Act.put, List.setIfInBounds_toArray, List.set_cons_zero, List.set_cons_succ]
      refine wpAnyH_take (i := 2) (v := .string ⟨s.toArray⟩) rfl (by kernel_rfl) (by kernel_rfl) (by kernel_rfl) (fun _ _ _ h => h) (Or.inl ⟨by rfl, fun w9 hSw => ?_⟩) hHeld ?_
      · obtain _ := hSw
        go_simp
      simp only [List.getElem_toArray, List.getElem_cons_zero, List.getElem_cons_succ, Act.put, List.setIfInBounds_toArray, List.set_cons_zero, List.set_cons_succ]
      refine wpAnyH_take (i := 3) (v := .int .i64 (k : Int)) rfl (by kernel_rfl) (by kernel_rfl) (by kernel_rfl) (fun _ _ _ h => h) (Or.inl ⟨by rfl, fun w9 hSw => ?_⟩) hHeld ?_
      · obtain _ := hSw
        go_simp
      simp only [List.getElem_toArray, List.getElem_cons_zero, List.getElem_cons_succ, Act.put, List.setIfInBounds_toArray, List.set_cons_zero, List.set_cons_succ]
      refine wpAnyH_take (i := 4) (v := .int .u8 (c.toNat : Int)) rfl (by kernel_rfl) (by kernel_rfl) (by kernel_rfl) (fun _ _ _ h => h) (Or.inl ⟨by rfl, fun w9 hSw => ?_⟩) hHeld ?_
      · obtain _ := hSw
        go_simp
        all_goals (first | rfl | omega | (rw [if_neg (by omega)]; refine congrArg (fun x => Result.ok (Next.value (Value.string x)) w9) ?_; apply ByteArray.ext; simp [ByteArray.data_append]; done) | (rw [hck]; done) | (rw [if_pos (by omega), if_pos (by omega)]; done) | (rw [Int.tmod_eq_emod_of_nonneg (by omega)]; omega) | (rw [IntKind.wrap_u8]; omega))
      simp only [List.getElem_toArray, List.getElem_cons_zero, List.getElem_cons_succ, Act.put, List.setIfInBounds_toArray, List.set_cons_zero, List.set_cons_succ]
      refine wpAnyH_take (i := 5) (v := .int .u8 (a : Int)) rfl (by kernel_rfl) (by kernel_rfl) (by kernel_rfl) (fun _ _ _ h => h) (Or.inl ⟨by rfl, fun w9 hSw => ?_⟩) hHeld ?_
      · obtain _ := hSw
        go_simp
        all_goals (first | rfl | omega | (rw [if_neg (by omega)]; refine congrArg (fun x => Result.ok (Next.value (Value.string x)) w9) ?_; apply ByteArray.ext; simp [ByteArray.data_append]; done) | (rw [hck]; done) | (rw [if_pos (by omega), if_pos (by omega)]; done) | (rw [Int.tmod_eq_emod_of_nonneg (by omega)]; omega) | (rw [IntKind.wrap_u8]; omega))
      simp only [List.getElem_toArray, List.getElem_cons_zero, List.getElem_cons_succ, Act.put, List.setIfInBounds_toArray, List.set_cons_zero, List.set_cons_succ]
      refine wpAnyH_take (i := 6) (v := .string ⟨s.toArray⟩) rfl (by kernel_rfl) (by kernel_rfl) (by kernel_rfl) (fun _ _ _ h => h) (Or.inl ⟨by rfl, fun w9 hSw => ?_⟩) hHeld ?_
      · obtain _ := hSw
        go_simp
      simp only [List.getElem_toArray, List.getElem_cons_zero, List.getElem_cons_succ, Act.put, List.setIfInBounds_toArray, List.set_cons_zero, List.set_cons_succ]
      refine wpAnyH_take (i := 7) (v := .int .i64 (k : Int)) rfl (by kernel_rfl) (by kernel_rfl) (by kernel_rfl) (fun _ _ _ h => h) (Or.inl ⟨by rfl, fun w9 hSw => ?_⟩) hHeld ?_
      · obtain _ := hSw
        go_simp
      simp only [List.getElem_toArray, List.getElem_cons_zero, List.getElem_cons_succ, Act.put, List.setIfInBounds_toArray, List.set_cons_zero, List.set_cons_succ]
      refine wpAnyH_take (i := 8) (v := .int .u8 (c.toNat : Int)) rfl (by kernel_rfl) (by kernel_rfl) (by kernel_rfl) (fun _ _ _ h => h) (Or.inl ⟨by rfl, fun w9 hSw => ?_⟩) hHeld ?_
      · obtain _ := hSw
        go_simp
        all_goals (first | rfl | omega | (rw [if_neg (by omega)]; refine congrArg (fun x => Result.ok (Next.value (Value.string x)) w9) ?_; apply ByteArray.ext; simp [ByteArray.data_append]; done) | (rw [hck]; done) | (rw [if_pos (by omega), if_pos (by omega)]; done) | (rw [Int.tmod_eq_emod_of_nonneg (by omega)]; omega) | (rw [IntKind.wrap_u8]; omega))
      simp only [List.getElem_toArray, List.getElem_cons_zero, List.getElem_cons_succ, Act.put, List.setIfInBounds_toArray, List.set_cons_zero, List.set_cons_succ]
      refine wpAnyH_take (i := 9) (v := .int .u8 (a : Int)) rfl (by kernel_rfl) (by kernel_rfl) (by kernel_rfl) (fun _ _ _ h => h) (Or.inl ⟨by rfl, fun w9 hSw => ?_⟩) hHeld ?_
      · obtain _ := hSw
        go_simp
        all_goals (first | rfl | omega | (rw [if_neg (by omega)]; refine congrArg (fun x => Result.ok (Next.value (Value.string x)) w9) ?_; apply ByteArray.ext; simp [ByteArray.data_append]; done) | (rw [hck]; done) | (rw [if_pos (by omega), if_pos (by omega)]; done) | (rw [Int.tmod_eq_emod_of_nonneg (by omega)]; omega) | (rw [IntKind.wrap_u8]; omega))
      simp only [List.getElem_toArray, List.getElem_cons_zero, List.getElem_cons_succ, Act.put, List.setIfInBounds_toArray, List.set_cons_zero, List.set_cons_succ]
      refine wpAnyH_take (i := 10) (v := .int .u8 ((a + 1 : Nat) : Int)) rfl (by kernel_rfl) (by kernel_rfl) (by kernel_rfl) (fun _ _ _ h => h) (Or.inl ⟨by rfl, fun w9 hSw => ?_⟩) hHeld ?_
      · obtain _ := hSw
        go_simp
        all_goals (first | rfl | omega | (rw [if_neg (by omega)]; refine congrArg (fun x => Result.ok (Next.value (Value.string x)) w9) ?_; apply ByteArray.ext; simp [ByteArray.data_append]; done) | (rw [hck]; done) | (rw [if_pos (by omega), if_pos (by omega)]; done) | (rw [Int.tmod_eq_emod_of_nonneg (by omega)]; omega) | (rw [IntKind.wrap_u8]; omega))
      simp only [List.getElem_toArray, List.getElem_cons_zero, List.getElem_cons_succ, Act.put, List.setIfInBounds_toArray, List.set_cons_zero, List.set_cons_succ]
      refine wpAnyH_take (i := 11) (v := .string ⟨#[hexB a]⟩) rfl (by kernel_rfl) (by kernel_rfl) (by kernel_rfl) (fun _ _ _ h => h) (Or.inl ⟨by rfl, fun w9 hSw => ?_⟩) hHeld ?_
      · obtain _ := hSw
        go_simp
        all_goals (first | rfl | omega | (rw [if_neg (by omega)]; refine congrArg (fun x => Result.ok (Next.value (Value.string x)) w9) ?_; apply ByteArray.ext; simp [ByteArray.data_append]; done) | (rw [hck]; done) | (rw [if_pos (by omega), if_pos (by omega)]; done) | (rw [Int.tmod_eq_emod_of_nonneg (by omega)]; omega) | (rw [IntKind.wrap_u8]; omega))
      simp only [List.getElem_toArray, List.getElem_cons_zero, List.getElem_cons_succ, Act.put, List.setIfInBounds_toArray, List.set_cons_zero, List.set_cons_succ]
      refine wpAnyH_take (i := 12) (v := .string ⟨(O ++ [92, 120, hexB a]).toArray⟩) rfl (by kernel_rfl) (by kernel_rfl) (by kernel_rfl) (fun _ _ _ h => h) (Or.inl ⟨by rfl, fun w9 hSw => ?_⟩) hHeld ?_
      · obtain _ := hSw
        go_simp
        all_goals (first | rfl | omega | (rw [if_neg (by omega)]; refine congrArg (fun x => Result.ok (Next.value (Value.string x)) w9) ?_; apply ByteArray.ext; simp [ByteArray.data_append]; done) | (rw [hck]; done) | (rw [if_pos (by omega), if_pos (by omega)]; done) | (rw [Int.tmod_eq_emod_of_nonneg (by omega)]; omega) | (rw [IntKind.wrap_u8]; omega))
      simp only [List.getElem_toArray, List.getElem_cons_zero, List.getElem_cons_succ, Act.put, List.setIfInBounds_toArray, List.set_cons_zero, List.set_cons_succ]
      refine wpAnyH_take (i := 13) (v := .string ⟨s.toArray⟩) rfl (by kernel_rfl) (by kernel_rfl) (by kernel_rfl) (fun _ _ _ h => h) (Or.inl ⟨by rfl, fun w9 hSw => ?_⟩) hHeld ?_
      · obtain _ := hSw
        go_simp
      simp only [List.getElem_toArray, List.getElem_cons_zero, List.getElem_cons_succ, Act.put, List.setIfInBounds_toArray, List.set_cons_zero, List.set_cons_succ]
      refine wpAnyH_take (i := 14) (v := .int .i64 (k : Int)) rfl (by kernel_rfl) (by kernel_rfl) (by kernel_rfl) (fun _ _ _ h => h) (Or.inl ⟨by rfl, fun w9 hSw => ?_⟩) hHeld ?_
      · obtain _ := hSw
        go_simp
      simp only [List.getElem_toArray, List.getElem_cons_zero, List.getElem_cons_succ, Act.put, List.setIfInBounds_toArray, List.set_cons_zero, List.set_cons_succ]
      refine wpAnyH_take (i := 15) (v := .int .u8 (c.toNat : Int)) rfl (by kernel_rfl) (by kernel_rfl) (by kernel_rfl) (fun _ _ _ h => h) (Or.inl ⟨by rfl, fun w9 hSw => ?_⟩) hHeld ?_
      · obtain _ := hSw
        go_simp
        all_goals (first | rfl | omega | (rw [if_neg (by omega)]; refine congrArg (fun x => Result.ok (Next.value (Value.string x)) w9) ?_; apply ByteArray.ext; simp [ByteArray.data_append]; done) | (rw [hck]; done) | (rw [if_pos (by omega), if_pos (by omega)]; done) | (rw [Int.tmod_eq_emod_of_nonneg (by omega)]; omega) | (rw [IntKind.wrap_u8]; omega))
      simp only [List.getElem_toArray, List.getElem_cons_zero, List.getElem_cons_succ, Act.put, List.setIfInBounds_toArray, List.set_cons_zero, List.set_cons_succ]
      refine wpAnyH_take (i := 16) (v := .int .u8 (b : Int)) rfl (by kernel_rfl) (by kernel_rfl) (by kernel_rfl) (fun _ _ _ h => h) (Or.inl ⟨by rfl, fun w9 hSw => ?_⟩) hHeld ?_
      · obtain _ := hSw
        go_simp
        all_goals (first | rfl | omega | (rw [if_neg (by omega)]; refine congrArg (fun x => Result.ok (Next.value (Value.string x)) w9) ?_; apply ByteArray.ext; simp [ByteArray.data_append]; done) | (rw [hck]; done) | (rw [if_pos (by omega), if_pos (by omega)]; done) | (rw [Int.tmod_eq_emod_of_nonneg (by omega)]; omega) | (rw [IntKind.wrap_u8]; omega))
      simp only [List.getElem_toArray, List.getElem_cons_zero, List.getElem_cons_succ, Act.put, List.setIfInBounds_toArray, List.set_cons_zero, List.set_cons_succ]
      refine wpAnyH_take (i := 17) (v := .string ⟨s.toArray⟩) rfl (by kernel_rfl) (by kernel_rfl) (by kernel_rfl) (fun _ _ _ h => h) (Or.inl ⟨by rfl, fun w9 hSw => ?_⟩) hHeld ?_
      · obtain _ := hSw
        go_simp
      simp only [List.getElem_toArray, List.getElem_cons_zero, List.getElem_cons_succ, Act.put, List.setIfInBounds_toArray, List.set_cons_zero, List.set_cons_succ]
      refine wpAnyH_take (i := 18) (v := .int .i64 (k : Int)) rfl (by kernel_rfl) (by kernel_rfl) (by kernel_rfl) (fun _ _ _ h => h) (Or.inl ⟨by rfl, fun w9 hSw => ?_⟩) hHeld ?_
      · obtain _ := hSw
        go_simp
      simp only [List.getElem_toArray, List.getElem_cons_zero, List.getElem_cons_succ, Act.put, List.setIfInBounds_toArray, List.set_cons_zero, List.set_cons_succ]
      refine wpAnyH_take (i := 19) (v := .int .u8 (c.toNat : Int)) rfl (by kernel_rfl) (by kernel_rfl) (by kernel_rfl) (fun _ _ _ h => h) (Or.inl ⟨by rfl, fun w9 hSw => ?_⟩) hHeld ?_
      · obtain _ := hSw
        go_simp
        all_goals (first | rfl | omega | (rw [if_neg (by omega)]; refine congrArg (fun x => Result.ok (Next.value (Value.string x)) w9) ?_; apply ByteArray.ext; simp [ByteArray.data_append]; done) | (rw [hck]; done) | (rw [if_pos (by omega), if_pos (by omega)]; done) | (rw [Int.tmod_eq_emod_of_nonneg (by omega)]; omega) | (rw [IntKind.wrap_u8]; omega))
      simp only [List.getElem_toArray, List.getElem_cons_zero, List.getElem_cons_succ, Act.put, List.setIfInBounds_toArray, List.set_cons_zero, List.set_cons_succ]
      refine wpAnyH_take (i := 20) (v := .int .u8 (b : Int)) rfl (by kernel_rfl) (by kernel_rfl) (by kernel_rfl) (fun _ _ _ h => h) (Or.inl ⟨by rfl, fun w9 hSw => ?_⟩) hHeld ?_
      · obtain _ := hSw
        go_simp
        all_goals (first | rfl | omega | (rw [if_neg (by omega)]; refine congrArg (fun x => Result.ok (Next.value (Value.string x)) w9) ?_; apply ByteArray.ext; simp [ByteArray.data_append]; done) | (rw [hck]; done) | (rw [if_pos (by omega), if_pos (by omega)]; done) | (rw [Int.tmod_eq_emod_of_nonneg (by omega)]; omega) | (rw [IntKind.wrap_u8]; omega))
      simp only [List.getElem_toArray, List.getElem_cons_zero, List.getElem_cons_succ, Act.put, List.setIfInBounds_toArray, List.set_cons_zero, List.set_cons_succ]
      refine wpAnyH_take (i := 21) (v := .int .u8 ((b + 1 : Nat) : Int)) rfl (by kernel_rfl) (by kernel_rfl) (by kernel_rfl) (fun _ _ _ h => h) (Or.inl ⟨by rfl, fun w9 hSw => ?_⟩) hHeld ?_
      · obtain _ := hSw
        go_simp
        all_goals (first | rfl | omega | (rw [if_neg (by omega)]; refine congrArg (fun x => Result.ok (Next.value (Value.string x)) w9) ?_; apply ByteArray.ext; simp [ByteArray.data_append]; done) | (rw [hck]; done) | (rw [if_pos (by omega), if_pos (by omega)]; done) | (rw [Int.tmod_eq_emod_of_nonneg (by omega)]; omega) | (rw [IntKind.wrap_u8]; omega))
      simp only [List.getElem_toArray, List.getElem_cons_zero, List.getElem_cons_succ, Act.put, List.setIfInBounds_toArray, List.set_cons_zero, List.set_cons_succ]
      refine wpAnyH_take (i := 22) (v := .string ⟨#[hexB b]⟩) rfl (by kernel_rfl) (by kernel_rfl) (by kernel_rfl) (fun _ _ _ h => h) (Or.inl ⟨by rfl, fun w9 hSw => ?_⟩) hHeld ?_
      · obtain _ := hSw
        go_simp
        all_goals (first | rfl | omega | (rw [if_neg (by omega)]; refine congrArg (fun x => Result.ok (Next.value (Value.string x)) w9) ?_; apply ByteArray.ext; simp [ByteArray.data_append]; done) | (rw [hck]; done) | (rw [if_pos (by omega), if_pos (by omega)]; done) | (rw [Int.tmod_eq_emod_of_nonneg (by omega)]; omega) | (rw [IntKind.wrap_u8]; omega))
      simp only [List.getElem_toArray, List.getElem_cons_zero, List.getElem_cons_succ, Act.put, List.setIfInBounds_toArray, List.set_cons_zero, List.set_cons_succ]
      refine wpAnyH_take (i := 23) (v := .string ⟨(O ++ [92, 120, hexB a, hexB b]).toArray⟩) rfl (by kernel_rfl) (by kernel_rfl) (by kernel_rfl) (fun _ _ _ h => h) (Or.inl ⟨by rfl, fun w9 hSw => ?_⟩) hHeld ?_
      · obtain _ := hSw
        go_simp
        all_goals (first | rfl | omega | (rw [if_neg (by omega)]; refine congrArg (fun x => Result.ok (Next.value (Value.string x)) w9) ?_; apply ByteArray.ext; simp [ByteArray.data_append]; done) | (rw [hck]; done) | (rw [if_pos (by omega), if_pos (by omega)]; done) | (rw [Int.tmod_eq_emod_of_nonneg (by omega)]; omega) | (rw [IntKind.wrap_u8]; omega))
      simp only [List.getElem_toArray, List.getElem_cons_zero, List.getElem_cons_succ, Act.put, List.setIfInBounds_toArray, List.set_cons_zero, List.set_cons_succ]
      refine wpAnyH_take (i := 24) (v := .string ⟨(O ++ [92, 120, hexB a, hexB b]).toArray⟩) rfl (by kernel_rfl) (by kernel_rfl) (by kernel_rfl) (fun _ _ _ h => h) (Or.inl ⟨by rfl, fun w9 hSw => ?_⟩) hHeld ?_
      · obtain _ := hSw
        go_simp
      simp only [List.getElem_toArray, List.getElem_cons_zero, List.getElem_cons_succ, Act.put, List.setIfInBounds_toArray, List.set_cons_zero, List.set_cons_succ]
      refine wpAnyH_done (by kernel_rfl) (NoPanic.normal ?_) _
      clear hHeld
      have hbd1 : Below w.heap.size w Wd := by rw [← hWd]; exact hB.trans ((⟨rfl, rfl, rfl, Nat.le_refl _, fun _ _ => rfl⟩ : Below V.heap.size V V.drew).mono hB.size)
      clear hWd
      go_wp2
      go_roundw
      case rel => exact ⟨k + 1, by omega, by go_num, by rw [E.out, E2.out], hbd1⟩
      case measure => simp [intOf]; omega
    · obtain rfl : k = s.length := by omega
      have hlt2 : ¬ (s.length : Int) < (s.length : Int) := by omega
      rw [List.take_length]
      go_wp2
      go_ret
      exact ⟨rfl, hB⟩

end Go.Proofs.YtgepbophnbbbpaaGreatDoor.SpecFn
