/-
  Texts that stand together: WordsOne, WordsEnds.
-/
import Derived.Test.YtgepbophnbbbpaaGreatDoorBagGramBuild4
import Derived.Test.YtgepbophnbbbpaaGreatDoorProg
import Derived.WalkKit
import Derived.WalkSpells
namespace Go.Proofs.YtgepbophnbbbpaaGreatDoor.WordsOne
open Go.RowKit Go.Proofs.YtgepbophnbbbpaaGreatDoor.WordsMath

theorem ret_bool {a b : Bool} (h : a = b) : Ending.returned (.bool a) = .returned (.bool b) := by rw [h]

theorem ret_str {a b : ByteArray} (h : a = b) : Ending.returned (.string a) = .returned (.string b) := by rw [h]

set_option maxHeartbeats 400000 in
theorem blank_any (c : Nat) (w : World) : Calls Tryz.prog 68 #[.int .u8 (c : Int)] w fun e w' => e = .returned (.bool (blankN c)) ∧ w' = w := by
  by_cases h1 : c = 32
  · subst h1
    go_enter Tryz.func68, Tryz.ntmps68
    go_wp2
    go_ret
    exact ⟨rfl, rfl⟩
  · by_cases h2 : c = 9
    · subst h2
      go_enter Tryz.func68, Tryz.ntmps68
      go_wp2
      go_ret
      exact ⟨rfl, rfl⟩
    · have E : Hid (blankN c = false) := by show blankN c = false; unfold blankN; simp; omega
      have k1 : ((c : Int) == 32) = false := by simp; omega
      have k2 : ((c : Int) == 9) = false := by simp; omega
      go_enter Tryz.func68, Tryz.ntmps68
      go_wp2
      go_ret
      exact ⟨ret_bool E.out.symm, rfl⟩

set_option maxHeartbeats 400000 in
theorem plain_any (c : Nat) (w : World) : Calls Tryz.prog 72 #[.int .u8 (c : Int)] w fun e w' => e = .returned (.bool (plainN c)) ∧ w' = w := by
  by_cases h1 : 32 < c
  · have k1 : (32 : Int) < (c : Int) := by omega
    by_cases h2 : c < 127
    · have k2 : (c : Int) < 127 := by omega
      by_cases h3 : c = 34
      · subst h3
        go_enter Tryz.func72, Tryz.ntmps72
        go_wp2
        go_ret
        exact ⟨rfl, rfl⟩
      · have E : Hid (plainN c = true) := by show plainN c = true; unfold plainN; simp; omega
        have k3 : ((c : Int) != 34) = true := by simp; omega
        go_enter Tryz.func72, Tryz.ntmps72
        go_wp2
        go_ret
        exact ⟨ret_bool E.out.symm, rfl⟩
    · have E : Hid (plainN c = false) := by show plainN c = false; unfold plainN; simp; omega
      have k2 : ¬ (c : Int) < 127 := by omega
      go_enter Tryz.func72, Tryz.ntmps72
      go_wp2
      go_ret
      exact ⟨ret_bool E.out.symm, rfl⟩
  · have E : Hid (plainN c = false) := by show plainN c = false; unfold plainN; simp; omega
    have k1 : ¬ (32 : Int) < (c : Int) := by omega
    go_enter Tryz.func72, Tryz.ntmps72
    go_wp2
    go_ret
    exact ⟨ret_bool E.out.symm, rfl⟩

end Go.Proofs.YtgepbophnbbbpaaGreatDoor.WordsOne

namespace Go.Proofs.YtgepbophnbbbpaaGreatDoor.WordsOne
open Go.RowKit Go.Proofs.YtgepbophnbbbpaaGreatDoor.WordsMath

theorem list_size (s : ByteArray) : s.data.toList.length = s.size := by cases s; simp [ByteArray.size]

theorem drop_cons (s : ByteArray) {i : Nat} (hi : i < s.size) : s.data.toList.drop i = s[i] :: s.data.toList.drop (i + 1) := by
  rw [List.drop_eq_getElem_cons (by rw [list_size]; exact hi)]
  congr 1

theorem drop_end (s : ByteArray) {i : Nat} (hi : s.size ≤ i) : s.data.toList.drop i = [] := by
  rw [List.drop_eq_nil_iff, list_size]; exact hi

set_option maxHeartbeats 400000 in
theorem ends_any (s : ByteArray) (i : Nat) (w : World) (hi : i ≤ s.size) : Calls Tryz.prog 70 #[.string s, .int .i64 (i : Int)] w fun e w' => e = .returned (.bool (endsL (s.data.toList.drop i))) ∧ w' = w := by
  by_cases h : i = s.size
  · have E : Hid (endsL (s.data.toList.drop i) = true) := by show endsL _ = true; rw [drop_end s (by omega)]; rfl
    have k1 : ((i : Int) == (s.size : Int)) = true := by simp; omega
    go_enter Tryz.func70, Tryz.ntmps70
    go_wp2
    go_ret
    exact ⟨ret_bool E.out.symm, rfl⟩
  · have hlt : i < s.size := by omega
    have E : Hid (endsL (s.data.toList.drop i) = blankN s[i].toNat) := by show endsL _ = _; rw [drop_cons s hlt]; rfl
    obtain ⟨c, hc⟩ : ∃ c, s[i] = c := ⟨_, rfl⟩
    rw [hc] at E
    have k1 : ((i : Int) == (s.size : Int)) = false := by simp; omega
    go_enter Tryz.func70, Tryz.ntmps70
    go_wp2_with (go_at_call 68; refine (blank_any _ _).mono ?_; rintro e w' ⟨rfl, rfl⟩)
    go_ret
    exact ⟨ret_bool E.out.symm, rfl⟩

end Go.Proofs.YtgepbophnbbbpaaGreatDoor.WordsOne
