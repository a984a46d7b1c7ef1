/-
  Single bytes: which are blanks, which are plain, by the program and by the document's own answer.
-/
import Derived.Test.YtbnajikkogdelaaDoorWordsMath
import Derived.Test.YtbnajikkogdelaaDoorProg
import Derived.WalkKit
import Derived.WalkSpells
namespace Go.Proofs.YtbnajikkogdelaaDoor.WordsOne
open Go.RowKit Go.Proofs.YtbnajikkogdelaaDoor.WordsMath

theorem ret_bool {a b : Bool} (h : a = b) : Ending.returned (.bool a) = .returned (.bool b) := by rw [h]

theorem ret_str {a b : ByteArray} (h : a = b) : Ending.returned (.string a) = .returned (.string b) := by rw [h]

set_option maxHeartbeats 400000 in
theorem blank_any (c : Nat) (w : World) : Calls Tryd.prog 80 #[.int .u8 (c : Int)] w fun e w' => e = .returned (.bool (blankN c)) ∧ w' = w := by
  by_cases h1 : c = 32
  · subst h1
    go_enter Tryd.func80, Tryd.ntmps80
    go_wp2
    go_ret
    exact ⟨rfl, rfl⟩
  · by_cases h2 : c = 9
    · subst h2
      go_enter Tryd.func80, Tryd.ntmps80
      go_wp2
      go_ret
      exact ⟨rfl, rfl⟩
    · have E : Hid (blankN c = false) := by show blankN c = false; unfold blankN; simp; omega
      have k1 : ((c : Int) == 32) = false := by simp; omega
      have k2 : ((c : Int) == 9) = false := by simp; omega
      go_enter Tryd.func80, Tryd.ntmps80
      go_wp2
      go_ret
      exact ⟨ret_bool E.out.symm, rfl⟩

set_option maxHeartbeats 400000 in
theorem rblank_any (c : Nat) (w : World) : Calls Tryd.prog 46 #[.int .u8 (c : Int)] w fun e w' => e = .returned (.bool (blankN c)) ∧ w' = w := by
  by_cases h1 : c = 32
  · subst h1
    go_enter Tryd.func46, Tryd.ntmps46
    go_wp2
    go_ret
    exact ⟨rfl, rfl⟩
  · by_cases h2 : c = 9
    · subst h2
      go_enter Tryd.func46, Tryd.ntmps46
      go_wp2
      go_ret
      exact ⟨rfl, rfl⟩
    · have E : Hid (blankN c = false) := by show blankN c = false; unfold blankN; simp; omega
      have k1 : ((c : Int) == 32) = false := by simp; omega
      have k2 : ((c : Int) == 9) = false := by simp; omega
      go_enter Tryd.func46, Tryd.ntmps46
      go_wp2
      go_ret
      exact ⟨ret_bool E.out.symm, rfl⟩

set_option maxHeartbeats 400000 in
theorem plain_any (c : Nat) (w : World) : Calls Tryd.prog 62 #[.int .u8 (c : Int)] w fun e w' => e = .returned (.bool (plainN c)) ∧ w' = w := by
  by_cases h1 : 32 < c
  · have k1 : (32 : Int) < (c : Int) := by omega
    by_cases h2 : c < 127
    · have k2 : (c : Int) < 127 := by omega
      by_cases h3 : c = 34
      · subst h3
        go_enter Tryd.func62, Tryd.ntmps62
        go_wp2
        go_ret
        exact ⟨rfl, rfl⟩
      · have E : Hid (plainN c = true) := by show plainN c = true; unfold plainN; simp; omega
        have k3 : ((c : Int) != 34) = true := by simp; omega
        go_enter Tryd.func62, Tryd.ntmps62
        go_wp2
        go_ret
        exact ⟨ret_bool E.out.symm, rfl⟩
    · have E : Hid (plainN c = false) := by show plainN c = false; unfold plainN; simp; omega
      have k2 : ¬ (c : Int) < 127 := by omega
      go_enter Tryd.func62, Tryd.ntmps62
      go_wp2
      go_ret
      exact ⟨ret_bool E.out.symm, rfl⟩
  · have E : Hid (plainN c = false) := by show plainN c = false; unfold plainN; simp; omega
    have k1 : ¬ (32 : Int) < (c : Int) := by omega
    go_enter Tryd.func62, Tryd.ntmps62
    go_wp2
    go_ret
    exact ⟨ret_bool E.out.symm, rfl⟩

set_option maxHeartbeats 400000 in
theorem rplain_any (c : Nat) (w : World) : Calls Tryd.prog 48 #[.int .u8 (c : Int)] w fun e w' => e = .returned (.bool (plainN c)) ∧ w' = w := by
  by_cases h1 : 33 ≤ c
  · have k1 : (33 : Int) ≤ (c : Int) := by omega
    by_cases h2 : c ≤ 126
    · have k2 : (c : Int) ≤ 126 := by omega
      by_cases h3 : c = 34
      · subst h3
        go_enter Tryd.func48, Tryd.ntmps48
        go_wp2
        go_ret
        exact ⟨rfl, rfl⟩
      · have E : Hid (plainN c = true) := by show plainN c = true; unfold plainN; simp; omega
        have k3 : ((c : Int) != 34) = true := by simp; omega
        go_enter Tryd.func48, Tryd.ntmps48
        go_wp2
        go_ret
        exact ⟨ret_bool E.out.symm, rfl⟩
    · have E : Hid (plainN c = false) := by show plainN c = false; unfold plainN; simp; omega
      have k2 : ¬ (c : Int) ≤ 126 := by omega
      go_enter Tryd.func48, Tryd.ntmps48
      go_wp2
      go_ret
      exact ⟨ret_bool E.out.symm, rfl⟩
  · have E : Hid (plainN c = false) := by show plainN c = false; unfold plainN; simp; omega
    have k1 : ¬ (33 : Int) ≤ (c : Int) := by omega
    go_enter Tryd.func48, Tryd.ntmps48
    go_wp2
    go_ret
    exact ⟨ret_bool E.out.symm, rfl⟩

end Go.Proofs.YtbnajikkogdelaaDoor.WordsOne
