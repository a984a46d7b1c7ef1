/-
  Texts that stand together: WordsOne, WordsEnds.
-/
import Derived.Test.YtbnajikkogdelaaDoorWordsMath
import Derived.Test.YtbnajikkogdelaaDoorProg
import Derived.WalkKit
import Derived.WalkSpells
namespace Go.Proofs.YtbnajikkogdelaaDoor.WordsOne
open Go.RowKit Go.Proofs.YtbnajikkogdelaaDoor.WordsMath

theorem ret_bool {a b : Bool} (h : a = b) : Ending.returned (.bool a) = .returned (.bool b) := by rw [h]

theorem ret_str {a b : ByteArray} (h : a = b) : Ending.returned (.string a) = .returned (.string b) := by rw [h]

set_option maxHeartbeats 400000 in
theorem blank_any (c : Nat) (w : World) : Calls Tryd.prog 80 #[.int .u8 (c : Int)] w fun e w' => e = .returned (.bool (blankN c)) ∧ w' = w := by
  by_cases h1 : c = 32
  · subst h1
    go_enter Tryd.func80, Tryd.ntmps80
    go_wp2
    go_ret
    exact ⟨rfl, rfl⟩
  · by_cases h2 : c = 9
    · subst h2
      go_enter Tryd.func80, Tryd.ntmps80
      go_wp2
      go_ret
      exact ⟨rfl, rfl⟩
    · have E : Hid (blankN c = false) := by show blankN c = false; unfold blankN; simp; omega
      have k1 : ((c : Int) == 32) = false := by simp; omega
      have k2 : ((c : Int) == 9) = false := by simp; omega
      go_enter Tryd.func80, Tryd.ntmps80
      go_wp2
      go_ret
      exact ⟨ret_bool E.out.symm, rfl⟩

set_option maxHeartbeats 400000 in
theorem rblank_any (c : Nat) (w : World) : Calls Tryd.prog 46 #[.int .u8 (c : Int)] w fun e w' => e = .returned (.bool (blankN c)) ∧ w' = w := by
  by_cases h1 : c = 32
  · subst h1
    go_enter Tryd.func46, Tryd.ntmps46
    go_wp2
    go_ret
    exact ⟨rfl, rfl⟩
  · by_cases h2 : c = 9
    · subst h2
      go_enter Tryd.func46, Tryd.ntmps46
      go_wp2
      go_ret
      exact ⟨rfl, rfl⟩
    · have E : Hid (blankN c = false) := by show blankN c = false; unfold blankN; simp; omega
      have k1 : ((c : Int) == 32) = false := by simp; omega
      have k2 : ((c : Int) == 9) = false := by simp; omega
      go_enter Tryd.func46, Tryd.ntmps46
      go_wp2
      go_ret
      exact ⟨ret_bool E.out.symm, rfl⟩

set_option maxHeartbeats 400000 in
theorem plain_any (c : Nat) (w : World) : Calls Tryd.prog 62 #[.int .u8 (c : Int)] w fun e w' => e = .returned (.bool (plainN c)) ∧ w' = w := by
  by_cases h1 : 32 < c
  · have k1 : (32 : Int) < (c : Int) := by omega
    by_cases h2 : c < 127
    · have k2 : (c : Int) < 127 := by omega
      by_cases h3 : c = 34
      · subst h3
        go_enter Tryd.func62, Tryd.ntmps62
        go_wp2
        go_ret
        exact ⟨rfl, rfl⟩
      · have E : Hid (plainN c = true) := by show plainN c = true; unfold plainN; simp; omega
        have k3 : ((c : Int) != 34) = true := by simp; omega
        go_enter Tryd.func62, Tryd.ntmps62
        go_wp2
        go_ret
        exact ⟨ret_bool E.out.symm, rfl⟩
    · have E : Hid (plainN c = false) := by show plainN c = false; unfold plainN; simp; omega
      have k2 : ¬ (c : Int) < 127 := by omega
      go_enter Tryd.func62, Tryd.ntmps62
      go_wp2
      go_ret
      exact ⟨ret_bool E.out.symm, rfl⟩
  · have E : Hid (plainN c = false) := by show plainN c = false; unfold plainN; simp; omega
    have k1 : ¬ (32 : Int) < (c : Int) := by omega
    go_enter Tryd.func62, Tryd.ntmps62
    go_wp2
    go_ret
    exact ⟨ret_bool E.out.symm, rfl⟩

set_option maxHeartbeats 400000 in
theorem rplain_any (c : Nat) (w : World) : Calls Tryd.prog 48 #[.int .u8 (c : Int)] w fun e w' => e = .returned (.bool (plainN c)) ∧ w' = w := by
  by_cases h1 : 33 ≤ c
  · have k1 : (33 : Int) ≤ (c : Int) := by omega
    by_cases h2 : c ≤ 126
    · have k2 : (c : Int) ≤ 126 := by omega
      by_cases h3 : c = 34
      · subst h3
        go_enter Tryd.func48, Tryd.ntmps48
        go_wp2
        go_ret
        exact ⟨rfl, rfl⟩
      · have E : Hid (plainN c = true) := by show plainN c = true; unfold plainN; simp; omega
        have k3 : ((c : Int) != 34) = true := by simp; omega
        go_enter Tryd.func48, Tryd.ntmps48
        go_wp2
        go_ret
        exact ⟨ret_bool E.out.symm, rfl⟩
    · have E : Hid (plainN c = false) := by show plainN c = false; unfold plainN; simp; omega
      have k2 : ¬ (c : Int) ≤ 126 := by omega
      go_enter Tryd.func48, Tryd.ntmps48
      go_wp2
      go_ret
      exact ⟨ret_bool E.out.symm, rfl⟩
  · have E : Hid (plainN c = false) := by show plainN c = false; unfold plainN; simp; omega
    have k1 : ¬ (33 : Int) ≤ (c : Int) := by omega
    go_enter Tryd.func48, Tryd.ntmps48
    go_wp2
    go_ret
    exact ⟨ret_bool E.out.symm, rfl⟩

end Go.Proofs.YtbnajikkogdelaaDoor.WordsOne

namespace Go.Proofs.YtbnajikkogdelaaDoor.WordsOne
open Go.RowKit Go.Proofs.YtbnajikkogdelaaDoor.WordsMath

theorem list_size (s : ByteArray) : s.data.toList.length = s.size := by cases s; simp [ByteArray.size]

theorem drop_cons (s : ByteArray) {i : Nat} (hi : i < s.size) : s.data.toList.drop i = s[i] :: s.data.toList.drop (i + 1) := by
  rw [List.drop_eq_getElem_cons (by rw [list_size]; exact hi)]
  congr 1

theorem drop_end (s : ByteArray) {i : Nat} (hi : s.size ≤ i) : s.data.toList.drop i = [] := by
  rw [List.drop_eq_nil_iff, list_size]; exact hi

theorem byte_lt (s : ByteArray) {i : Nat} (hi : i < s.size) : s[i].toNat < 256 := s[i].toNat_lt

set_option maxHeartbeats 400000 in
theorem ends_any (s : ByteArray) (i : Nat) (w : World) (hi : i ≤ s.size) : Calls Tryd.prog 82 #[.string s, .int .i64 (i : Int)] w fun e w' => e = .returned (.bool (endsL (s.data.toList.drop i))) ∧ w' = w := by
  by_cases h : i = s.size
  · have E : Hid (endsL (s.data.toList.drop i) = true) := by show endsL _ = true; rw [drop_end s (by omega)]; rfl
    have k1 : ((i : Int) == (s.size : Int)) = true := by simp; omega
    go_enter Tryd.func82, Tryd.ntmps82
    go_wp2
    go_ret
    exact ⟨ret_bool E.out.symm, rfl⟩
  · have hlt : i < s.size := by omega
    have E : Hid (endsL (s.data.toList.drop i) = blankN s[i].toNat) := by show endsL _ = _; rw [drop_cons s hlt]; rfl
    obtain ⟨c, hc⟩ : ∃ c, s[i] = c := ⟨_, rfl⟩
    rw [hc] at E
    have k1 : ((i : Int) == (s.size : Int)) = false := by simp; omega
    go_enter Tryd.func82, Tryd.ntmps82
    go_wp2_with (go_at_call 80; refine (blank_any _ _).mono ?_; rintro e w' ⟨rfl, rfl⟩)
    go_ret
    exact ⟨ret_bool E.out.symm, rfl⟩

theorem empty_list {s : ByteArray} (h : s.size = 0) : s.data.toList = [] := List.eq_nil_of_length_eq_zero (by rw [list_size]; exact h)

set_option maxHeartbeats 400000 in
theorem wplain_any (s : ByteArray) (w : World) (hs : s.size ≤ 4611686018427387904) : Calls Tryd.prog 37 #[.string s] w fun e w' => e = .returned (.bool (plainW s.data.toList)) ∧ w' = w := by
  go_enter Tryd.func37, Tryd.ntmps37
  go_wp2
  go_loop [6] (fun i => ∃ k : Nat, k ≤ s.size ∧ i = .int .i64 k ∧ allPlain (s.data.toList.drop k) = allPlain s.data.toList) (fun i => s.size - (intOf i).toNat)
  case atStart => exact ⟨0, by omega, rfl, by rw [List.drop_zero]⟩
  case round =>
    obtain ⟨k, hk, rfl, hall⟩ := hrel
    by_cases hlt : k < s.size
    · have hd := drop_cons s hlt
      rw [hd, allPlain_cons] at hall
      clear hd
      obtain ⟨c, hc⟩ : ∃ c, s[k] = c := ⟨_, rfl⟩
      rw [hc] at hall
      by_cases hp : plainN c.toNat = true
      · have E : Hid (allPlain (s.data.toList.drop (k + 1)) = allPlain s.data.toList) := by show _ = _; rw [← hall, hp, Bool.true_and]
        clear hall
        go_wp2_with (go_at_call 62; refine (plain_any _ _).mono ?_; rintro e w' ⟨rfl, rfl⟩; rw [hp])
        go_round
        case rel => exact ⟨k + 1, by omega, by go_num, E.out⟩
        case measure => simp [intOf]; omega
      · have hp2 : plainN c.toNat = false := by simpa using hp
        have E : Hid (plainW s.data.toList = false) := by show _ = _; unfold plainW; rw [← hall, hp2]; rfl
        clear hall hp
        go_wp2_with (go_at_call 62; refine (plain_any _ _).mono ?_; rintro e w' ⟨rfl, rfl⟩; rw [hp2])
        go_ret
        exact ⟨ret_bool E.out.symm, rfl⟩
    · have hall' : allPlain s.data.toList = true := by rw [← hall, drop_end s (by omega)]; rfl
      clear hall
      by_cases h0 : s.size = 0
      · have E : Hid (plainW s.data.toList = false) := by show _ = _; unfold plainW; rw [empty_list h0]; rfl
        have he : s.toList = [] := by rw [ByteArray.toList_eq]; exact empty_list h0
        clear hall'
        go_wp2
        go_ret
        exact ⟨ret_bool E.out.symm, rfl⟩
      · have hpos : 0 < s.size := by omega
        have E : Hid (plainW s.data.toList = (s[0].toNat != 35)) := by show _ = _; unfold plainW; rw [hall', Bool.true_and, show s.data.toList = s.data.toList.drop 0 from rfl, drop_cons s hpos]; rfl
        have he : s.toList.isEmpty = false := by rw [ByteArray.toList_eq, List.isEmpty_eq_false_iff]; intro h; have := list_size s; rw [h] at this; simp at this; omega
        obtain ⟨c, hc⟩ : ∃ c, s[0] = c := ⟨_, rfl⟩
        rw [hc] at E
        by_cases h35 : c.toNat = 35
        · have k5 : ((c.toNat : Int) != 35) = false := by simp; omega
          clear hall'
          go_wp2
          go_ret
          exact ⟨ret_bool (by rw [E.out]; simp [h35]), rfl⟩
        · have k5 : ((c.toNat : Int) != 35) = true := by simp; omega
          clear hall'
          go_wp2
          go_ret
          exact ⟨ret_bool (by rw [E.out]; simp [h35]), rfl⟩

set_option maxHeartbeats 400000 in
theorem rwplain_any (s : ByteArray) (w : World) (hs : s.size ≤ 4611686018427387904) : Calls Tryd.prog 59 #[.string s] w fun e w' => e = .returned (.bool (plainW s.data.toList)) ∧ w' = w := by
  go_enter Tryd.func59, Tryd.ntmps59
  go_wp2
  go_loop [3] (fun i => ∃ k : Nat, k ≤ s.size ∧ i = .int .i64 k ∧ allPlain (s.data.toList.drop k) = allPlain s.data.toList) (fun i => s.size - (intOf i).toNat)
  case atStart => exact ⟨0, by omega, rfl, by rw [List.drop_zero]⟩
  case round =>
    obtain ⟨k, hk, rfl, hall⟩ := hrel
    by_cases hlt : k < s.size
    · have hd := drop_cons s hlt
      rw [hd, allPlain_cons] at hall
      clear hd
      obtain ⟨c, hc⟩ : ∃ c, s[k] = c := ⟨_, rfl⟩
      rw [hc] at hall
      by_cases hp : plainN c.toNat = true
      · have E : Hid (allPlain (s.data.toList.drop (k + 1)) = allPlain s.data.toList) := by show _ = _; rw [← hall, hp, Bool.true_and]
        clear hall
        go_wp2_with (go_at_call 48; refine (rplain_any _ _).mono ?_; rintro e w' ⟨rfl, rfl⟩; rw [hp])
        go_round
        case rel => exact ⟨k + 1, by omega, by go_num, E.out⟩
        case measure => simp [intOf]; omega
      · have hp2 : plainN c.toNat = false := by simpa using hp
        have E : Hid (plainW s.data.toList = false) := by show _ = _; unfold plainW; rw [← hall, hp2]; rfl
        clear hall hp
        go_wp2_with (go_at_call 48; refine (rplain_any _ _).mono ?_; rintro e w' ⟨rfl, rfl⟩; rw [hp2])
        go_ret
        exact ⟨ret_bool E.out.symm, rfl⟩
    · have hall' : allPlain s.data.toList = true := by rw [← hall, drop_end s (by omega)]; rfl
      clear hall
      by_cases h0 : s.size = 0
      · have E : Hid (plainW s.data.toList = false) := by show _ = _; unfold plainW; rw [empty_list h0]; rfl
        have k0 : ¬ (0 : Int) < (s.size : Int) := by omega
        clear hall'
        go_wp2
        go_ret
        exact ⟨ret_bool E.out.symm, rfl⟩
      · have hpos : 0 < s.size := by omega
        have k0 : (0 : Int) < (s.size : Int) := by omega
        have E : Hid (plainW s.data.toList = (s[0].toNat != 35)) := by show _ = _; unfold plainW; rw [hall', Bool.true_and, show s.data.toList = s.data.toList.drop 0 from rfl, drop_cons s hpos]; rfl
        obtain ⟨c, hc⟩ : ∃ c, s[0] = c := ⟨_, rfl⟩
        rw [hc] at E
        by_cases h35 : c.toNat = 35
        · have k5 : ((c.toNat : Int) != 35) = false := by simp; omega
          clear hall'
          go_wp2
          go_ret
          exact ⟨ret_bool (by rw [E.out]; simp [h35]), rfl⟩
        · have k5 : ((c.toNat : Int) != 35) = true := by simp; omega
          clear hall'
          go_wp2
          go_ret
          exact ⟨ret_bool (by rw [E.out]; simp [h35]), rfl⟩

end Go.Proofs.YtbnajikkogdelaaDoor.WordsOne
