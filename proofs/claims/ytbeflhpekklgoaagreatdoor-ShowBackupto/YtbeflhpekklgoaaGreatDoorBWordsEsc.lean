/-
  Texts that stand together: WordsEsc.
-/
import Derived.Test.YtbeflhpekklgoaaGreatDoorBagShowMath
import Derived.Test.YtbeflhpekklgoaaGreatDoorBagWordsRQuote
import Derived.Deep.QuietTactic
import Derived.BigQuiet
namespace Go.Proofs.YtbeflhpekklgoaaGreatDoor.WordsBytes
open Go.RowKit Go.Proofs.YtbeflhpekklgoaaGreatDoor.WordsMath Go.Proofs.YtbeflhpekklgoaaGreatDoor.WordsOne

/-- A digit's worth; -1: it is none. -/
def hexI (n : Nat) : Int := match hexN n with | some v => (v : Int) | none => -1

theorem hexN_lt {n v : Nat} (h : hexN n = some v) : v < 16 := by
  unfold hexN at h
  by_cases h1 : 48 ≤ n ∧ n ≤ 57
  · rw [if_pos h1] at h; cases h; omega
  · rw [if_neg h1] at h
    by_cases h2 : 65 ≤ n ∧ n ≤ 70
    · rw [if_pos h2] at h; cases h; omega
    · rw [if_neg h2] at h; cases h

set_option maxRecDepth 100000 in
theorem index_hex (c : UInt8) : Lib.indexByte digitsB.data.toList ((c.toNat : Int)).toNat.toUInt8 = hexI c.toNat := by
  have h : ∀ n : Fin 256, Lib.indexByte digitsB.data.toList ((n.1 : Int)).toNat.toUInt8 = hexI n.1 := by decide +kernel
  exact h ⟨c.toNat, c.toNat_lt⟩

theorem digit_any (c : UInt8) (w : World) : Calls Tryz.prog 111 #[.string ⟨#[48, 49, 50, 51, 52, 53, 54, 55, 56, 57, 65, 66, 67, 68, 69, 70]⟩, .int .u8 (c.toNat : Int)] w fun e w' => e = .returned (.int .i64 (hexI c.toNat)) ∧ w' = w := by
  have h := Tryz.strings_IndexByte digitsB (c.toNat : Int) w
  rw [index_hex] at h
  exact h

/-- What an escape comes to as the program tells it: the byte and its length; 0, 0: there is none. -/
def sixV (l : List UInt8) : Value := match sixL l with
  | some b => .tuple #[.int .u8 (b.toNat : Int), .int .i64 4]
  | none => .tuple #[.int .u8 0, .int .i64 0]

theorem or_hex (x y : Nat) (hx : x < 16) (hy : y < 16) : bits .or .i64 ((x : Int) * 16) (y : Int) = ((16 * x + y : Nat) : Int) := by
  have h : ∀ x y : Fin 16, bits .or .i64 ((x.1 : Int) * 16) (y.1 : Int) = ((16 * x.1 + y.1 : Nat) : Int) := by decide +kernel
  exact h ⟨x, hx⟩ ⟨y, hy⟩

theorem ret_eq {a b : Value} (h : a = b) : Ending.returned a = .returned b := by rw [h]

set_option maxRecDepth 100000 in
set_option maxHeartbeats 1000000 in
theorem sixteens_any (s : ByteArray) (w : World) (hs : s.size ≤ 4611686018427387904) : Calls Tryz.prog 110 #[.string s] w fun e w' => e = .returned (sixV s.data.toList) ∧ ∃ q, w' = w.drewN q := by
  by_cases h2 : s.size < 2
  · have E : Hid (sixV s.data.toList = .tuple #[.int .u8 0, .int .i64 0]) := by
      show _ = _
      have hl := list_size s
      match hm : s.data.toList with
      | [] => rfl
      | [_] => rfl
      | _ :: _ :: _ => rw [hm] at hl; simp at hl; omega
    have k1 : (s.size : Int) < 2 := by omega
    go_enter Tryz.func110, Tryz.ntmps110
    go_wp2
    go_ret2
    exact ⟨ret_eq E.out.symm, 0, rfl⟩
  · have k1 : ¬ (s.size : Int) < 2 := by omega
    have hd : s.data.toList = s[0] :: s[1] :: s.data.toList.drop 2 := by
      have h0 := drop_cons s (i := 0) (by omega)
      have h1 := drop_cons s (i := 1) (by omega)
      rw [List.drop_zero] at h0
      rw [h1] at h0
      exact h0
    obtain ⟨a, ha⟩ : ∃ a, s[0] = a := ⟨_, rfl⟩
    obtain ⟨b, hb⟩ : ∃ b, s[1] = b := ⟨_, rfl⟩
    rw [ha, hb] at hd
    have E : Hid (_) := hd
    clear hd
    have i0 : (0 : Int) < (s.size : Int) := by omega
    have i1 : (1 : Int) < (s.size : Int) := by omega
    cases hA : hexN a.toNat with
    | none =>
      have e1 : hexI a.toNat = -1 := by unfold hexI; rw [hA]
      have F : Hid (sixV s.data.toList = .tuple #[.int .u8 0, .int .i64 0]) := by show _ = _; unfold sixV; rw [E.out]; simp [sixL, hA]
      go_enter Tryz.func110, Tryz.ntmps110
      go_wp2
      go_quiet ((go_at_call 111; refine Calls.quiet_of_same (digit_any _ _)))
      rw [e1]
      go_wp2
      go_ret2
      exact ⟨ret_eq F.out.symm, _, rfl⟩
    | some x =>
      have hx := hexN_lt hA
      have e1 : hexI a.toNat = (x : Int) := by unfold hexI; rw [hA]
      have n1 : ¬ (x : Int) < 0 := by omega
      cases hB : hexN b.toNat with
      | none =>
        have e2 : hexI b.toNat = -1 := by unfold hexI; rw [hB]
        have F : Hid (sixV s.data.toList = .tuple #[.int .u8 0, .int .i64 0]) := by show _ = _; unfold sixV; rw [E.out]; simp [sixL, hA, hB]
        go_enter Tryz.func110, Tryz.ntmps110
        go_wp2
        go_quiet ((go_at_call 111; refine Calls.quiet_of_same (digit_any _ _)))
        rw [e1, e2]
        go_wp2
        go_ret2
        exact ⟨ret_eq F.out.symm, _, rfl⟩
      | some y =>
        have hy := hexN_lt hB
        have e2 : hexI b.toNat = (y : Int) := by unfold hexI; rw [hB]
        have n2 : ¬ (y : Int) < 0 := by omega
        have e3 := or_hex x y hx hy
        have F : Hid (sixV s.data.toList = .tuple #[.int .u8 (16 * (x : Int) + (y : Int)), .int .i64 4]) := by
          show _ = _
          have e5 : ((UInt8.ofNat (16 * x + y)).toNat : Int) = 16 * (x : Int) + (y : Int) := by rw [UInt8.toNat_ofNat']; omega
          rw [← e5]
          unfold sixV
          rw [E.out]
          simp [sixL, hA, hB]
        go_enter Tryz.func110, Tryz.ntmps110
        go_wp2
        go_quiet ((go_at_call 111; refine Calls.quiet_of_same (digit_any _ _)))
        rw [e1, e2]
        go_wp2
        go_ret2
        exact ⟨ret_eq F.out.symm, _, rfl⟩

theorem ext_list (s : ByteArray) (i : Nat) : (s.extract i s.size).data.toList = s.data.toList.drop i := by
  rw [Lib.extract_data]
  exact List.take_of_length_le (by rw [List.length_drop, list_size]; omega)

/-- What the escape behind a backslash comes to as the program tells it. -/
def escV (r : List UInt8) : Value := match escL r with
  | some (b, k) => .tuple #[.int .u8 (b.toNat : Int), .int .i64 ((k : Int) + 1)]
  | none => .tuple #[.int .u8 0, .int .i64 0]

theorem escV_six {d : UInt8} {r : List UInt8} (h : d.toNat = 120) : escV (d :: r) = sixV r := by
  unfold escV sixV escL
  simp only [h]
  cases sixL r <;> rfl

theorem sixV_shape (l : List UInt8) : ∃ a b : Int, sixV l = .tuple #[.int .u8 a, .int .i64 b] := by
  unfold sixV
  cases sixL l
  · exact ⟨_, _, rfl⟩
  · exact ⟨_, _, rfl⟩

set_option maxRecDepth 100000 in
set_option maxHeartbeats 1000000 in
theorem escaped_any (s : ByteArray) (r : List UInt8) (w : World) (hs : s.size ≤ 4611686018427387904) (hr : Hid (s.data.toList.drop 1 = r)) : Calls Tryz.prog 107 #[.string s] w fun e w' => e = .returned (escV r) ∧ ∃ q, w' = w.drewN q := by
  by_cases h2 : s.size < 2
  · have E : Hid (escV r = .tuple #[.int .u8 0, .int .i64 0]) := by
      show _ = _
      rw [← hr.out, drop_end s (by omega)]
      rfl
    have k1 : (s.size : Int) < 2 := by omega
    go_enter Tryz.func107, Tryz.ntmps107
    go_wp2
    go_ret2
    exact ⟨ret_eq E.out.symm, 0, rfl⟩
  · have k1 : ¬ (s.size : Int) < 2 := by omega
    have hd := drop_cons s (i := 1) (by omega)
    obtain ⟨d, hd1⟩ : ∃ d, s[1] = d := ⟨_, rfl⟩
    rw [hd1] at hd
    have i1 : (1 : Int) < (s.size : Int) := by omega
    have i2 : (2 : Int) ≤ (s.size : Int) := by omega
    have D : Hid (_) := hd
    clear hd
    by_cases h1 : d.toNat = 34 ∨ d.toNat = 92
    · have E : Hid (escV r = .tuple #[.int .u8 (d.toNat : Int), .int .i64 2]) := by
        show _ = _
        rw [← hr.out, D.out]
        unfold escV escL
        simp [h1]
      rcases h1 with h1 | h1
      · have k2 : ((d.toNat : Int) == 34) = true := by simp; omega
        clear h1
        go_enter Tryz.func107, Tryz.ntmps107
        go_wp2
        go_ret2
        exact ⟨ret_eq E.out.symm, 0, rfl⟩
      · have k2 : ((d.toNat : Int) == 34) = false := by simp; omega
        have k3 : ((d.toNat : Int) == 92) = true := by simp; omega
        clear h1
        go_enter Tryz.func107, Tryz.ntmps107
        go_wp2
        go_ret2
        exact ⟨ret_eq E.out.symm, 0, rfl⟩
    · have k2 : ((d.toNat : Int) == 34) = false := by simp; omega
      have k3 : ((d.toNat : Int) == 92) = false := by simp; omega
      by_cases h3 : d.toNat = 110
      · have E : Hid (escV r = .tuple #[.int .u8 10, .int .i64 2]) := by
          show _ = _
          rw [← hr.out, D.out]
          unfold escV escL
          simp [h3]
        have k4 : ((d.toNat : Int) == 110) = true := by simp; omega
        clear h1 h3
        go_enter Tryz.func107, Tryz.ntmps107
        go_wp2
        go_ret2
        exact ⟨ret_eq E.out.symm, 0, rfl⟩
      · have k4 : ((d.toNat : Int) == 110) = false := by simp; omega
        by_cases h4 : d.toNat = 120
        · have E : Hid (escV r = sixV (s.data.toList.drop 2)) := by
            show _ = _
            rw [← hr.out, D.out, escV_six h4]
          have k5 : ((d.toNat : Int) == 120) = true := by simp; omega
          have hc := sixteens_any (s.extract 2 s.size) w (by rw [ByteArray.size_extract]; omega)
          rw [ext_list] at hc
          obtain ⟨x, y, hxy⟩ := sixV_shape (s.data.toList.drop 2)
          rw [hxy] at E hc
          clear h1 h3 h4 hxy
          go_enter Tryz.func107, Tryz.ntmps107
          go_wp2_with fail
          refine hc.mono ?_
          rintro e w1 ⟨rfl, q, hw1⟩
          obtain rfl := hw1.symm
          go_wp2
          go_ret2
          exact ⟨ret_eq E.out.symm, q, rfl⟩
        · have E : Hid (escV r = .tuple #[.int .u8 0, .int .i64 0]) := by
            show _ = _
            rw [← hr.out, D.out]
            unfold escV escL
            simp [h1, h3, h4]
          have k5 : ((d.toNat : Int) == 120) = false := by simp; omega
          clear h1 h3 h4
          go_enter Tryz.func107, Tryz.ntmps107
          go_wp2
          go_ret2
          exact ⟨ret_eq E.out.symm, 0, rfl⟩

end Go.Proofs.YtbeflhpekklgoaaGreatDoor.WordsBytes
