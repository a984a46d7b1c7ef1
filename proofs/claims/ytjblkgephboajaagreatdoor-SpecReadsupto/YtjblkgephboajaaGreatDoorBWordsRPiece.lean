/-
  Texts that stand together: WordsRPiece.
-/
import Derived.Test.YtjblkgephboajaaGreatDoorBagApartVals
namespace Go.Proofs.YtjblkgephboajaaGreatDoor.WordsBytes
open Go.RowKit WordsMath WordsOne

theorem ret_num' {k : IntKind} {a b : Int} (h : a = b) : Ending.returned (.int k a) = .returned (.int k b) := by rw [h]

def sixI : List UInt8 → Int
  | [] => -1
  | c :: _ => hexI c.toNat

theorem hexI_ways (n : Nat) : (hexN n = none ∧ hexI n = -1) ∨ ∃ v, hexN n = some v ∧ hexI n = (v : Int) ∧ v < 16 := by
  unfold hexI
  cases h : hexN n with
  | none => exact .inl ⟨rfl, rfl⟩
  | some v => exact .inr ⟨v, rfl, rfl, hexN_lt h⟩

set_option maxHeartbeats 400000 in
theorem rsix_any (s : ByteArray) (i : Nat) (z : Int) (w : World) (hz : Hid (sixI (s.data.toList.drop i) = z)) : Calls Tryz.prog 103 #[.string s, .int .i64 (i : Int)] w fun e w' => e = .returned (.int .i64 z) ∧ w' = w := by
  by_cases hlt : i < s.size
  · have k0 : ¬ (s.size : Int) ≤ (i : Int) := by omega
    have E : Hid (z = hexI s[i].toNat) := by show _ = _; rw [← hz.out, drop_cons s hlt]; rfl
    obtain ⟨c, hc⟩ : ∃ c, s[i] = c := ⟨_, rfl⟩
    rw [hc] at E
    have k9 : (i : Int) < (s.size : Int) := by omega
    by_cases h1 : 48 ≤ c.toNat ∧ c.toNat ≤ 57
    · have F : Hid (z = (c.toNat : Int) - 48) := by
        show _ = _
        rw [E.out]
        have : hexN c.toNat = some (c.toNat - 48) := by unfold hexN; rw [if_pos h1]
        unfold hexI
        rw [this]
        show ((c.toNat - 48 : Nat) : Int) = _
        omega
      have k1 : (48 : Int) ≤ (c.toNat : Int) := by omega
      have k2 : (c.toNat : Int) ≤ 57 := by omega
      have t1 : IntKind.u8.wrap ((c.toNat : Int) - 48) = (c.toNat : Int) - 48 := by simp [IntKind.wrap, IntKind.bits, IntKind.signed]; omega
      clear h1
      go_enter Tryz.func103, Tryz.ntmps103
      go_wp2
      go_ret
      exact ⟨ret_num' F.out.symm, rfl⟩
    · by_cases h2 : 65 ≤ c.toNat ∧ c.toNat ≤ 70
      · have F : Hid (z = (c.toNat : Int) - 65 + 10) := by
          show _ = _
          rw [E.out]
          have : hexN c.toNat = some (c.toNat - 55) := by unfold hexN; rw [if_neg h1, if_pos h2]
          unfold hexI
          rw [this]
          show ((c.toNat - 55 : Nat) : Int) = _
          omega
        have k1 : (48 : Int) ≤ (c.toNat : Int) := by omega
        have k2 : ¬ (c.toNat : Int) ≤ 57 := by omega
        have k3 : (65 : Int) ≤ (c.toNat : Int) := by omega
        have k4 : (c.toNat : Int) ≤ 70 := by omega
        have t1 : IntKind.u8.wrap ((c.toNat : Int) - 65) = (c.toNat : Int) - 65 := by simp [IntKind.wrap, IntKind.bits, IntKind.signed]; omega
        clear h1 h2
        go_enter Tryz.func103, Tryz.ntmps103
        go_wp2
        go_ret
        exact ⟨ret_num' F.out.symm, rfl⟩
      · have F : Hid (z = -1) := by
          show _ = _
          rw [E.out]
          unfold hexI hexN
          rw [if_neg h1, if_neg h2]
        by_cases a1 : 48 ≤ c.toNat
        · have k1 : (48 : Int) ≤ (c.toNat : Int) := by omega
          have k2 : ¬ (c.toNat : Int) ≤ 57 := by omega
          by_cases a2 : 65 ≤ c.toNat
          · have k3 : (65 : Int) ≤ (c.toNat : Int) := by omega
            have k4 : ¬ (c.toNat : Int) ≤ 70 := by omega
            clear h1 h2
            go_enter Tryz.func103, Tryz.ntmps103
            go_wp2
            go_ret
            exact ⟨ret_num' F.out.symm, rfl⟩
          · have k3 : ¬ (65 : Int) ≤ (c.toNat : Int) := by omega
            clear h1 h2
            go_enter Tryz.func103, Tryz.ntmps103
            go_wp2
            go_ret
            exact ⟨ret_num' F.out.symm, rfl⟩
        · have k1 : ¬ (48 : Int) ≤ (c.toNat : Int) := by omega
          have k3 : ¬ (65 : Int) ≤ (c.toNat : Int) := by omega
          clear h1 h2
          go_enter Tryz.func103, Tryz.ntmps103
          go_wp2
          go_ret
          exact ⟨ret_num' F.out.symm, rfl⟩
  · have k0 : (s.size : Int) ≤ (i : Int) := by omega
    have F : Hid (z = -1) := by show _ = _; rw [← hz.out, drop_end s (by omega)]; rfl
    go_enter Tryz.func103, Tryz.ntmps103
    go_wp2
    go_ret
    exact ⟨ret_num' F.out.symm, rfl⟩

/-- A piece as the document's own answer tells it. -/
def pieceV (c : UInt8) (r : List UInt8) : Value := match pieceL c r with
  | some (b, k) => .tuple #[.int .u8 (b.toNat : Int), .int .i64 ((k : Int) + 1)]
  | none => .tuple #[.int .u8 0, .int .i64 0]

theorem six_none1 {r : List UInt8} (h : sixI r = -1) : sixL r = none := by
  match r, h with
  | [], _ => rfl
  | [_], _ => rfl
  | a :: b :: t, h =>
    rcases hexI_ways a.toNat with ⟨h1, _⟩ | ⟨v, _, h2, _⟩
    · simp [sixL, h1]
    · have h : hexI a.toNat = -1 := h
      omega

theorem six_none2 {r : List UInt8} (h : sixI (r.drop 1) = -1) : sixL r = none := by
  match r, h with
  | [], _ => rfl
  | [_], _ => rfl
  | a :: b :: t, h =>
    rcases hexI_ways b.toNat with ⟨h1, _⟩ | ⟨v, _, h2, _⟩
    · simp [sixL, h1]
    · have h : hexI b.toNat = -1 := h
      omega

theorem six_some {r : List UInt8} {x y : Nat} (h : sixI r = (x : Int)) (h2 : sixI (r.drop 1) = (y : Int)) : sixL r = some (UInt8.ofNat (16 * x + y)) ∧ x < 16 ∧ y < 16 := by
  match r, h, h2 with
  | [], h, _ => have h : (-1 : Int) = x := h; omega
  | [_], _, h2 => have h2 : (-1 : Int) = y := h2; omega
  | a :: b :: t, h, h2 =>
    have h : hexI a.toNat = x := h
    have h2 : hexI b.toNat = y := h2
    rcases hexI_ways a.toNat with ⟨_, e⟩ | ⟨v, e, e2, e3⟩
    · omega
    · rcases hexI_ways b.toNat with ⟨_, f⟩ | ⟨u, f, f2, f3⟩
      · omega
      · obtain rfl : v = x := by omega
        obtain rfl : u = y := by omega
        exact ⟨by simp [sixL, e, f], e3, f3⟩

theorem sixI_ways (r : List UInt8) : sixI r = -1 ∨ ∃ v : Nat, sixI r = (v : Int) ∧ v < 16 := by
  cases r with
  | nil => exact .inl rfl
  | cons c t =>
    rcases hexI_ways c.toNat with ⟨_, e⟩ | ⟨v, _, e2, e3⟩
    · exact .inl e
    · exact .inr ⟨v, e2, e3⟩

set_option maxRecDepth 100000 in
set_option maxHeartbeats 2000000 in
theorem rpiece_any (s : ByteArray) (i : Nat) (c : UInt8) (V : Value) (w : World) (hi : i < s.size) (hs : s.size ≤ 1048576) (hc : s[i] = c) (h34 : c.toNat ≠ 34) (hV : Hid (pieceV c (s.data.toList.drop (i + 1)) = V)) :
    Calls Tryz.prog 82 #[.string s, .int .i64 (i : Int)] w fun e w' => e = .returned V ∧ w' = w := by
  have i0 : (i : Int) < (s.size : Int) := by omega
  have k34 : ((c.toNat : Int) == 34) = false := by simp; omega
  by_cases h92 : c.toNat = 92
  · have k1 : ((c.toNat : Int) != 92) = false := by simp; omega
    by_cases hend : i + 1 < s.size
    · have k2 : ¬ (s.size : Int) ≤ (i : Int) + 1 := by omega
      have k3 : (i : Int) + 1 < (s.size : Int) := by omega
      have hd := drop_cons s hend
      obtain ⟨d, hd1⟩ : ∃ d, s[i + 1] = d := ⟨_, rfl⟩
      rw [hd1] at hd
      have D : Hid (_) := hd
      clear hd
      by_cases h1 : d.toNat = 34 ∨ d.toNat = 92
      · have F : Hid (V = .tuple #[.int .u8 (d.toNat : Int), .int .i64 2]) := by
          show _ = _
          rw [← hV.out, D.out]
          unfold pieceV pieceL escL
          simp [h92, h1]
        rcases h1 with h1 | h1
        · have m1 : ((d.toNat : Int) == 34) = true := by simp; omega
          clear h1 h92 h34
          go_enter Tryz.func82, Tryz.ntmps82
          go_wp2
          go_ret2
          exact ⟨ret_eq F.out.symm, rfl⟩
        · have m1 : ((d.toNat : Int) == 34) = false := by simp; omega
          have m2 : ((d.toNat : Int) == 92) = true := by simp; omega
          clear h1 h92 h34
          go_enter Tryz.func82, Tryz.ntmps82
          go_wp2
          go_ret2
          exact ⟨ret_eq F.out.symm, rfl⟩
      · have m1 : ((d.toNat : Int) == 34) = false := by simp; omega
        have m2 : ((d.toNat : Int) == 92) = false := by simp; omega
        by_cases h2 : d.toNat = 110
        · have F : Hid (V = .tuple #[.int .u8 10, .int .i64 2]) := by
            show _ = _
            rw [← hV.out, D.out]
            unfold pieceV pieceL escL
            simp [h92, h2]
          have m3 : ((d.toNat : Int) == 110) = true := by simp; omega
          clear h1 h92 h34 h2
          go_enter Tryz.func82, Tryz.ntmps82
          go_wp2
          go_ret2
          exact ⟨ret_eq F.out.symm, rfl⟩
        · have m3 : ((d.toNat : Int) == 110) = false := by simp; omega
          by_cases h3 : d.toNat = 120
          · have m4 : ((d.toNat : Int) == 120) = true := by simp; omega
            have e2 : s.data.toList.drop (i + 1 + 1) = s.data.toList.drop (i + 2) := rfl
            have six2 := fun z hz W => rsix_any s (i + 2) z W hz
            have six3 := fun z hz W => rsix_any s (i + 3) z W hz
            have e3 : (s.data.toList.drop (i + 2)).drop 1 = s.data.toList.drop (i + 3) := by rw [List.drop_drop]
            have hn : ∀ o, sixL (s.data.toList.drop (i + 2)) = o → V = (match o with | some b => .tuple #[.int .u8 (b.toNat : Int), .int .i64 4] | none => .tuple #[.int .u8 0, .int .i64 0]) := by
              intro o ho
              rw [← hV.out, D.out, e2]
              unfold pieceV pieceL escL
              simp only [h92, h3, ho]
              cases o <;> rfl
            rcases sixI_ways (s.data.toList.drop (i + 2)) with hA | ⟨x, hA, hx⟩
            · have F : Hid (V = .tuple #[.int .u8 0, .int .i64 0]) := hn none (six_none1 hA)
              clear h1 h92 h34 h2 h3 hn D e2 e3
              go_enter Tryz.func82, Tryz.ntmps82
              go_wp2_with fail
              refine (six2 (-1) hA _).mono ?_
              rintro e w1 ⟨rfl, hw1⟩
              obtain rfl := hw1.symm
              go_wp2
              go_ret2
              exact ⟨ret_eq F.out.symm, rfl⟩
            · rcases sixI_ways (s.data.toList.drop (i + 3)) with hB | ⟨y, hB, hy⟩
              · have F : Hid (V = .tuple #[.int .u8 0, .int .i64 0]) := hn none (six_none2 (by rw [e3]; exact hB))
                have n1 : (0 : Int) ≤ (x : Int) := by omega
                clear h1 h92 h34 h2 h3 hn D e2 e3
                go_enter Tryz.func82, Tryz.ntmps82
                go_wp2_with fail
                refine (six2 x hA _).mono ?_
                rintro e w1 ⟨rfl, hw1⟩
                obtain rfl := hw1.symm
                go_wp2_with fail
                refine (six3 (-1) hB _).mono ?_
                rintro e w1 ⟨rfl, hw1⟩
                obtain rfl := hw1.symm
                go_wp2
                go_ret2
                exact ⟨ret_eq F.out.symm, rfl⟩
              · have F : Hid (V = .tuple #[.int .u8 (16 * (x : Int) + (y : Int)), .int .i64 4]) := by
                  have h := hn _ (six_some hA (by rw [e3]; exact hB)).1
                  have e5 : ((UInt8.ofNat (16 * x + y)).toNat : Int) = 16 * (x : Int) + (y : Int) := by rw [UInt8.toNat_ofNat']; omega
                  show _ = _
                  rw [h, ← e5]
                have n1 : (0 : Int) ≤ (x : Int) := by omega
                have n2 : (0 : Int) ≤ (y : Int) := by omega
                clear h1 h92 h34 h2 h3 hn D e2 e3
                go_enter Tryz.func82, Tryz.ntmps82
                go_wp2_with fail
                refine (six2 x hA _).mono ?_
                rintro e w1 ⟨rfl, hw1⟩
                obtain rfl := hw1.symm
                go_wp2_with fail
                refine (six3 y hB _).mono ?_
                rintro e w1 ⟨rfl, hw1⟩
                obtain rfl := hw1.symm
                go_wp2_with fail
                refine (six2 x hA _).mono ?_
                rintro e w1 ⟨rfl, hw1⟩
                obtain rfl := hw1.symm
                go_wp2_with fail
                refine (six3 y hB _).mono ?_
                rintro e w1 ⟨rfl, hw1⟩
                obtain rfl := hw1.symm
                go_wp2
                go_ret2
                exact ⟨ret_eq F.out.symm, rfl⟩
          · have m4 : ((d.toNat : Int) == 120) = false := by simp; omega
            have F : Hid (V = .tuple #[.int .u8 0, .int .i64 0]) := by
              show _ = _
              rw [← hV.out, D.out]
              unfold pieceV pieceL escL
              simp [h92, h1, h2, h3]
            clear h1 h92 h34 h2 h3
            go_enter Tryz.func82, Tryz.ntmps82
            go_wp2
            go_ret2
            exact ⟨ret_eq F.out.symm, rfl⟩
    · have k2 : (s.size : Int) ≤ (i : Int) + 1 := by omega
      have F : Hid (V = .tuple #[.int .u8 0, .int .i64 0]) := by
        show _ = _
        rw [← hV.out, drop_end s (by omega)]
        unfold pieceV pieceL escL
        simp [h92]
      clear h92 h34
      go_enter Tryz.func82, Tryz.ntmps82
      go_wp2
      go_ret2
      exact ⟨ret_eq F.out.symm, rfl⟩
  · have k1 : ((c.toNat : Int) != 92) = true := by simp; omega
    by_cases h10 : c.toNat = 10
    · have k2 : ((c.toNat : Int) == 10) = true := by simp; omega
      have F : Hid (V = .tuple #[.int .u8 0, .int .i64 0]) := by
        show _ = _
        rw [← hV.out]
        unfold pieceV pieceL
        simp [h10]
      clear h92 h34 h10
      go_enter Tryz.func82, Tryz.ntmps82
      go_wp2
      go_ret2
      exact ⟨ret_eq F.out.symm, rfl⟩
    · have k2 : ((c.toNat : Int) == 10) = false := by simp; omega
      have F : Hid (V = .tuple #[.int .u8 (c.toNat : Int), .int .i64 1]) := by
        show _ = _
        rw [← hV.out]
        unfold pieceV pieceL
        simp [h92, h10]
      clear h92 h34 h10
      go_enter Tryz.func82, Tryz.ntmps82
      go_wp2
      go_ret2
      exact ⟨ret_eq F.out.symm, rfl⟩

end Go.Proofs.YtjblkgephboajaaGreatDoor.WordsBytes
