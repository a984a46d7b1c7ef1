/-
  Texts that stand together: ShowOrder.
-/
import Derived.Test.YtbeflhpekklgoaaGreatDoorBagShowRule2
import Derived.Laws.BitsAllLaws
namespace Go.Proofs.YtbeflhpekklgoaaGreatDoor.ShowOrd
open Go.RowKit Go.Proofs.YtbeflhpekklgoaaGreatDoor.GramMath Go.Proofs.YtbeflhpekklgoaaGreatDoor.GramRow Go.Proofs.YtbeflhpekklgoaaGreatDoor.GramOne Go.Proofs.YtbeflhpekklgoaaGreatDoor.GramApart Go.Proofs.YtbeflhpekklgoaaGreatDoor.GramCopy Go.Proofs.YtbeflhpekklgoaaGreatDoor.ShowMath Go.Proofs.YtbeflhpekklgoaaGreatDoor.ShowSym
set_option linter.unusedVariables false

/-- Those of the numbers that stand first stand in the order next, next + 1, .. up to n. -/
def riseZ : List Int → Nat → Nat → Bool
  | [], next, n => decide (next = n)
  | x :: r, next, n => if (next : Int) < x then false else if x = (next : Int) then riseZ r (next + 1) n else riseZ r next n

theorem rise_end {l : List Int} {k next n : Nat} (h : l.length ≤ k) : riseZ (l.drop k) next n = decide (next = n) := by
  rw [List.drop_of_length_le h]
  rfl
theorem rise_step {l : List Int} {k : Nat} {x : Int} (h : l[k]? = some x) (next n : Nat) : riseZ (l.drop k) next n = if (next : Int) < x then false else if x = (next : Int) then riseZ (l.drop (k + 1)) (next + 1) n else riseZ (l.drop (k + 1)) next n := by
  obtain ⟨hk, he⟩ := List.getElem?_eq_some_iff.1 h
  rw [List.drop_eq_getElem_cons hk, he]
  rfl

theorem full_in {x n : Nat} (h : x < n) : (2 ^ n - 1) ||| 2 ^ x = 2 ^ n - 1 := by
  apply Nat.eq_of_testBit_eq
  intro i
  rw [Nat.testBit_or, Nat.testBit_two_pow_sub_one, Nat.testBit_two_pow]
  by_cases hi : x = i
  · subst hi; simp [h]
  · simp [hi]
theorem full_next (n : Nat) : (2 ^ n - 1) ||| 2 ^ n = 2 ^ (n + 1) - 1 := by
  apply Nat.eq_of_testBit_eq
  intro i
  rw [Nat.testBit_or, Nat.testBit_two_pow_sub_one, Nat.testBit_two_pow, Nat.testBit_two_pow_sub_one]
  rw [← Bool.decide_or]
  exact decide_eq_decide.2 (by omega)
theorem full_out {x n : Nat} (h : n ≤ x) : (2 ^ n - 1) ||| 2 ^ x ≠ 2 ^ n - 1 := by
  intro e
  have := congrArg (Nat.testBit · x) e
  simp only [Nat.testBit_or, Nat.testBit_two_pow_sub_one, Nat.testBit_two_pow] at this
  simp at this
  omega
theorem full_lt {n : Nat} (h : n ≤ 64) : 2 ^ n - 1 < 18446744073709551616 := by
  have : 2 ^ n ≤ 2 ^ 64 := Nat.pow_le_pow_right (by omega) h
  have h2 : (2 : Nat) ^ 64 = 18446744073709551616 := by decide
  omega

theorem wrap_pow {x : Nat} (hx : x < 64) : IntKind.u64.wrap ((2 : Int) ^ x) = ((2 ^ x : Nat) : Int) := by
  have h : (2 : Nat) ^ x < 2 ^ 64 := Nat.pow_lt_pow_right (by omega) hx
  have h2 : (2 : Nat) ^ 64 = 18446744073709551616 := by decide
  have e : ((2 : Int) ^ x) = ((2 ^ x : Nat) : Int) := by rw [Int.natCast_pow]; rfl
  rw [e]
  simp only [IntKind.wrap, IntKind.bits, IntKind.signed]
  generalize 2 ^ x = y at *
  simp
  omega

set_option maxRecDepth 100000 in
set_option maxHeartbeats 1000000 in
theorem isNew_any (b : Nat) (x m : Nat) (w : World) (hx : x < 64) (hm : m < 18446744073709551616) (hr : RowAt w b 127 #[.int .u64 (m : Int)]) :
    Calls Tryz.prog 67 #[.int .i64 (x : Int), .pointer (some ⟨b, 0, none⟩)] w fun e w' => e = .returned (.bool ((((m ||| 2 ^ x : Nat) : Int)) != (m : Int))) ∧ RowAt w' b 127 #[.int .u64 ((m ||| 2 ^ x : Nat) : Int)] ∧ Below b w w' := by
  have c0 := hr.cell (q := 0) (v := .int .u64 (m : Int)) rfl
  have f0 := hr.frozen 0
  have hp : 2 ^ x < 18446744073709551616 := by
    have h : (2 : Nat) ^ x < 2 ^ 64 := Nat.pow_lt_pow_right (by omega) hx
    have h2 : (2 : Nat) ^ 64 = 18446744073709551616 := by decide
    omega
  have hor : bits .or .u64 (m : Int) (IntKind.u64.wrap ((2 : Int) ^ x)) = ((m ||| 2 ^ x : Nat) : Int) := by rw [wrap_pow hx]; exact u64_or_nat _ _ (by omega) (by omega)
  have hrow := hr.set 0 (.int .u64 ((m ||| 2 ^ x : Nat) : Int))
  have hB : Below b w (w.setCell ⟨b, 0, none⟩ (.int .u64 ((m ||| 2 ^ x : Nat) : Int))) := (Below.refl b w).setCell (p := ⟨b, 0, none⟩) (Nat.le_refl b) _
  clear hr hp
  generalize m ||| 2 ^ x = y at *
  go_enter Tryz.func67, Tryz.ntmps67
  go_wp2_with fail
  go_region
  all_goals (try go_wp2)
  all_goals go_ret
  all_goals exact ⟨rfl, hrow, bdrew hB 1⟩

theorem firsts_any (w : World) : Calls Tryz.prog 47 #[] w fun e w' => e = .returned (.func (.func 67) #[] #[.pointer (some ⟨w.heap.size, 0, none⟩)]) ∧ w' = w.alloc (.cells #[.int .u64 0] 127) := by
  have hmf : ∀ (fn : Fn) (first cap : Array Value) (w : World), (Instr.makeFunc fn first cap).run Tryz.prog w = .ok (.func fn first cap) w := fun _ _ _ _ => rfl
  go_enter Tryz.func47, Tryz.ntmps47
  go_wp2
  go_ret
  exact ⟨rfl, rfl⟩

set_option maxRecDepth 100000 in
set_option maxHeartbeats 2000000 in
theorem inOrder_any (a : Option Addr) (c : Nat) (l : List Int) (n : Nat) (w : World) (hI : IRow w a l) (hl : ∀ x ∈ l, 0 ≤ x ∧ x < 64) (hm : l.length ≤ 1125899906842624) :
    Calls Tryz.prog 22 #[.slice a l.length c, .int .i64 (n : Int)] w fun e w' => e = .returned (.bool (riseZ l 0 n)) ∧ Below w.heap.size w w' := by
  have hrow0 : RowAt (w.alloc (.cells #[.int .u64 0] 127)) w.heap.size 127 #[.int .u64 ((2 ^ 0 - 1 : Nat) : Int)] := heap_new _ _
  have hB0 : Below w.heap.size w (w.alloc (.cells #[.int .u64 0] 127)) := (Below.refl _ _).alloc (Nat.le_refl _) _
  go_enter Tryz.func22, Tryz.ntmps22
  go_wp2_with fail
  refine (firsts_any w).mono ?_
  rintro e w1 ⟨rfl, rfl⟩
  generalize w.alloc (.cells #[.int .u64 0] 127) = W0 at *
  go_wp2_with fail
  go_loopw [6, 12] (fun v i wr => ∃ k next : Nat, k ≤ l.length ∧ next ≤ 64 ∧ i = .int .i64 k ∧ v = .int .i64 next ∧ RowAt wr w.heap.size 127 #[.int .u64 ((2 ^ next - 1 : Nat) : Int)] ∧ Below w.heap.size w wr ∧ riseZ (l.drop k) next n = riseZ l 0 n) (fun _ i _ => l.length - (intOf i).toNat)
  case atStart => exact ⟨0, 0, by omega, by omega, rfl, rfl, hrow0, hB0, rfl⟩
  case round =>
    clear hrow0 hB0
    obtain ⟨k, next, hk, hnx, rfl, rfl, hrow, hB, hans⟩ := hrel
    have hans' : Hid (riseZ (l.drop k) next n = riseZ l 0 n) := hans
    clear hans
    by_cases hlt : k < l.length
    · obtain ⟨x, hx⟩ : ∃ x, l[k]? = some x := ⟨l[k], List.getElem?_eq_getElem hlt⟩
      obtain ⟨b, off, rfl, hc⟩ := hI k x hx
      have hc2 := (hB.cell (cell_lt hc)).trans hc
      obtain ⟨x0, x1⟩ := hl x (List.mem_of_getElem? hx)
      obtain ⟨y, rfl⟩ : ∃ y : Nat, x = (y : Int) := ⟨x.toNat, by omega⟩
      have hlt2 : (k : Int) < (l.length : Int) := by omega
      have hst := rise_step hx next n
      rw [hans'.out] at hst
      have hnew := isNew_any w.heap.size y (2 ^ next - 1) wr (by omega) (full_lt hnx) hrow
      clear hI hl hx hans' hrow
      by_cases h1 : y < next
      · rw [full_in h1] at hnew
        rw [if_neg (by omega), if_neg (by omega)] at hst
        have hst' : Hid (riseZ (l.drop (k + 1)) next n = riseZ l 0 n) := hst.symm
        have hb1 : ((((2 ^ next - 1 : Nat) : Int)) != ((2 ^ next - 1 : Nat) : Int)) = false := by simp
        rw [hb1] at hnew
        clear hst hb1
        go_wp2_with fail
        refine hnew.mono ?_
        rintro e w2 ⟨rfl, hrow2, hb2⟩
        go_wp2
        go_roundw
        case rel => exact ⟨k + 1, next, by omega, hnx, by go_num, rfl, hrow2, hB.trans hb2, hst'.out⟩
        case measure => simp [intOf]; omega
      · have hb1 : ((((2 ^ next - 1) ||| 2 ^ y : Nat) : Int) != ((2 ^ next - 1 : Nat) : Int)) = true := by
          have := full_out (x := y) (n := next) (by omega)
          generalize ((2 ^ next - 1) ||| 2 ^ y : Nat) = u at *
          generalize (2 ^ next - 1 : Nat) = v at *
          exact bne_iff_ne.2 (fun e => this (by omega))
        rw [hb1] at hnew
        by_cases h2 : y = next
        · subst h2
          rw [full_next] at hnew
          rw [if_neg (by omega), if_pos rfl] at hst
          have hst' : Hid (riseZ (l.drop (k + 1)) (y + 1) n = riseZ l 0 n) := hst.symm
          clear hst hb1
          go_wp2_with fail
          refine hnew.mono ?_
          rintro e w2 ⟨rfl, hrow2, hb2⟩
          go_wp2
          go_roundw
          case rel => exact ⟨k + 1, y + 1, by omega, by omega, by go_num, by go_num, hrow2, hB.trans hb2, hst'.out⟩
          case measure => simp [intOf]; omega
        · rw [if_pos (by omega)] at hst
          have hst' : Hid (riseZ l 0 n = false) := hst
          have hne : ((y : Int) == (next : Int)) = false := beq_eq_false_iff_ne.2 (by omega)
          clear hst hb1
          go_wp2_with fail
          refine hnew.mono ?_
          rintro e w2 ⟨rfl, hrow2, hb2⟩
          go_wp2
          go_ret
          exact ⟨ret_bool hst'.out.symm, hB.trans hb2⟩
    · have E : Hid (riseZ l 0 n = decide (next = n)) := hans'.out.symm.trans (rise_end (by omega))
      have hnl : ¬ (k : Int) < (l.length : Int) := by omega
      clear hans' hI hl
      by_cases hq : next = n
      · have E2 : Hid (riseZ l 0 n = true) := by show _ = _; rw [E.out]; exact decide_eq_true hq
        have hqb : ((next : Int) == (n : Int)) = true := beq_iff_eq.2 (by omega)
        clear E hq
        go_wp2
        go_ret
        exact ⟨ret_bool E2.out.symm, hB⟩
      · have E2 : Hid (riseZ l 0 n = false) := by show _ = _; rw [E.out]; exact decide_eq_false hq
        have hqb : ((next : Int) == (n : Int)) = false := beq_eq_false_iff_ne.2 (by omega)
        clear E hq
        go_wp2
        go_ret
        exact ⟨ret_bool E2.out.symm, hB⟩

end Go.Proofs.YtbeflhpekklgoaaGreatDoor.ShowOrd
