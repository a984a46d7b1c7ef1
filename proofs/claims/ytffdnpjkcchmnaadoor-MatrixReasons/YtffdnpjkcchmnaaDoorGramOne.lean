/-
  Names and numbers: what the program's small functions answer.
-/
import Derived.Test.YtffdnpjkcchmnaaDoorGramRow
import Derived.WalkMore
namespace Go.Proofs.YtffdnpjkcchmnaaDoor.GramOne
open Go.RowKit Go.Proofs.YtffdnpjkcchmnaaDoor.GramMath Go.Proofs.YtffdnpjkcchmnaaDoor.GramRow
set_option linter.unusedVariables false

set_option maxHeartbeats 400000 in
theorem has_any (a : Option Addr) (n c : Nat) (x : Int) (w : World) (hn : n ≤ 1125899906842624) :
    Calls Tryd.prog 79 #[.slice a n c, .int .i64 x] w fun e w' => e = .returned (.bool (leftB n x)) ∧ w' = w := by
  by_cases h1 : 0 ≤ x
  · by_cases h2 : x < (n : Int)
    · have E : Hid (leftB n x = true) := by show _ = _; simp [leftB, h1, h2]
      go_enter Tryd.func79, Tryd.ntmps79
      go_wp2
      go_ret
      exact ⟨ret_bool E.out.symm, rfl⟩
    · have E : Hid (leftB n x = false) := by show _ = _; simp [leftB, h1, h2]
      go_enter Tryd.func79, Tryd.ntmps79
      go_wp2
      go_ret
      exact ⟨ret_bool E.out.symm, rfl⟩
  · have E : Hid (leftB n x = false) := by show _ = _; simp [leftB, h1]
    go_enter Tryd.func79, Tryd.ntmps79
    go_wp2
    go_ret
    exact ⟨ret_bool E.out.symm, rfl⟩

set_option maxHeartbeats 400000 in
theorem nonterm_any (x : Int) (w : World) (hx : I64 x) : Calls Tryd.prog 95 #[.int .i64 x] w fun e w' => e = .returned (.int .i64 (-1 - x)) ∧ w' = w := by
  obtain ⟨h1, h2⟩ := hx
  go_enter Tryd.func95, Tryd.ntmps95
  go_wp2
  go_ret
  exact ⟨rfl, rfl⟩

def idx (ss : List ByteArray) (s : ByteArray) : Int :=
  match ss.findIdx? (fun x => eqB x s) with
  | some k => (k : Int)
  | none => -1

theorem idx_hit {ss : List ByteArray} {s : ByteArray} {k : Nat} (hk : ss[k]? = some s) (hno : ∀ j, j < k → ss[j]? ≠ some s) : idx ss s = (k : Int) := by
  have h : ss.findIdx? (fun x => eqB x s) = some k := by
    rw [List.findIdx?_eq_some_iff_getElem]
    obtain ⟨h1, h2⟩ := List.getElem?_eq_some_iff.1 hk
    refine ⟨h1, (eqB_iff _ _).2 h2, fun j hj => ?_⟩
    have := hno j hj
    rw [List.getElem?_eq_getElem (by omega)] at this
    rw [eqB_iff]
    exact fun e => this (by rw [e])
  unfold idx
  rw [h]

theorem idx_miss {ss : List ByteArray} {s : ByteArray} (hno : ∀ j, j < ss.length → ss[j]? ≠ some s) : idx ss s = -1 := by
  have h : ss.findIdx? (fun x => eqB x s) = none := by
    rw [List.findIdx?_eq_none_iff]
    intro x hx
    obtain ⟨j, hj, rfl⟩ := List.getElem_of_mem hx
    have := hno j hj
    rw [List.getElem?_eq_getElem hj] at this
    rw [Bool.eq_false_iff]
    intro e
    rw [eqB_iff] at e
    exact this (by rw [e])
  unfold idx
  rw [h]

theorem idx_cases (ss : List ByteArray) (s : ByteArray) : (idx ss s = -1 ∧ memB s ss = false) ∨ ∃ k : Nat, idx ss s = (k : Int) ∧ ss[k]? = some s ∧ (∀ j, j < k → ss[j]? ≠ some s) ∧ memB s ss = true := by
  unfold idx
  cases h : ss.findIdx? (fun x => eqB x s) with
  | none =>
    refine .inl ⟨rfl, ?_⟩
    rw [List.findIdx?_eq_none_iff] at h
    rw [Bool.eq_false_iff]
    intro hc
    have := h s ((memB_iff _ _).1 hc)
    rw [(eqB_iff _ _).2 rfl] at this
    cases this
  | some k =>
    rw [List.findIdx?_eq_some_iff_getElem] at h
    obtain ⟨h1, h2, h3⟩ := h
    have e : ss[k] = s := (eqB_iff _ _).1 h2
    refine .inr ⟨k, rfl, by rw [List.getElem?_eq_getElem h1, e], fun j hj hc => ?_, ?_⟩
    · obtain ⟨h4, h5⟩ := List.getElem?_eq_some_iff.1 hc
      exact h3 j hj ((eqB_iff _ _).2 h5)
    · rw [memB_iff, ← e]
      exact List.getElem_mem h1

set_option maxRecDepth 100000 in
set_option maxHeartbeats 1000000 in
theorem index_any (a : Option Addr) (c : Nat) (ss : List ByteArray) (s : ByteArray) (w : World) (hr : SRow w a ss) (hm : ss.length ≤ 1125899906842624) :
    Calls Tryd.prog 99 #[.slice a ss.length c, .string s] w fun e w' => e = .returned (.int .i64 (idx ss s)) ∧ w' = w := by
  go_enter Tryd.func99, Tryd.ntmps99
  go_wp2
  go_loop [8] (fun i => ∃ k : Nat, k ≤ ss.length ∧ i = .int .i64 k ∧ ∀ j, j < k → ss[j]? ≠ some s) (fun i => ss.length - (intOf i).toNat)
  case atStart => exact ⟨0, by omega, rfl, fun j hj => by omega⟩
  case round =>
    obtain ⟨k, hk, rfl, hno⟩ := hrel
    by_cases hlt : k < ss.length
    · obtain ⟨x, hx⟩ : ∃ x, ss[k]? = some x := ⟨ss[k], List.getElem?_eq_getElem hlt⟩
      obtain ⟨b, off, rfl, hc⟩ := hr k x hx
      have hlt2 : (k : Int) < (ss.length : Int) := by omega
      by_cases hs : s = x
      · subst hs
        have E : Hid (idx ss s = (k : Int)) := idx_hit hx hno
        clear hr hno hx
        go_wp2
        go_ret
        exact ⟨ret_num E.out.symm, rfl⟩
      · have hs1 := str_ne hs
        have hno2 : Hid (∀ j, j < k + 1 → ss[j]? ≠ some s) := fun j hj => by
          by_cases hjk : j = k
          · subst hjk; rw [hx]; intro e; exact hs (Option.some.inj e).symm
          · exact hno j (by omega)
        clear hr hno hx
        go_wp2
        go_round
        case rel => exact ⟨k + 1, by omega, by go_num, hno2.out⟩
        case measure => simp [intOf]; omega
    · have E : Hid (idx ss s = -1) := idx_miss (fun j hj => hno j (by omega))
      clear hr hno
      go_wp2
      go_ret
      exact ⟨ret_num E.out.symm, rfl⟩

set_option maxHeartbeats 400000 in
theorem contains_any (a : Option Addr) (c : Nat) (ss : List ByteArray) (s : ByteArray) (w : World) (hr : SRow w a ss) (hm : ss.length ≤ 1125899906842624) :
    Calls Tryd.prog 98 #[.slice a ss.length c, .string s] w fun e w' => e = .returned (.bool (memB s ss)) ∧ w' = w := by
  have hi := index_any a c ss s w hr hm
  rcases idx_cases ss s with ⟨h1, h2⟩ | ⟨k, h1, _, _, h2⟩
  · rw [h1] at hi
    have E : Hid (memB s ss = false) := h2
    clear h1 h2
    go_enter Tryd.func98, Tryd.ntmps98
    go_wp2_with fail
    refine hi.mono ?_
    rintro e w1 ⟨rfl, hw1⟩
    obtain rfl := hw1.symm
    go_wp2
    go_ret
    exact ⟨ret_bool E.out.symm, rfl⟩
  · rw [h1] at hi
    have E : Hid (memB s ss = true) := h2
    have hk : (0 : Int) ≤ (k : Int) := by omega
    clear h1 h2
    go_enter Tryd.func98, Tryd.ntmps98
    go_wp2_with fail
    refine hi.mono ?_
    rintro e w1 ⟨rfl, hw1⟩
    obtain rfl := hw1.symm
    go_wp2
    go_ret
    exact ⟨ret_bool E.out.symm, rfl⟩

def idxN (ss : List ByteArray) (s : ByteArray) : Int := if idx ss s < 0 then 0 else idx ss s
def idxB (ss : List ByteArray) (s : ByteArray) : Bool := decide (0 ≤ idx ss s)

end Go.Proofs.YtffdnpjkcchmnaaDoor.GramOne
