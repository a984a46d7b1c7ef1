/-
  The document's answer for graphs: which graphs may be, and what is reached.
-/
import Derived.Test.YtgllcbajgndldaaDoorGraphReachTop
import Derived.Test.YtgllcbajgndldaaDoorUsefulBRow
namespace Go.Proofs.YtgllcbajgndldaaDoor.GraphRef
open Go.RowKit Go.Proofs.YtgllcbajgndldaaDoor.GramMath Go.Proofs.YtgllcbajgndldaaDoor.GramRow Go.Proofs.YtgllcbajgndldaaDoor.GramApart Go.Proofs.YtgllcbajgndldaaDoor.GramLent Go.Proofs.YtgllcbajgndldaaDoor.OpRow Go.Proofs.YtgllcbajgndldaaDoor.GraphNet Go.Proofs.YtgllcbajgndldaaDoor.GraphMath Go.Proofs.YtgllcbajgndldaaDoor.GraphFn Go.Proofs.YtgllcbajgndldaaDoor.GraphSort Go.Proofs.YtgllcbajgndldaaDoor.UsefulRef Go.Proofs.YtgllcbajgndldaaDoor.EndsMath
set_option linter.unusedVariables false
set_option linter.unusedSimpArgs false

theorem ret_int {a b : Int} (h : a = b) : Ending.returned (.int .i64 a) = .returned (.int .i64 b) := by rw [h]

set_option maxRecDepth 100000 in
set_option maxHeartbeats 2000000 in
theorem rmay_any (n : Int) (ea : Option Addr) (ec : Nat) (es : List (Int × Int)) (w : World) (hn : I64 n) (hE : ERow w ea es) (hl : es.length ≤ 1125899906842624) (hx : ∀ e ∈ es, I64 e.1 ∧ I64 e.2) :
    Calls Tryd.prog 21 #[.int .i64 n, .slice ea es.length ec] w fun e w' => e = .returned (.int .i64 (mayE n es : Int)) ∧ w' = w := by
  obtain ⟨n1, n2⟩ := hn
  by_cases h256 : 256 < n
  · have E : Hid (mayE n es = 12) := by show _ = _; simp [mayE, h256]
    clear hE hx
    go_enter Tryd.func21, Tryd.ntmps21
    go_wp2
    go_ret
    exact ⟨ret_int (by rw [E.out]; rfl), rfl⟩
  by_cases h4096 : 4096 < es.length
  · have E : Hid (mayE n es = 12) := by show _ = _; simp [mayE, h4096]
    have hd : (4096 : Int) < (es.length : Int) := by omega
    clear hE hx
    go_enter Tryd.func21, Tryd.ntmps21
    go_wp2
    go_ret
    exact ⟨ret_int (by rw [E.out]; rfl), rfl⟩
  have hd : ¬ (4096 : Int) < (es.length : Int) := by omega
  by_cases h0 : n < 0
  · have E : Hid (mayE n es = 1) := by show _ = _; simp [mayE, h256, h4096, h0]
    clear hE hx
    go_enter Tryd.func21, Tryd.ntmps21
    go_wp2
    go_ret
    exact ⟨ret_int (by rw [E.out]; rfl), rfl⟩
  obtain ⟨m, rfl⟩ : ∃ m : Nat, n = (m : Int) := ⟨n.toNat, by omega⟩
  go_enter Tryd.func21, Tryd.ntmps21
  go_wp2
  go_loop [5] (fun s => ∃ k : Nat, k ≤ es.length ∧ s = .int .i64 (k : Int) ∧ Hid (((es.take k).all fun e => hasB m [e.1, e.2]) = true)) (fun s => es.length - (intOf s).toNat)
  case atStart => exact ⟨0, by omega, rfl, by show _ = _; simp⟩
  case round =>
    obtain ⟨k, hk, rfl, hAk⟩ := hrel
    by_cases hlt : k < es.length
    · obtain ⟨⟨x, y⟩, hxy⟩ : ∃ e, es[k]? = some e := ⟨es[k], List.getElem?_eq_getElem hlt⟩
      obtain ⟨eb, eo, rfl, ce0, ce1⟩ := hE k _ hxy
      dsimp only at ce0 ce1
      have hlt2 : (k : Int) < (es.length : Int) := by omega
      have hbad : hasB m [x, y] = false → Hid (mayE (m : Int) es = 1) := fun hh => by
        show _ = _
        have h' : (es.all fun e => hasB ((m : Int).toNat) [e.1, e.2]) = false := by
          rw [Bool.eq_false_iff, Int.toNat_natCast]
          intro hc
          have := List.all_eq_true.1 hc _ (List.mem_of_getElem? hxy)
          rw [hh] at this
          cases this
        unfold mayE
        rw [if_neg (by omega), if_neg (by omega), h']
        rfl
      have hno : ∀ z, z ∈ [x, y] → (z < 0 ∨ (m : Int) ≤ z) → hasB m [x, y] = false := fun z hz h => by
        rw [Bool.eq_false_iff]
        intro hc
        have := hasB_iff.1 hc z hz
        omega
      by_cases hx0 : x < 0
      · have E := hbad (hno x (by simp) (.inl hx0))
        have hd0 : decide (x < 0) = true := by simpa using hx0
        clear hE hx hxy hAk hbad hno
        go_wp2
        go_ret
        exact ⟨ret_int (by rw [E.out]; rfl), rfl⟩
      have hd0 : decide (x < 0) = false := by simpa using hx0
      by_cases hxm : (m : Int) ≤ x
      · have E := hbad (hno x (by simp) (.inr hxm))
        have hd1 : decide ((m : Int) ≤ x) = true := by simpa using hxm
        clear hE hx hxy hAk hbad hno
        go_wp2
        go_ret
        exact ⟨ret_int (by rw [E.out]; rfl), rfl⟩
      have hd1 : decide ((m : Int) ≤ x) = false := by simpa using hxm
      by_cases hy0 : y < 0
      · have E := hbad (hno y (by simp) (.inl hy0))
        have hd2 : decide (y < 0) = true := by simpa using hy0
        clear hE hx hxy hAk hbad hno
        go_wp2
        go_ret
        exact ⟨ret_int (by rw [E.out]; rfl), rfl⟩
      have hd2 : decide (y < 0) = false := by simpa using hy0
      by_cases hym : (m : Int) ≤ y
      · have E := hbad (hno y (by simp) (.inr hym))
        have hd3 : decide ((m : Int) ≤ y) = true := by simpa using hym
        clear hE hx hxy hAk hbad hno
        go_wp2
        go_ret
        exact ⟨ret_int (by rw [E.out]; rfl), rfl⟩
      have hd3 : decide ((m : Int) ≤ y) = false := by simpa using hym
      have hA2 : Hid (((es.take (k + 1)).all fun e => hasB m [e.1, e.2]) = true) := all_take_succ hAk.out hxy (hasB_iff.2 (fun z hz => by
        rcases List.mem_cons.1 hz with rfl | hz
        · omega
        · rw [List.mem_singleton.1 hz]; omega))
      clear hE hx hxy hAk hbad hno
      go_wp2
      go_round
      case rel => exact ⟨k + 1, by omega, by go_num, hA2⟩
      case measure => simp [intOf]; omega
    · have E : Hid (mayE (m : Int) es = 0) := by
        show _ = _
        have h := hAk.out
        rw [List.take_of_length_le (by omega)] at h
        have h' : (es.all fun e => hasB ((m : Int).toNat) [e.1, e.2]) = true := by simpa using h
        unfold mayE
        rw [if_neg (by omega), if_neg (by omega), if_pos h']
      have hlt2 : ¬ ((k : Int) < (es.length : Int)) := by omega
      clear hE hx hAk
      go_wp2
      go_ret
      exact ⟨ret_int (by rw [E.out]; rfl), rfl⟩

end Go.Proofs.YtgllcbajgndldaaDoor.GraphRef
