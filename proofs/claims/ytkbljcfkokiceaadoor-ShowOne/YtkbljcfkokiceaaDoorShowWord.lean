/-
  Which names are words, and a nonterminal's text, by the program and by the document.
-/
import Derived.Test.YtkbljcfkokiceaaDoorShowMath
import Derived.Test.YtkbljcfkokiceaaDoorWordsRQuote
import Derived.Test.YtkbljcfkokiceaaDoorGramCheck2
import Derived.Laws.Concat
namespace Go.Proofs.YtkbljcfkokiceaaDoor.ShowWord
open Go.RowKit Go.Proofs.YtkbljcfkokiceaaDoor.GramMath Go.Proofs.YtkbljcfkokiceaaDoor.GramRow Go.Proofs.YtkbljcfkokiceaaDoor.GramOne Go.Proofs.YtkbljcfkokiceaaDoor.ShowMath
set_option linter.unusedVariables false


theorem ne_colon {x : ByteArray} (h : x ≠ colon) : (x.toList == [58]) = false := by
  have := str_ne h
  rwa [show colon.toList = [58] by rw [ByteArray.toList_eq]; rfl] at this
theorem ne_bar {x : ByteArray} (h : x ≠ bar) : (x.toList == [124]) = false := by
  have := str_ne h
  rwa [show bar.toList = [124] by rw [ByteArray.toList_eq]; rfl] at this

set_option maxHeartbeats 1000000 in
theorem isWord_any (s : ByteArray) (w : World) (hs : s.size ≤ 4611686018427387904) : Calls Tryd.prog 29 #[.string s] w fun e w' => e = .returned (.bool (isW s)) ∧ w' = w := by
  have hc := WordsOne.wplain_any s w hs
  cases hP : WordsMath.plainW s.data.toList with
  | false =>
    rw [hP] at hc
    have E : Hid (isW s = false) := isW_plain hP
    clear hP
    go_enter Tryd.func29, Tryd.ntmps29
    go_wp2_with fail
    refine hc.mono ?_
    rintro e w1 ⟨rfl, hw1⟩
    obtain rfl := hw1.symm
    go_wp2
    go_ret
    exact ⟨ret_bool E.out.symm, rfl⟩
  | true =>
    rw [hP] at hc
    by_cases h1 : s = colon
    · have E : Hid (isW s = false) := by show _ = _; rw [h1]; exact isW_colon
      obtain rfl : s = ⟨#[58]⟩ := h1
      clear hP
      go_enter Tryd.func29, Tryd.ntmps29
      go_wp2_with fail
      refine hc.mono ?_
      rintro e w1 ⟨rfl, hw1⟩
      obtain rfl := hw1.symm
      go_wp2
      go_ret
      exact ⟨ret_bool E.out.symm, rfl⟩
    · have n1 := ne_colon h1
      by_cases h2 : s = bar
      · have E : Hid (isW s = false) := by show _ = _; rw [h2]; exact isW_bar
        obtain rfl : s = ⟨#[124]⟩ := h2
        clear hP n1 h1
        go_enter Tryd.func29, Tryd.ntmps29
        go_wp2_with fail
        refine hc.mono ?_
        rintro e w1 ⟨rfl, hw1⟩
        obtain rfl := hw1.symm
        go_wp2
        go_ret
        exact ⟨ret_bool E.out.symm, rfl⟩
      · have n2 := ne_bar h2
        have E : Hid (isW s = true) := isW_true hP h1 h2
        clear hP h1 h2
        go_enter Tryd.func29, Tryd.ntmps29
        go_wp2_with fail
        refine hc.mono ?_
        rintro e w1 ⟨rfl, hw1⟩
        obtain rfl := hw1.symm
        go_wp2
        go_ret
        exact ⟨ret_bool E.out.symm, rfl⟩

set_option maxHeartbeats 1000000 in
theorem free_any (s : ByteArray) (w : World) (hs : s.size ≤ 4611686018427387904) : Calls Tryd.prog 34 #[.string s] w fun e w' => e = .returned (.bool (isW s)) ∧ w' = w := by
  have hc := WordsOne.rwplain_any s w hs
  cases hP : WordsMath.plainW s.data.toList with
  | false =>
    rw [hP] at hc
    have E : Hid (isW s = false) := isW_plain hP
    clear hP
    go_enter Tryd.func34, Tryd.ntmps34
    go_wp2_with fail
    refine hc.mono ?_
    rintro e w1 ⟨rfl, hw1⟩
    obtain rfl := hw1.symm
    go_wp2
    go_ret
    exact ⟨ret_bool E.out.symm, rfl⟩
  | true =>
    rw [hP] at hc
    by_cases h1 : s = colon
    · have E : Hid (isW s = false) := by show _ = _; rw [h1]; exact isW_colon
      obtain rfl : s = ⟨#[58]⟩ := h1
      clear hP
      go_enter Tryd.func34, Tryd.ntmps34
      go_wp2_with fail
      refine hc.mono ?_
      rintro e w1 ⟨rfl, hw1⟩
      obtain rfl := hw1.symm
      go_wp2
      go_ret
      exact ⟨ret_bool E.out.symm, rfl⟩
    · have n1 := ne_colon h1
      by_cases h2 : s = bar
      · have E : Hid (isW s = false) := by show _ = _; rw [h2]; exact isW_bar
        obtain rfl : s = ⟨#[124]⟩ := h2
        clear hP n1 h1
        go_enter Tryd.func34, Tryd.ntmps34
        go_wp2_with fail
        refine hc.mono ?_
        rintro e w1 ⟨rfl, hw1⟩
        obtain rfl := hw1.symm
        go_wp2
        go_ret
        exact ⟨ret_bool E.out.symm, rfl⟩
      · have n2 := ne_bar h2
        have E : Hid (isW s = true) := isW_true hP h1 h2
        clear hP h1 h2
        go_enter Tryd.func34, Tryd.ntmps34
        go_wp2_with fail
        refine hc.mono ?_
        rintro e w1 ⟨rfl, hw1⟩
        obtain rfl := hw1.symm
        go_wp2
        go_ret
        exact ⟨ret_bool E.out.symm, rfl⟩

set_option maxHeartbeats 1000000 in
theorem nontermText_any (s : ByteArray) (w : World) (hs : 4 * s.size + 4 ≤ 140737488355328) : Calls Tryd.prog 41 #[.string s] w fun e w' => e = .returned (.string (ntS s)) ∧ Below w.heap.size w w' := by
  have hc := isWord_any s w (by omega)
  cases hP : isW s with
  | true =>
    rw [hP] at hc
    have E : Hid (ntS s = s) := by show _ = _; unfold ntS; rw [if_pos hP]
    clear hP
    go_enter Tryd.func41, Tryd.ntmps41
    go_wp2_with fail
    refine hc.mono ?_
    rintro e w1 ⟨rfl, hw1⟩
    obtain rfl := hw1.symm
    go_wp2
    go_ret
    exact ⟨ret_str E.out.symm, Below.refl _ _⟩
  | false =>
    rw [hP] at hc
    have E : Hid (ntS s = angS s) := by show _ = _; unfold ntS; rw [hP]; rfl
    have hq := WordsBytes.quote_any s w (by omega)
    have hz := quoteS_size s
    have a1 : ∀ W : World, (Op.stringOp .add ⟨#[60]⟩ (quoteS s)).run Tryd.prog W = .ok (.string (⟨#[60]⟩ ++ quoteS s)) W := fun W => run_string_add_sum W _ _ (by show 1 + _ ≤ _; omega)
    have a2 : ∀ W : World, (Op.stringOp .add (⟨#[60]⟩ ++ quoteS s) ⟨#[62]⟩).run Tryd.prog W = .ok (.string (angS s)) W := fun W => run_string_add_sum W _ _ (by rw [ByteArray.size_append]; show 1 + _ + 1 ≤ _; omega)
    change Calls Tryd.prog 63 #[.string s] w fun e w' => e = .returned (.string (quoteS s)) ∧ Below w.heap.size w w' at hq
    generalize quoteS s = q at *
    generalize angS s = x at *
    clear hP hz
    go_enter Tryd.func41, Tryd.ntmps41
    go_wp2_with fail
    refine hc.mono ?_
    rintro e w1 ⟨rfl, hw1⟩
    obtain rfl := hw1.symm
    go_wp2_with fail
    refine hq.mono ?_
    rintro e w2 ⟨rfl, hb2⟩
    go_wp2
    go_ret
    exact ⟨ret_str E.out.symm, hb2⟩

end Go.Proofs.YtkbljcfkokiceaaDoor.ShowWord
