/-
  The walk of WordsLines: it answers true for every line, and writes nothing that was there.
-/
import Derived.Test.YtbhgbfkepagnbaaDoorWordsRLine
import Derived.Test.YtbhgbfkepagnbaaDoorWordsSame
import Derived.Test.YtbhgbfkepagnbaaDoorWordsKnown
import Derived.Test.YtbhgbfkepagnbaaDoorWordsMath2
namespace Go.Proofs.YtbhgbfkepagnbaaDoor.WordsLinesW
open Go.RowKit Go.Proofs.YtbhgbfkepagnbaaDoor.WordsMath Go.Proofs.YtbhgbfkepagnbaaDoor.WordsOne Go.Proofs.YtbhgbfkepagnbaaDoor.WordsBytes

theorem nil_row (w : World) : WRow w none [] := fun i x hx => by simp at hx

set_option maxRecDepth 100000 in
set_option maxHeartbeats 8000000 in
theorem walk (s : ByteArray) (p : Nat → Addr) (w : World) (hE : Errs w p) (hg : ErrType w) :
    Calls Tryd.prog 3 #[.string s] w fun e w' => e = .returned (.bool true) ∧ Below w.heap.size w w' := by
  by_cases hs : 1048576 < s.size
  · go_enter Tryd.func3, Tryd.ntmps3
    go_wp2_with fail
    refine (line_long s (p 11) _ hs hE.long).mono ?_
    rintro e w1 ⟨rfl, q, hw1⟩
    obtain rfl := hw1.symm
    have hE1 : Errs (w.drewN q) p := hE
    go_wp2_with fail
    refine (rline_long s _ hs).mono ?_
    rintro e w2 ⟨rfl, hw2⟩
    obtain rfl := hw2.symm
    go_wp2_with fail
    refine (kind_long p _ hE1).mono ?_
    rintro e w3 ⟨rfl, hb3⟩
    go_wp2_with fail
    refine (same_any none none 0 0 [] _ (nil_row _) (nil_row _) (by simp)).mono ?_
    rintro e w4 ⟨rfl, q2, hw4⟩
    obtain rfl := hw4.symm
    go_wp2
    go_ret
    exact ⟨rfl, hb3.os, hb3.tape, hb3.output, hb3.size, hb3.block⟩
  · cases hR : lineL s.data.toList 0 [] with
    | error n =>
      go_enter Tryd.func3, Tryd.ntmps3
      go_wp2_with fail
      refine (line_any s _ (p 1) _ (by omega) hE.syntax hR).mono ?_
      rintro e w1 ⟨⟨v, he, hv⟩, hb1⟩
      subst he
      have hE1 := hE.below hb1 (Nat.le_refl _)
      have hg1 := hg.below hb1 (Nat.le_refl _)
      go_wp2_with fail
      refine (rline_any s _ _ (by omega) hR).mono ?_
      rintro e w2 ⟨he2, hb2⟩
      obtain rfl : e = _ := he2
      have hE2 := hE1.below hb2 (Nat.le_refl _)
      have hg2 := hg1.below hb2 (Nat.le_refl _)
      have hv2 := hv.below hb2 (Nat.le_refl _)
      go_wp2_with fail
      refine (kind_place p _ _ _ _ hE2 hv2).mono ?_
      rintro e w3 ⟨rfl, hb3⟩
      have hg3 := hg2.below hb3 (Nat.le_refl _)
      have hv3 := hv2.below hb3 (Nat.le_refl _)
      go_wp2_with fail
      refine (same_any none none 0 0 [] _ (nil_row _) (nil_row _) (by simp)).mono ?_
      rintro e w4 ⟨rfl, q2, hw4⟩
      obtain rfl := hw4.symm
      have hg4 : ErrType (w3.drewN q2) := hg3
      have hv4 : ErrAt w.heap.size (p 1) n (w3.drewN q2) v := hv3
      go_wp2_with fail
      refine (place_of (p 1) _ _ _ _ hg4 hv4).mono ?_
      rintro e w5 ⟨rfl, hb5⟩
      go_wp2
      go_ret
      have hb5' : Below w3.heap.size w3 w5 := ⟨hb5.os, hb5.tape, hb5.output, hb5.size, hb5.block⟩
      exact ⟨rfl, hb1.trans ((hb2.trans ((hb3.trans (hb5'.mono hb3.size)).mono hb2.size)).mono hb1.size)⟩
    | ok ws =>
      obtain ⟨more, hm, hpw, hpl⟩ := lineL_ok _ _ _ _ _ (Nat.le_refl _) hR
      rw [List.nil_append] at hm
      subst hm
      have hsl : ws.length ≤ 4611686018427387904 := by
        have := rise_len ws 0 _ hpw hpl
        rw [list_size] at this
        omega
      go_enter Tryd.func3, Tryd.ntmps3
      go_wp2_with fail
      refine (line_any s _ (p 1) _ (by omega) hE.syntax hR).mono ?_
      rintro e w1 ⟨⟨v, he, hown⟩, hb1⟩
      subst he
      obtain ⟨a1, c1, hv1, hW1⟩ := own_shape hown
      subst hv1
      go_wp2_with fail
      refine (rline_any s _ _ (by omega) hR).mono ?_
      rintro e w2 ⟨⟨u, he2, hown2⟩, hb2⟩
      subst he2
      obtain ⟨a2, c2, hv2, hW2⟩ := own_shape hown2
      subst hv2
      have hW12 := hW1.below hb2 (Nat.le_refl _)
      go_wp2_with fail
      refine (kind_nil _).mono ?_
      rintro e w3 ⟨rfl, hw3⟩
      obtain rfl := hw3.symm
      go_wp2_with fail
      refine (same_any a1 a2 c1 c2 ws _ hW12 hW2 hsl).mono ?_
      rintro e w4 ⟨rfl, q2, hw4⟩
      obtain rfl := hw4.symm
      go_wp2
      go_ret
      have B2 := hb1.trans (hb2.mono hb1.size)
      exact ⟨rfl, B2.os, B2.tape, B2.output, B2.size, B2.block⟩

end Go.Proofs.YtbhgbfkepagnbaaDoor.WordsLinesW
