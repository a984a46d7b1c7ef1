/-
  The statements' own look at the chapter's answers: it is always true.
-/
import Derived.Test.YtpnnfocmjkccoaaDoorGramAwake
namespace Go.Proofs.YtpnnfocmjkccoaaDoor.GramAwake
open Go.RowKit Go.Proofs.YtpnnfocmjkccoaaDoor.GramMath Go.Proofs.YtpnnfocmjkccoaaDoor.GramRow Go.Proofs.YtpnnfocmjkccoaaDoor.GramOne Go.Proofs.YtpnnfocmjkccoaaDoor.GramCheck Go.Proofs.YtpnnfocmjkccoaaDoor.GramAboveFn
set_option linter.unusedVariables false

set_option maxRecDepth 100000 in
set_option maxHeartbeats 4000000 in
theorem awake_any (p : Nat → Addr) (w : World) (hS : Sents w p) :
    Calls Tryd.prog 17 #[] w fun e w' => e = .returned (.bool true) ∧ Below w.heap.size w w' := by
  go_enter Tryd.func17, Tryd.ntmps17
  go_wp2_with fail
  refine (given_any _).mono ?_
  rintro e w1 ⟨⟨ta, na, ra, rfl, hG1⟩, hb1⟩
  have hS1 := hS.below hb1 (Nat.le_refl _)
  have hck := check_any ta na ra 2 1 2 givenG p w1 hG1 given_ok (by decide) (by decide) hS1
  rw [given_check] at hck
  go_wp2_with fail
  refine hck.mono ?_
  rintro e w2 ⟨⟨v, rfl, hv⟩, hb2⟩
  obtain rfl : v = .nilIface := hv
  clear hck
  go_wp2_with fail
  refine (given_any _).mono ?_
  rintro e w3 ⟨⟨ta3, na3, ra3, rfl, hG3⟩, hb3⟩
  have htm := term_any ta3 na3 ra3 2 1 2 givenG ⟨#[105]⟩ w3 hG3.1 (by decide)
  rw [given_term.1, given_term.2] at htm
  go_wp2_with fail
  refine htm.mono ?_
  rintro e w4 ⟨rfl, hb4⟩
  clear htm
  have B4 : Below w.heap.size w w4 := hb1.trans ((hb2.trans ((hb3.trans (hb4.mono hb3.size)).mono hb2.size)).mono hb1.size)
  have hS4 := hS.below B4 (Nat.le_refl _)
  go_wp2_with fail
  refine (chain_any _).mono ?_
  rintro e w5 ⟨⟨ta5, na5, ra5, rfl, hG5⟩, hb5⟩
  have hS5 := hS4.below hb5 (Nat.le_refl _)
  have hab := above_good ta5 na5 ra5 1 3 3 chainG p w5 hG5 chain_ok (by decide) (by decide) hS5 chain_check
  have e3 : chainG.ns.length = 3 := rfl
  rw [e3] at hab
  go_wp2_with fail
  refine hab.mono ?_
  rintro e w6 ⟨⟨b, V, rfl, hlo, hhi, hrow, hV⟩, hb6⟩
  have B6 : Below w.heap.size w w6 := B4.trans ((hb5.trans (hb6.mono hb5.size)).mono B4.size)
  have hs6 := B6.size
  have hr1 : URow w6 (some ⟨b, 0, none⟩) 3 chainV := vrow_row (hrow.congr (fun i hi => above_one hV chain_above i hi))
  have hB7 : Below w6.heap.size w6 (w6.alloc (.cells #[.int .u64 1, .int .u64 3, .int .u64 7] 106)) := (Below.refl _ _).alloc (Nat.le_refl _) _
  have hr2 : URow (w6.alloc (.cells #[.int .u64 1, .int .u64 3, .int .u64 7] 106)) (some ⟨w6.heap.size, 0, none⟩) 3 chainV := fun i hi => by
    match i, hi with
    | 0, _ => exact ⟨_, 0, rfl, by simp; rfl⟩
    | 1, _ => exact ⟨_, 0, rfl, by simp; rfl⟩
    | 2, _ => exact ⟨_, 0, rfl, by simp; rfl⟩
  have hss := sets_same (some ⟨b, 0, none⟩) (some ⟨w6.heap.size, 0, none⟩) 3 3 3 chainV _ (hr1.below hB7 (Nat.le_refl _)) hr2 (by omega)
  clear hab
  go_wp2_with fail
  refine hss.mono ?_
  rintro e w7 ⟨rfl, hb7⟩
  go_wp2
  go_ret
  exact ⟨rfl, (B6.alloc hs6 _).trans (hb7.mono (by simp; omega))⟩

end Go.Proofs.YtpnnfocmjkccoaaDoor.GramAwake
