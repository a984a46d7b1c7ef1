/-
  The walk of OpformSkeletons: it answers true for every two right sides, and writes nothing that was there.
-/
import Derived.Test.YtkjmmoiickambaaDoorOpAwake
namespace Go.Proofs.YtkjmmoiickambaaDoor.OpSkelW
open Go.RowKit Go.Proofs.YtkjmmoiickambaaDoor.GramMath Go.Proofs.YtkjmmoiickambaaDoor.GramRow Go.Proofs.YtkjmmoiickambaaDoor.GramOne Go.Proofs.YtkjmmoiickambaaDoor.GramApart Go.Proofs.YtkjmmoiickambaaDoor.GramLent Go.Proofs.YtkjmmoiickambaaDoor.GramErrs Go.Proofs.YtkjmmoiickambaaDoor.GramSame Go.Proofs.YtkjmmoiickambaaDoor.OpRow Go.Proofs.YtkjmmoiickambaaDoor.OpSkel Go.Proofs.YtkjmmoiickambaaDoor.OpCheck
set_option linter.unusedVariables false

/-- The first k symbols have one skeleton. -/
def SameTo (xs ys : List Int) (k : Nat) : Prop := xs.length = ys.length ∧ ∀ j, j < k → sk (xs.getD j 0) = sk (ys.getD j 0)

theorem same_all {xs ys : List Int} (h : SameTo xs ys xs.length) : skel xs = skel ys := by
  apply List.ext_getElem?
  intro i
  unfold skel
  rw [List.getElem?_map, List.getElem?_map]
  by_cases hi : i < xs.length
  · have h1 := h.2 i hi
    rw [List.getD_eq_getElem?_getD, List.getD_eq_getElem?_getD, List.getElem?_eq_getElem hi, List.getElem?_eq_getElem (show i < ys.length by rw [← h.1]; exact hi)] at h1
    rw [List.getElem?_eq_getElem hi, List.getElem?_eq_getElem (show i < ys.length by rw [← h.1]; exact hi)]
    exact congrArg some h1
  · rw [List.getElem?_eq_none (by omega), List.getElem?_eq_none (by rw [← h.1]; omega)]
theorem not_same {xs ys : List Int} {k : Nat} {x y : Int} (hx : xs[k]? = some x) (hy : ys[k]? = some y) (h : sk x ≠ sk y) : skel xs ≠ skel ys := by
  intro e
  have := congrArg (fun l => l[k]?) e
  unfold skel at this
  simp only [List.getElem?_map, hx, hy, Option.map_some, Option.some.injEq] at this
  exact h this
theorem eqI_iff (a b : List Int) : eqI a b = true ↔ a = b := by unfold eqI; exact decide_eq_true_iff
theorem sk_eq {x y : Int} : sk x = sk y ↔ (x = y ∨ x < 0 ∧ y < 0) := by
  unfold sk
  split <;> split <;> omega

set_option maxRecDepth 100000 in
set_option maxHeartbeats 4000000 in
theorem walk (a b : Option Addr) (ca cb : Nat) (xs ys : List Int) (p : Nat → Addr) (w : World) (ha : IRow w a xs) (hb : IRow w b ys) (hm : xs.length * 8 ≤ 140737488351232) (hn : ys.length * 8 ≤ 140737488351232) (hE : Errs w p) (hT : ErrType w) :
    Calls Tryd.prog 7 #[.slice a xs.length ca, .slice b ys.length cb] w fun e w' => e = .returned (.bool true) ∧ Below w.heap.size w w' := by
  have H0 : Hid (((xs.length : Int) == (ys.length : Int)) = true → SameTo xs ys 0) := fun h => by
    have h1 : (xs.length : Int) = (ys.length : Int) := by simpa using h
    exact ⟨by omega, fun j hj => by omega⟩
  have H1 : Hid (((xs.length : Int) == (ys.length : Int)) = false → skel xs ≠ skel ys) := fun h e => by
    have h1 : ¬ (xs.length : Int) = (ys.length : Int) := by simpa using h
    have h2 := congrArg List.length e
    rw [skel_len, skel_len] at h2
    omega
  generalize hs0 : ((xs.length : Int) == (ys.length : Int)) = s0 at H0 H1
  go_enter Tryd.func7, Tryd.ntmps7
  go_wp2
  go_loopw [5, 6] (fun v i wr => ∃ (s : Bool) (k : Nat), v = .bool s ∧ i = .int .i64 k ∧ k ≤ xs.length ∧ Hid (s = true → SameTo xs ys k) ∧ Hid (s = false → skel xs ≠ skel ys) ∧ Below w.heap.size w wr) (fun _ i _ => xs.length - (intOf i).toNat)
  case atStart => exact ⟨s0, 0, rfl, rfl, by omega, H0, H1, Below.refl _ _⟩
  case round =>
    clear H0 H1
    obtain ⟨s, k, rfl, rfl, hk, hS, hN, hB⟩ := hrel
    by_cases hgo : s = true ∧ k < xs.length
    · obtain ⟨rfl, hlt⟩ := hgo
      have hsame := hS.out rfl
      obtain ⟨x, hx⟩ : ∃ x, xs[k]? = some x := ⟨xs[k], List.getElem?_eq_getElem hlt⟩
      obtain ⟨y, hy⟩ : ∃ y, ys[k]? = some y := ⟨ys[k]'(by have := hsame.1; omega), List.getElem?_eq_getElem (by have := hsame.1; omega)⟩
      obtain ⟨b1, o1, rfl, c1⟩ := ha k x hx
      obtain ⟨b2, o2, rfl, c2⟩ := hb k y hy
      have c1 := (hB.cell (cell_lt c1)).trans c1
      have c2 := (hB.cell (cell_lt c2)).trans c2
      have hlt2 : (k : Int) < (xs.length : Int) := by omega
      have hlt3 : (k : Int) < (ys.length : Int) := by have := hsame.1; omega
      have hgx : xs.getD k 0 = x := OpFault.getD_of hx
      have hgy : ys.getD k 0 = y := OpFault.getD_of hy
      have HS : Hid (sk x = sk y → SameTo xs ys (k + 1)) := fun e => ⟨hsame.1, fun j hj => by
        by_cases hjk : j = k
        · subst hjk; rw [hgx, hgy]; exact e
        · exact hsame.2 j (by omega)⟩
      have HN : Hid (sk x ≠ sk y → skel xs ≠ skel ys) := not_same hx hy
      clear ha hb hS hN hsame hx hy hgx hgy
      by_cases hxy : x = y
      · have E1 : Hid (SameTo xs ys (k + 1)) := HS.out (by rw [hxy])
        have hd : (x == y) = true := by simpa using hxy
        clear HS HN hxy
        go_wp2_with fail
        go_quiet (fail)
        go_wp2
        go_roundw
        case rel => exact ⟨true, k + 1, rfl, by go_num, by omega, fun _ => E1.out, (fun h => by cases h), bdrew hB _⟩
        case measure => simp [intOf]; omega
      · have hd : (x == y) = false := by simpa using hxy
        by_cases hx0 : x < 0
        · by_cases hy0 : y < 0
          · have E1 : Hid (SameTo xs ys (k + 1)) := HS.out (sk_eq.2 (.inr ⟨hx0, hy0⟩))
            have hd1 : decide (x < 0) = true := decide_eq_true hx0
            have hd2 : decide (y < 0) = true := decide_eq_true hy0
            clear HS HN hxy hx0 hy0
            go_wp2_with fail
            go_quiet (fail)
            go_wp2
            go_roundw
            case rel => exact ⟨true, k + 1, rfl, by go_num, by omega, fun _ => E1.out, (fun h => by cases h), bdrew hB _⟩
            case measure => simp [intOf]; omega
          · have E1 : Hid (skel xs ≠ skel ys) := HN.out (fun e => by rcases sk_eq.1 e with h | h; exact hxy h; exact hy0 h.2)
            have hd1 : decide (x < 0) = true := decide_eq_true hx0
            have hd2 : decide (y < 0) = false := decide_eq_false hy0
            clear HS HN hxy hx0 hy0
            go_wp2_with fail
            go_quiet (fail)
            go_wp2
            go_roundw
            case rel => exact ⟨false, k + 1, rfl, by go_num, by omega, (fun h => by cases h), (fun _ => E1.out), bdrew hB _⟩
            case measure => simp [intOf]; omega
        · have E1 : Hid (skel xs ≠ skel ys) := HN.out (fun e => by rcases sk_eq.1 e with h | h; exact hxy h; exact hx0 h.1)
          have hd1 : decide (x < 0) = false := decide_eq_false hx0
          clear HS HN hxy hx0
          go_wp2_with fail
          go_quiet (fail)
          go_wp2
          go_roundw
          case rel => exact ⟨false, k + 1, rfl, by go_num, by omega, (fun h => by cases h), (fun _ => E1.out), bdrew hB _⟩
          case measure => simp [intOf]; omega
    · have E : Hid (s = eqI (skel xs) (skel ys)) := by
        show _ = _
        cases hq : s with
        | true =>
          have h1 : k = xs.length := by
            have : ¬ k < xs.length := fun h => hgo ⟨hq, h⟩
            omega
          subst h1
          rw [same_all (hS.out hq)]
          exact ((eqI_iff _ _).2 rfl).symm
        | false =>
          cases he : eqI (skel xs) (skel ys) with
          | false => rfl
          | true => exact absurd ((eqI_iff _ _).1 he) (hN.out hq)
      have hsk := skel_any a ca xs wr (ha.below hB (Nat.le_refl _)) hm
      clear hS hN
      cases s with
      | false =>
        clear hgo
        go_wp2_with fail
        refine hsk.mono ?_
        rintro e w1 ⟨⟨rfl, hr1⟩, hb1⟩
        have hB1 := hB.trans (hb1.mono hB.size)
        have hsk2 := skel_any b cb ys w1 (hb.below hB1 (Nat.le_refl _)) hn
        go_wp2_with fail
        refine hsk2.mono ?_
        rintro e w2 ⟨⟨rfl, hr2⟩, hb2⟩
        have hB2 := hB1.trans (hb2.mono hB1.size)
        have hq := ints_any (some ⟨wr.heap.size, 0, none⟩) (some ⟨w1.heap.size, 0, none⟩) xs.length ys.length (skel xs) (skel ys) w2 (intsA_row (hr1.below hb2 hr1.lt)) (intsA_row hr2) (by rw [skel_len]; omega) (by rw [skel_len]; omega)
        rw [skel_len, skel_len, ← E.out] at hq
        clear hsk hsk2 hr1 hr2 E
        go_wp2_with fail
        refine hq.mono ?_
        rintro e w3 ⟨rfl, q, rfl⟩
        have hB3 : Below w.heap.size w (w2.drewN q) := bdrew hB2 q
        have haw := opawake_any p (w2.drewN q) (hE.below hB3 (Nat.le_refl _)) (hT.below hB3 (Nat.le_refl _))
        clear hq
        go_wp2_with fail
        refine haw.mono ?_
        rintro e w4 ⟨rfl, hb4⟩
        go_wp2
        go_ret
        exact ⟨rfl, hB3.trans (hb4.mono hB3.size)⟩
      | true =>
        have hnl : ¬ (k : Int) < (xs.length : Int) := by
          have : ¬ k < xs.length := fun h => hgo ⟨rfl, h⟩
          omega
        clear hgo
        go_wp2_with fail
        refine hsk.mono ?_
        rintro e w1 ⟨⟨rfl, hr1⟩, hb1⟩
        have hB1 := hB.trans (hb1.mono hB.size)
        have hsk2 := skel_any b cb ys w1 (hb.below hB1 (Nat.le_refl _)) hn
        go_wp2_with fail
        refine hsk2.mono ?_
        rintro e w2 ⟨⟨rfl, hr2⟩, hb2⟩
        have hB2 := hB1.trans (hb2.mono hB1.size)
        have hq := ints_any (some ⟨wr.heap.size, 0, none⟩) (some ⟨w1.heap.size, 0, none⟩) xs.length ys.length (skel xs) (skel ys) w2 (intsA_row (hr1.below hb2 hr1.lt)) (intsA_row hr2) (by rw [skel_len]; omega) (by rw [skel_len]; omega)
        rw [skel_len, skel_len, ← E.out] at hq
        clear hsk hsk2 hr1 hr2 E
        go_wp2_with fail
        refine hq.mono ?_
        rintro e w3 ⟨rfl, q, rfl⟩
        have hB3 : Below w.heap.size w (w2.drewN q) := bdrew hB2 q
        have haw := opawake_any p (w2.drewN q) (hE.below hB3 (Nat.le_refl _)) (hT.below hB3 (Nat.le_refl _))
        clear hq
        go_wp2_with fail
        refine haw.mono ?_
        rintro e w4 ⟨rfl, hb4⟩
        go_wp2
        go_ret
        exact ⟨rfl, hB3.trans (hb4.mono hB3.size)⟩

end Go.Proofs.YtkjmmoiickambaaDoor.OpSkelW
