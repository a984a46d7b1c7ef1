/-
  The text of a symbol, by the document.
-/
import Derived.Test.YtkbljcfkokiceaaDoorShowSym
namespace Go.Proofs.YtkbljcfkokiceaaDoor.ShowSym
open Go.RowKit Go.Proofs.YtkbljcfkokiceaaDoor.GramMath Go.Proofs.YtkbljcfkokiceaaDoor.GramRow Go.Proofs.YtkbljcfkokiceaaDoor.GramOne Go.Proofs.YtkbljcfkokiceaaDoor.GramName Go.Proofs.YtkbljcfkokiceaaDoor.ShowMath Go.Proofs.YtkbljcfkokiceaaDoor.ShowWord
set_option linter.unusedVariables false

theorem memB_snoc {ss : List ByteArray} {k : Nat} {x y : ByteArray} (h : ss[k]? = some y) : memB x (ss.take (k + 1)) = (memB x (ss.take k) || eqB y x) := by
  obtain ⟨hk, e⟩ := List.getElem?_eq_some_iff.1 h
  subst e
  unfold memB
  rw [List.take_succ_eq_append_getElem hk, List.any_append]
  simp

theorem symS_at {g : G} {k : Nat} {x : ByteArray} (h : g.ts[k]? = some x) : symS g (k : Int) = tmS g x := by
  have hk := (List.getElem?_eq_some_iff.1 h).1
  unfold symS
  rw [if_neg (by omega), if_pos (by simp [leftB]; omega), Int.toNat_natCast, List.getD_eq_getElem?_getD, h]
  rfl
theorem symS_nat {g : G} {k : Nat} {x : ByteArray} (h : g.ns[k]? = some x) : symS g (-1 - (k : Int)) = ntS x := by
  have hk := (List.getElem?_eq_some_iff.1 h).1
  unfold symS
  rw [if_neg (by omega), if_neg (by simp [leftB]; omega), if_pos (by simp [leftB]; omega), show -1 - (-1 - (k : Int)) = (k : Int) by omega, Int.toNat_natCast, List.getD_eq_getElem?_getD, h]
  rfl
theorem symS_out {g : G} {x : Int} (h : (g.ts.length : Int) < x ∨ x < -(g.ns.length : Int)) : symS g x = ⟨#[63]⟩ := by
  unfold symS
  rw [if_neg (by omega), if_neg (by simp [leftB]; omega), if_neg (by simp [leftB]; omega)]

set_option maxRecDepth 100000 in
set_option maxHeartbeats 2000000 in
theorem rsymbol_any (ta na ra : Option Addr) (tc nc rc : Nat) (g : G) (x : Int) (w : World) (hT : SRow w ta g.ts) (hN : SRow w na g.ns) (ho : okG g) (hx : I64 x) (hz : Short g) :
    Calls Tryd.prog 18 #[.agg #[.slice ta g.ts.length tc, .slice na g.ns.length nc, .int .i64 g.ax, .slice ra g.rs.length rc], .int .i64 x] w fun e w' => e = .returned (.string (symS g x)) ∧ Below w.heap.size w w' := by
  obtain ⟨g1, g2, _⟩ := id ho
  obtain ⟨x1, x2⟩ := hx
  have hB1 : Below w.heap.size w (w.alloc (.cells #[.slice ta g.ts.length tc, .slice na g.ns.length nc, .int .i64 g.ax, .slice ra g.rs.length rc] 25)) := (Below.refl _ _).alloc (Nat.le_refl _) _
  have hT1 := hT.below hB1 (Nat.le_refl _)
  have hN1 := hN.below hB1 (Nat.le_refl _)
  obtain ⟨b0, b1, b2, b3⟩ := GBox.new w ta na ra tc nc rc g 25
  clear hT hN
  by_cases h1 : x = (g.ts.length : Int)
  · have E : Hid (symS g x = ⟨#[36]⟩) := by show _ = _; rw [h1]; exact symS_end g
    have h2 : (x == (g.ts.length : Int)) = true := by simpa using h1
    clear h1
    go_enter Tryd.func18, Tryd.ntmps18
    go_wp2
    go_ret
    exact ⟨ret_str E.out.symm, hB1⟩
  · have h2 : (x == (g.ts.length : Int)) = false := by simpa using h1
    by_cases h0 : 0 ≤ x
    · by_cases h3 : x < (g.ts.length : Int)
      · obtain ⟨k, rfl⟩ : ∃ k : Nat, x = (k : Int) := ⟨x.toNat, by omega⟩
        obtain ⟨y, hy⟩ : ∃ y, g.ts[k]? = some y := ⟨g.ts[k]'(by omega), List.getElem?_eq_getElem (by omega)⟩
        obtain ⟨b, off, rfl, hc⟩ := hT1 k y hy
        have hys := hz.1 y (List.mem_of_getElem? hy)
        have E0 : Hid (symS g (k : Int) = tmS g y) := symS_at hy
        have hf := fun W => free_any y W (by omega)
        have hq := fun W => WordsBytes.rquote_any y W (by omega)
        change ∀ W, Calls Tryd.prog 43 #[.string y] W fun e w' => e = .returned (.string (quoteS y)) ∧ Below W.heap.size W w' at hq
        have hk2 : (k : Int) < (g.ts.length : Int) := by omega
        clear hT1 hy h1 hz
        go_enter Tryd.func18, Tryd.ntmps18
        go_wp2_with fail
        refine (hf _).mono ?_
        rintro e w1 ⟨rfl, hw1⟩
        obtain rfl := hw1.symm
        go_wp2
        go_loop [6, 7] (fun p i => ∃ j : Nat, j ≤ g.ns.length ∧ i = .int .i64 j ∧ p = .bool (isW y && !memB y (g.ns.take j))) (fun _ i => g.ns.length - (intOf i).toNat)
        case atStart => exact ⟨0, by omega, rfl, by simp [memB]⟩
        case round =>
          obtain ⟨j, hj, rfl, rfl⟩ := hrel
          by_cases hlt : j < g.ns.length
          · obtain ⟨z, hz⟩ : ∃ z, g.ns[j]? = some z := ⟨g.ns[j], List.getElem?_eq_getElem hlt⟩
            obtain ⟨b', off', rfl, hc'⟩ := hN1 j z hz
            have hlt2 : (j : Int) < (g.ns.length : Int) := by omega
            by_cases hs : z = y
            · subst hs
              have F : Hid ((isW z && !memB z (g.ns.take (j + 1))) = false) := by
                show _ = _
                rw [memB_snoc hz, (eqB_iff z z).2 rfl]
                simp
              clear hN1 hz
              go_wp2
              go_round
              case rel => exact ⟨j + 1, by omega, by go_num, by rw [F.out]⟩
              case measure => simp [intOf]; omega
            · have hs1 := str_ne hs
              have F : Hid (memB y (g.ns.take (j + 1)) = memB y (g.ns.take j)) := by
                show _ = _
                rw [memB_snoc hz, eqB_ne hs, Bool.or_false]
              clear hN1 hz
              go_wp2
              go_round
              case rel => exact ⟨j + 1, by omega, by go_num, by rw [F.out]⟩
              case measure => simp [intOf]; omega
          · obtain rfl : j = g.ns.length := by omega
            cases hP : tmB g y with
            | true =>
              have F : Hid ((isW y && !memB y (g.ns.take g.ns.length)) = true) := by show _ = _; rw [List.take_length, Bool.and_comm]; exact hP
              rw [F.out]
              have E : Hid (symS g (k : Int) = y) := by show _ = _; rw [E0.out]; unfold tmS; rw [if_pos hP]
              clear F E0 hP hN1
              go_wp2
              go_ret
              exact ⟨ret_str E.out.symm, hB1⟩
            | false =>
              have F : Hid ((isW y && !memB y (g.ns.take g.ns.length)) = false) := by show _ = _; rw [List.take_length, Bool.and_comm]; exact hP
              rw [F.out]
              have E : Hid (symS g (k : Int) = quoteS y) := by show _ = _; rw [E0.out]; unfold tmS; rw [hP]; rfl
              clear F E0 hP hN1
              go_wp2_with fail
              refine (hq _).mono ?_
              rintro e w2 ⟨rfl, hb2⟩
              go_wp2
              go_ret
              exact ⟨ret_str E.out.symm, hB1.trans (hb2.mono (by simp))⟩
      · have E : Hid (symS g x = ⟨#[63]⟩) := symS_out (by omega)
        clear hT1 hN1 h1
        go_enter Tryd.func18, Tryd.ntmps18
        go_wp2
        go_loop [8] (fun i => ∃ k : Nat, k ≤ g.ns.length ∧ i = .int .i64 k) (fun i => g.ns.length - (intOf i).toNat)
        case atStart => exact ⟨0, by omega, rfl⟩
        case round =>
          obtain ⟨k, hk, rfl⟩ := hrel
          by_cases hlt : k < g.ns.length
          · have hlt2 : (k : Int) < (g.ns.length : Int) := by omega
            have hne : (x == -1 - (k : Int)) = false := by simp; omega
            go_wp2
            go_round
            case rel => exact ⟨k + 1, by omega, by go_num⟩
            case measure => simp [intOf]; omega
          · go_wp2
            go_ret
            exact ⟨ret_str E.out.symm, hB1⟩
    · obtain ⟨j, rfl⟩ : ∃ j : Nat, x = -1 - (j : Int) := ⟨(-1 - x).toNat, by omega⟩
      have E1 : Hid (∀ y, g.ns[j]? = some y → symS g (-1 - (j : Int)) = ntS y) := fun y hy => symS_nat hy
      have E2 : Hid (g.ns.length ≤ j → symS g (-1 - (j : Int)) = ⟨#[63]⟩) := fun hj => symS_out (by omega)
      clear hT1 h1
      go_enter Tryd.func18, Tryd.ntmps18
      go_wp2
      go_loop [8] (fun i => ∃ k : Nat, k ≤ g.ns.length ∧ i = .int .i64 k ∧ k ≤ j) (fun i => g.ns.length - (intOf i).toNat)
      case atStart => exact ⟨0, by omega, rfl, by omega⟩
      case round =>
        obtain ⟨k, hk, rfl, hkj⟩ := hrel
        by_cases hlt : k < g.ns.length
        · have hlt2 : (k : Int) < (g.ns.length : Int) := by omega
          by_cases e : k = j
          · subst e
            obtain ⟨y, hy⟩ : ∃ y, g.ns[k]? = some y := ⟨g.ns[k], List.getElem?_eq_getElem hlt⟩
            obtain ⟨b, off, rfl, hc⟩ := hN1 k y hy
            have hys := hz.2 y (List.mem_of_getElem? hy)
            have E3 : Hid (symS g (-1 - (k : Int)) = ntS y) := E1.out y hy
            have hf := fun W => free_any y W (by omega)
            have hq := fun W => WordsBytes.rquote_any y W (by omega)
            change ∀ W, Calls Tryd.prog 43 #[.string y] W fun e w' => e = .returned (.string (quoteS y)) ∧ Below W.heap.size W w' at hq
            cases hP : isW y with
            | true =>
              rw [hP] at hf
              have E4 : Hid (symS g (-1 - (k : Int)) = y) := by show _ = _; rw [E3.out]; unfold ntS; rw [if_pos hP]
              clear E1 E2 E3 hN1 hy hP hz
              go_wp2_with fail
              refine (hf _).mono ?_
              rintro e w1 ⟨rfl, hw1⟩
              obtain rfl := hw1.symm
              go_wp2
              go_ret
              exact ⟨ret_str E4.out.symm, hB1⟩
            | false =>
              rw [hP] at hf
              have E4 : Hid (symS g (-1 - (k : Int)) = angS y) := by show _ = _; rw [E3.out]; unfold ntS; rw [hP]; rfl
              have hqs := quoteS_size y
              have a1 : ∀ W : World, (Op.stringOp .add ⟨#[60]⟩ (quoteS y)).run Tryd.prog W = .ok (.string (⟨#[60]⟩ ++ quoteS y)) W := fun W => run_string_add_sum W _ _ (by show 1 + _ ≤ _; omega)
              have a2 : ∀ W : World, (Op.stringOp .add (⟨#[60]⟩ ++ quoteS y) ⟨#[62]⟩).run Tryd.prog W = .ok (.string (angS y)) W := fun W => run_string_add_sum W _ _ (by rw [ByteArray.size_append]; show 1 + _ + 1 ≤ _; omega)
              generalize quoteS y = q at *
              generalize angS y = v at *
              clear E1 E2 E3 hN1 hy hP hqs hz
              go_wp2_with fail
              refine (hf _).mono ?_
              rintro e w1 ⟨rfl, hw1⟩
              obtain rfl := hw1.symm
              go_wp2_with fail
              refine (hq _).mono ?_
              rintro e w2 ⟨rfl, hb2⟩
              go_wp2
              go_ret
              exact ⟨ret_str E4.out.symm, hB1.trans (hb2.mono (by simp))⟩
          · have hne : (-1 - (j : Int) == -1 - (k : Int)) = false := by simp; omega
            clear E1 E2 hN1
            go_wp2
            go_round
            case rel => exact ⟨k + 1, by omega, by go_num, by omega⟩
            case measure => simp [intOf]; omega
        · have E3 : Hid (symS g (-1 - (j : Int)) = ⟨#[63]⟩) := E2.out (by omega)
          clear E1 E2 hN1
          go_wp2
          go_ret
          exact ⟨ret_str E3.out.symm, hB1⟩

end Go.Proofs.YtkbljcfkokiceaaDoor.ShowSym
