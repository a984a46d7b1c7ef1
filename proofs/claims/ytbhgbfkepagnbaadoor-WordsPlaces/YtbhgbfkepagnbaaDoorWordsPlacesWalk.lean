/-
  The walk of WordsPlaces: it answers true for every line and whatever stands behind it, and writes nothing that was there.
-/
import Derived.Test.YtbhgbfkepagnbaaDoorWordsStruct
import Derived.Test.YtbhgbfkepagnbaaDoorWordsMath2
import Derived.Deep.QuietTactic
import Derived.BigQuiet
namespace Go.Proofs.YtbhgbfkepagnbaaDoor.WordsPlacesW
open Go.RowKit Go.Proofs.YtbhgbfkepagnbaaDoor.WordsMath Go.Proofs.YtbhgbfkepagnbaaDoor.WordsOne Go.Proofs.YtbhgbfkepagnbaaDoor.WordsBytes

def lastP (ws : List W) : Nat → Int
  | 0 => -1
  | k + 1 => ((ws[k]?).map (fun x => (x.place : Int))).getD 0

theorem lastP_lt {ws : List W} (h : ws.Pairwise (fun a b => a.place < b.place)) {k : Nat} {x : W} (hx : ws[k]? = some x) : lastP ws k < (x.place : Int) := by
  cases k with
  | zero => show (-1 : Int) < _; omega
  | succ k =>
    obtain ⟨hk, he⟩ := List.getElem?_eq_some_iff.1 hx
    have h1 : ws[k]? = some ws[k] := List.getElem?_eq_getElem (by omega)
    have := List.pairwise_iff_getElem.1 h k (k + 1) (by omega) hk (by omega)
    show ((ws[k]?).map (fun x => (x.place : Int))).getD 0 < _
    rw [h1]
    show (ws[k].place : Int) < _
    rw [← he]
    omega

theorem cat_one (s : ByteArray) : (s ++ ⟨#[32]⟩ : ByteArray).size = s.size + 1 := by rw [ByteArray.size_append']; rfl
theorem cat_size (s b : ByteArray) : (s ++ ⟨#[32]⟩ ++ b).size = s.size + 1 + b.size := by rw [ByteArray.size_append', cat_one]
theorem cat_list (s b : ByteArray) : (s ++ ⟨#[32]⟩ ++ b).data.toList = s.data.toList ++ 32 :: b.data.toList := by simp

set_option maxRecDepth 100000 in
set_option maxHeartbeats 8000000 in
theorem walk (s b : ByteArray) (p : Nat → Addr) (w : World) (hE : Errs w p) (hg : ErrType w) (hb0 : b.size ≤ 140737488351232) :
    Calls Tryd.prog 5 #[.string s, .string b] w fun e w' => e = .returned (.bool true) ∧ Below w.heap.size w w' := by
  have hnil := fun t v W => iface_nil t v W
  by_cases hs : 1048576 < s.size
  · go_enter Tryd.func5, Tryd.ntmps5
    go_wp2_with fail
    refine (known_any p w hE hg).mono ?_
    rintro e w1 ⟨rfl, hb1⟩
    have hE1 := hE.below hb1 (Nat.le_refl _)
    go_wp2_with fail
    refine (line_long s (p 11) _ hs hE1.long).mono ?_
    rintro e w2 ⟨rfl, q, hw2⟩
    obtain rfl := hw2.symm
    have hE2 : Errs (w1.drewN q) p := hE1
    go_wp2_with fail
    refine (kind_long p _ hE2).mono ?_
    rintro e w3 ⟨rfl, hb3⟩
    go_wp2
    go_ret
    exact ⟨rfl, hb1.trans ((show Below w1.heap.size w1 w3 from ⟨hb3.os, hb3.tape, hb3.output, hb3.size, hb3.block⟩).mono hb1.size)⟩
  · cases hR : lineL s.data.toList 0 [] with
    | error n =>
      have hn := lineL_err _ _ _ _ _ (Nat.le_refl _) hR
      rw [list_size] at hn
      go_enter Tryd.func5, Tryd.ntmps5
      go_wp2_with fail
      refine (known_any p w hE hg).mono ?_
      rintro e w1 ⟨rfl, hb1⟩
      have hE1 := hE.below hb1 (Nat.le_refl _)
      have hg1 := hg.below hb1 (Nat.le_refl _)
      go_wp2_with fail
      refine (line_any s _ (p 1) _ (by omega) hE1.syntax hR).mono ?_
      rintro e w2 ⟨⟨v, he, hv⟩, hb2⟩
      subst he
      have hE2 := hE1.below hb2 (Nat.le_refl _)
      have hg2 := hg1.below hb2 (Nat.le_refl _)
      obtain ⟨t, u, hvt⟩ : ∃ t u, v = .iface t u := by obtain ⟨b', _, rfl, _⟩ := hv; exact ⟨_, _, rfl⟩
      subst hvt
      go_wp2_with fail
      refine (kind_place p _ _ _ _ hE2 hv).mono ?_
      rintro e w3 ⟨rfl, hb3⟩
      have hv3 := hv.below hb3 (Nat.le_refl _)
      have hg3 := hg2.below hb3 (Nat.le_refl _)
      go_wp2_with fail
      refine (place_of (p 1) _ _ _ _ hg3 hv3).mono ?_
      rintro e w4 ⟨rfl, hb4⟩
      have hv4 := hv3.below hb4 (Nat.le_refl _)
      have hg4 := hg3.below hb4 (Nat.le_refl _)
      have hn0 : (0 : Int) ≤ (n : Int) := by omega
      have hn1 : (n : Int) ≤ (s.size : Int) := by omega
      go_wp2_with fail
      refine (place_of (p 1) _ _ _ _ hg4 hv4).mono ?_
      rintro e w5 ⟨rfl, hb5⟩
      go_wp2
      go_ret
      refine ⟨?_, hb1.trans ((hb2.trans ((hb3.trans ((hb4.trans (hb5.mono hb4.size)).mono hb3.size)).mono hb2.size)).mono hb1.size)⟩
      exact ret_bool (by simp)
    | ok ws =>
      obtain ⟨more, hm, hpw, hpl⟩ := lineL_ok _ _ _ _ _ (Nat.le_refl _) hR
      rw [List.nil_append] at hm
      subst hm
      rw [list_size] at hpl
      have h2 := lines_two s.data.toList b.data.toList ws hR
      rw [list_size] at h2
      have hsl : ws.length ≤ 4611686018427387904 := by
        have := rise_len ws 0 (0 + s.size) hpw hpl
        omega
      go_enter Tryd.func5, Tryd.ntmps5
      go_wp2_with fail
      refine (known_any p w hE hg).mono ?_
      rintro e w1 ⟨rfl, hb1⟩
      have hE1 := hE.below hb1 (Nat.le_refl _)
      have hg1 := hg.below hb1 (Nat.le_refl _)
      go_wp2_with fail
      refine (line_any s _ (p 1) _ (by omega) hE1.syntax hR).mono ?_
      rintro e w2 ⟨⟨v, he, hown⟩, hb2⟩
      subst he
      obtain ⟨a1, c1, hv1, hW1⟩ := own_shape hown
      subst hv1
      have hE2 := hE1.below hb2 (Nat.le_refl _)
      have hg2 := hg1.below hb2 (Nat.le_refl _)
      go_wp2
      go_loop [7, 8] (fun a i => ∃ k : Nat, k ≤ ws.length ∧ i = .int .i64 k ∧ a = .int .i64 (lastP ws k)) (fun _ i => ws.length - (intOf i).toNat)
      case atStart => exact ⟨0, by omega, rfl, rfl⟩
      case round =>
        obtain ⟨k, hk, rfl, rfl⟩ := hrel
        by_cases hlt : k < ws.length
        · obtain ⟨x, hx⟩ : ∃ x, ws[k]? = some x := ⟨ws[k], List.getElem?_eq_getElem hlt⟩
          have h1 := lastP_lt hpw hx
          have h3 := hpl x (List.mem_of_getElem? hx)
          have h4 : Hid (lastP ws (k + 1) = (x.place : Int)) := by show ((ws[k]?).map (fun x => (x.place : Int))).getD 0 = _; rw [hx]; rfl
          obtain ⟨b', off', rfl, _, _, c3⟩ := hW1 k x hx
          have h5 : ¬ (x.place : Int) ≤ lastP ws k := by omega
          have h6 : ¬ (s.size : Int) ≤ (x.place : Int) := by omega
          have h7 : decide ((x.place : Int) ≤ lastP ws k) = false := by simpa using h5
          generalize lastP ws k = z at *
          clear hx hpw hpl h2 hown hW1 h3 h1
          go_wp2
          go_round
          case rel => exact ⟨k + 1, by omega, by go_num, by rw [h4.out]⟩
          case measure => simp [intOf]; omega
        · obtain rfl : k = ws.length := by omega
          have hSl : (s ++ ⟨#[32]⟩ ++ b).data.toList = s.data.toList ++ 32 :: b.data.toList := cat_list s b
          have hSz := cat_size s b
          have hSz1 := cat_one s
          have hadd := fun W => run_string_add_sum (P := Tryd.prog) W s ⟨#[32]⟩ (by rw [ByteArray.size_mk']; show s.size + 1 ≤ _; omega)
          have hadd2 := fun W => run_string_add_sum (P := Tryd.prog) W (s ++ ⟨#[32]⟩) b (by rw [hSz1]; omega)
          rw [← hSl] at h2
          generalize (s ++ ⟨#[32]⟩ ++ b) = S at *
          by_cases hS : 1048576 < S.size
          · go_wp2_with fail
            refine (line_long S (p 11) _ hS hE2.long).mono ?_
            rintro e w3 ⟨rfl, q, hw3⟩
            obtain rfl := hw3.symm
            have hE3 : Errs (w2.drewN q) p := hE2
            go_wp2_with fail
            refine (kind_long p _ hE3).mono ?_
            rintro e w4 ⟨rfl, hb4⟩
            go_wp2
            go_ret
            have hb4' : Below w2.heap.size w2 w4 := ⟨hb4.os, hb4.tape, hb4.output, hb4.size, hb4.block⟩
            exact ⟨rfl, hb1.trans ((hb2.trans (hb4'.mono hb2.size)).mono hb1.size)⟩
          · cases hQ : lineL S.data.toList 0 [] with
            | error n =>
              have hn := h2.2 n hQ
              go_wp2_with fail
              refine (line_any S _ (p 1) _ (by omega) hE2.syntax hQ).mono ?_
              rintro e w3 ⟨⟨v, he, hv⟩, hb3⟩
              subst he
              have hE3 := hE2.below hb3 (Nat.le_refl _)
              have hg3 := hg2.below hb3 (Nat.le_refl _)
              obtain ⟨t, u, hvt⟩ : ∃ t u, v = .iface t u := by obtain ⟨b', _, rfl, _⟩ := hv; exact ⟨_, _, rfl⟩
              subst hvt
              go_wp2_with fail
              refine (kind_place p _ _ _ _ hE3 hv).mono ?_
              rintro e w4 ⟨rfl, hb4⟩
              have hv4 := hv.below hb4 (Nat.le_refl _)
              have hg4 := hg3.below hb4 (Nat.le_refl _)
              go_wp2_with fail
              refine (place_of (p 1) _ _ _ _ hg4 hv4).mono ?_
              rintro e w5 ⟨rfl, hb5⟩
              have hn1 : (s.size : Int) < (n : Int) := by omega
              go_wp2
              go_ret
              refine ⟨ret_bool (by simp), hb1.trans ((hb2.trans ((hb3.trans ((hb4.trans (hb5.mono hb4.size)).mono hb3.size)).mono hb2.size)).mono hb1.size)⟩
            | ok us =>
              obtain ⟨more, hus⟩ := h2.1 us hQ
              go_wp2_with fail
              refine (line_any S _ (p 1) _ (by omega) hE2.syntax hQ).mono ?_
              rintro e w3 ⟨⟨v, he, hown3⟩, hb3⟩
              subst he
              obtain ⟨a3, c3, hv3, hW3⟩ := own_shape hown3
              subst hv3
              have hul : us.length = ws.length + more.length := by rw [hus, List.length_append]
              have hul2 : us.length ≤ 4611686018427387904 := by
                have h9 := lineL_ok _ _ _ _ _ (Nat.le_refl _) hQ
                obtain ⟨mo, h10, h11, h12⟩ := h9
                rw [List.nil_append] at h10
                subst h10
                have := rise_len us 0 _ h11 h12
                rw [list_size] at this
                omega
              have hle : ¬ (us.length : Int) < (ws.length : Int) := by omega
              have hget : ∀ k x, ws[k]? = some x → us[k]? = some x := fun k x hx => by
                rw [hus, List.getElem?_append_left (List.getElem?_eq_some_iff.1 hx).1]; exact hx
              have hW13 := hW1.below hb3 (Nat.le_refl _)
              have hneq := neq_word
              have B3 := hb1.trans ((hb2.trans (hb3.mono hb2.size)).mono hb1.size)
              clear hown hown3 h2 hus hW1 hadd hadd2 hpw hpl
              go_wp2
              go_loopw [11] (fun i wr => ∃ k q : Nat, k ≤ ws.length ∧ i = .int .i64 k ∧ wr = w3.drewN q) (fun i _ => ws.length - (intOf i).toNat)
              case atStart => exact ⟨0, 0, by omega, rfl, rfl⟩
              case round =>
                obtain ⟨k, q, hk, rfl, rfl⟩ := hrel
                by_cases hlt : k < ws.length
                · obtain ⟨x, hx⟩ : ∃ x, ws[k]? = some x := ⟨ws[k], List.getElem?_eq_getElem hlt⟩
                  obtain ⟨b1, off1, rfl, d1, d2, d3⟩ := hW13 k x hx
                  obtain ⟨b2, off2, rfl, e1, e2, e3⟩ := hW3 k x (hget k x hx)
                  have hlt2 : (k : Int) < (ws.length : Int) := by omega
                  have hlt3 : (k : Int) < (us.length : Int) := by omega
                  obtain ⟨t, qd, pl⟩ := x
                  dsimp only at d1 d2 d3 e1 e2 e3
                  generalize (⟨t.toArray⟩ : ByteArray) = T at *
                  clear hW13 hW3 hget hx
                  go_wp2
                  go_quiet (fail)
                  go_wp2
                  go_roundw
                  case rel => exact ⟨k + 1, _, by omega, by go_num, rfl⟩
                  case measure => simp [intOf]; omega
                · go_wp2
                  go_ret
                  exact ⟨rfl, B3.os, B3.tape, B3.output, B3.size, B3.block⟩

end Go.Proofs.YtbhgbfkepagnbaaDoor.WordsPlacesW
