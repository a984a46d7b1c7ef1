/-
  Texts that stand together: PrecFn1.
-/
import Derived.Test.YtcoepmpgclndiaaGreatDoorBagGraphPartsM
import Derived.Test.YtcoepmpgclndiaaGreatDoorBMatrixClashes
namespace Go.Proofs.YtcoepmpgclndiaaGreatDoor.PrecFn
open Go.RowKit Go.Proofs.YtcoepmpgclndiaaGreatDoor.GramMath Go.Proofs.YtcoepmpgclndiaaGreatDoor.GramRow Go.Proofs.YtcoepmpgclndiaaGreatDoor.GramApart Go.Proofs.YtcoepmpgclndiaaGreatDoor.GraphMath Go.Proofs.YtcoepmpgclndiaaGreatDoor.GraphNet Go.Proofs.YtcoepmpgclndiaaGreatDoor.OpRow Go.Proofs.YtcoepmpgclndiaaGreatDoor.GramErrs Go.Proofs.YtcoepmpgclndiaaGreatDoor.MatrixClash
set_option linter.unusedVariables false
set_option linter.unusedSimpArgs false

/-- The relations of a matrix. -/
abbrev rY (t : Nat) (S : Nat → Nat → Int) : Int → Int → Bool := fun a b => MatrixPut.holdsB (t : Int) S a b 1
abbrev rQ (t : Nat) (S : Nat → Nat → Int) : Int → Int → Bool := fun a b => MatrixPut.holdsB (t : Int) S a b 2
abbrev rK (t : Nat) (S : Nat → Nat → Int) : Int → Int → Bool := fun a b => MatrixPut.holdsB (t : Int) S a b 3

set_option maxRecDepth 100000 in
set_option maxHeartbeats 2000000 in
theorem above_any (po : Option Addr) (t : Nat) (S : Nat → Nat → Int) (x z : Nat) (w : World) (hm : MatV w po t S) (ht : t ≤ 60) (hx : x ≤ 1000) (hz : z ≤ 1000) :
    Calls Tryz.prog 44 #[.pointer po, .int .i64 (x : Int), .int .i64 (z : Int)] w fun e w' => e = .returned (.bool (aboveB (rY t S) (rK t S) t x z)) ∧ w' = w := by
  have h0 := terms_v po t S w hm
  have h1 := holds_v po t S (x : Int) ((z : Int) - (t : Int)) 3 w hm ht
  have h2 := holds_v po t S (z : Int) ((x : Int) - (t : Int)) 1 w hm ht
  have b1 : -9223372036854775808 ≤ (z : Int) - (t : Int) := by omega
  have b2 : (z : Int) - (t : Int) < 9223372036854775808 := by omega
  have b3 : -9223372036854775808 ≤ (x : Int) - (t : Int) := by omega
  have b4 : (x : Int) - (t : Int) < 9223372036854775808 := by omega
  have E : Hid (aboveB (rY t S) (rK t S) t x z = (MatrixPut.holdsB (t : Int) S (x : Int) ((z : Int) - (t : Int)) 3 || MatrixPut.holdsB (t : Int) S (z : Int) ((x : Int) - (t : Int)) 1)) := by show _ = _; rfl
  clear hm
  generalize MatrixPut.holdsB (t : Int) S (x : Int) ((z : Int) - (t : Int)) 3 = B1 at *
  generalize MatrixPut.holdsB (t : Int) S (z : Int) ((x : Int) - (t : Int)) 1 = B2 at *
  go_enter Tryz.func44, Tryz.ntmps44
  go_wp2_with fail
  refine h0.mono ?_
  rintro e w1 ⟨rfl, hw1⟩
  obtain rfl := hw1.symm
  clear h0
  go_wp2_with fail
  refine h1.mono ?_
  rintro e w1 ⟨rfl, hw1⟩
  obtain rfl := hw1.symm
  clear h1
  cases B1 with
  | true =>
    go_wp2
    go_ret
    exact ⟨by rw [E.out]; rfl, rfl⟩
  | false =>
    go_wp2_with fail
    refine h2.mono ?_
    rintro e w1 ⟨rfl, hw1⟩
    obtain rfl := hw1.symm
    clear h2
    go_wp2
    go_ret
    exact ⟨by rw [E.out]; rfl, rfl⟩

set_option maxRecDepth 100000 in
set_option maxHeartbeats 4000000 in
theorem says_any (po : Option Addr) (t : Nat) (S : Nat → Nat → Int) (f g a b : Int) (w : World) (hm : MatV w po t S) (ht : t ≤ 60) :
    Calls Tryz.prog 26 #[.int .i64 f, .int .i64 g, .pointer po, .int .i64 a, .int .i64 b] w fun e w' => e = .returned (.bool (saysB (rY t S) (rQ t S) (rK t S) f g a b)) ∧ w' = w := by
  have h1 := holds_v po t S a b 1 w hm ht
  have h2 := holds_v po t S a b 2 w hm ht
  have h3 := holds_v po t S a b 3 w hm ht
  have E : Hid (saysB (rY t S) (rQ t S) (rK t S) f g a b = ((decide (f < g) || !MatrixPut.holdsB (t : Int) S a b 1) && (decide (f = g) || !MatrixPut.holdsB (t : Int) S a b 2) && (decide (g < f) || !MatrixPut.holdsB (t : Int) S a b 3))) := by show _ = _; rfl
  clear hm
  generalize MatrixPut.holdsB (t : Int) S a b 1 = B1 at *
  generalize MatrixPut.holdsB (t : Int) S a b 2 = B2 at *
  generalize MatrixPut.holdsB (t : Int) S a b 3 = B3 at *
  rcases Int.lt_trichotomy f g with hlt | heq | hgt
  · have d1 : decide (f < g) = true := decide_eq_true hlt
    have d2 : (f == g) = false := by rw [beq_eq_false_iff_ne]; omega
    have d3 : ¬ g < f := by omega
    have d3' : decide (g < f) = false := decide_eq_false d3
    have d2' : decide (f = g) = false := decide_eq_false (by omega)
    rw [d1, d2', d3'] at E
    clear d2' d3' h1
    go_enter Tryz.func26, Tryz.ntmps26
    go_wp2_with fail
    refine h2.mono ?_
    rintro e w1 ⟨rfl, hw1⟩
    obtain rfl := hw1.symm
    clear h2
    cases B2 with
    | true =>
      go_wp2
      go_ret
      exact ⟨by rw [E.out]; rfl, rfl⟩
    | false =>
      go_wp2_with fail
      refine h3.mono ?_
      rintro e w1 ⟨rfl, hw1⟩
      obtain rfl := hw1.symm
      clear h3
      go_wp2
      go_ret
      refine ⟨?_, rfl⟩
      rw [E.out]
      show Ending.returned (Value.bool (decide (g < f) || !B3)) = _
      rw [decide_eq_false (show ¬ g < f by omega)]
      cases B3 <;> rfl
  · have d1 : ¬ f < g := by omega
    have d2 : (f == g) = true := by rw [beq_iff_eq]; exact heq
    have d3 : ¬ g < f := by omega
    rw [decide_eq_false d1, decide_eq_true heq, decide_eq_false d3] at E
    clear heq h2
    go_enter Tryz.func26, Tryz.ntmps26
    go_wp2_with fail
    refine h1.mono ?_
    rintro e w1 ⟨rfl, hw1⟩
    obtain rfl := hw1.symm
    clear h1
    cases B1 with
    | true =>
      go_wp2
      go_ret
      exact ⟨by rw [E.out]; rfl, rfl⟩
    | false =>
      go_wp2_with fail
      refine h3.mono ?_
      rintro e w1 ⟨rfl, hw1⟩
      obtain rfl := hw1.symm
      clear h3
      go_wp2
      go_ret
      refine ⟨?_, rfl⟩
      rw [E.out]
      show Ending.returned (Value.bool (decide (g < f) || !B3)) = _
      rw [decide_eq_false (show ¬ g < f by omega)]
      cases B3 <;> rfl
  · have d1 : ¬ f < g := by omega
    have d2 : (f == g) = false := by rw [beq_eq_false_iff_ne]; omega
    have d2' : decide (f = g) = false := decide_eq_false (by omega)
    rw [decide_eq_false d1, d2', decide_eq_true hgt] at E
    clear d2' h3
    go_enter Tryz.func26, Tryz.ntmps26
    go_wp2_with fail
    refine h1.mono ?_
    rintro e w1 ⟨rfl, hw1⟩
    obtain rfl := hw1.symm
    clear h1
    cases B1 with
    | true =>
      go_wp2
      go_ret
      exact ⟨by rw [E.out]; rfl, rfl⟩
    | false =>
      go_wp2_with fail
      refine h2.mono ?_
      rintro e w1 ⟨rfl, hw1⟩
      obtain rfl := hw1.symm
      clear h2
      cases B2 with
      | true =>
        go_wp2
        go_ret
        exact ⟨by rw [E.out]; rfl, rfl⟩
      | false =>
        go_wp2
        go_ret
        exact ⟨by rw [E.out]; rfl, rfl⟩

theorem getD_of {l : List Int} {i : Nat} {x : Int} (h : l[i]? = some x) : l.getD i 0 = x := by rw [List.getD_eq_getElem?_getD, h]; rfl
theorem fitRow_succ (y q k : Int → Int → Bool) (t : Nat) (F G : List Int) (a n : Nat) : fitRow y q k t F G a (n + 1) = (fitRow y q k t F G a n && saysB y q k (F.getD a 0) (G.getD n 0) (a : Int) (n : Int)) := by
  unfold fitRow; rw [List.range_succ, List.all_append]; simp
theorem fitAll_succ (y q k : Int → Int → Bool) (t : Nat) (F G : List Int) (n : Nat) : fitAll y q k t F G (n + 1) = (fitAll y q k t F G n && fitRow y q k t F G n t) := by
  unfold fitAll; rw [List.range_succ, List.all_append]; simp
theorem fitRow_no {y q k : Int → Int → Bool} {t : Nat} {F G : List Int} {a b : Nat} (hb : b < t) (h : saysB y q k (F.getD a 0) (G.getD b 0) (a : Int) (b : Int) = false) : fitRow y q k t F G a t = false := by
  unfold fitRow
  rw [List.all_eq_false]
  exact ⟨b, List.mem_range.2 hb, by show ¬ saysB y q k (F.getD a 0) (G.getD b 0) (a : Int) (b : Int) = true; rw [h]; exact Bool.false_ne_true⟩
theorem fitAll_no {y q k : Int → Int → Bool} {t : Nat} {F G : List Int} {a : Nat} (ha : a < t) (h : fitRow y q k t F G a t = false) : fitAll y q k t F G t = false := by
  unfold fitAll
  rw [List.all_eq_false]
  exact ⟨a, List.mem_range.2 ha, by show ¬ fitRow y q k t F G a t = true; rw [h]; exact Bool.false_ne_true⟩

set_option maxRecDepth 100000 in
set_option maxHeartbeats 4000000 in
theorem fits_any (po : Option Addr) (t : Nat) (S : Nat → Nat → Int) (fa ga : Option Addr) (fc gc : Nat) (F G : List Int) (w : World) (hm : MatV w po t S) (ht : t ≤ 60) (hF : IRow w fa F) (hG : IRow w ga G) :
    Calls Tryz.prog 11 #[.pointer po, .slice fa F.length fc, .slice ga G.length gc] w fun e w' => e = .returned (.bool (fitsB (rY t S) (rQ t S) (rK t S) t F G)) ∧ ∃ n, w' = w.drewN n := by
  have h0 := terms_v po t S w hm
  by_cases hlF : F.length = t
  · by_cases hlG : G.length = t
    · have E : Hid (fitsB (rY t S) (rQ t S) (rK t S) t F G = fitAll (rY t S) (rQ t S) (rK t S) t F G t) := by show _ = _; unfold fitsB; rw [decide_eq_true hlF, decide_eq_true hlG]; simp
      rw [hlF, hlG]
      have HS : Hid (∀ (n : Nat) f g a b, Calls Tryz.prog 26 #[.int .i64 f, .int .i64 g, .pointer po, .int .i64 a, .int .i64 b] (w.drewN n) fun e w' => e = .returned (.bool (saysB (rY t S) (rQ t S) (rK t S) f g a b)) ∧ w' = w.drewN n) := fun n f g a b => says_any po t S f g a b (w.drewN n) (hm.below (drew_below w n) (Nat.le_refl _)) ht
      have HF : Hid (IRow w fa F ∧ F.length = t) := ⟨hF, hlF⟩
      have HG : Hid (IRow w ga G ∧ G.length = t) := ⟨hG, hlG⟩
      have hne : ((t : Int) != (t : Int)) = false := by simp
      clear hF hG hlF hlG hm
      go_enter Tryz.func11, Tryz.ntmps11
      go_wp2_with fail
      refine h0.mono ?_
      rintro e w1 ⟨rfl, hw1⟩
      obtain rfl := hw1.symm
      clear h0
      go_wp2
      go_loopw [23] (fun s wr => ∃ a : Nat, a ≤ t ∧ s = .int .i64 (a : Int) ∧ (∃ n, wr = w.drewN n) ∧ Hid (fitAll (rY t S) (rQ t S) (rK t S) t F G a = true)) (fun s _ => t - (intOf s).toNat)
      case atStart => exact ⟨0, by omega, rfl, ⟨0, rfl⟩, by show _ = _; simp [fitAll]⟩
      case round =>
        obtain ⟨a, ha, rfl, ⟨n0, rfl⟩, hI⟩ := hrel
        by_cases hla : a < t
        · have hla2 : (a : Int) < (t : Int) := by omega
          obtain ⟨x, hx⟩ : ∃ x, F[a]? = some x := ⟨F[a]'(by rw [HF.out.2]; exact hla), List.getElem?_eq_getElem _⟩
          obtain ⟨fb, fo, rfl, c0⟩ := HF.out.1 a x hx
          have Hx : Hid (F.getD a 0 = x) := getD_of hx
          clear hx
          go_wp2
          go_loopw [27] (fun s wr => ∃ b : Nat, b ≤ t ∧ s = .int .i64 (b : Int) ∧ (∃ n, wr = w.drewN n) ∧ Hid (fitRow (rY t S) (rQ t S) (rK t S) t F G a b = true)) (fun s _ => t - (intOf s).toNat)
          case atStart => exact ⟨0, by omega, rfl, ⟨n0, rfl⟩, by show _ = _; simp [fitRow]⟩
          case round =>
            obtain ⟨b, hb, rfl, ⟨n, rfl⟩, hJ⟩ := hrel
            by_cases hlb : b < t
            · have hlb2 : (b : Int) < (t : Int) := by omega
              obtain ⟨y, hy⟩ : ∃ y, G[b]? = some y := ⟨G[b]'(by rw [HG.out.2]; exact hlb), List.getElem?_eq_getElem _⟩
              obtain ⟨gb, go, rfl, c1⟩ := HG.out.1 b y hy
              have Hy : Hid (G.getD b 0 = y) := getD_of hy
              have hsay := HS.out (n + 1) x y (a : Int) (b : Int)
              have e0 : (w.drewN n).drew.cell? ⟨fb, fo + a, none⟩ = some (.int .i64 x) := c0
              have e1 : (w.drewN n).drew.cell? ⟨gb, go + b, none⟩ = some (.int .i64 y) := c1
              have hdn : (w.drewN n).drew = w.drewN (n + 1) := rfl
              rw [hdn] at e0 e1
              clear hy
              cases hB : saysB (rY t S) (rQ t S) (rK t S) x y (a : Int) (b : Int) with
              | true =>
                rw [hB] at hsay
                have hJ2 : Hid (fitRow (rY t S) (rQ t S) (rK t S) t F G a (b + 1) = true) := by show _ = _; rw [fitRow_succ, hJ.out, Hx.out, Hy.out, hB]; rfl
                clear hB hJ c1
                go_wp2_with fail
                refine wp_region_noPanic ?_
                refine wp_region_held_drew (S := (fun w9 => w9.cell? ⟨fb, fo + a, none⟩ = some (.int .i64 x) ∧ w9.cell? ⟨gb, go + b, none⟩ = some (.int .i64 y))) (by kernel_rfl) ⟨e0, e1⟩ (fun hHeld => ?_)
                rw [hdn]
                refine wpAnyH_take (i := 0) (v := .slice (some ⟨fb, fo, none⟩) t fc) rfl (by kernel_rfl) (by kernel_rfl) (by kernel_rfl) (fun _ _ _ h => h) (Or.inl ⟨by rfl, fun w9 hSw => ?_⟩) hHeld ?_
                · obtain ⟨s0, s1⟩ := hSw
                  go_simp
                simp only [List.getElem_toArray, List.getElem_cons_zero, List.getElem_cons_succ, Act.put, List.setIfInBounds_toArray, List.set_cons_zero, List.set_cons_succ]
                refine wpAnyH_take (i := 1) (v := .int .i64 (a : Int)) rfl (by kernel_rfl) (by kernel_rfl) (by kernel_rfl) (fun _ _ _ h => h) (Or.inl ⟨by rfl, fun w9 hSw => ?_⟩) hHeld ?_
                · obtain ⟨s0, s1⟩ := hSw
                  go_simp
                simp only [List.getElem_toArray, List.getElem_cons_zero, List.getElem_cons_succ, Act.put, List.setIfInBounds_toArray, List.set_cons_zero, List.set_cons_succ]
                refine wpAnyH_take (i := 2) (v := .pointer (some ⟨fb, fo + a, none⟩)) rfl (by kernel_rfl) (by kernel_rfl) (by kernel_rfl) (fun _ _ _ h => h) (Or.inl ⟨by rfl, fun w9 hSw => ?_⟩) hHeld ?_
                · obtain ⟨s0, s1⟩ := hSw
                  go_simp
                  all_goals (first | rfl | omega | (rw [IntKind.wrap_i64]; omega) | (simp; done) | (simp; omega))
                simp only [List.getElem_toArray, List.getElem_cons_zero, List.getElem_cons_succ, Act.put, List.setIfInBounds_toArray, List.set_cons_zero, List.set_cons_succ]
                refine wpAnyH_take (i := 3) (v := .int .i64 x) rfl (by kernel_rfl) (by kernel_rfl) (by kernel_rfl) (fun _ _ _ h => h) (Or.inl ⟨by rfl, fun w9 hSw => ?_⟩) hHeld ?_
                · obtain ⟨s0, s1⟩ := hSw
                  go_simp
                simp only [List.getElem_toArray, List.getElem_cons_zero, List.getElem_cons_succ, Act.put, List.setIfInBounds_toArray, List.set_cons_zero, List.set_cons_succ]
                refine wpAnyH_take (i := 4) (v := .slice (some ⟨gb, go, none⟩) t gc) rfl (by kernel_rfl) (by kernel_rfl) (by kernel_rfl) (fun _ _ _ h => h) (Or.inl ⟨by rfl, fun w9 hSw => ?_⟩) hHeld ?_
                · obtain ⟨s0, s1⟩ := hSw
                  go_simp
                simp only [List.getElem_toArray, List.getElem_cons_zero, List.getElem_cons_succ, Act.put, List.setIfInBounds_toArray, List.set_cons_zero, List.set_cons_succ]
                refine wpAnyH_take (i := 5) (v := .int .i64 (b : Int)) rfl (by kernel_rfl) (by kernel_rfl) (by kernel_rfl) (fun _ _ _ h => h) (Or.inl ⟨by rfl, fun w9 hSw => ?_⟩) hHeld ?_
                · obtain ⟨s0, s1⟩ := hSw
                  go_simp
                simp only [List.getElem_toArray, List.getElem_cons_zero, List.getElem_cons_succ, Act.put, List.setIfInBounds_toArray, List.set_cons_zero, List.set_cons_succ]
                refine wpAnyH_take (i := 6) (v := .pointer (some ⟨gb, go + b, none⟩)) rfl (by kernel_rfl) (by kernel_rfl) (by kernel_rfl) (fun _ _ _ h => h) (Or.inl ⟨by rfl, fun w9 hSw => ?_⟩) hHeld ?_
                · obtain ⟨s0, s1⟩ := hSw
                  go_simp
                  all_goals (first | rfl | omega | (rw [IntKind.wrap_i64]; omega) | (simp; done) | (simp; omega))
                simp only [List.getElem_toArray, List.getElem_cons_zero, List.getElem_cons_succ, Act.put, List.setIfInBounds_toArray, List.set_cons_zero, List.set_cons_succ]
                refine wpAnyH_take (i := 7) (v := .int .i64 y) rfl (by kernel_rfl) (by kernel_rfl) (by kernel_rfl) (fun _ _ _ h => h) (Or.inl ⟨by rfl, fun w9 hSw => ?_⟩) hHeld ?_
                · obtain ⟨s0, s1⟩ := hSw
                  go_simp
                simp only [List.getElem_toArray, List.getElem_cons_zero, List.getElem_cons_succ, Act.put, List.setIfInBounds_toArray, List.set_cons_zero, List.set_cons_succ]
                refine wpAnyH_take (i := 8) (v := .pointer po) rfl (by kernel_rfl) (by kernel_rfl) (by kernel_rfl) (fun _ _ _ h => h) (Or.inl ⟨by rfl, fun w9 hSw => ?_⟩) hHeld ?_
                · obtain ⟨s0, s1⟩ := hSw
                  go_simp
                simp only [List.getElem_toArray, List.getElem_cons_zero, List.getElem_cons_succ, Act.put, List.setIfInBounds_toArray, List.set_cons_zero, List.set_cons_succ]
                refine wpAnyH_take (i := 9) (v := .int .i64 (a : Int)) rfl (by kernel_rfl) (by kernel_rfl) (by kernel_rfl) (fun _ _ _ h => h) (Or.inl ⟨by rfl, fun w9 hSw => ?_⟩) hHeld ?_
                · obtain ⟨s0, s1⟩ := hSw
                  go_simp
                simp only [List.getElem_toArray, List.getElem_cons_zero, List.getElem_cons_succ, Act.put, List.setIfInBounds_toArray, List.set_cons_zero, List.set_cons_succ]
                refine wpAnyH_take (i := 10) (v := .int .i64 (b : Int)) rfl (by kernel_rfl) (by kernel_rfl) (by kernel_rfl) (fun _ _ _ h => h) (Or.inl ⟨by rfl, fun w9 hSw => ?_⟩) hHeld ?_
                · obtain ⟨s0, s1⟩ := hSw
                  go_simp
                simp only [List.getElem_toArray, List.getElem_cons_zero, List.getElem_cons_succ, Act.put, List.setIfInBounds_toArray, List.set_cons_zero, List.set_cons_succ]
                refine wpAnyH_ready (rs := [11]) (by kernel_rfl) (by simp) ?_
                refine AllReadyH.cons rfl (fun K hK => ?_) AllReadyH.nil
                go_simp
                refine hsay.mono ?_
                rintro e wz ⟨rfl, hwz⟩
                obtain rfl := hwz.symm
                refine hK.out _ _ hHeld (fun hHeld => ?_)
                clear hK K
                refine wpAnyH_take (i := 12) (v := .bool false) rfl (by kernel_rfl) (by kernel_rfl) (by kernel_rfl) (fun _ _ _ h => h) (Or.inl ⟨by rfl, fun w9 hSw => ?_⟩) hHeld ?_
                · obtain ⟨s0, s1⟩ := hSw
                  go_simp
                simp only [List.getElem_toArray, List.getElem_cons_zero, List.getElem_cons_succ, Act.put, List.setIfInBounds_toArray, List.set_cons_zero, List.set_cons_succ]
                refine wpAnyH_done (by kernel_rfl) (NoPanic.normal ?_) _
                clear hHeld hsay e0 e1
                go_wp2
                go_roundw
                case rel => exact ⟨b + 1, by omega, by go_num, ⟨_, rfl⟩, hJ2⟩
                case measure => simp [intOf]; omega
              | false =>
                rw [hB] at hsay
                have hJ2 : Hid (fitAll (rY t S) (rQ t S) (rK t S) t F G t = false) := fitAll_no hla (fitRow_no hlb (by rw [Hx.out, Hy.out]; exact hB))
                clear hB hJ c1
                go_wp2_with fail
                refine wp_region_noPanic ?_
                refine wp_region_held_drew (S := (fun w9 => w9.cell? ⟨fb, fo + a, none⟩ = some (.int .i64 x) ∧ w9.cell? ⟨gb, go + b, none⟩ = some (.int .i64 y))) (by kernel_rfl) ⟨e0, e1⟩ (fun hHeld => ?_)
                rw [hdn]
                refine wpAnyH_take (i := 0) (v := .slice (some ⟨fb, fo, none⟩) t fc) rfl (by kernel_rfl) (by kernel_rfl) (by kernel_rfl) (fun _ _ _ h => h) (Or.inl ⟨by rfl, fun w9 hSw => ?_⟩) hHeld ?_
                · obtain ⟨s0, s1⟩ := hSw
                  go_simp
                simp only [List.getElem_toArray, List.getElem_cons_zero, List.getElem_cons_succ, Act.put, List.setIfInBounds_toArray, List.set_cons_zero, List.set_cons_succ]
                refine wpAnyH_take (i := 1) (v := .int .i64 (a : Int)) rfl (by kernel_rfl) (by kernel_rfl) (by kernel_rfl) (fun _ _ _ h => h) (Or.inl ⟨by rfl, fun w9 hSw => ?_⟩) hHeld ?_
                · obtain ⟨s0, s1⟩ := hSw
                  go_simp
                simp only [List.getElem_toArray, List.getElem_cons_zero, List.getElem_cons_succ, Act.put, List.setIfInBounds_toArray, List.set_cons_zero, List.set_cons_succ]
                refine wpAnyH_take (i := 2) (v := .pointer (some ⟨fb, fo + a, none⟩)) rfl (by kernel_rfl) (by kernel_rfl) (by kernel_rfl) (fun _ _ _ h => h) (Or.inl ⟨by rfl, fun w9 hSw => ?_⟩) hHeld ?_
                · obtain ⟨s0, s1⟩ := hSw
                  go_simp
                  all_goals (first | rfl | omega | (rw [IntKind.wrap_i64]; omega) | (simp; done) | (simp; omega))
                simp only [List.getElem_toArray, List.getElem_cons_zero, List.getElem_cons_succ, Act.put, List.setIfInBounds_toArray, List.set_cons_zero, List.set_cons_succ]
                refine wpAnyH_take (i := 3) (v := .int .i64 x) rfl (by kernel_rfl) (by kernel_rfl) (by kernel_rfl) (fun _ _ _ h => h) (Or.inl ⟨by rfl, fun w9 hSw => ?_⟩) hHeld ?_
                · obtain ⟨s0, s1⟩ := hSw
                  go_simp
                simp only [List.getElem_toArray, List.getElem_cons_zero, List.getElem_cons_succ, Act.put, List.setIfInBounds_toArray, List.set_cons_zero, List.set_cons_succ]
                refine wpAnyH_take (i := 4) (v := .slice (some ⟨gb, go, none⟩) t gc) rfl (by kernel_rfl) (by kernel_rfl) (by kernel_rfl) (fun _ _ _ h => h) (Or.inl ⟨by rfl, fun w9 hSw => ?_⟩) hHeld ?_
                · obtain ⟨s0, s1⟩ := hSw
                  go_simp
                simp only [List.getElem_toArray, List.getElem_cons_zero, List.getElem_cons_succ, Act.put, List.setIfInBounds_toArray, List.set_cons_zero, List.set_cons_succ]
                refine wpAnyH_take (i := 5) (v := .int .i64 (b : Int)) rfl (by kernel_rfl) (by kernel_rfl) (by kernel_rfl) (fun _ _ _ h => h) (Or.inl ⟨by rfl, fun w9 hSw => ?_⟩) hHeld ?_
                · obtain ⟨s0, s1⟩ := hSw
                  go_simp
                simp only [List.getElem_toArray, List.getElem_cons_zero, List.getElem_cons_succ, Act.put, List.setIfInBounds_toArray, List.set_cons_zero, List.set_cons_succ]
                refine wpAnyH_take (i := 6) (v := .pointer (some ⟨gb, go + b, none⟩)) rfl (by kernel_rfl) (by kernel_rfl) (by kernel_rfl) (fun _ _ _ h => h) (Or.inl ⟨by rfl, fun w9 hSw => ?_⟩) hHeld ?_
                · obtain ⟨s0, s1⟩ := hSw
                  go_simp
                  all_goals (first | rfl | omega | (rw [IntKind.wrap_i64]; omega) | (simp; done) | (simp; omega))
                simp only [List.getElem_toArray, List.getElem_cons_zero, List.getElem_cons_succ, Act.put, List.setIfInBounds_toArray, List.set_cons_zero, List.set_cons_succ]
                refine wpAnyH_take (i := 7) (v := .int .i64 y) rfl (by kernel_rfl) (by kernel_rfl) (by kernel_rfl) (fun _ _ _ h => h) (Or.inl ⟨by rfl, fun w9 hSw => ?_⟩) hHeld ?_
                · obtain ⟨s0, s1⟩ := hSw
                  go_simp
                simp only [List.getElem_toArray, List.getElem_cons_zero, List.getElem_cons_succ, Act.put, List.setIfInBounds_toArray, List.set_cons_zero, List.set_cons_succ]
                refine wpAnyH_take (i := 8) (v := .pointer po) rfl (by kernel_rfl) (by kernel_rfl) (by kernel_rfl) (fun _ _ _ h => h) (Or.inl ⟨by rfl, fun w9 hSw => ?_⟩) hHeld ?_
                · obtain ⟨s0, s1⟩ := hSw
                  go_simp
                simp only [List.getElem_toArray, List.getElem_cons_zero, List.getElem_cons_succ, Act.put, List.setIfInBounds_toArray, List.set_cons_zero, List.set_cons_succ]
                refine wpAnyH_take (i := 9) (v := .int .i64 (a : Int)) rfl (by kernel_rfl) (by kernel_rfl) (by kernel_rfl) (fun _ _ _ h => h) (Or.inl ⟨by rfl, fun w9 hSw => ?_⟩) hHeld ?_
                · obtain ⟨s0, s1⟩ := hSw
                  go_simp
                simp only [List.getElem_toArray, List.getElem_cons_zero, List.getElem_cons_succ, Act.put, List.setIfInBounds_toArray, List.set_cons_zero, List.set_cons_succ]
                refine wpAnyH_take (i := 10) (v := .int .i64 (b : Int)) rfl (by kernel_rfl) (by kernel_rfl) (by kernel_rfl) (fun _ _ _ h => h) (Or.inl ⟨by rfl, fun w9 hSw => ?_⟩) hHeld ?_
                · obtain ⟨s0, s1⟩ := hSw
                  go_simp
                simp only [List.getElem_toArray, List.getElem_cons_zero, List.getElem_cons_succ, Act.put, List.setIfInBounds_toArray, List.set_cons_zero, List.set_cons_succ]
                refine wpAnyH_ready (rs := [11]) (by kernel_rfl) (by simp) ?_
                refine AllReadyH.cons rfl (fun K hK => ?_) AllReadyH.nil
                go_simp
                refine hsay.mono ?_
                rintro e wz ⟨rfl, hwz⟩
                obtain rfl := hwz.symm
                refine hK.out _ _ hHeld (fun hHeld => ?_)
                clear hK K
                refine wpAnyH_take (i := 12) (v := .bool true) rfl (by kernel_rfl) (by kernel_rfl) (by kernel_rfl) (fun _ _ _ h => h) (Or.inl ⟨by rfl, fun w9 hSw => ?_⟩) hHeld ?_
                · obtain ⟨s0, s1⟩ := hSw
                  go_simp
                simp only [List.getElem_toArray, List.getElem_cons_zero, List.getElem_cons_succ, Act.put, List.setIfInBounds_toArray, List.set_cons_zero, List.set_cons_succ]
                refine wpAnyH_done (by kernel_rfl) (NoPanic.normal ?_) _
                clear hHeld hsay e0 e1
                go_wp2
                go_ret
                exact ⟨by rw [E.out, hJ2.out]; rfl, _, rfl⟩
            · have hlb2 : ¬ (b : Int) < (t : Int) := by omega
              have hI2 : Hid (fitAll (rY t S) (rQ t S) (rK t S) t F G (a + 1) = true) := by show _ = _; rw [fitAll_succ, hI.out]; have := hJ.out; rw [show b = t by omega] at this; rw [this]; rfl
              clear hJ
              go_wp2
              go_roundw
              case rel => exact ⟨a + 1, by omega, by go_num, ⟨_, rfl⟩, hI2⟩
              case measure => simp [intOf]; omega
        · have hla2 : ¬ (a : Int) < (t : Int) := by omega
          have hI2 : Hid (fitAll (rY t S) (rQ t S) (rK t S) t F G t = true) := by have := hI.out; rw [show a = t by omega] at this; exact this
          clear hI
          go_wp2
          go_ret
          exact ⟨by rw [E.out, hI2.out]; rfl, _, rfl⟩
    · have E : Hid (fitsB (rY t S) (rQ t S) (rK t S) t F G = false) := by show _ = _; unfold fitsB; rw [decide_eq_false hlG]; simp
      rw [hlF]
      have hne : ((t : Int) != (t : Int)) = false := by simp
      have hne2 : ((G.length : Int) != (t : Int)) = true := by simp; omega
      clear hF hG hm hlF hlG
      go_enter Tryz.func11, Tryz.ntmps11
      go_wp2_with fail
      refine h0.mono ?_
      rintro e w1 ⟨rfl, hw1⟩
      obtain rfl := hw1.symm
      clear h0
      go_wp2
      go_ret
      exact ⟨by rw [E.out]; rfl, 0, rfl⟩
  · have E : Hid (fitsB (rY t S) (rQ t S) (rK t S) t F G = false) := by show _ = _; unfold fitsB; rw [decide_eq_false hlF]; simp
    have hne2 : ((F.length : Int) != (t : Int)) = true := by simp; omega
    clear hF hG hm hlF
    go_enter Tryz.func11, Tryz.ntmps11
    go_wp2_with fail
    refine h0.mono ?_
    rintro e w1 ⟨rfl, hw1⟩
    obtain rfl := hw1.symm
    clear h0
    go_wp2
    go_ret
    exact ⟨by rw [E.out]; rfl, 0, rfl⟩

set_option maxRecDepth 100000 in
set_option maxHeartbeats 2000000 in
theorem levelsAt_any (la ca : Option Addr) (lc cc : Nat) (zs : List Int) (cs : List Nat) (w : World) (hZ : IRow w la zs) (hC : IRow w ca (ints cs)) (hlt : ∀ c ∈ cs, c < zs.length) (hn : cs.length ≤ 256) (hz : zs.length ≤ 256) :
    Calls Tryz.prog 28 #[.slice la zs.length lc, .slice ca cs.length cc] w fun e w' => e = .returned (.slice (some ⟨w.heap.size, 0, none⟩) cs.length cs.length) ∧ RowAt w' w.heap.size 3 (intsA (cs.map (fun c => zs.getD c 0))) ∧ Below w.heap.size w w' := by
  have hmk := madeI_any cs.length (by omega) w
  have HZ : Hid (IRow w la zs) := hZ
  have HC : Hid (IRow w ca (ints cs)) := hC
  have HL : Hid (∀ c ∈ cs, c < zs.length) := hlt
  have HI0 : Hid (RowAt (w.alloc (.cells (madeCells #[.int .i64 0] cs.length) 3)) w.heap.size 3 (intsA (rowOf cs.length (fun i => if i < 0 then zs.getD (cs.getD i 0) 0 else 0))) ∧ Below w.heap.size w (w.alloc (.cells (madeCells #[.int .i64 0] cs.length) 3))) := ⟨by
    have h := made_row w cs.length 3
    have e : rowOf cs.length (fun i => if i < 0 then zs.getD (cs.getD i 0) 0 else 0) = List.replicate cs.length 0 := by rw [← rowOf_zero]; unfold rowOf; exact List.map_congr_left (fun i _ => by simp)
    rw [e]
    exact h, (Below.refl _ _).alloc (Nat.le_refl _) _⟩
  clear hZ hC hlt
  go_enter Tryz.func28, Tryz.ntmps28
  go_wp2
  clear hmk
  go_loopw [13] (fun s wr => ∃ k : Nat, k ≤ cs.length ∧ s = .int .i64 (k : Int) ∧ Hid (RowAt wr w.heap.size 3 (intsA (rowOf cs.length (fun i => if i < k then zs.getD (cs.getD i 0) 0 else 0))) ∧ Below w.heap.size w wr)) (fun s _ => cs.length - (intOf s).toNat)
  case atStart => exact ⟨0, by omega, rfl, HI0⟩
  case round =>
    clear HI0
    obtain ⟨k, hk, rfl, hI⟩ := hrel
    by_cases hlk : k < cs.length
    · have hlk2 : (k : Int) < (cs.length : Int) := by omega
      obtain ⟨c, hc⟩ : ∃ c, cs[k]? = some c := ⟨cs[k], List.getElem?_eq_getElem hlk⟩
      have hcl := HL.out c (List.mem_of_getElem? hc)
      obtain ⟨z, hz1⟩ : ∃ z, zs[c]? = some z := ⟨zs[c], List.getElem?_eq_getElem hcl⟩
      obtain ⟨cb, co, rfl, c0⟩ := (IRow.below HC.out hI.out.2 (Nat.le_refl _)) k (c : Int) (by rw [ints_get, hc]; rfl)
      obtain ⟨lb, lo, rfl, c1⟩ := (IRow.below HZ.out hI.out.2 (Nat.le_refl _)) c z hz1
      have hcl2 : (c : Int) < (zs.length : Int) := by omega
      obtain ⟨o1, o2⟩ : wr.cell? ⟨w.heap.size, k, none⟩ = some (.int .i64 0) ∧ wr.frozen? ⟨w.heap.size, k, none⟩ = false := ⟨hI.out.1.cell (intsA_get (by rw [rowOf_get _ hlk]; simp)), hI.out.1.frozen k⟩
      have hI2 : Hid (RowAt (wr.setCell ⟨w.heap.size, k, none⟩ (.int .i64 z)) w.heap.size 3 (intsA (rowOf cs.length (fun i => if i < k + 1 then zs.getD (cs.getD i 0) 0 else 0))) ∧ Below w.heap.size w (wr.setCell ⟨w.heap.size, k, none⟩ (.int .i64 z))) := ⟨by
        have h := hI.out.1.set k (.int .i64 z)
        have e : (intsA (rowOf cs.length (fun i => if i < k then zs.getD (cs.getD i 0) 0 else 0))).setIfInBounds k (.int .i64 z) = intsA (rowOf cs.length (fun i => if i < k + 1 then zs.getD (cs.getD i 0) 0 else 0)) := by
          have e1 : (intsA (rowOf cs.length (fun i => if i < k then zs.getD (cs.getD i 0) 0 else 0))).setIfInBounds k (.int .i64 z) = intsA ((rowOf cs.length (fun i => if i < k then zs.getD (cs.getD i 0) 0 else 0)).set k z) := by simp [intsA]
          rw [e1, rowOf_set]
          congr 1
          unfold rowOf
          refine List.map_congr_left (fun i _ => ?_)
          by_cases e : i = k
          · subst e
            rw [updA_at, if_pos (by omega), List.getD_eq_getElem?_getD, List.getD_eq_getElem?_getD, hc]
            dsimp only [Option.getD_some]
            rw [hz1]
            rfl
          · rw [updA_ne _ _ e]
            by_cases h : i < k
            · rw [if_pos h, if_pos (by omega)]
            · rw [if_neg h, if_neg (by omega)]
        rw [e] at h
        exact h, hI.out.2.setCell (p := ⟨w.heap.size, k, none⟩) (Nat.le_refl _) _⟩
      clear hI hc hz1
      go_wp2
      go_roundw
      case rel => exact ⟨k + 1, by omega, by go_num, hI2⟩
      case measure => simp [intOf]; omega
    · have hlk2 : ¬ (k : Int) < (cs.length : Int) := by omega
      have hfin : Hid (RowAt wr w.heap.size 3 (intsA (cs.map (fun c => zs.getD c 0))) ∧ Below w.heap.size w wr) := ⟨by
        have h := hI.out.1
        have e : rowOf cs.length (fun i => if i < k then zs.getD (cs.getD i 0) 0 else 0) = cs.map (fun c => zs.getD c 0) := by
          apply List.ext_getElem?
          intro i
          by_cases hi : i < cs.length
          · rw [rowOf_get _ hi, if_pos (by omega), List.getElem?_map, List.getElem?_eq_getElem hi, List.getD_eq_getElem?_getD, List.getD_eq_getElem?_getD, List.getElem?_eq_getElem hi]
            simp
          · rw [List.getElem?_eq_none (by rw [rowOf_length]; omega), List.getElem?_eq_none (by rw [List.length_map]; omega)]
        rw [e] at h
        exact h, hI.out.2⟩
      clear hI
      go_wp2
      go_ret
      exact ⟨rfl, hfin.out⟩

end Go.Proofs.YtcoepmpgclndiaaGreatDoor.PrecFn
