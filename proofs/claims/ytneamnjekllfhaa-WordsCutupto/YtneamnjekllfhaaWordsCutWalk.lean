/-
  WordsCut for every text of at most a million letters.
-/
import Derived.Test.YtneamnjekllfhaaWordsWRange
namespace Go.Proofs.Ytneamnjekllfhaa.WordsCutW
open Go.RowKit Go.Proofs.Ytneamnjekllfhaa.WordsMath Go.Proofs.Ytneamnjekllfhaa.WordsOne Go.Proofs.Ytneamnjekllfhaa.WordsBytes Go.Proofs.Ytneamnjekllfhaa.WordsCutM Go.Proofs.Ytneamnjekllfhaa.WordsMarks Go.Proofs.Ytneamnjekllfhaa.WordsSLines
set_option linter.unusedVariables false

theorem seq_nil (f : Fn) (a b : Array Value) (w : World) : (binOp .eql 23 (.func f a b) .nilFunc).run Try.prog w = .ok (.bool false) w := by kernel_rfl

theorem cell_lt {w : World} {p : Addr} {v : Value} (h : w.cell? p = some v) : p.block < w.heap.size := by
  obtain ⟨o, ho, _⟩ := not_walk_of_cell h
  exact (Array.getElem?_eq_some_iff.1 ho).1

/-- An owned row of texts, as a slice whose cells are known. -/
theorem own_rowL {w : World} {base : Nat} {v : Value} {ls : List (List UInt8)} (h : w.ownsRow base 9 1 v ls.length (cellsL ls)) :
    ∃ a c, v = .slice a ls.length c ∧ ∀ (k : Nat) (x : List UInt8), ls[k]? = some x → ∃ g, a = some ⟨g, 0, none⟩ ∧ w.cell? ⟨g, k, none⟩ = some (.string ⟨x.toArray⟩) := by
  obtain ⟨_, ⟨rfl, h0⟩ | ⟨g, cap, cur, rfl, hb, hg, hn, _, _, _⟩⟩ := id h
  · refine ⟨none, 0, by rw [h0], fun k x hx => ?_⟩
    have := (List.getElem?_eq_some_iff.1 hx).1
    omega
  · refine ⟨_, cap, rfl, fun k x hx => ⟨g, rfl, ?_⟩⟩
    have hk := (List.getElem?_eq_some_iff.1 hx).1
    rw [h.cellAt k (by omega), cellsL, List.getElem?_map, hx]
    rfl

/-- What the law has before it, in blocks below N. -/
structure At (w W : World) (N : Nat) (early : Int) (s : List UInt8) (a : Option Addr) (c b : Nat) : Prop where
  low : Below w.heap.size w W
  e : Boxed W w.heap.size 3 (.int .i64 early)
  r : Boxed W (w.heap.size + 1) 4 (.bool false)
  t : Boxed W (w.heap.size + 2) 9 (.string ⟨s.toArray⟩)
  v : Boxed W b 25 (.slice a (cutGo [] s).length c)
  row : ∀ (k : Nat) (x : List UInt8), (cutGo [] s)[k]? = some x → ∃ g, a = some ⟨g, 0, none⟩ ∧ g < N ∧ W.cell? ⟨g, k, none⟩ = some (.string ⟨x.toArray⟩)
  n1 : w.heap.size + 2 < N
  n2 : b < N
  n3 : N ≤ W.heap.size

theorem At.below {w W W' : World} {N : Nat} {early : Int} {s : List UInt8} {a : Option Addr} {c b : Nat} (h : At w W N early s a c b) (hb : Below N W W') : At w W' N early s a c b where
  low := h.low.trans (hb.mono (by have := h.n1; omega))
  e := (hb.block _ (by have := h.n1; omega)).trans h.e
  r := (hb.block _ (by have := h.n1; omega)).trans h.r
  t := (hb.block _ (by have := h.n1; omega)).trans h.t
  v := (hb.block _ h.n2).trans h.v
  row := fun k x hx => by
    obtain ⟨g, h1, h2, h3⟩ := h.row k x hx
    exact ⟨g, h1, h2, (hb.cell (p := ⟨g, k, none⟩) h2).trans h3⟩
  n1 := h.n1
  n2 := h.n2
  n3 := Nat.le_trans h.n3 hb.size

theorem from_set {B b : Nat} (W : World) (v : Value) (h : b < B) : From B W (W.setCell ⟨b, 0, none⟩ v) := ⟨by simp, fun i hi _ => Below.heap_setCell _ _ _ _ (by show _ ≠ b; omega)⟩

/-- A loop over the lines that may be broken off: what is known at the end is known whichever way it ended. -/
theorem range_wbreak {g : Operand} {ps : Array Tmp} {assign body : Code} {Q : Exit → Act → World → Prop} {a : Act} {w : World} (bs id : Nat) (s : List UInt8) (hm : s.length ≤ 1048576) (hQ : ∀ a W, Q .normal a W → Q (.exit id) a W)
    (hg : a.eval g = .func (.func 6) #[] #[.pointer (some ⟨bs, 0, none⟩)]) (hT : Boxed w bs 9 (.string ⟨s.toArray⟩)) (hps : ps.size = 2)
    (I : Nat → World → Prop) (X : World → Prop) (hI : ∀ k W W', I k W → Below w.heap.size W W' → I k W') (hX : ∀ W W', X W → Below w.heap.size W W' → X W') (h0 : I 0 w) (hIX : ∀ W, I (cutGo [] s).length W → X W)
    (a₁ : Nat → List UInt8 → Act)
    (hassign : ∀ (l k : Nat) (x : List UInt8) (W : World) (K : Act → World → Prop), K (a₁ k x) W →
      assign.wpIn (Fence.wide.inRound l) 5 Try.prog (Exit.then K (fun _ _ _ => False)) { tmps := (ps.zip #[Value.int .i64 ((k : Int) + 1), Value.string ⟨x.toArray⟩]).foldl (fun t (p, v) => t.setIfInBounds p v) a.tmps, defers := [] } W)
    (hbody : ∀ (l k : Nat) (x : List UInt8) (W : World), (cutGo [] s)[k]? = some x → w.heap.size ≤ W.heap.size → I k W → body.wpIn (Fence.wide.inRound l) 5 Try.prog (postW w.heap.size I (fun c W => c = .exit id ∧ X W) (k + 1) W) (a₁ k x) W)
    (hend : ∀ (D : Nat) (W : World), w.heap.size ≤ D → X W → W.heap[D]? = some (.deferred (some [])) → Q .normal { a with defers := { target := .collected D, args := #[] } :: a.defers } W) :
    (Code.rangeFunc g ps assign body).wpIn Fence.wide 9 Try.prog Q a w :=
  range_wlines bs s hm hg hT hps I (fun c W => c = .exit id ∧ X W) hI (fun c W W' h hb => ⟨h.1, hX W W' h.2 hb⟩) h0 a₁ hassign hbody
    (fun D W hD hi hK => hend D W hD (hIX W hi) hK)
    (fun D c W hD hi hK => by obtain ⟨rfl, hx⟩ := hi; exact wpIn_exit (hQ _ _ (hend D W hD hx hK)))

attribute [local go_sem] Oper.semAt_some

set_option maxRecDepth 100000 in
set_option maxHeartbeats 8000000 in
theorem walk (s : List UInt8) (early : Int) (w : World) (hs : s.length ≤ 1048576) :
    Calls Try.prog 3 #[.string ⟨s.toArray⟩, .int .i64 early] w fun e w' => e = .returned (.bool true) ∧ Below w.heap.size w w' := by
  refine (callsIn_wide (n := 9)).1 ?_
  have hsn := seq_nil
  have hL : (cutGo [] s).length ≤ 1048576 := by
    have h8 := cut_len s []
    simp only [List.length_nil, Nat.zero_add] at h8
    omega
  have hB0 : Below w.heap.size w ((w.alloc (.cells #[.int .i64 early] 3)).alloc (.cells #[.bool false] 4)) := ((Below.refl _ _).alloc (Nat.le_refl _) _).alloc (by simp) _
  have hz0 : ((w.alloc (.cells #[.int .i64 early] 3)).alloc (.cells #[.bool false] 4)).heap.size = w.heap.size + 2 := by simp
  have e0 := (Boxed.new w 3 (.int .i64 early)).alloc (.cells #[.bool false] 4)
  have r0 := Boxed.new (w.alloc (.cells #[.int .i64 early] 3)) 4 (.bool false)
  rw [World.size_alloc] at r0
  refine callsIn_of_wp_marks Try.func3 rfl trivial ?_ rfl
  simp only [Try.ntmps3, List.size_toArray, List.length_cons, List.length_nil, Nat.reduceAdd, Nat.reduceSub, Array.replicate_succ, Array.replicate_zero, List.push_toArray, List.append_toArray, List.nil_append, List.cons_append]
  gi_wp2_with fail
  generalize (w.alloc (.cells #[.int .i64 early] 3)).alloc (.cells #[.bool false] 4) = w0 at *
  refine ⟨trivial, (callsIn_wide.2 (wlines_any ⟨s.toArray⟩ w0)).mono ?_⟩
  rintro e w1 ⟨rfl, rfl⟩
  have hB1 : Below w.heap.size w (w0.alloc (.cells #[.string ⟨s.toArray⟩] 9)) := hB0.alloc (by omega) _
  have e1 := e0.alloc (.cells #[.string ⟨s.toArray⟩] 9)
  have r1 := r0.alloc (.cells #[.string ⟨s.toArray⟩] 9)
  have t1 := Boxed.new w0 9 (.string ⟨s.toArray⟩)
  have hz1 : (w0.alloc (.cells #[.string ⟨s.toArray⟩] 9)).heap.size = w.heap.size + 3 := by simp [hz0]
  rw [hz0] at t1
  rw [hz0]
  generalize w0.alloc (.cells #[.string ⟨s.toArray⟩] 9) = w1 at *
  clear hB0 hz0 e0 r0
  gi_wp2_with fail
  refine ⟨trivial, (callsIn_wide.2 (rlines_any ⟨s.toArray⟩ w1 (by rw [size_mk]; exact hs))).mono ?_⟩
  rintro e w2 ⟨v, rfl, hrow, hb2⟩
  change w2.ownsRow w1.heap.size 9 1 v (cutGo [] s.toArray.toList).length (cellsL (cutGo [] s.toArray.toList)) at hrow
  rw [List.toList_toArray] at hrow
  obtain ⟨a, c, rfl, hcell⟩ := own_rowL hrow
  have hA3 : At w (w2.alloc (.cells #[.slice a (cutGo [] s).length c] 25)) (w2.heap.size + 1) early s a c w2.heap.size :=
    { low := (hB1.trans (hb2.mono (by omega))).alloc (by have := hb2.size; omega) _
      e := Boxed.alloc ((hb2.block _ e1.lt).trans e1) _
      r := Boxed.alloc ((hb2.block _ r1.lt).trans r1) _
      t := Boxed.alloc ((hb2.block _ t1.lt).trans t1) _
      v := Boxed.new w2 _ _
      row := fun k x hx => by
        obtain ⟨g, h1, h2⟩ := hcell k x hx
        have hg := cell_lt h2
        exact ⟨g, h1, Nat.lt_succ_of_lt hg, (World.cell?_of_block (w := w2) (a := ⟨g, k, none⟩) (Below.heap_alloc _ _ _ hg)).trans h2⟩
      n1 := by have := hb2.size; omega
      n2 := Nat.lt_succ_self _
      n3 := by simp }
  have hb2s := hb2.size
  clear hrow hcell hB1 e1 r1 t1 hb2
  gi_wp2_with fail
  generalize w2.alloc (.cells #[.slice a (cutGo [] s).length c] 25) = w3 at *
  generalize w2.heap.size = b at *
  generalize hN : b + 1 = N at hA3
  clear hz1 hb2s hN
  refine wpIn_loop_rounds 3 ?_
  rw [roundsIn_succ]
  gi_wp2_with fail
  have hM3 := hA3.n3
  have hB4 : Below w3.heap.size w3 (w3.alloc (.cells #[.int .i64 0] 3)) := (Below.refl _ _).alloc (Nat.le_refl _) _
  have hA4 := hA3.below (hB4.mono hM3)
  have a4 := Boxed.new w3 3 (.int .i64 0)
  have hz4 : (w3.alloc (.cells #[.int .i64 0] 3)).heap.size = w3.heap.size + 1 := by simp
  generalize w3.alloc (.cells #[.int .i64 0] 3) = w4 at *
  generalize hat4 : w3.heap.size = A4 at *
  refine' range_wlines (w.heap.size + 2) s hs rfl hA4.t rfl
    (fun k W => Below A4 w4 W ∧ Boxed W A4 3 (.int .i64 (k : Int))) (fun _ _ => False)
    (fun k W W' h hb => ⟨h.1.trans (hb.mono (by omega)), (hb.block _ (by omega)).trans h.2⟩) (fun _ _ _ h _ => h.elim)
    ⟨Below.refl _ _, a4⟩ _ ?assign4 ?body4 ?done4 ?stop4
  case assign4 =>
    intro l k x W K hK
    gi_wp2
    exact hK
  case stop4 =>
    rintro D cc W _ h _
    exact h.elim
  case body4 =>
    rintro l k x W hx hz ⟨hb, hat⟩
    have hAW := hA4.below (hb.mono (by omega))
    obtain ⟨g, rfl, hg, hc⟩ := hAW.row k x hx
    have hv := hAW.v.cell
    have ha := hat.cell
    have hf := hat.frozen
    have hk := (List.getElem?_eq_some_iff.1 hx).1
    have hk2 : (k : Int) < ((cutGo [] s).length : Int) := by omega
    have hF := from_set (B := w4.heap.size) W (.int .i64 ((k : Int) + 1)) (show A4 < w4.heap.size by omega)
    have hb2 := hb.setCell (p := ⟨A4, 0, none⟩) (Nat.le_refl _) (.int .i64 ((k : Int) + 1))
    have ha2 := hat.set (.int .i64 ((k : Int) + 1))
    have hcast : Hid ((k : Int) + 1 = ((k + 1 : Nat) : Int)) := by show _ = _; omega
    clear hAW hx
    gi_wp2
    exact ⟨hF, hb2, by rw [← hcast.out]; exact ha2⟩
  rintro D4 w5 hD4 ⟨hb5, a5⟩ hK5
  have hA5 := hA4.below (hb5.mono (by omega))
  have va5 := hA5.v.cell
  have ac5 := a5.cell
  clear a4 hA3 hA4
  gi_wp2_with fail
  have D4lt := (Array.getElem?_eq_some_iff.1 hK5).1
  have hD4w : w.heap.size + 2 < D4 := by have := hA5.n1; omega
  clear hb5 a5 va5 ac5 hB4 hat4 hz4 hM3 hD4
  rw [roundsIn_succ]
  gi_wp2_with fail
  have hM5 := hA5.n3
  have hB6 : Below w5.heap.size w5 (w5.alloc (.cells #[.int .i64 0] 3)) := (Below.refl _ _).alloc (Nat.le_refl _) _
  have hA6 := hA5.below (hB6.mono hM5)
  have a6 := Boxed.new w5 3 (.int .i64 0)
  have hz6 : (w5.alloc (.cells #[.int .i64 0] 3)).heap.size = w5.heap.size + 1 := by simp
  generalize w5.alloc (.cells #[.int .i64 0] 3) = w6 at *
  generalize hat6 : w5.heap.size = A6 at *
  refine' range_wlines (w.heap.size + 2) s hs rfl hA6.t rfl
    (fun k W => Below A6 w6 W ∧ Boxed W A6 3 (.int .i64 (k : Int))) (fun _ _ => False)
    (fun k W W' h hb => ⟨h.1.trans (hb.mono (by omega)), (hb.block _ (by omega)).trans h.2⟩) (fun _ _ _ h _ => h.elim)
    ⟨Below.refl _ _, a6⟩ _ ?assign6 ?body6 ?done6 ?stop6
  case assign6 =>
    intro l k x W K hK
    gi_wp2
    exact hK
  case stop6 =>
    rintro D cc W _ h _
    exact h.elim
  case body6 =>
    rintro l k x W hx hz ⟨hb, hat⟩
    have hAW := hA6.below (hb.mono (by omega))
    obtain ⟨g, rfl, hg, hc⟩ := hAW.row k x hx
    have hv := hAW.v.cell
    have ha := hat.cell
    have hf := hat.frozen
    have hk := (List.getElem?_eq_some_iff.1 hx).1
    have hk2 : (k : Int) < ((cutGo [] s).length : Int) := by omega
    have hF := from_set (B := w6.heap.size) W (.int .i64 ((k : Int) + 1)) (show A6 < w6.heap.size by omega)
    have hb2 := hb.setCell (p := ⟨A6, 0, none⟩) (Nat.le_refl _) (.int .i64 ((k : Int) + 1))
    have ha2 := hat.set (.int .i64 ((k : Int) + 1))
    have hcast : Hid ((k : Int) + 1 = ((k + 1 : Nat) : Int)) := by show _ = _; omega
    clear hAW hx
    gi_wp2
    exact ⟨hF, hb2, by rw [← hcast.out]; exact ha2⟩
  rintro D6 w7 hD6 ⟨hb7, a7⟩ hK7
  have hA7 := hA6.below (hb7.mono (by omega))
  have va7 := hA7.v.cell
  have ac7 := a7.cell
  clear a6 hA5 hA6
  gi_wp2_with fail
  have hK4 : w7.heap[D4]? = some (.deferred (some [])) := (hb7.block D4 (by omega)).trans ((hB6.block D4 (by omega)).trans hK5)
  have D6lt := (Array.getElem?_eq_some_iff.1 hK7).1
  have hD46 : D4 < D6 := by omega
  clear hb7 a7 va7 ac7 hB6 hat6 hz6 hM5 hD6 hK5 D4lt
  rw [roundsIn_succ]
  gi_wp2_with fail
  have hM7 := hA7.n3
  have hB8 : Below w7.heap.size w7 (w7.alloc (.cells #[.int .i64 0] 3)) := (Below.refl _ _).alloc (Nat.le_refl _) _
  have hA8 := hA7.below (hB8.mono hM7)
  have a8 := Boxed.new w7 3 (.int .i64 0)
  have hz8 : (w7.alloc (.cells #[.int .i64 0] 3)).heap.size = w7.heap.size + 1 := by simp
  generalize w7.alloc (.cells #[.int .i64 0] 3) = w8 at *
  generalize hat8 : w7.heap.size = A8 at *
  refine' range_wbreak (w.heap.size + 2) 4 s hs (fun a W h => h) rfl hA8.t rfl
    (fun k W => Below A8 w8 W ∧ Boxed W A8 3 (.int .i64 (k : Int)))
    (fun W => ∃ k : Nat, k ≤ (cutGo [] s).length ∧ Below A8 w8 W ∧ Boxed W A8 3 (.int .i64 (k : Int)))
    (fun k W W' h hb => ⟨h.1.trans (hb.mono (by omega)), (hb.block _ (by omega)).trans h.2⟩)
    (fun W W' h hb => by obtain ⟨k, h1, h2, h3⟩ := h; exact ⟨k, h1, h2.trans (hb.mono (by omega)), (hb.block _ (by omega)).trans h3⟩)
    ⟨Below.refl _ _, a8⟩ (fun W h => ⟨_, Nat.le_refl _, h⟩) _ ?assign8 ?body8 ?end8
  case assign8 =>
    intro l k x W K hK
    gi_wp2
    exact hK
  case body8 =>
    rintro l k x W hx hz ⟨hb, hat⟩
    have hAW := hA8.below (hb.mono (by omega))
    have ec := hAW.e.cell
    have ha := hat.cell
    have hf := hat.frozen
    have hk := (List.getElem?_eq_some_iff.1 hx).1
    have hF := from_set (B := w8.heap.size) W (.int .i64 ((k : Int) + 1)) (show A8 < w8.heap.size by omega)
    have hb2 := hb.setCell (p := ⟨A8, 0, none⟩) (Nat.le_refl _) (.int .i64 ((k : Int) + 1))
    have ha2 := hat.set (.int .i64 ((k : Int) + 1))
    have hne : A8 ≠ w.heap.size := by have := hA8.n1; omega
    have hcast : Hid ((k : Int) + 1 = ((k + 1 : Nat) : Int)) := by show _ = _; omega
    rw [hcast.out] at ha2
    have hkk : Hid (k + 1 ≤ (cutGo [] s).length) := by show _ ≤ _; omega
    clear hAW hx
    by_cases hgt : early < (k : Int) + 1
    · have hd : decide (early < (k : Int) + 1) = true := by simpa using hgt
      gi_wp2
      exact ⟨by first | exact hF | (rw [hz8] at hF; exact hF), rfl, k + 1, hkk.out, hb2, ha2⟩
    · have hd : decide (early < (k : Int) + 1) = false := by simpa using hgt
      gi_wp2
      exact ⟨by first | exact hF | (rw [hz8] at hF; exact hF), hb2, ha2⟩
  rintro D8 w9 hD8 ⟨k, hkl, hb9, a9⟩ hK9
  have hA9 := hA8.below (hb9.mono (by omega))
  have va9 := hA9.v.cell
  have ac9 := a9.cell
  have rc9 := hA9.r.cell
  have rf9 := hA9.r.frozen
  have hle : (k : Int) ≤ ((cutGo [] s).length : Int) := by omega
  have k4 : w9.heap[D4]? = some (.deferred (some [])) := (hb9.block D4 (by omega)).trans ((hB8.block D4 (by omega)).trans hK4)
  have k6 : w9.heap[D6]? = some (.deferred (some [])) := (hb9.block D6 (by omega)).trans ((hB8.block D6 (by omega)).trans hK7)
  have hD68 : D6 < D8 := by omega
  have q4 := (KeepsOthers.setCell w9 ⟨w.heap.size + 1, 0, none⟩ (.bool true)).same D4 _ k4 rfl
  have q6 := (KeepsOthers.setCell w9 ⟨w.heap.size + 1, 0, none⟩ (.bool true)).same D6 _ k6 rfl
  have q8 := (KeepsOthers.setCell w9 ⟨w.heap.size + 1, 0, none⟩ (.bool true)).same D8 _ hK9 rfl
  have rr := hA9.r.set (.bool true)
  have hBf : Below w.heap.size w (w9.setCell ⟨w.heap.size + 1, 0, none⟩ (.bool true)) := hA9.low.setCell (p := ⟨w.heap.size + 1, 0, none⟩) (show w.heap.size ≤ w.heap.size + 1 by omega) _
  clear a8 hA7 hA8 hb9 a9 hB8 hK4 hK7 hK9 k4 k6 hat8 hz8
  gi_wp2_with fail
  refine leaves_marks (B := w.heap.size + 2) [D8, D6, D4] (w9.setCell ⟨w.heap.size + 1, 0, none⟩ (.bool true)) ⟨by simp; omega, fun D hD => ?_⟩ (fun W' hW' => ?_)
  · simp only [List.mem_cons, List.not_mem_nil, or_false] at hD
    rcases hD with rfl | rfl | rfl
    · exact ⟨by omega, q8⟩
    · exact ⟨by omega, q6⟩
    · exact ⟨by omega, q4⟩
  · have yc := (hW'.cell (p := ⟨w.heap.size + 1, 0, none⟩) (show w.heap.size + 1 < w.heap.size + 2 by omega)).trans rr.cell
    refine ⟨.bool true, ?_, rfl, hBf.trans (hW'.mono (by omega))⟩
    simp [results, Try.results3, go_sem, yc]

end Go.Proofs.Ytneamnjekllfhaa.WordsCutW
