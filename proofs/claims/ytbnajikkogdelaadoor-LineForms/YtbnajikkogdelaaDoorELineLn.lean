/-
  Texts that stand together: LineLn.
-/
import Derived.Test.YtbnajikkogdelaaDoorELineSR
namespace Go.Proofs.YtbnajikkogdelaaDoor.LineRg
open Go.RowKit Go.Proofs.YtbnajikkogdelaaDoor.WordsMath Go.Proofs.YtbnajikkogdelaaDoor.WordsOne Go.Proofs.YtbnajikkogdelaaDoor.WordsBytes Go.Proofs.YtbnajikkogdelaaDoor.WordsCutM Go.Proofs.YtbnajikkogdelaaDoor.WordsMarks Go.Proofs.YtbnajikkogdelaaDoor.WordsSLines
set_option linter.unusedVariables false

/-- The first line of a text without its end. -/
def textOf (l : List UInt8) : List UInt8 := if 0 ≤ Lib.indexByte l 10 then l.take (Lib.indexByte l 10).toNat else l

theorem line_cut {r : List UInt8} (hr : r ≠ []) : cutGo [] r = textOf r :: cutGo [] (lineOf r).2 := by
  unfold textOf lineOf
  by_cases hi : 0 ≤ Lib.indexByte r 10
  · obtain ⟨i, hie⟩ : ∃ i : Nat, Lib.indexByte r 10 = (i : Int) := ⟨_, (Int.toNat_of_nonneg hi).symm⟩
    rw [if_pos hi, if_pos hi, (cut_at hie).2, hie, Int.toNat_natCast]
  · have hie : Lib.indexByte r 10 = -1 := by
      have := Lib.indexByte_ge r 10
      omega
    rw [if_neg hi, if_neg hi, cut_none hie hr]
    rfl
theorem line_len (r : List UInt8) : (lineOf r).2.length ≤ r.length := by
  unfold lineOf
  split
  · simp
  · simp
theorem text_len (r : List UInt8) : (textOf r).length ≤ r.length := by
  unfold textOf
  split
  · simp; omega
  · simp

theorem trim_any (r : List UInt8) (hl : r.length ≤ 1048576) (w : World) : Calls Tryd.prog 66 #[.string ⟨(lineOf r).1.toArray⟩, .string ⟨#[10]⟩] w fun e w' => e = .returned (.string ⟨(textOf r).toArray⟩) ∧ w' = w := by
  unfold textOf lineOf
  by_cases hi : 0 ≤ Lib.indexByte r 10
  · obtain ⟨i, hie⟩ : ∃ i : Nat, Lib.indexByte r 10 = (i : Int) := ⟨_, (Int.toNat_of_nonneg hi).symm⟩
    rw [if_pos hi, if_pos hi, hie, Int.toNat_natCast]
    exact trim_line hie w hl
  · have hie : Lib.indexByte r 10 = -1 := by
      have := Lib.indexByte_ge r 10
      omega
    rw [if_neg hi, if_neg hi]
    exact trim_rest hie w hl

/-- What stands between two lines. -/
def InnJ (JO : Nat → World → Prop) (s : List UInt8) (l B : Nat) (r : List UInt8) (W : World) : Prop :=
  ∃ k : Nat, JO k W ∧ (Hid ((cutGo [] s).drop k = cutGo [] r) ∧ k ≤ (cutGo [] s).length ∧ r.length ≤ 1048576) ∧ Boxed W B 123 (.func (.yield l) #[] #[]) ∧ Boxed W (B + 1) 3 (.int .i64 (k : Int)) ∧ B + 3 ≤ W.heap.size

theorem InnJ.under {JO : Nat → World → Prop} {s r : List UInt8} {l B : Nat} {W W' : World} (hA : ∀ k W W', JO k W → Out B (B + 5) W W' → JO k W') (h : InnJ JO s l B r W) (hb : Out B (B + 5) W W') (h1 : W'.heap[B]? = W.heap[B]?) (h2 : W'.heap[B + 1]? = W.heap[B + 1]?) : InnJ JO s l B r W' := by
  obtain ⟨k, hJ, hk, hy, hn, hz⟩ := h
  exact ⟨k, hA _ _ _ hJ hb, hk, h1.trans hy, h2.trans hn, Nat.le_trans hz hb.size⟩

attribute [local go_sem] Oper.semAt_some

set_option hygiene false in
macro "stepL" : tactic => `(tactic| (go_simp; refine hK _ _ ?_; clear hK K))
set_option hygiene false in
macro "stepT" : tactic => `(tactic| (go_simp; refine ⟨trivial, ?_⟩; refine (CallsIn.inRound l2 (callsIn_wide.2 (htr _))).mono ?_; rintro e w' ⟨rfl, hw'⟩; obtain rfl := hw'.symm; refine hK _ _ ?_; clear hK K))
set_option hygiene false in
macro "stepC" : tactic => `(tactic| (go_simp; refine ⟨trivial, ?_⟩; refine (CallsIn.inRound l2 (callsIn_wide.2 (hcp _))).mono ?_; rintro e w5 ⟨rfl, hb5⟩; have y5c := (hb5.cell (p := ⟨W.heap.size, 0, none⟩) (show W.heap.size < w4.heap.size from y4.lt)).trans y4.cell; have n5c := (hb5.cell (p := ⟨W.heap.size + 1, 0, none⟩) (show W.heap.size + 1 < w4.heap.size from n4.lt)).trans n4.cell; obtain ⟨fn, tmps, assign, body, hyy, hR0⟩ := hYO w5 hb5; have hR : RoundIn (Fence.wide.inRound l2) 5 Tryd.prog l fn tmps assign body w5 _ := hR0; clear hR0; refine hK _ _ ?_; clear hK K))
set_option hygiene false in
macro "leafG" : tactic => `(tactic| (refine hK _ _ ?_; clear hK K; refine wpAnyIn_ready (rs := [6]) (by kernel_rfl) (by simp) ?_; refine AllReadyIn.cons rfl (fun K hK => ?_) AllReadyIn.nil; go_simp; refine hK _ _ ?_; clear hK K; refine wpAnyIn_done (by kernel_rfl) ?_ _; gi_wp2))


set_option maxRecDepth 100000 in
set_option maxHeartbeats 4000000 in
theorem wlines1_M (l bs B : Nat) (s : List UInt8) (hs : s.length ≤ 1048576) (JO : Nat → World → Prop) (JOx : World → Prop)
    (hA : ∀ k W W', JO k W → Out B (B + 5) W W' → JO k W') (hAx : ∀ W W', JOx W → Out B (B + 5) W W' → JOx W')
    (hY : ∀ k x W, (cutGo [] s)[k]? = some x → B + 5 ≤ W.heap.size → JO k W → YieldAt Fence.wide 5 Tryd.prog l #[.int .i64 ((k : Int) + 1), .string ⟨x.toArray⟩] W fun e W' =>
      Mid B (B + 5) W W' ∧ ((e = .returned (.bool true) ∧ JO (k + 1) W') ∨ (e = .returned (.bool false) ∧ JOx W')))
    (W : World) (hB : W.heap.size = B) (hbs : Boxed W bs 9 (.string ⟨s.toArray⟩)) (h0 : JO 0 W) :
    CallsIn Fence.wide 8 Tryd.prog 63 #[.func (.yield l) #[] #[], .pointer (some ⟨bs, 0, none⟩)] W fun e W' => (∃ v, e = .returned v) ∧ (JO (cutGo [] s).length W' ∨ JOx W') := by
  subst hB
  refine callsIn_of_wp_marks Tryd.func63 rfl trivial ?_ rfl
  simp only [Tryd.ntmps63, List.size_toArray, List.length_cons, List.length_nil, Nat.reduceAdd, Nat.reduceSub, Array.replicate_succ, Array.replicate_zero, List.push_toArray, List.append_toArray, List.nil_append, List.cons_append]
  have c0 := hbs.cell
  have hlt := hbs.lt
  have hB1 : Below W.heap.size W ((W.alloc (.cells #[.func (.yield l) #[] #[]] 123)).alloc (.cells #[.int .i64 0] 3)) := ((Below.refl _ _).alloc (Nat.le_refl _) _).alloc (by simp) _
  have hz1 : ((W.alloc (.cells #[.func (.yield l) #[] #[]] 123)).alloc (.cells #[.int .i64 0] 3)).heap.size = W.heap.size + 2 := by simp
  have bY1 := (Boxed.new W 123 (.func (.yield l) #[] #[])).alloc (.cells #[.int .i64 0] 3)
  have bN1 := Boxed.new (W.alloc (.cells #[.func (.yield l) #[] #[]] 123)) 3 (.int .i64 0)
  rw [World.size_alloc] at bN1
  gi_wp2
  refine ⟨trivial, ?_⟩
  generalize (W.alloc (.cells #[.func (.yield l) #[] #[]] 123)).alloc (.cells #[.int .i64 0] 3) = w1 at *
  refine (callsIn_wide.2 (slines_any ⟨s.toArray⟩ w1)).mono ?_
  rintro e w2 ⟨rfl, rfl⟩
  have hB2 : Below W.heap.size W (w1.alloc (.cells #[.string ⟨s.toArray⟩] 9)) := hB1.alloc (by omega) _
  have bY2 := bY1.alloc (.cells #[.string ⟨s.toArray⟩] 9)
  have bN2 := bN1.alloc (.cells #[.string ⟨s.toArray⟩] 9)
  have bS2 := Boxed.new w1 9 (.string ⟨s.toArray⟩)
  have hz2 : (w1.alloc (.cells #[.string ⟨s.toArray⟩] 9)).heap.size = W.heap.size + 3 := by simp [hz1]
  rw [hz1] at bS2
  rw [hz1]
  generalize w1.alloc (.cells #[.string ⟨s.toArray⟩] 9) = w2 at *
  clear hB1 bY1 bN1 hz1
  gi_wp2
  refine' range_slinesM 8 (by omega) (W.heap.size + 2) s hs rfl bS2 rfl (InnJ JO s l W.heap.size) (fun c W' => c = .ret ∧ JOx W')
    (fun r W1 W' h hg => h.under hA (hg.wide (by omega) (by omega)) (hg.block _ (by obtain ⟨k, _, _, hy, _⟩ := h; exact hy.lt) (by omega)) (hg.block _ (by obtain ⟨k, _, _, _, hn, _⟩ := h; exact hn.lt) (by omega)))
    (fun c W1 W' h hg => ⟨h.1, hAx _ _ h.2 (hg.wide (by omega) (by omega))⟩)
    ⟨0, hA _ _ _ h0 (.of_below hB2), ⟨rfl, by omega, hs⟩, bY2, bN2, by omega⟩
    (fun r W1 v h => h.under hA (Out.setCell (p := ⟨W.heap.size + 2, 0, none⟩) W1 (show W.heap.size ≤ W.heap.size + 2 by omega) (show W.heap.size + 2 < W.heap.size + 5 by omega) v) (Below.heap_setCell _ _ _ _ (by show _ ≠ W.heap.size + 2; omega)) (Below.heap_setCell _ _ _ _ (by show _ ≠ W.heap.size + 2; omega)))
    (by omega) _ ?assign ?body ?done ?stop
  case assign =>
    intro l2 x W1 K hK
    gi_wp2
    exact hK
  case body =>
    rintro l2 r W1 hr hzz hbr ⟨k, hJ, ⟨hX, hk, hrl⟩, hy, hn, hz⟩
    rw [hz2] at hzz
    have cN := hn.cell
    have fN := hn.frozen
    have hmx : Tryd.prog.follows .mixedOrders = true := by kernel_rfl
    have hB3 : Out W.heap.size (W.heap.size + 5) W1 (W1.setCell ⟨W.heap.size + 1, 0, none⟩ (.int .i64 ((k : Int) + 1))) := Out.setCell (p := ⟨W.heap.size + 1, 0, none⟩) W1 (show W.heap.size ≤ W.heap.size + 1 by omega) (show W.heap.size + 1 < W.heap.size + 5 by omega) _
    have y3 : Boxed (W1.setCell ⟨W.heap.size + 1, 0, none⟩ (.int .i64 ((k : Int) + 1))) W.heap.size 123 (.func (.yield l) #[] #[]) := (Below.heap_setCell _ _ _ _ (by show _ ≠ W.heap.size + 1; omega)).trans hy
    have n3 := hn.set (.int .i64 ((k : Int) + 1))
    have r3 : Boxed (W1.setCell ⟨W.heap.size + 1, 0, none⟩ (.int .i64 ((k : Int) + 1))) (W.heap.size + 2) 9 (.string ⟨(lineOf r).2.toArray⟩) := (Below.heap_setCell _ _ _ _ (by show _ ≠ W.heap.size + 1; omega)).trans hbr
    have k3 : ∀ i, i ≠ W.heap.size + 1 → (W1.setCell ⟨W.heap.size + 1, 0, none⟩ (.int .i64 ((k : Int) + 1))).heap[i]? = W1.heap[i]? := fun i hi => Below.heap_setCell _ _ _ _ hi
    have z3 : (W1.setCell ⟨W.heap.size + 1, 0, none⟩ (.int .i64 ((k : Int) + 1))).heap.size = W1.heap.size := by simp
    have hJ3 := hA _ _ _ hJ hB3
    have hcut := line_cut hr
    have hx : (cutGo [] s)[k]? = some (textOf r) := by
      have h9 := congrArg List.head? hX.out
      rw [List.head?_drop, hcut, List.head?_cons] at h9
      exact h9
    have hX2 : Hid ((cutGo [] s).drop (k + 1) = cutGo [] (lineOf r).2) := by
      show _ = _
      have h9 := congrArg List.tail hX.out
      rw [List.tail_drop, hcut, List.tail_cons] at h9
      exact h9
    have hkl : k + 1 ≤ (cutGo [] s).length := (List.getElem?_eq_some_iff.1 hx).1
    have hkm : k + 1 ≤ 1048576 := by
      have h8 := cut_len s []
      simp only [List.length_nil, Nat.zero_add] at h8
      omega
    have htr := fun w => trim_any r hrl w
    have hcp := fun w => copy_any ⟨(textOf r).toArray⟩ w (by rw [size_mk]; have := text_len r; omega)
    have hrl2 : Hid ((lineOf r).2.length ≤ 1048576) := by show _ ≤ _; have := line_len r; omega
    clear hX hcut hJ
    gi_wp2
    generalize W1.setCell ⟨W.heap.size + 1, 0, none⟩ (.int .i64 ((k : Int) + 1)) = w3 at *
    have hYO : ∀ w4, Below w3.heap.size w3 w4 → YieldAt Fence.wide 5 Tryd.prog l #[.int .i64 ((k : Int) + 1), .string ⟨(textOf r).toArray⟩] w4 fun e W' =>
      Mid W.heap.size (W.heap.size + 5) w4 W' ∧ ((e = .returned (.bool true) ∧ JO (k + 1) W') ∨ (e = .returned (.bool false) ∧ JOx W')) := fun w4 hb4 => hY k _ w4 hx (by have := hb4.size; omega) (hA _ _ _ hJ3 (.of_below hb4))
    have y3c := y3.cell
    have n3c := n3.cell
    generalize (lineOf r).1 = line at *
    generalize textOf r = txt at *
    have y4 : Boxed w3.drew W.heap.size 123 (.func (.yield l) #[] #[]) := y3
    have n4 : Boxed w3.drew (W.heap.size + 1) 3 (.int .i64 ((k : Int) + 1)) := n3
    have r4 : Boxed w3.drew (W.heap.size + 2) 9 (.string ⟨(lineOf r).2.toArray⟩) := r3
    have fin : ∀ w5 W3, Below w3.drew.heap.size w3.drew w5 → Mid W.heap.size (W.heap.size + 5) w5 W3 → Mid w2.heap.size (w2.heap.size + 2) W1 W3 ∧ (JO (k + 1) W3 → Boxed W3 (W.heap.size + 2) 9 (.string ⟨(lineOf r).2.toArray⟩) ∧ InnJ JO s l W.heap.size (lineOf r).2 W3) := fun w5 W3 hb5 hF => by
      have hz5 : w3.heap.size ≤ w5.heap.size := hb5.size
      have hz6 := hF.1
      have y5 : Boxed w5 W.heap.size 123 (.func (.yield l) #[] #[]) := (hb5.block _ y4.lt).trans y4
      have n5 : Boxed w5 (W.heap.size + 1) 3 (.int .i64 ((k : Int) + 1)) := (hb5.block _ n4.lt).trans n4
      have r5 : Boxed w5 (W.heap.size + 2) 9 (.string ⟨(lineOf r).2.toArray⟩) := (hb5.block _ r4.lt).trans r4
      refine ⟨⟨by omega, fun i h1 h2 => ?_⟩, fun hJ => ⟨hF.box r5 (by omega) (by omega), k + 1, hJ, ⟨hX2, hkl, hrl2.out⟩, hF.box y5 (Nat.le_refl _) (by omega), ?_, by omega⟩⟩
      · exact (hF.2 i (by omega) (by omega)).trans ((hb5.block i (by show i < w3.heap.size; omega)).trans (k3 i (by omega)))
      · have := hF.box n5 (by omega) (by omega)
        rwa [show ((k : Int) + 1) = ((k + 1 : Nat) : Int) by omega] at this
    have hYO2 : ∀ w4, Below w3.drew.heap.size w3.drew w4 → YieldAt Fence.wide 5 Tryd.prog l #[.int .i64 ((k : Int) + 1), .string ⟨txt.toArray⟩] w4 fun e W' =>
      Mid W.heap.size (W.heap.size + 5) w4 W' ∧ ((e = .returned (.bool true) ∧ JO (k + 1) W') ∨ (e = .returned (.bool false) ∧ JOx W')) := fun w4 hb4 => hYO w4 ⟨hb4.os, hb4.tape, hb4.output, hb4.size, hb4.block⟩
    clear hYO hY hA hAx hX2 hrl2 hx hJ3 hB3 k3 z3 y3 n3 r3 y3c n3c hB2 bY2 bN2 bS2 hz2 h0 hbs c0 hlt hbr hy hn hz hzz cN fN r4 hk hrl hkl
    have hYO := hYO2
    clear hYO2
    refine wpIn_region_any hmx ?_
    change wpAnyIn _ _ _ _ _ _ _ _ _ (World.drew _)
    generalize w3.drew = w4 at *
    have y4c := y4.cell
    have n4c := n4.cell
    refine wpAnyIn_ready (rs := [0, 1, 2]) (by kernel_rfl) (by simp) ?_
    refine AllReadyIn.cons rfl (fun K hK => ?_) ?_
    · stepL
      refine wpAnyIn_ready (rs := [1, 2]) (by kernel_rfl) (by simp) ?_
      refine AllReadyIn.cons rfl (fun K hK => ?_) ?_
      · stepL
        refine wpAnyIn_ready (rs := [2]) (by kernel_rfl) (by simp) ?_
        refine AllReadyIn.cons rfl (fun K hK => ?_) AllReadyIn.nil
        stepL
        refine wpAnyIn_ready (rs := [3]) (by kernel_rfl) (by simp) ?_
        refine AllReadyIn.cons rfl (fun K hK => ?_) AllReadyIn.nil
        stepT
        refine wpAnyIn_ready (rs := [4]) (by kernel_rfl) (by simp) ?_
        refine AllReadyIn.cons rfl (fun K hK => ?_) AllReadyIn.nil
        stepC
        refine wpAnyIn_ready (rs := [5]) (by kernel_rfl) (by simp) ?_
        refine AllReadyIn.cons rfl (fun K hK => ?_) AllReadyIn.nil
        go_simp
        refine hR.mono ?_
        rintro e W3 ⟨hF, h3⟩
        obtain ⟨fk, fj⟩ := fin w5 W3 hb5 hF
        clear hyy hR fin htr hcp hYO y4 n4 y4c n4c y5c n5c
        rcases h3 with ⟨rfl, hJ4⟩ | ⟨rfl, hJx⟩
        · leafG
          exact ⟨fk, fj hJ4⟩
        · leafG
          exact ⟨fk, rfl, hJx⟩
      refine AllReadyIn.cons rfl (fun K hK => ?_) AllReadyIn.nil
      stepL
      refine wpAnyIn_ready (rs := [1, 3]) (by kernel_rfl) (by simp) ?_
      refine AllReadyIn.cons rfl (fun K hK => ?_) ?_
      · stepL
        refine wpAnyIn_ready (rs := [3]) (by kernel_rfl) (by simp) ?_
        refine AllReadyIn.cons rfl (fun K hK => ?_) AllReadyIn.nil
        stepT
        refine wpAnyIn_ready (rs := [4]) (by kernel_rfl) (by simp) ?_
        refine AllReadyIn.cons rfl (fun K hK => ?_) AllReadyIn.nil
        stepC
        refine wpAnyIn_ready (rs := [5]) (by kernel_rfl) (by simp) ?_
        refine AllReadyIn.cons rfl (fun K hK => ?_) AllReadyIn.nil
        go_simp
        refine hR.mono ?_
        rintro e W3 ⟨hF, h3⟩
        obtain ⟨fk, fj⟩ := fin w5 W3 hb5 hF
        clear hyy hR fin htr hcp hYO y4 n4 y4c n4c y5c n5c
        rcases h3 with ⟨rfl, hJ4⟩ | ⟨rfl, hJx⟩
        · leafG
          exact ⟨fk, fj hJ4⟩
        · leafG
          exact ⟨fk, rfl, hJx⟩
      refine AllReadyIn.cons rfl (fun K hK => ?_) AllReadyIn.nil
      stepT
      refine wpAnyIn_ready (rs := [1, 4]) (by kernel_rfl) (by simp) ?_
      refine AllReadyIn.cons rfl (fun K hK => ?_) ?_
      · stepL
        refine wpAnyIn_ready (rs := [4]) (by kernel_rfl) (by simp) ?_
        refine AllReadyIn.cons rfl (fun K hK => ?_) AllReadyIn.nil
        stepC
        refine wpAnyIn_ready (rs := [5]) (by kernel_rfl) (by simp) ?_
        refine AllReadyIn.cons rfl (fun K hK => ?_) AllReadyIn.nil
        go_simp
        refine hR.mono ?_
        rintro e W3 ⟨hF, h3⟩
        obtain ⟨fk, fj⟩ := fin w5 W3 hb5 hF
        clear hyy hR fin htr hcp hYO y4 n4 y4c n4c y5c n5c
        rcases h3 with ⟨rfl, hJ4⟩ | ⟨rfl, hJx⟩
        · leafG
          exact ⟨fk, fj hJ4⟩
        · leafG
          exact ⟨fk, rfl, hJx⟩
      refine AllReadyIn.cons rfl (fun K hK => ?_) AllReadyIn.nil
      stepC
      refine wpAnyIn_ready (rs := [1]) (by kernel_rfl) (by simp) ?_
      refine AllReadyIn.cons rfl (fun K hK => ?_) AllReadyIn.nil
      stepL
      refine wpAnyIn_ready (rs := [5]) (by kernel_rfl) (by simp) ?_
      refine AllReadyIn.cons rfl (fun K hK => ?_) AllReadyIn.nil
      go_simp
      refine hR.mono ?_
      rintro e W3 ⟨hF, h3⟩
      obtain ⟨fk, fj⟩ := fin w5 W3 hb5 hF
      clear hyy hR fin htr hcp hYO y4 n4 y4c n4c y5c n5c
      rcases h3 with ⟨rfl, hJ4⟩ | ⟨rfl, hJx⟩
      · leafG
        exact ⟨fk, fj hJ4⟩
      · leafG
        exact ⟨fk, rfl, hJx⟩
    refine AllReadyIn.cons rfl (fun K hK => ?_) ?_
    · stepL
      refine wpAnyIn_ready (rs := [0, 2]) (by kernel_rfl) (by simp) ?_
      refine AllReadyIn.cons rfl (fun K hK => ?_) ?_
      · stepL
        refine wpAnyIn_ready (rs := [2]) (by kernel_rfl) (by simp) ?_
        refine AllReadyIn.cons rfl (fun K hK => ?_) AllReadyIn.nil
        stepL
        refine wpAnyIn_ready (rs := [3]) (by kernel_rfl) (by simp) ?_
        refine AllReadyIn.cons rfl (fun K hK => ?_) AllReadyIn.nil
        stepT
        refine wpAnyIn_ready (rs := [4]) (by kernel_rfl) (by simp) ?_
        refine AllReadyIn.cons rfl (fun K hK => ?_) AllReadyIn.nil
        stepC
        refine wpAnyIn_ready (rs := [5]) (by kernel_rfl) (by simp) ?_
        refine AllReadyIn.cons rfl (fun K hK => ?_) AllReadyIn.nil
        go_simp
        refine hR.mono ?_
        rintro e W3 ⟨hF, h3⟩
        obtain ⟨fk, fj⟩ := fin w5 W3 hb5 hF
        clear hyy hR fin htr hcp hYO y4 n4 y4c n4c y5c n5c
        rcases h3 with ⟨rfl, hJ4⟩ | ⟨rfl, hJx⟩
        · leafG
          exact ⟨fk, fj hJ4⟩
        · leafG
          exact ⟨fk, rfl, hJx⟩
      refine AllReadyIn.cons rfl (fun K hK => ?_) AllReadyIn.nil
      stepL
      refine wpAnyIn_ready (rs := [0, 3]) (by kernel_rfl) (by simp) ?_
      refine AllReadyIn.cons rfl (fun K hK => ?_) ?_
      · stepL
        refine wpAnyIn_ready (rs := [3]) (by kernel_rfl) (by simp) ?_
        refine AllReadyIn.cons rfl (fun K hK => ?_) AllReadyIn.nil
        stepT
        refine wpAnyIn_ready (rs := [4]) (by kernel_rfl) (by simp) ?_
        refine AllReadyIn.cons rfl (fun K hK => ?_) AllReadyIn.nil
        stepC
        refine wpAnyIn_ready (rs := [5]) (by kernel_rfl) (by simp) ?_
        refine AllReadyIn.cons rfl (fun K hK => ?_) AllReadyIn.nil
        go_simp
        refine hR.mono ?_
        rintro e W3 ⟨hF, h3⟩
        obtain ⟨fk, fj⟩ := fin w5 W3 hb5 hF
        clear hyy hR fin htr hcp hYO y4 n4 y4c n4c y5c n5c
        rcases h3 with ⟨rfl, hJ4⟩ | ⟨rfl, hJx⟩
        · leafG
          exact ⟨fk, fj hJ4⟩
        · leafG
          exact ⟨fk, rfl, hJx⟩
      refine AllReadyIn.cons rfl (fun K hK => ?_) AllReadyIn.nil
      stepT
      refine wpAnyIn_ready (rs := [0, 4]) (by kernel_rfl) (by simp) ?_
      refine AllReadyIn.cons rfl (fun K hK => ?_) ?_
      · stepL
        refine wpAnyIn_ready (rs := [4]) (by kernel_rfl) (by simp) ?_
        refine AllReadyIn.cons rfl (fun K hK => ?_) AllReadyIn.nil
        stepC
        refine wpAnyIn_ready (rs := [5]) (by kernel_rfl) (by simp) ?_
        refine AllReadyIn.cons rfl (fun K hK => ?_) AllReadyIn.nil
        go_simp
        refine hR.mono ?_
        rintro e W3 ⟨hF, h3⟩
        obtain ⟨fk, fj⟩ := fin w5 W3 hb5 hF
        clear hyy hR fin htr hcp hYO y4 n4 y4c n4c y5c n5c
        rcases h3 with ⟨rfl, hJ4⟩ | ⟨rfl, hJx⟩
        · leafG
          exact ⟨fk, fj hJ4⟩
        · leafG
          exact ⟨fk, rfl, hJx⟩
      refine AllReadyIn.cons rfl (fun K hK => ?_) AllReadyIn.nil
      stepC
      refine wpAnyIn_ready (rs := [0]) (by kernel_rfl) (by simp) ?_
      refine AllReadyIn.cons rfl (fun K hK => ?_) AllReadyIn.nil
      stepL
      refine wpAnyIn_ready (rs := [5]) (by kernel_rfl) (by simp) ?_
      refine AllReadyIn.cons rfl (fun K hK => ?_) AllReadyIn.nil
      go_simp
      refine hR.mono ?_
      rintro e W3 ⟨hF, h3⟩
      obtain ⟨fk, fj⟩ := fin w5 W3 hb5 hF
      clear hyy hR fin htr hcp hYO y4 n4 y4c n4c y5c n5c
      rcases h3 with ⟨rfl, hJ4⟩ | ⟨rfl, hJx⟩
      · leafG
        exact ⟨fk, fj hJ4⟩
      · leafG
        exact ⟨fk, rfl, hJx⟩
    refine AllReadyIn.cons rfl (fun K hK => ?_) AllReadyIn.nil
    stepL
    refine wpAnyIn_ready (rs := [0, 1, 3]) (by kernel_rfl) (by simp) ?_
    refine AllReadyIn.cons rfl (fun K hK => ?_) ?_
    · stepL
      refine wpAnyIn_ready (rs := [1, 3]) (by kernel_rfl) (by simp) ?_
      refine AllReadyIn.cons rfl (fun K hK => ?_) ?_
      · stepL
        refine wpAnyIn_ready (rs := [3]) (by kernel_rfl) (by simp) ?_
        refine AllReadyIn.cons rfl (fun K hK => ?_) AllReadyIn.nil
        stepT
        refine wpAnyIn_ready (rs := [4]) (by kernel_rfl) (by simp) ?_
        refine AllReadyIn.cons rfl (fun K hK => ?_) AllReadyIn.nil
        stepC
        refine wpAnyIn_ready (rs := [5]) (by kernel_rfl) (by simp) ?_
        refine AllReadyIn.cons rfl (fun K hK => ?_) AllReadyIn.nil
        go_simp
        refine hR.mono ?_
        rintro e W3 ⟨hF, h3⟩
        obtain ⟨fk, fj⟩ := fin w5 W3 hb5 hF
        clear hyy hR fin htr hcp hYO y4 n4 y4c n4c y5c n5c
        rcases h3 with ⟨rfl, hJ4⟩ | ⟨rfl, hJx⟩
        · leafG
          exact ⟨fk, fj hJ4⟩
        · leafG
          exact ⟨fk, rfl, hJx⟩
      refine AllReadyIn.cons rfl (fun K hK => ?_) AllReadyIn.nil
      stepT
      refine wpAnyIn_ready (rs := [1, 4]) (by kernel_rfl) (by simp) ?_
      refine AllReadyIn.cons rfl (fun K hK => ?_) ?_
      · stepL
        refine wpAnyIn_ready (rs := [4]) (by kernel_rfl) (by simp) ?_
        refine AllReadyIn.cons rfl (fun K hK => ?_) AllReadyIn.nil
        stepC
        refine wpAnyIn_ready (rs := [5]) (by kernel_rfl) (by simp) ?_
        refine AllReadyIn.cons rfl (fun K hK => ?_) AllReadyIn.nil
        go_simp
        refine hR.mono ?_
        rintro e W3 ⟨hF, h3⟩
        obtain ⟨fk, fj⟩ := fin w5 W3 hb5 hF
        clear hyy hR fin htr hcp hYO y4 n4 y4c n4c y5c n5c
        rcases h3 with ⟨rfl, hJ4⟩ | ⟨rfl, hJx⟩
        · leafG
          exact ⟨fk, fj hJ4⟩
        · leafG
          exact ⟨fk, rfl, hJx⟩
      refine AllReadyIn.cons rfl (fun K hK => ?_) AllReadyIn.nil
      stepC
      refine wpAnyIn_ready (rs := [1]) (by kernel_rfl) (by simp) ?_
      refine AllReadyIn.cons rfl (fun K hK => ?_) AllReadyIn.nil
      stepL
      refine wpAnyIn_ready (rs := [5]) (by kernel_rfl) (by simp) ?_
      refine AllReadyIn.cons rfl (fun K hK => ?_) AllReadyIn.nil
      go_simp
      refine hR.mono ?_
      rintro e W3 ⟨hF, h3⟩
      obtain ⟨fk, fj⟩ := fin w5 W3 hb5 hF
      clear hyy hR fin htr hcp hYO y4 n4 y4c n4c y5c n5c
      rcases h3 with ⟨rfl, hJ4⟩ | ⟨rfl, hJx⟩
      · leafG
        exact ⟨fk, fj hJ4⟩
      · leafG
        exact ⟨fk, rfl, hJx⟩
    refine AllReadyIn.cons rfl (fun K hK => ?_) ?_
    · stepL
      refine wpAnyIn_ready (rs := [0, 3]) (by kernel_rfl) (by simp) ?_
      refine AllReadyIn.cons rfl (fun K hK => ?_) ?_
      · stepL
        refine wpAnyIn_ready (rs := [3]) (by kernel_rfl) (by simp) ?_
        refine AllReadyIn.cons rfl (fun K hK => ?_) AllReadyIn.nil
        stepT
        refine wpAnyIn_ready (rs := [4]) (by kernel_rfl) (by simp) ?_
        refine AllReadyIn.cons rfl (fun K hK => ?_) AllReadyIn.nil
        stepC
        refine wpAnyIn_ready (rs := [5]) (by kernel_rfl) (by simp) ?_
        refine AllReadyIn.cons rfl (fun K hK => ?_) AllReadyIn.nil
        go_simp
        refine hR.mono ?_
        rintro e W3 ⟨hF, h3⟩
        obtain ⟨fk, fj⟩ := fin w5 W3 hb5 hF
        clear hyy hR fin htr hcp hYO y4 n4 y4c n4c y5c n5c
        rcases h3 with ⟨rfl, hJ4⟩ | ⟨rfl, hJx⟩
        · leafG
          exact ⟨fk, fj hJ4⟩
        · leafG
          exact ⟨fk, rfl, hJx⟩
      refine AllReadyIn.cons rfl (fun K hK => ?_) AllReadyIn.nil
      stepT
      refine wpAnyIn_ready (rs := [0, 4]) (by kernel_rfl) (by simp) ?_
      refine AllReadyIn.cons rfl (fun K hK => ?_) ?_
      · stepL
        refine wpAnyIn_ready (rs := [4]) (by kernel_rfl) (by simp) ?_
        refine AllReadyIn.cons rfl (fun K hK => ?_) AllReadyIn.nil
        stepC
        refine wpAnyIn_ready (rs := [5]) (by kernel_rfl) (by simp) ?_
        refine AllReadyIn.cons rfl (fun K hK => ?_) AllReadyIn.nil
        go_simp
        refine hR.mono ?_
        rintro e W3 ⟨hF, h3⟩
        obtain ⟨fk, fj⟩ := fin w5 W3 hb5 hF
        clear hyy hR fin htr hcp hYO y4 n4 y4c n4c y5c n5c
        rcases h3 with ⟨rfl, hJ4⟩ | ⟨rfl, hJx⟩
        · leafG
          exact ⟨fk, fj hJ4⟩
        · leafG
          exact ⟨fk, rfl, hJx⟩
      refine AllReadyIn.cons rfl (fun K hK => ?_) AllReadyIn.nil
      stepC
      refine wpAnyIn_ready (rs := [0]) (by kernel_rfl) (by simp) ?_
      refine AllReadyIn.cons rfl (fun K hK => ?_) AllReadyIn.nil
      stepL
      refine wpAnyIn_ready (rs := [5]) (by kernel_rfl) (by simp) ?_
      refine AllReadyIn.cons rfl (fun K hK => ?_) AllReadyIn.nil
      go_simp
      refine hR.mono ?_
      rintro e W3 ⟨hF, h3⟩
      obtain ⟨fk, fj⟩ := fin w5 W3 hb5 hF
      clear hyy hR fin htr hcp hYO y4 n4 y4c n4c y5c n5c
      rcases h3 with ⟨rfl, hJ4⟩ | ⟨rfl, hJx⟩
      · leafG
        exact ⟨fk, fj hJ4⟩
      · leafG
        exact ⟨fk, rfl, hJx⟩
    refine AllReadyIn.cons rfl (fun K hK => ?_) AllReadyIn.nil
    stepT
    refine wpAnyIn_ready (rs := [0, 1, 4]) (by kernel_rfl) (by simp) ?_
    refine AllReadyIn.cons rfl (fun K hK => ?_) ?_
    · stepL
      refine wpAnyIn_ready (rs := [1, 4]) (by kernel_rfl) (by simp) ?_
      refine AllReadyIn.cons rfl (fun K hK => ?_) ?_
      · stepL
        refine wpAnyIn_ready (rs := [4]) (by kernel_rfl) (by simp) ?_
        refine AllReadyIn.cons rfl (fun K hK => ?_) AllReadyIn.nil
        stepC
        refine wpAnyIn_ready (rs := [5]) (by kernel_rfl) (by simp) ?_
        refine AllReadyIn.cons rfl (fun K hK => ?_) AllReadyIn.nil
        go_simp
        refine hR.mono ?_
        rintro e W3 ⟨hF, h3⟩
        obtain ⟨fk, fj⟩ := fin w5 W3 hb5 hF
        clear hyy hR fin htr hcp hYO y4 n4 y4c n4c y5c n5c
        rcases h3 with ⟨rfl, hJ4⟩ | ⟨rfl, hJx⟩
        · leafG
          exact ⟨fk, fj hJ4⟩
        · leafG
          exact ⟨fk, rfl, hJx⟩
      refine AllReadyIn.cons rfl (fun K hK => ?_) AllReadyIn.nil
      stepC
      refine wpAnyIn_ready (rs := [1]) (by kernel_rfl) (by simp) ?_
      refine AllReadyIn.cons rfl (fun K hK => ?_) AllReadyIn.nil
      stepL
      refine wpAnyIn_ready (rs := [5]) (by kernel_rfl) (by simp) ?_
      refine AllReadyIn.cons rfl (fun K hK => ?_) AllReadyIn.nil
      go_simp
      refine hR.mono ?_
      rintro e W3 ⟨hF, h3⟩
      obtain ⟨fk, fj⟩ := fin w5 W3 hb5 hF
      clear hyy hR fin htr hcp hYO y4 n4 y4c n4c y5c n5c
      rcases h3 with ⟨rfl, hJ4⟩ | ⟨rfl, hJx⟩
      · leafG
        exact ⟨fk, fj hJ4⟩
      · leafG
        exact ⟨fk, rfl, hJx⟩
    refine AllReadyIn.cons rfl (fun K hK => ?_) ?_
    · stepL
      refine wpAnyIn_ready (rs := [0, 4]) (by kernel_rfl) (by simp) ?_
      refine AllReadyIn.cons rfl (fun K hK => ?_) ?_
      · stepL
        refine wpAnyIn_ready (rs := [4]) (by kernel_rfl) (by simp) ?_
        refine AllReadyIn.cons rfl (fun K hK => ?_) AllReadyIn.nil
        stepC
        refine wpAnyIn_ready (rs := [5]) (by kernel_rfl) (by simp) ?_
        refine AllReadyIn.cons rfl (fun K hK => ?_) AllReadyIn.nil
        go_simp
        refine hR.mono ?_
        rintro e W3 ⟨hF, h3⟩
        obtain ⟨fk, fj⟩ := fin w5 W3 hb5 hF
        clear hyy hR fin htr hcp hYO y4 n4 y4c n4c y5c n5c
        rcases h3 with ⟨rfl, hJ4⟩ | ⟨rfl, hJx⟩
        · leafG
          exact ⟨fk, fj hJ4⟩
        · leafG
          exact ⟨fk, rfl, hJx⟩
      refine AllReadyIn.cons rfl (fun K hK => ?_) AllReadyIn.nil
      stepC
      refine wpAnyIn_ready (rs := [0]) (by kernel_rfl) (by simp) ?_
      refine AllReadyIn.cons rfl (fun K hK => ?_) AllReadyIn.nil
      stepL
      refine wpAnyIn_ready (rs := [5]) (by kernel_rfl) (by simp) ?_
      refine AllReadyIn.cons rfl (fun K hK => ?_) AllReadyIn.nil
      go_simp
      refine hR.mono ?_
      rintro e W3 ⟨hF, h3⟩
      obtain ⟨fk, fj⟩ := fin w5 W3 hb5 hF
      clear hyy hR fin htr hcp hYO y4 n4 y4c n4c y5c n5c
      rcases h3 with ⟨rfl, hJ4⟩ | ⟨rfl, hJx⟩
      · leafG
        exact ⟨fk, fj hJ4⟩
      · leafG
        exact ⟨fk, rfl, hJx⟩
    refine AllReadyIn.cons rfl (fun K hK => ?_) AllReadyIn.nil
    stepC
    refine wpAnyIn_ready (rs := [0, 1]) (by kernel_rfl) (by simp) ?_
    refine AllReadyIn.cons rfl (fun K hK => ?_) ?_
    · stepL
      refine wpAnyIn_ready (rs := [1]) (by kernel_rfl) (by simp) ?_
      refine AllReadyIn.cons rfl (fun K hK => ?_) AllReadyIn.nil
      stepL
      refine wpAnyIn_ready (rs := [5]) (by kernel_rfl) (by simp) ?_
      refine AllReadyIn.cons rfl (fun K hK => ?_) AllReadyIn.nil
      go_simp
      refine hR.mono ?_
      rintro e W3 ⟨hF, h3⟩
      obtain ⟨fk, fj⟩ := fin w5 W3 hb5 hF
      clear hyy hR fin htr hcp hYO y4 n4 y4c n4c y5c n5c
      rcases h3 with ⟨rfl, hJ4⟩ | ⟨rfl, hJx⟩
      · leafG
        exact ⟨fk, fj hJ4⟩
      · leafG
        exact ⟨fk, rfl, hJx⟩
    refine AllReadyIn.cons rfl (fun K hK => ?_) AllReadyIn.nil
    stepL
    refine wpAnyIn_ready (rs := [0]) (by kernel_rfl) (by simp) ?_
    refine AllReadyIn.cons rfl (fun K hK => ?_) AllReadyIn.nil
    stepL
    refine wpAnyIn_ready (rs := [5]) (by kernel_rfl) (by simp) ?_
    refine AllReadyIn.cons rfl (fun K hK => ?_) AllReadyIn.nil
    go_simp
    refine hR.mono ?_
    rintro e W3 ⟨hF, h3⟩
    obtain ⟨fk, fj⟩ := fin w5 W3 hb5 hF
    clear hyy hR fin htr hcp hYO y4 n4 y4c n4c y5c n5c
    rcases h3 with ⟨rfl, hJ4⟩ | ⟨rfl, hJx⟩
    · leafG
      exact ⟨fk, fj hJ4⟩
    · leafG
      exact ⟨fk, rfl, hJx⟩
  case done =>
    rintro w4 hD ⟨k, hJ, ⟨hX, hk, hrl⟩, hy, hn, hz⟩ hDD
    have hkk : (cutGo [] s).length ≤ k := by
      have h9 := hX.out
      rw [cutGo_none, List.drop_eq_nil_iff] at h9
      exact h9
    have hkk2 : k ≤ (cutGo [] s).length := by omega
    have e : k = (cutGo [] s).length := by omega
    rw [e] at hJ
    have hOut : Out W.heap.size (W.heap.size + 5) w4 (w4.putObj w2.heap.size (.deferred none)) := Out.putObj w4 _ hDD (by omega) (by omega)
    gi_wp2
    exact leaves_one hDD ⟨_, results_none rfl _ _ _, ⟨_, rfl⟩, .inl (hA _ _ _ hJ hOut)⟩
  case stop =>
    rintro c w4 hD ⟨rfl, hx⟩ hDD
    have hOut : Out W.heap.size (W.heap.size + 5) w4 (w4.putObj w2.heap.size (.deferred none)) := Out.putObj w4 _ hDD (by omega) (by omega)
    gi_wp2
    exact leaves_one hDD ⟨_, results_none rfl _ _ _, ⟨_, rfl⟩, .inr (hAx _ _ hx hOut)⟩

end Go.Proofs.YtbnajikkogdelaaDoor.LineRg
