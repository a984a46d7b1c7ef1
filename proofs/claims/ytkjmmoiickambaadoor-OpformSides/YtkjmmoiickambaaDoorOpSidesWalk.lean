/-
  The walk of OpformSides: it answers true for every right side and every number, and writes nothing that was there.
-/
import Derived.Test.YtkjmmoiickambaaDoorOpFormMath
import Derived.Test.YtkjmmoiickambaaDoorOpAwake
import Derived.Test.YtkjmmoiickambaaDoorOpRSkel
import Derived.Test.YtkjmmoiickambaaDoorOpApartI
import Derived.Test.YtkjmmoiickambaaDoorOpLent
namespace Go.Proofs.YtkjmmoiickambaaDoor.OpSidesW
open Go.RowKit Go.Proofs.YtkjmmoiickambaaDoor.GramMath Go.Proofs.YtkjmmoiickambaaDoor.GramRow Go.Proofs.YtkjmmoiickambaaDoor.GramOne Go.Proofs.YtkjmmoiickambaaDoor.GramApart Go.Proofs.YtkjmmoiickambaaDoor.GramLent Go.Proofs.YtkjmmoiickambaaDoor.GramErrs Go.Proofs.YtkjmmoiickambaaDoor.GramSame Go.Proofs.YtkjmmoiickambaaDoor.OpRow Go.Proofs.YtkjmmoiickambaaDoor.OpTerms Go.Proofs.YtkjmmoiickambaaDoor.OpSkel Go.Proofs.YtkjmmoiickambaaDoor.OpFault Go.Proofs.YtkjmmoiickambaaDoor.OpCheck Go.Proofs.YtkjmmoiickambaaDoor.OpForm
set_option linter.unusedVariables false
attribute [local go_sem] Oper.semAt_some

theorem seq_nil (f : Fn) (a b : Array Value) (w : World) : (binOp .eql 46 (.func f a b) .nilFunc).run Tryd.prog w = .ok (.bool false) w := by kernel_rfl

/-- Skeletons side by side are apart. -/
theorem apart_two (b0 b1 A n : Nat) (l0 l1 : List Int) (w : World) (hA : RowAt w A 43 #[.slice (some ⟨b0, 0, none⟩) n n, .slice (some ⟨b1, 0, none⟩) n n]) (h0 : RowAt w b0 3 (intsA l0)) (h1 : RowAt w b1 3 (intsA l1)) (hl0 : l0.length = n) (hl1 : l1.length = n) (hne : b0 ≠ b1) (hn : n * 8 ≤ 140737488351232) :
    Calls Tryd.prog 23 #[.slice (some ⟨A, 0, none⟩) 2 2] w fun e w' => e = .returned (.bool true) ∧ But (fun b => b = b0 ∨ b = b1) w w' := by
  refine apart_ints2 (fun b => b = b0 ∨ b = b1) 2 A 2 (fun j => if j = 0 then b0 else b1) (fun _ => n) (fun j => some ⟨if j = 0 then b0 else b1, 0, none⟩) _ w (by omega) hA ?_ (fun j _ => rfl) ?_ ?_ (fun _ _ => hn) ?_ ?_
  · intro j hj
    match j, hj with
    | 0, _ => rfl
    | 1, _ => rfl
  · intro j hj q hq
    have hq : q < n := hq
    match j, hj with
    | 0, _ =>
      obtain ⟨x, hx⟩ : ∃ x, l0[q]? = some x := ⟨l0[q]'(by omega), List.getElem?_eq_getElem (by omega)⟩
      exact ⟨h0.frozen q, _, h0.cell (intsA_get hx), fun h => by omega⟩
    | 1, _ =>
      obtain ⟨x, hx⟩ : ∃ x, l1[q]? = some x := ⟨l1[q]'(by omega), List.getElem?_eq_getElem (by omega)⟩
      exact ⟨h1.frozen q, _, h1.cell (intsA_get hx), fun h => by omega⟩
  · intro x hx y hy hxy _ _
    match x, hx, y, hy with
    | 0, _, 0, _ => exact absurd rfl hxy
    | 0, _, 1, _ => exact hne
    | 1, _, 0, _ => exact hne.symm
    | 1, _, 1, _ => exact absurd rfl hxy
  · intro j hj _
    match j, hj with
    | 0, _ => exact .inl rfl
    | 1, _ => exact .inr rfl
  · intro j hj _
    match j, hj with
    | 0, _ => exact (hA.ne h0 (by decide))
    | 1, _ => exact (hA.ne h1 (by decide))

/-- What lies there while the statement looks. -/
structure Side (w W : World) (a : Option Addr) (c : Nat) (zs : List Int) (u : Int) (gi bx rb : Nat) : Prop where
  rR : RowAt W w.heap.size 43 #[.slice a zs.length c]
  rU : RowAt W (w.heap.size + 1) 3 #[.int .i64 u]
  rB : RowAt W (w.heap.size + 2) 4 #[.bool false]
  rG : ∃ cur, RowAt W gi 3 cur ∧ zs.length ≤ cur.size
  t : TermsAt W bx rb zs
  low : Below w.heap.size w W

theorem Side.below {w W W' : World} {a : Option Addr} {c : Nat} {zs : List Int} {u : Int} {gi bx rb B : Nat} (h : Side w W a c zs u gi bx rb) (hb : Below B W W') (hB : W.heap.size ≤ B) : Side w W' a c zs u gi bx rb :=
  ⟨h.rR.below hb (Nat.lt_of_lt_of_le h.rR.lt hB), h.rU.below hb (Nat.lt_of_lt_of_le h.rU.lt hB), h.rB.below hb (Nat.lt_of_lt_of_le h.rB.lt hB), by obtain ⟨cur, h1, h2⟩ := h.rG; exact ⟨cur, h1.below hb (Nat.lt_of_lt_of_le h1.lt hB), h2⟩, h.t.below hb hB, h.low.trans (hb.mono (Nat.le_trans h.low.size hB))⟩
theorem Side.setG {w W : World} {a : Option Addr} {c : Nat} {zs : List Int} {u : Int} {gi bx rb : Nat} (h : Side w W a c zs u gi bx rb) (hg : w.heap.size + 3 ≤ gi) (hgx : gi < rb) (hrb : rb < bx) (q : Nat) (v : Value) : Side w (W.setCell ⟨gi, q, none⟩ v) a c zs u gi bx rb :=
  ⟨h.rR.other (by omega) _ _, h.rU.other (by omega) _ _, h.rB.other (by omega) _ _, by obtain ⟨cur, h1, h2⟩ := h.rG; exact ⟨_, h1.set q v, by simpa using h2⟩, h.t.set (by omega) (by omega) q v, h.low.setCell (p := ⟨gi, q, none⟩) (show w.heap.size ≤ gi by omega) v⟩

theorem Side.under {w W W' : World} {a : Option Addr} {c : Nat} {zs : List Int} {u : Int} {gi bx rb B : Nat} (h : Side w W a c zs u gi bx rb) (hb : Below B W W') (hw : w.heap.size + 3 ≤ gi) (hg : gi < rb) (hr : rb < bx) (hB : bx < B) : Side w W' a c zs u gi bx rb :=
  ⟨h.rR.below hb (by omega), h.rU.below hb (by omega), h.rB.below hb (by omega), by obtain ⟨cur, h1, h2⟩ := h.rG; exact ⟨cur, h1.below hb (by omega), h2⟩, ⟨h.t.1.below hb (by omega), h.t.2.below hb (by omega)⟩, h.low.trans (hb.mono (by omega))⟩

theorem posTo_mono (zs : List Int) (k : Nat) : ∀ d, posTo zs k ≤ posTo zs (k + d)
  | 0 => Nat.le_refl _
  | d + 1 => by
    have := posTo_mono zs k d
    show _ ≤ posTo zs (k + d) + _
    omega
theorem posTo_pos {zs : List Int} {k : Nat} (h : k ≤ zs.length) : posTo zs k ≤ pos zs := by
  have := posTo_mono zs k (zs.length - k)
  rw [Nat.add_sub_cancel' h, posTo_all] at this
  exact this

/-- A number in a box. -/
def numIn (b : Nat) (W : World) : Nat := match W.cell? ⟨b, 0, none⟩ with | some (.int _ z) => z.toNat | _ => 0
theorem numIn_row {b : Nat} {W : World} {t : TypeId} {z : Int} (h : RowAt W b t #[.int .i64 z]) : numIn b W = z.toNat := by
  unfold numIn
  rw [h.cell (q := 0) rfl]
  rfl

theorem own_row1 {B b : Nat} {t : TypeId} {cur : Array Value} : OwnFrom B (fun (_ : Unit) W => RowAt W b t cur) := fun s W W' row hs hg hr => RowAt.own hs hg (fun r e => (hr r e).2)

/-- A loop over the terminals that may be broken off: what is known at the end is known whichever way it ended. -/
theorem range_break {g : Operand} {ps : Array Tmp} {assign body : Code} {Q : Exit → Act → World → Prop} {a : Act} {w : World} (n : Nat) (hn : 2 ≤ n) (bx rb id : Nat) (zs : List Int) (hm : zs.length ≤ 1125899906842624) (hQ : ∀ a W, Q .normal a W → Q (.exit id) a W)
    (hg : a.eval g = .func (.func 38) #[] #[.pointer (some ⟨bx, 0, none⟩)]) (hT : TermsAt w bx rb zs) (hps : ps.size = 2)
    (I : Nat → World → Prop) (X : World → Prop) (hI : OwnFrom w.heap.size I) (hX : OwnFrom w.heap.size (fun (_ : Unit) W => X W)) (h0 : I 0 w) (hIX : ∀ W, I zs.length W → X W)
    (hskip : ∀ k x W, zs[k]? = some x → x < 0 → I k W → I (k + 1) W) (a₁ : Nat → Int → Act)
    (hassign : ∀ (l k : Nat) (x : Int) (W : World) (K : Act → World → Prop), K (a₁ k x) W →
      assign.wpIn (Fence.wide.inRound l) (n - 1 - 1) Tryd.prog (Exit.then K (fun _ _ _ => False)) { tmps := (ps.zip #[Value.int .i64 (k : Int), Value.int .i64 x]).foldl (fun t (p, v) => t.setIfInBounds p v) a.tmps, defers := [] } W)
    (hbody : ∀ (l k : Nat) (x : Int) (W : World), zs[k]? = some x → 0 ≤ x → TermsAt W bx rb zs → I k W → body.wpIn (Fence.wide.inRound l) (n - 1 - 1) Tryd.prog (postT zs w.heap.size bx rb I (fun c W => c = .exit id ∧ X W) (k + 1) W) (a₁ k x) W)
    (hend : ∀ (D : Nat) (W : World), w.heap.size ≤ D → X W → W.heap[D]? = some (.deferred (some [])) → Q .normal { a with defers := { target := .collected D, args := #[] } :: a.defers } W) :
    (Code.rangeFunc g ps assign body).wpIn Fence.wide n Tryd.prog Q a w :=
  range_terms n hn bx rb zs hm hg hT hps I (fun c W => c = .exit id ∧ X W) hI (fun c s W W' row hs hg hr => ⟨hs.1, hX s W W' row hs.2 hg hr⟩) h0 hskip a₁ hassign hbody
    (fun D W hD hi hK => hend D W hD (hIX W hi) hK)
    (fun D c W hD hi hK => by obtain ⟨rfl, hx⟩ := hi; exact wpIn_exit (hQ _ _ (hend D W hD hx hK)))

set_option maxRecDepth 100000 in
set_option maxHeartbeats 8000000 in
theorem walk (a : Option Addr) (c : Nat) (zs : List Int) (up : Int) (p : Nat → Addr) (w : World) (hr : IRow w a zs) (hm : zs.length * 8 ≤ 140737488351232) (hnil : a = none → zs.length = 0 ∧ c = 0) (hup : I64 up) (hE : Errs w p) (hT : ErrType w) :
    Calls Tryd.prog 4 #[.slice a zs.length c, .int .i64 up] w fun e w' => e = .returned (.bool true) ∧ Below w.heap.size w w' := by
  refine (callsIn_wide (n := 6)).1 ?_
  have hsn := seq_nil
  have hB0 : Below w.heap.size w (((w.alloc (.cells #[.slice a zs.length c] 43)).alloc (.cells #[.int .i64 up] 3)).alloc (.cells #[.bool false] 4)) := (((Below.refl _ _).alloc (Nat.le_refl _) _).alloc (by simp) _).alloc (by simp; omega) _
  have hz0 : (((w.alloc (.cells #[.slice a zs.length c] 43)).alloc (.cells #[.int .i64 up] 3)).alloc (.cells #[.bool false] 4)).heap.size = w.heap.size + 3 := by simp
  have rR0 : RowAt (((w.alloc (.cells #[.slice a zs.length c] 43)).alloc (.cells #[.int .i64 up] 3)).alloc (.cells #[.bool false] 4)) w.heap.size 43 #[.slice a zs.length c] := ((rowNew w _ _).alloc _).alloc _
  have rU0 : RowAt (((w.alloc (.cells #[.slice a zs.length c] 43)).alloc (.cells #[.int .i64 up] 3)).alloc (.cells #[.bool false] 4)) (w.heap.size + 1) 3 #[.int .i64 up] := by
    have := (rowNew (w.alloc (.cells #[.slice a zs.length c] 43)) #[.int .i64 up] 3).alloc (.cells #[.bool false] 4)
    rwa [World.size_alloc] at this
  have rB0 : RowAt (((w.alloc (.cells #[.slice a zs.length c] 43)).alloc (.cells #[.int .i64 up] 3)).alloc (.cells #[.bool false] 4)) (w.heap.size + 2) 4 #[.bool false] := by
    have := rowNew ((w.alloc (.cells #[.slice a zs.length c] 43)).alloc (.cells #[.int .i64 up] 3)) #[.bool false] 4
    rwa [World.size_alloc, World.size_alloc] at this
  have hle := lentI2 a c zs _ (hr.below hB0 (Nat.le_refl _)) hm hnil
  refine callsIn_of_wp_marks Tryd.func4 rfl trivial ?_ rfl
  simp only [Tryd.ntmps4, List.size_toArray, List.length_cons, List.length_nil, Nat.reduceAdd, Nat.reduceSub, Array.replicate_succ, Array.replicate_zero, List.push_toArray, List.append_toArray, List.nil_append, List.cons_append]
  gi_wp2_with fail
  refine ⟨trivial, (callsIn_wide.2 hle).mono ?_⟩
  rintro e w1 ⟨⟨gi, ci, rfl, hci, _, hgi, hlen1, cur1, hcu1, hcs⟩, hb1⟩
  rw [hz0] at hgi hb1
  have rR1 := rR0.below hb1 (by omega)
  have rU1 := rU0.below hb1 (by omega)
  have rB1 := rB0.below hb1 (by omega)
  have hB1 := hB0.trans (hb1.mono (by omega))
  have hs1 := hb1.size
  rw [hz0] at hs1
  have hg1 := hcu1.lt
  clear hle rR0 rU0 rB0 hB0 hb1 hz0
  have hk2 := skel_any (some ⟨gi, 0, none⟩) ci zs w1 (row_frontI hlen1) hm
  gi_wp2_with fail
  refine ⟨trivial, (callsIn_wide.2 hk2).mono ?_⟩
  rintro e w2 ⟨⟨rfl, rS2⟩, hb2⟩
  have hlen2 := hlen1.below hb2 (Nat.le_refl _)
  have hs2 := hb2.size
  have hk3 := skel_any (some ⟨gi, 0, none⟩) ci zs w2 (row_frontI hlen2) hm
  clear hk2
  gi_wp2_with fail
  refine ⟨trivial, (callsIn_wide.2 hk3).mono ?_⟩
  rintro e w3 ⟨⟨rfl, rT3⟩, hb3⟩
  have hb13 := hb2.trans (hb3.mono hs2)
  have rS3 := rS2.below hb3 rS2.lt
  have hB3 := hB1.trans (hb13.mono hB1.size)
  have hs3 := hb3.size
  have hw2 : w1.heap.size < w2.heap.size := rS2.lt
  have hw3 : w2.heap.size < w3.heap.size := rT3.lt
  clear hk3
  have rR3 := rR1.below hb13 rR1.lt
  have a0 := rR3.cell (q := 0) rfl
  have hk4 := rskel_any a c zs w3 (hr.below hB3 (Nat.le_refl _)) hm
  gi_wp2_with fail
  refine ⟨trivial, (callsIn_wide.2 hk4).mono ?_⟩
  rintro e w4 ⟨⟨wb, wc, rfl, hwant4⟩, hb4⟩
  have hb14 := hb13.trans (hb4.mono (by omega))
  have hs4 := hb4.size
  have rS4 := rS3.below hb4 (by omega)
  have rT4 := rT3.below hb4 rT3.lt
  have hlen4 := hlen1.below hb14 (Nat.le_refl _)
  clear hk4 a0 rS3 rT3 hb2 hb3 rS2 hlen2 rR3
  have hk5 := terms_any (some ⟨gi, 0, none⟩) ci zs w4 (row_frontI hlen4) hm
  gi_wp2_with fail
  refine ⟨trivial, (callsIn_wide.2 hk5).mono ?_⟩
  rintro e w5 ⟨⟨rfl, hT5, hz5⟩, hb5⟩
  have hb15 := hb14.trans (hb5.mono (by omega))
  have rS5 := rS4.below hb5 (by omega)
  have rT5 := rT4.below hb5 rT4.lt
  have hwant5 := hwant4.below hb5 (Nat.le_refl _)
  have hlen5 := hlen1.below hb15 (Nat.le_refl _)
  have rR5 := rR1.below hb15 rR1.lt
  have rU5 := rU1.below hb15 rU1.lt
  have rB5 := rB1.below hb15 rB1.lt
  have rG5 := hcu1.below hb15 hg1
  have hB5 := hB1.trans (hb15.mono hB1.size)
  clear hk5 hb4 hb13 hb14 hb5 rS4 rT4 hwant4 hlen4 hlen1 rR1 rU1 rB1 hcu1 hb15
  have eT : eqI (skel zs) (skel zs) = true := by unfold eqI; exact decide_eq_true rfl
  have hq1 := ints_any (some ⟨w1.heap.size, 0, none⟩) wb zs.length wc (skel zs) (skel zs) w5 (intsA_row rS5) hwant5 (by rw [skel_len]; omega) (by rw [skel_len]; omega)
  rw [skel_len, eT] at hq1
  gi_wp2_with fail
  refine ⟨trivial, (callsIn_wide.2 hq1).mono ?_⟩
  rintro e w6 ⟨rfl, q6, rfl⟩
  have hq2 := ints_any (some ⟨w2.heap.size, 0, none⟩) wb zs.length wc (skel zs) (skel zs) (w5.drewN q6) (intsA_row rT5) hwant5 (by rw [skel_len]; omega) (by rw [skel_len]; omega)
  rw [skel_len, eT] at hq2
  clear hq1
  gi_wp2_with fail
  refine ⟨trivial, (callsIn_wide.2 hq2).mono ?_⟩
  rintro e w7 ⟨rfl, q7, rfl⟩
  have hB7 : Below w.heap.size w (w5.drewN (q6 + q7)) := bdrew hB5 (q6 + q7)
  have hke := keptI gi a ci c zs (w5.drewN (q6 + q7)) hlen5 (hr.below hB7 (Nat.le_refl _)) (by omega) hci
  have a0 : (w5.drewN (q6 + q7)).cell? ⟨w.heap.size, 0, none⟩ = some (.slice a zs.length c) := rR5.cell (q := 0) rfl
  clear hq2
  gi_wp2_with fail
  refine ⟨trivial, (callsIn_wide.2 hke).mono ?_⟩
  rintro e w8 ⟨rfl, q8, rfl⟩
  clear hke a0
  have e8 : (w5.drewN (q6 + q7)).drewN q8 = w5.drewN (q6 + q7 + q8) := World.drewN_drewN _ _ _
  generalize q6 + q7 + q8 = q at *
  have rA9 := rowNew (w5.drewN q) #[.slice (some ⟨w1.heap.size, 0, none⟩) zs.length zs.length, .slice (some ⟨w2.heap.size, 0, none⟩) zs.length zs.length] 43
  have hz9 : (w5.drewN q).heap.size = w5.heap.size := rfl
  have rS9 : RowAt ((w5.drewN q).alloc (.cells #[.slice (some ⟨w1.heap.size, 0, none⟩) zs.length zs.length, .slice (some ⟨w2.heap.size, 0, none⟩) zs.length zs.length] 43)) w1.heap.size 3 (intsA (skel zs)) := RowAt.alloc (w := w5.drewN q) rS5 _
  have rT9 : RowAt ((w5.drewN q).alloc (.cells #[.slice (some ⟨w1.heap.size, 0, none⟩) zs.length zs.length, .slice (some ⟨w2.heap.size, 0, none⟩) zs.length zs.length] 43)) w2.heap.size 3 (intsA (skel zs)) := RowAt.alloc (w := w5.drewN q) rT5 _
  have hap := apart_two w1.heap.size w2.heap.size _ zs.length (skel zs) (skel zs) _ rA9 rS9 rT9 (skel_len zs) (skel_len zs) (by omega) hm
  rw [hz9, hz5] at hap
  gi_wp2_with fail
  refine ⟨trivial, (callsIn_wide.2 hap).mono ?_⟩
  rintro e w10 ⟨rfl, hbut⟩
  have hz10 := hbut.size
  rw [World.size_alloc, hz9, hz5] at hz10
  have hS10 : Side w w10 a c zs up gi (w4.heap.size + 1) w4.heap.size := by
    refine ⟨RowAt.but (RowAt.alloc (w := w5.drewN q) rR5 _) hbut (by omega), RowAt.but (RowAt.alloc (w := w5.drewN q) rU5 _) hbut (by omega), RowAt.but (RowAt.alloc (w := w5.drewN q) rB5 _) hbut (by omega), ⟨cur1, RowAt.but (RowAt.alloc (w := w5.drewN q) rG5 _) hbut (by omega), hcs⟩, ⟨RowAt.but (RowAt.alloc (w := w5.drewN q) hT5.1 _) hbut (by omega), RowAt.but (RowAt.alloc (w := w5.drewN q) hT5.2 _) hbut (by omega)⟩, ?_⟩
    exact ((bdrew hB5 q).alloc (bdrew hB5 q).size _).trans (hbut.below (by rw [World.size_alloc, hz9]; have := hB5.size; omega) (fun k hk => by have := hB1.size; rcases hk with h | h <;> omega))
  have hgx : gi < w4.heap.size := by omega
  have hw10 : w4.heap.size + 2 ≤ w10.heap.size := by omega
  clear hap rA9 rS9 rT9 rS5 rT5 hwant5 hlen5 rR5 rU5 rB5 rG5 hT5 hbut e8 hB7 hB5 hB3 hB1 hz9 hz10
  generalize w4.heap.size = rb at *
  clear hz5 hs4 hs3 hs2 hs1 hw2 hw3 hcs hg1
  have u0 := hS10.rU.cell (q := 0) rfl
  have uf := hS10.rU.frozen 0
  obtain ⟨hu1, hu2⟩ := hup
  by_cases hu : up < 1
  · have hS11 : Side w (w10.setCell ⟨w.heap.size + 1, 0, none⟩ (.int .i64 1)) a c zs 1 gi (rb + 1) rb :=
      ⟨hS10.rR.other (by omega) _ _, hS10.rU.set 0 _, hS10.rB.other (by omega) _ _, by obtain ⟨cur, h1, h2⟩ := hS10.rG; exact ⟨cur, h1.other (by omega) _ _, h2⟩, hS10.t.set (by omega) (by omega) _ _, hS10.low.setCell (p := ⟨w.heap.size + 1, 0, none⟩) (show w.heap.size ≤ w.heap.size + 1 by omega) _⟩
    have hw11 : rb + 2 ≤ (w10.setCell ⟨w.heap.size + 1, 0, none⟩ (.int .i64 1)).heap.size := by simp; omega
    have hz11 : (w10.setCell ⟨w.heap.size + 1, 0, none⟩ (.int .i64 1)).heap.size = w10.heap.size := by simp
    gi_wp2_with fail
    generalize w10.setCell ⟨w.heap.size + 1, 0, none⟩ (.int .i64 1) = w11 at *
    clear u0 uf hS10 hw10
    obtain ⟨u, hu'⟩ : ∃ u : Int, u = 1 := ⟨1, rfl⟩
    rw [← hu'] at hS11
    have hone : (1 : Int) ≤ u := by omega
    have hbig : u < 9223372036854775808 := by omega
    clear hu'
    have hbx := rowNew w11 #[.int .i64 0] 3
    rw [hz11] at hbx
    have hS12 := hS11.below ((Below.refl _ _).alloc (Nat.le_refl _) (.cells #[.int .i64 0] 3)) (Nat.le_refl _)
    have hz12 : (w11.alloc (.cells #[.int .i64 0] 3)).heap.size = w10.heap.size + 1 := by simp; try omega
    have hw10.heap.size : rb + 2 ≤ w10.heap.size := by omega
    clear hS11 hw11
    generalize w11.alloc (.cells #[.int .i64 0] 3) = w12 at *
    refine' range_break 6 (by omega) (rb + 1) rb 0 zs (by omega) (fun _ _ h => h) rfl hS12.t rfl
      (fun j W => RowAt W w10.heap.size 3 #[.int .i64 (posTo zs j : Int)] ∧ Below w10.heap.size w12 W)
      (fun W => (∃ nn : Nat, RowAt W w10.heap.size 3 #[.int .i64 (nn : Int)] ∧ ((nn : Int) = u ∨ nn = pos zs) ∧ nn ≤ pos zs) ∧ Below w10.heap.size w12 W)
      (OwnFrom.and (fun s W W' row hs hg hr => RowAt.own hs hg (fun r e => (hr r e).2)) (ownFrom_below (by omega) (by omega)))
      (OwnFrom.and (fun s W W' row hs hg hr => by obtain ⟨nn, h1, h2⟩ := hs; exact ⟨nn, RowAt.own h1 hg (fun r e => (hr r e).2), h2⟩) (ownFrom_below (by omega) (by omega)))
      ⟨hbx, Below.refl _ _⟩
      (fun W h => ⟨⟨pos zs, by rw [← posTo_all]; exact h.1, .inr rfl, Nat.le_refl _⟩, h.2⟩)
      (fun j x W hx h0 h => by rw [posTo_out hx h0]; exact h)
      _ ?assign ?body ?hend
    case assign =>
      intro l j x W K hK
      gi_wp2
      exact hK
    case body =>
      rintro l j x W hx h0 hTW ⟨hbW, hBW⟩
      have hc := hbW.cell (q := 0) rfl
      have hf := hbW.frozen 0
      have hSW := hS12.under hBW hgi hgx (by omega) (by omega)
      have uc := hSW.rU.cell (q := 0) rfl
      have hpl := posTo_le zs j
      have hjl : j < zs.length := (List.getElem?_eq_some_iff.1 hx).1
      have hple := posTo_pos (zs := zs) (k := j + 1) hjl
      rw [posTo_in hx h0] at hple
      have hb3 := hbW.set 0 (.int .i64 ((posTo zs j : Int) + 1))
      have hT3 := hTW.set (b := w10.heap.size) (by omega) (by omega) 0 (.int .i64 ((posTo zs j : Int) + 1))
      have hK3 : KeepsFrom w12.heap.size W (W.setCell ⟨w10.heap.size, 0, none⟩ (.int .i64 ((posTo zs j : Int) + 1))) := (KeepsOthers.setCell _ _ _).from _
      have hB3 := hBW.setCell (p := ⟨w10.heap.size, 0, none⟩) (Nat.le_refl _) (.int .i64 ((posTo zs j : Int) + 1))
      have e : Hid ((posTo zs (j + 1) : Int) = (posTo zs j : Int) + 1) := by show _ = _; rw [posTo_in hx h0]; rfl
      have hub : w10.heap.size ≠ w.heap.size + 1 := by omega
      clear hbW hBW hTW hSW hx
      by_cases heq : (posTo zs j : Int) + 1 = u
      · have hd : (((posTo zs j : Int) + 1) == u) = true := by simpa using heq
        have hq : Hid ((posTo zs j : Int) + 1 = u) := heq
        clear heq
        gi_wp2
        exact ⟨hK3, rfl, ⟨posTo zs j + 1, hb3, .inl hq.out, hple⟩, hB3⟩
      · have hd : (((posTo zs j : Int) + 1) == u) = false := by simpa using heq
        clear heq
        gi_wp2
        exact ⟨hK3, hT3, by rw [e.out]; exact hb3, hB3⟩
    rintro D1 W13 hD1 ⟨⟨nn, hn13, hor, hnle⟩, hB13⟩ hK13
    have hS13 := hS12.under hB13 hgi hgx (by omega) (by omega)
    have hD13 : D1 < W13.heap.size := (Array.getElem?_eq_some_iff.1 hK13).1
    clear hS12 hbx hB13
    gi_wp2_with fail
    gi_loopw [11] (fun i wr => ∃ k : Nat, k ≤ zs.length ∧ i = .int .i64 k ∧ Side w wr a c zs u gi (rb + 1) rb ∧ RowAt wr w10.heap.size 3 #[.int .i64 (nn : Int)] ∧ wr.heap[D1]? = some (.deferred (some [])) ∧ wr.heap.size = W13.heap.size) (fun i _ => zs.length - (intOf i).toNat)
    case atStart => exact ⟨0, by omega, rfl, hS13, hn13, hK13, rfl⟩
    case round =>
      obtain ⟨k, hk, rfl, hS, hnb, hKD, hsz⟩ := hrel
      by_cases hlt : k < zs.length
      · obtain ⟨cur, hG, hGs⟩ := hS.rG
        have hlt2 : (k : Int) < (zs.length : Int) := by omega
        have gc := hG.cell (q := k) (v := cur[k]) (Array.getElem?_eq_getElem (by omega))
        have gf := hG.frozen k
        have hS2 := hS.setG hgi hgx (by omega) k (.int .i64 77)
        have hnb2 := hnb.other (b' := gi) (by omega) k (.int .i64 77)
        have hK2 := (KeepsOthers.setCell wr ⟨gi, k, none⟩ (.int .i64 77)).same D1 _ hKD rfl
        have hs2 : (wr.setCell ⟨gi, k, none⟩ (.int .i64 77)).heap.size = W13.heap.size := by simp [hsz]
        generalize cur[k] = cv at *
        clear hS hnb hKD hG hGs hsz
        gi_wp2
        go_roundw
        case rel => exact ⟨k + 1, by omega, by go_num, hS2, hnb2, hK2, hs2⟩
        case measure => simp [intOf]; omega
      · obtain rfl : k = zs.length := by omega
        have hnl : ¬ (zs.length : Int) < (zs.length : Int) := by omega
        clear hS13 hn13 hK13
        have hB15 : Below wr.heap.size wr ((wr.alloc (.cells #[.int .i64 0] 3)).alloc (.cells #[.int .i64 0] 3)) := ((Below.refl _ _).alloc (Nat.le_refl _) _).alloc (by simp) _
        have hz15 : ((wr.alloc (.cells #[.int .i64 0] 3)).alloc (.cells #[.int .i64 0] 3)).heap.size = W13.heap.size + 2 := by simp [hsz]
        have rA15 : RowAt ((wr.alloc (.cells #[.int .i64 0] 3)).alloc (.cells #[.int .i64 0] 3)) W13.heap.size 3 #[.int .i64 0] := by
          have := (rowNew wr #[.int .i64 0] 3).alloc (.cells #[.int .i64 0] 3)
          rwa [hsz] at this
        have rK15 : RowAt ((wr.alloc (.cells #[.int .i64 0] 3)).alloc (.cells #[.int .i64 0] 3)) (W13.heap.size + 1) 3 #[.int .i64 0] := by
          have := rowNew (wr.alloc (.cells #[.int .i64 0] 3)) #[.int .i64 0] 3
          rwa [World.size_alloc, hsz] at this
        have hS15 := hS.below hB15 (Nat.le_refl _)
        have hn15 := hnb.below hB15 hnb.lt
        have hK15 := (hB15.block D1 (by omega)).trans hKD
        gi_wp2_with fail
        generalize (wr.alloc (.cells #[.int .i64 0] 3)).alloc (.cells #[.int .i64 0] 3) = w15 at *
        clear hS hnb hKD hB15 hsz
        have hNA : w10.heap.size < W13.heap.size := by omega
        generalize W13.heap.size = A1 at *
        refine' range_terms 6 (by omega) (rb + 1) rb zs (by omega) rfl hS15.t rfl
          (fun j W => (RowAt W A1 3 #[.int .i64 (posTo zs j : Int)] ∧ ∃ k0 : Nat, RowAt W (A1 + 1) 3 #[.int .i64 (k0 : Int)] ∧ k0 ≤ j ∧ ∀ i, k0 ≤ i → i < j → zs.getD i 0 < 0) ∧ Below A1 w15 W)
          (fun _ _ => False)
          (OwnFrom.and (fun s W W' row hs hg hr => ⟨RowAt.own hs.1 hg (fun r e => (hr r e).2), by obtain ⟨k0, h1, h2⟩ := hs.2; exact ⟨k0, RowAt.own h1 hg (fun r e => (hr r e).2), h2⟩⟩) (ownFrom_below (by omega) (by omega)))
          (fun _ _ _ _ _ hs _ _ => hs)
          ⟨⟨rA15, 0, rK15, by omega, fun i _ h => by omega⟩, Below.refl _ _⟩
          (fun j x W hx h0 h => by
            obtain ⟨⟨h1, k0, h2, h3, h4⟩, h5⟩ := h
            refine ⟨⟨by rw [posTo_out hx h0]; exact h1, k0, h2, by omega, fun i hi hij => ?_⟩, h5⟩
            by_cases hij2 : i = j
            · subst hij2; rw [getD_of hx]; exact h0
            · exact h4 i hi (by omega))
          _ ?assign1 ?body1 ?done1 ?stop1
        case assign1 =>
          intro l j x W K hK
          gi_wp2
          exact hK
        case stop1 =>
          rintro D c W _ h _
          exact h.elim
        case body1 =>
          rintro l j x W hx h0 hTW ⟨⟨hA, k0, hK0, hk0, hneg⟩, hBW⟩
          have hjl : j < zs.length := (List.getElem?_eq_some_iff.1 hx).1
          have hpl := posTo_le zs j
          gi_wp2_with fail
          gi_loopw [] (fun wr => ∃ k0 : Nat, RowAt wr (A1 + 1) 3 #[.int .i64 (k0 : Int)] ∧ k0 ≤ j ∧ Hid (∀ i, k0 ≤ i → i < j → zs.getD i 0 < 0) ∧ RowAt wr A1 3 #[.int .i64 (posTo zs j : Int)] ∧ TermsAt wr (rb + 1) rb zs ∧ Below A1 w15 wr ∧ KeepsFrom w15.heap.size W wr) (fun wr => j - numIn (A1 + 1) wr)
          case atStart => exact ⟨k0, hK0, hk0, hneg, hA, hTW, hBW, KeepsFrom.refl _ _⟩
          case round =>
            clear hA hK0 hk0 hneg hTW hBW k0
            obtain ⟨k0, hK0, hk0, hneg, hA, hTW, hBW, hKF⟩ := hrel
            have hSW := hS15.under hBW hgi hgx (by omega) (by omega)
            have rc := hSW.rR.cell (q := 0) rfl
            have kc := hK0.cell (q := 0) rfl
            have kf := hK0.frozen 0
            have ac := hA.cell (q := 0) rfl
            have af := hA.frozen 0
            have hIW : IRow wr a zs := hr.below hSW.low (Nat.le_refl _)
            have hmeas := numIn_row hK0
            by_cases hkj : k0 < j
            · obtain ⟨y, hy⟩ : ∃ y, zs[k0]? = some y := ⟨zs[k0]'(by omega), List.getElem?_eq_getElem (by omega)⟩
              obtain ⟨b1, o1, rfl, c1⟩ := hIW k0 y hy
              have hy0 : y < 0 := by
                have := hneg.out k0 (Nat.le_refl _) hkj
                rwa [getD_of hy] at this
              have hl2 : (k0 : Int) < (zs.length : Int) := by omega
              have hK2 := hK0.set 0 (.int .i64 ((k0 : Int) + 1))
              have hA2 := hA.other (b' := A1 + 1) (by omega) 0 (.int .i64 ((k0 : Int) + 1))
              have hT2 := hTW.set (b := A1 + 1) (by omega) (by omega) 0 (.int .i64 ((k0 : Int) + 1))
              have hB2 := hBW.setCell (p := ⟨A1 + 1, 0, none⟩) (show A1 ≤ A1 + 1 by omega) (.int .i64 ((k0 : Int) + 1))
              have hF2 : KeepsFrom w15.heap.size W (wr.setCell ⟨A1 + 1, 0, none⟩ (.int .i64 ((k0 : Int) + 1))) := hKF.trans ((KeepsOthers.setCell _ _ _).from _)
              have hn2 : Hid (∀ i, k0 + 1 ≤ i → i < j → zs.getD i 0 < 0) := fun i hi hij => hneg.out i (by omega) hij
              have hm2 : Hid (numIn (A1 + 1) (wr.setCell ⟨A1 + 1, 0, none⟩ (.int .i64 ((k0 : Int) + 1))) = k0 + 1) := by show _ = _; rw [numIn_row hK2]; omega
              have hmH : Hid (numIn (A1 + 1) wr = k0) := by show _ = _; rw [hmeas]; simp
              clear hK0 hA hTW hBW hKF hneg hIW hy hmeas ac af hSW
              gi_wp2
              go_roundw
              case rel => exact ⟨k0 + 1, hK2, by omega, hn2, hA2, hT2, hB2, hF2⟩
              case measure => rw [hm2.out, hmH.out]; omega
            · obtain rfl : k0 = j := by omega
              obtain ⟨b1, o1, rfl, c1⟩ := hIW k0 x hx
              have hl2 : (k0 : Int) < (zs.length : Int) := by omega
              have hl3 : ¬ (zs.length : Int) ≤ (k0 : Int) := by omega
              have hx0 : ¬ x < 0 := by omega
              have hxx : (x != x) = false := by simp
              have hkk : ((k0 : Int) != (k0 : Int)) = false := by simp
              have hK2 := hK0.set 0 (.int .i64 ((k0 : Int) + 1))
              have hA2 := (hA.other (b' := A1 + 1) (by omega) 0 (.int .i64 ((k0 : Int) + 1))).set 0 (.int .i64 ((posTo zs k0 : Int) + 1))
              have hK3 := hK2.other (b' := A1) (by omega) 0 (.int .i64 ((posTo zs k0 : Int) + 1))
              have hT2 := (hTW.set (b := A1 + 1) (by omega) (by omega) 0 (.int .i64 ((k0 : Int) + 1))).set (b := A1) (by omega) (by omega) 0 (.int .i64 ((posTo zs k0 : Int) + 1))
              have hB2 := (hBW.setCell (p := ⟨A1 + 1, 0, none⟩) (show A1 ≤ A1 + 1 by omega) (.int .i64 ((k0 : Int) + 1))).setCell (p := ⟨A1, 0, none⟩) (Nat.le_refl _) (.int .i64 ((posTo zs k0 : Int) + 1))
              have hF2 : KeepsFrom w15.heap.size W ((wr.setCell ⟨A1 + 1, 0, none⟩ (.int .i64 ((k0 : Int) + 1))).setCell ⟨A1, 0, none⟩ (.int .i64 ((posTo zs k0 : Int) + 1))) := (hKF.trans ((KeepsOthers.setCell _ _ _).from _)).trans ((KeepsOthers.setCell _ _ _).from _)
              have e : Hid ((posTo zs (k0 + 1) : Int) = (posTo zs k0 : Int) + 1) := by show _ = _; rw [posTo_in hx h0]; rfl
              have hne : ¬ A1 + 1 = A1 := by omega
              clear hK0 hA hTW hBW hKF hneg hIW hmeas hSW hK2
              gi_wp2
              rw [hz15] at hF2
              refine ⟨hF2, hT2, ⟨by rw [e.out]; exact hA2, k0 + 1, hK3, Nat.le_refl _, fun i hi hij => by omega⟩, hB2⟩
        rintro D2 W16 hD2 ⟨⟨hA, k0, hK0, hk0, hneg⟩, hB16⟩ hKD2
        rw [posTo_all] at hA
        have hn16 := hn15.below hB16 (by omega)
        have hD12 : D1 < A1 := by omega
        have hK16 := (hB16.block D1 hD12).trans hK15
        have hS16 := hS15.under hB16 hgi hgx (by omega) (by omega)
        have hple := pos_le zs
        have hD2lt : D2 < W16.heap.size := (Array.getElem?_eq_some_iff.1 hKD2).1
        clear hS15 hn15 hK15 hB16 rA15 rK15
        gi_wp2_with fail
        gi_loopw [] (fun wr => ∃ k0 : Nat, RowAt wr (A1 + 1) 3 #[.int .i64 (k0 : Int)] ∧ k0 ≤ zs.length ∧ Hid (∀ i, k0 ≤ i → i < zs.length → zs.getD i 0 < 0) ∧ RowAt wr A1 3 #[.int .i64 (pos zs : Int)] ∧ RowAt wr w10.heap.size 3 #[.int .i64 (nn : Int)] ∧ Side w wr a c zs u gi (rb + 1) rb ∧ wr.heap[D1]? = some (.deferred (some [])) ∧ wr.heap[D2]? = some (.deferred (some []))) (fun wr => zs.length - numIn (A1 + 1) wr)
        case atStart => exact ⟨k0, hK0, hk0, hneg, hA, hn16, hS16, hK16, hKD2⟩
        case round =>
          clear hA hK0 hk0 hneg hn16 hS16 hK16 hKD2 k0
          obtain ⟨k0, hK0, hk0, hneg, hA, hnb, hS, hKa, hKb⟩ := hrel
          have rc := hS.rR.cell (q := 0) rfl
          have kc := hK0.cell (q := 0) rfl
          have kf := hK0.frozen 0
          have hIW : IRow wr a zs := hr.below hS.low (Nat.le_refl _)
          have hmeas := numIn_row hK0
          by_cases hkj : k0 < zs.length
          · obtain ⟨y, hy⟩ : ∃ y, zs[k0]? = some y := ⟨zs[k0]'(by omega), List.getElem?_eq_getElem (by omega)⟩
            obtain ⟨b1, o1, rfl, c1⟩ := hIW k0 y hy
            have hy0 : y < 0 := by
              have := hneg.out k0 (Nat.le_refl _) hkj
              rwa [getD_of hy] at this
            have hl2 : (k0 : Int) < (zs.length : Int) := by omega
            have hK2 := hK0.set 0 (.int .i64 ((k0 : Int) + 1))
            have hA2 := hA.other (b' := A1 + 1) (by omega) 0 (.int .i64 ((k0 : Int) + 1))
            have hn2 := hnb.other (b' := A1 + 1) (by omega) 0 (.int .i64 ((k0 : Int) + 1))
            have hS2 := hS.under (show Below (A1 + 1) wr (wr.setCell ⟨A1 + 1, 0, none⟩ (.int .i64 ((k0 : Int) + 1))) from (Below.refl (A1 + 1) wr).setCell (p := ⟨A1 + 1, 0, none⟩) (Nat.le_refl _) _) hgi hgx (by omega) (by omega)
            have hKa2 := (KeepsOthers.setCell wr ⟨A1 + 1, 0, none⟩ (.int .i64 ((k0 : Int) + 1))).same D1 _ hKa rfl
            have hKb2 := (KeepsOthers.setCell wr ⟨A1 + 1, 0, none⟩ (.int .i64 ((k0 : Int) + 1))).same D2 _ hKb rfl
            have hg2 : Hid (∀ i, k0 + 1 ≤ i → i < zs.length → zs.getD i 0 < 0) := fun i hi hij => hneg.out i (by omega) hij
            have hm2 : Hid (numIn (A1 + 1) (wr.setCell ⟨A1 + 1, 0, none⟩ (.int .i64 ((k0 : Int) + 1))) = k0 + 1) := by show _ = _; rw [numIn_row hK2]; omega
            have hmH : Hid (numIn (A1 + 1) wr = k0) := by show _ = _; rw [hmeas]; simp
            clear hK0 hA hnb hS hKa hKb hneg hIW hy hmeas
            gi_wp2
            go_roundw
            case rel => exact ⟨k0 + 1, hK2, by omega, hg2, hA2, hn2, hS2, hKa2, hKb2⟩
            case measure => rw [hm2.out, hmH.out]; omega
          · obtain rfl : k0 = zs.length := by omega
            have hnl : ¬ (zs.length : Int) < (zs.length : Int) := by omega
            have ac := hA.cell (q := 0) rfl
            have nc := hnb.cell (q := 0) rfl
            have uc := hS.rU.cell (q := 0) rfl
            have haw := opawake_any p wr (hE.below hS.low (Nat.le_refl _)) (hT.below hS.low (Nat.le_refl _))
            have hle2 : (nn : Int) ≤ (pos zs : Int) := by omega
            have hor2 : ((nn : Int) == u) = true ∨ (((nn : Int) == u) = false ∧ ((nn : Int) == (pos zs : Int)) = true) := by
              by_cases h : (nn : Int) = u
              · exact .inl (by simpa using h)
              · refine .inr ⟨by simpa using h, ?_⟩
                rcases hor with h1 | h1
                · exact absurd h1 h
                · rw [h1]; simp
            clear hor hneg hIW hmeas hK0
            rcases hor2 with ho1 | ⟨ho1, ho2⟩
            · skip
              gi_wp2_with fail
              refine ⟨trivial, (callsIn_wide.2 haw).mono ?_⟩
              rintro e w17 ⟨rfl, hb17⟩
              have rB17 := hS.rB.below hb17 hS.rB.lt
              have bc := rB17.cell (q := 0) rfl
              have bf := rB17.frozen 0
              have hD1w : w.heap.size + 3 ≤ D1 := by omega
              have hD2w : w.heap.size + 3 ≤ D2 := by omega
              have hl1 : D1 < wr.heap.size := (Array.getElem?_eq_some_iff.1 hKa).1
              have hl2 : D2 < wr.heap.size := (Array.getElem?_eq_some_iff.1 hKb).1
              have hKa3 := (KeepsOthers.setCell w17 ⟨w.heap.size + 2, 0, none⟩ (.bool true)).same D1 _ ((hb17.block D1 hl1).trans hKa) rfl
              have hKb3 := (KeepsOthers.setCell w17 ⟨w.heap.size + 2, 0, none⟩ (.bool true)).same D2 _ ((hb17.block D2 hl2).trans hKb) rfl
              have hne : D2 ≠ D1 := by omega
              have rBf := rB17.set 0 (.bool true)
              have hBf : Below w.heap.size w (w17.setCell ⟨w.heap.size + 2, 0, none⟩ (.bool true)) := (hS.low.trans (hb17.mono hS.low.size)).setCell (p := ⟨w.heap.size + 2, 0, none⟩) (show w.heap.size ≤ w.heap.size + 2 by omega) _
              clear haw ac nc uc hS hA hnb hKa hKb hb17
              gi_wp2_with fail
              refine leaves_marks (B := w.heap.size + 3) [D2, D1] (w17.setCell ⟨w.heap.size + 2, 0, none⟩ (.bool true)) ⟨by simp [hne], fun D hD => ?_⟩ (fun W' hW' => ?_)
              · simp only [List.mem_cons, List.not_mem_nil, or_false] at hD
                rcases hD with rfl | rfl
                · exact ⟨hD2w, hKb3⟩
                · exact ⟨hD1w, hKa3⟩
              · have yc := (rBf.below hW' (by omega)).cell (q := 0) rfl
                refine ⟨.bool true, ?_, rfl, hBf.trans (hW'.mono (by omega))⟩
                simp [results, Tryd.results4, go_sem, yc]
            · skip
              gi_wp2_with fail
              refine ⟨trivial, (callsIn_wide.2 haw).mono ?_⟩
              rintro e w17 ⟨rfl, hb17⟩
              have rB17 := hS.rB.below hb17 hS.rB.lt
              have bc := rB17.cell (q := 0) rfl
              have bf := rB17.frozen 0
              have hD1w : w.heap.size + 3 ≤ D1 := by omega
              have hD2w : w.heap.size + 3 ≤ D2 := by omega
              have hl1 : D1 < wr.heap.size := (Array.getElem?_eq_some_iff.1 hKa).1
              have hl2 : D2 < wr.heap.size := (Array.getElem?_eq_some_iff.1 hKb).1
              have hKa3 := (KeepsOthers.setCell w17 ⟨w.heap.size + 2, 0, none⟩ (.bool true)).same D1 _ ((hb17.block D1 hl1).trans hKa) rfl
              have hKb3 := (KeepsOthers.setCell w17 ⟨w.heap.size + 2, 0, none⟩ (.bool true)).same D2 _ ((hb17.block D2 hl2).trans hKb) rfl
              have hne : D2 ≠ D1 := by omega
              have rBf := rB17.set 0 (.bool true)
              have hBf : Below w.heap.size w (w17.setCell ⟨w.heap.size + 2, 0, none⟩ (.bool true)) := (hS.low.trans (hb17.mono hS.low.size)).setCell (p := ⟨w.heap.size + 2, 0, none⟩) (show w.heap.size ≤ w.heap.size + 2 by omega) _
              clear haw ac nc uc hS hA hnb hKa hKb hb17
              gi_wp2_with fail
              refine leaves_marks (B := w.heap.size + 3) [D2, D1] (w17.setCell ⟨w.heap.size + 2, 0, none⟩ (.bool true)) ⟨by simp [hne], fun D hD => ?_⟩ (fun W' hW' => ?_)
              · simp only [List.mem_cons, List.not_mem_nil, or_false] at hD
                rcases hD with rfl | rfl
                · exact ⟨hD2w, hKb3⟩
                · exact ⟨hD1w, hKa3⟩
              · have yc := (rBf.below hW' (by omega)).cell (q := 0) rfl
                refine ⟨.bool true, ?_, rfl, hBf.trans (hW'.mono (by omega))⟩
                simp [results, Tryd.results4, go_sem, yc]
  · have hz11 : Hid (w10.heap.size = w10.heap.size) := rfl
    have hone : (1 : Int) ≤ up := by omega
    have hbig : up < 9223372036854775808 := hu2
    have hS11 := hS10
    have hw11 := hw10
    gi_wp2_with fail
    clear u0 uf hS10 hw10
    have hbx := rowNew w10 #[.int .i64 0] 3
    skip
    have hS12 := hS11.below ((Below.refl _ _).alloc (Nat.le_refl _) (.cells #[.int .i64 0] 3)) (Nat.le_refl _)
    have hz12 : (w10.alloc (.cells #[.int .i64 0] 3)).heap.size = w10.heap.size + 1 := by simp; try omega
    have hw10.heap.size : rb + 2 ≤ w10.heap.size := by omega
    clear hS11 hw11
    generalize w10.alloc (.cells #[.int .i64 0] 3) = w12 at *
    refine' range_break 6 (by omega) (rb + 1) rb 0 zs (by omega) (fun _ _ h => h) rfl hS12.t rfl
      (fun j W => RowAt W w10.heap.size 3 #[.int .i64 (posTo zs j : Int)] ∧ Below w10.heap.size w12 W)
      (fun W => (∃ nn : Nat, RowAt W w10.heap.size 3 #[.int .i64 (nn : Int)] ∧ ((nn : Int) = up ∨ nn = pos zs) ∧ nn ≤ pos zs) ∧ Below w10.heap.size w12 W)
      (OwnFrom.and (fun s W W' row hs hg hr => RowAt.own hs hg (fun r e => (hr r e).2)) (ownFrom_below (by omega) (by omega)))
      (OwnFrom.and (fun s W W' row hs hg hr => by obtain ⟨nn, h1, h2⟩ := hs; exact ⟨nn, RowAt.own h1 hg (fun r e => (hr r e).2), h2⟩) (ownFrom_below (by omega) (by omega)))
      ⟨hbx, Below.refl _ _⟩
      (fun W h => ⟨⟨pos zs, by rw [← posTo_all]; exact h.1, .inr rfl, Nat.le_refl _⟩, h.2⟩)
      (fun j x W hx h0 h => by rw [posTo_out hx h0]; exact h)
      _ ?assignB ?bodyB ?hendB
    case assignB =>
      intro l j x W K hK
      gi_wp2
      exact hK
    case bodyB =>
      rintro l j x W hx h0 hTW ⟨hbW, hBW⟩
      have hc := hbW.cell (q := 0) rfl
      have hf := hbW.frozen 0
      have hSW := hS12.under hBW hgi hgx (by omega) (by omega)
      have uc := hSW.rU.cell (q := 0) rfl
      have hpl := posTo_le zs j
      have hjl : j < zs.length := (List.getElem?_eq_some_iff.1 hx).1
      have hple := posTo_pos (zs := zs) (k := j + 1) hjl
      rw [posTo_in hx h0] at hple
      have hb3 := hbW.set 0 (.int .i64 ((posTo zs j : Int) + 1))
      have hT3 := hTW.set (b := w10.heap.size) (by omega) (by omega) 0 (.int .i64 ((posTo zs j : Int) + 1))
      have hK3 : KeepsFrom w12.heap.size W (W.setCell ⟨w10.heap.size, 0, none⟩ (.int .i64 ((posTo zs j : Int) + 1))) := (KeepsOthers.setCell _ _ _).from _
      have hB3 := hBW.setCell (p := ⟨w10.heap.size, 0, none⟩) (Nat.le_refl _) (.int .i64 ((posTo zs j : Int) + 1))
      have e : Hid ((posTo zs (j + 1) : Int) = (posTo zs j : Int) + 1) := by show _ = _; rw [posTo_in hx h0]; rfl
      have hub : w10.heap.size ≠ w.heap.size + 1 := by omega
      clear hbW hBW hTW hSW hx
      by_cases heq : (posTo zs j : Int) + 1 = up
      · have hd : (((posTo zs j : Int) + 1) == up) = true := by simpa using heq
        have hq : Hid ((posTo zs j : Int) + 1 = up) := heq
        clear heq
        gi_wp2
        exact ⟨hK3, rfl, ⟨posTo zs j + 1, hb3, .inl hq.out, hple⟩, hB3⟩
      · have hd : (((posTo zs j : Int) + 1) == up) = false := by simpa using heq
        clear heq
        gi_wp2
        exact ⟨hK3, hT3, by rw [e.out]; exact hb3, hB3⟩
    rintro D1 W13 hD1 ⟨⟨nn, hn13, hor, hnle⟩, hB13⟩ hK13
    have hS13 := hS12.under hB13 hgi hgx (by omega) (by omega)
    have hD13 : D1 < W13.heap.size := (Array.getElem?_eq_some_iff.1 hK13).1
    clear hS12 hbx hB13
    gi_wp2_with fail
    gi_loopw [11] (fun i wr => ∃ k : Nat, k ≤ zs.length ∧ i = .int .i64 k ∧ Side w wr a c zs up gi (rb + 1) rb ∧ RowAt wr w10.heap.size 3 #[.int .i64 (nn : Int)] ∧ wr.heap[D1]? = some (.deferred (some [])) ∧ wr.heap.size = W13.heap.size) (fun i _ => zs.length - (intOf i).toNat)
    case atStart => exact ⟨0, by omega, rfl, hS13, hn13, hK13, rfl⟩
    case round =>
      obtain ⟨k, hk, rfl, hS, hnb, hKD, hsz⟩ := hrel
      by_cases hlt : k < zs.length
      · obtain ⟨cur, hG, hGs⟩ := hS.rG
        have hlt2 : (k : Int) < (zs.length : Int) := by omega
        have gc := hG.cell (q := k) (v := cur[k]) (Array.getElem?_eq_getElem (by omega))
        have gf := hG.frozen k
        have hS2 := hS.setG hgi hgx (by omega) k (.int .i64 77)
        have hnb2 := hnb.other (b' := gi) (by omega) k (.int .i64 77)
        have hK2 := (KeepsOthers.setCell wr ⟨gi, k, none⟩ (.int .i64 77)).same D1 _ hKD rfl
        have hs2 : (wr.setCell ⟨gi, k, none⟩ (.int .i64 77)).heap.size = W13.heap.size := by simp [hsz]
        generalize cur[k] = cv at *
        clear hS hnb hKD hG hGs hsz
        gi_wp2
        go_roundw
        case rel => exact ⟨k + 1, by omega, by go_num, hS2, hnb2, hK2, hs2⟩
        case measure => simp [intOf]; omega
      · obtain rfl : k = zs.length := by omega
        have hnl : ¬ (zs.length : Int) < (zs.length : Int) := by omega
        clear hS13 hn13 hK13
        have hB15 : Below wr.heap.size wr ((wr.alloc (.cells #[.int .i64 0] 3)).alloc (.cells #[.int .i64 0] 3)) := ((Below.refl _ _).alloc (Nat.le_refl _) _).alloc (by simp) _
        have hz15 : ((wr.alloc (.cells #[.int .i64 0] 3)).alloc (.cells #[.int .i64 0] 3)).heap.size = W13.heap.size + 2 := by simp [hsz]
        have rA15 : RowAt ((wr.alloc (.cells #[.int .i64 0] 3)).alloc (.cells #[.int .i64 0] 3)) W13.heap.size 3 #[.int .i64 0] := by
          have := (rowNew wr #[.int .i64 0] 3).alloc (.cells #[.int .i64 0] 3)
          rwa [hsz] at this
        have rK15 : RowAt ((wr.alloc (.cells #[.int .i64 0] 3)).alloc (.cells #[.int .i64 0] 3)) (W13.heap.size + 1) 3 #[.int .i64 0] := by
          have := rowNew (wr.alloc (.cells #[.int .i64 0] 3)) #[.int .i64 0] 3
          rwa [World.size_alloc, hsz] at this
        have hS15 := hS.below hB15 (Nat.le_refl _)
        have hn15 := hnb.below hB15 hnb.lt
        have hK15 := (hB15.block D1 (by omega)).trans hKD
        gi_wp2_with fail
        generalize (wr.alloc (.cells #[.int .i64 0] 3)).alloc (.cells #[.int .i64 0] 3) = w15 at *
        clear hS hnb hKD hB15 hsz
        have hNA : w10.heap.size < W13.heap.size := by omega
        generalize W13.heap.size = A1 at *
        refine' range_terms 6 (by omega) (rb + 1) rb zs (by omega) rfl hS15.t rfl
          (fun j W => (RowAt W A1 3 #[.int .i64 (posTo zs j : Int)] ∧ ∃ k0 : Nat, RowAt W (A1 + 1) 3 #[.int .i64 (k0 : Int)] ∧ k0 ≤ j ∧ ∀ i, k0 ≤ i → i < j → zs.getD i 0 < 0) ∧ Below A1 w15 W)
          (fun _ _ => False)
          (OwnFrom.and (fun s W W' row hs hg hr => ⟨RowAt.own hs.1 hg (fun r e => (hr r e).2), by obtain ⟨k0, h1, h2⟩ := hs.2; exact ⟨k0, RowAt.own h1 hg (fun r e => (hr r e).2), h2⟩⟩) (ownFrom_below (by omega) (by omega)))
          (fun _ _ _ _ _ hs _ _ => hs)
          ⟨⟨rA15, 0, rK15, by omega, fun i _ h => by omega⟩, Below.refl _ _⟩
          (fun j x W hx h0 h => by
            obtain ⟨⟨h1, k0, h2, h3, h4⟩, h5⟩ := h
            refine ⟨⟨by rw [posTo_out hx h0]; exact h1, k0, h2, by omega, fun i hi hij => ?_⟩, h5⟩
            by_cases hij2 : i = j
            · subst hij2; rw [getD_of hx]; exact h0
            · exact h4 i hi (by omega))
          _ ?assignB1 ?bodyB1 ?doneB1 ?stopB1
        case assignB1 =>
          intro l j x W K hK
          gi_wp2
          exact hK
        case stopB1 =>
          rintro D c W _ h _
          exact h.elim
        case bodyB1 =>
          rintro l j x W hx h0 hTW ⟨⟨hA, k0, hK0, hk0, hneg⟩, hBW⟩
          have hjl : j < zs.length := (List.getElem?_eq_some_iff.1 hx).1
          have hpl := posTo_le zs j
          gi_wp2_with fail
          gi_loopw [] (fun wr => ∃ k0 : Nat, RowAt wr (A1 + 1) 3 #[.int .i64 (k0 : Int)] ∧ k0 ≤ j ∧ Hid (∀ i, k0 ≤ i → i < j → zs.getD i 0 < 0) ∧ RowAt wr A1 3 #[.int .i64 (posTo zs j : Int)] ∧ TermsAt wr (rb + 1) rb zs ∧ Below A1 w15 wr ∧ KeepsFrom w15.heap.size W wr) (fun wr => j - numIn (A1 + 1) wr)
          case atStart => exact ⟨k0, hK0, hk0, hneg, hA, hTW, hBW, KeepsFrom.refl _ _⟩
          case round =>
            clear hA hK0 hk0 hneg hTW hBW k0
            obtain ⟨k0, hK0, hk0, hneg, hA, hTW, hBW, hKF⟩ := hrel
            have hSW := hS15.under hBW hgi hgx (by omega) (by omega)
            have rc := hSW.rR.cell (q := 0) rfl
            have kc := hK0.cell (q := 0) rfl
            have kf := hK0.frozen 0
            have ac := hA.cell (q := 0) rfl
            have af := hA.frozen 0
            have hIW : IRow wr a zs := hr.below hSW.low (Nat.le_refl _)
            have hmeas := numIn_row hK0
            by_cases hkj : k0 < j
            · obtain ⟨y, hy⟩ : ∃ y, zs[k0]? = some y := ⟨zs[k0]'(by omega), List.getElem?_eq_getElem (by omega)⟩
              obtain ⟨b1, o1, rfl, c1⟩ := hIW k0 y hy
              have hy0 : y < 0 := by
                have := hneg.out k0 (Nat.le_refl _) hkj
                rwa [getD_of hy] at this
              have hl2 : (k0 : Int) < (zs.length : Int) := by omega
              have hK2 := hK0.set 0 (.int .i64 ((k0 : Int) + 1))
              have hA2 := hA.other (b' := A1 + 1) (by omega) 0 (.int .i64 ((k0 : Int) + 1))
              have hT2 := hTW.set (b := A1 + 1) (by omega) (by omega) 0 (.int .i64 ((k0 : Int) + 1))
              have hB2 := hBW.setCell (p := ⟨A1 + 1, 0, none⟩) (show A1 ≤ A1 + 1 by omega) (.int .i64 ((k0 : Int) + 1))
              have hF2 : KeepsFrom w15.heap.size W (wr.setCell ⟨A1 + 1, 0, none⟩ (.int .i64 ((k0 : Int) + 1))) := hKF.trans ((KeepsOthers.setCell _ _ _).from _)
              have hn2 : Hid (∀ i, k0 + 1 ≤ i → i < j → zs.getD i 0 < 0) := fun i hi hij => hneg.out i (by omega) hij
              have hm2 : Hid (numIn (A1 + 1) (wr.setCell ⟨A1 + 1, 0, none⟩ (.int .i64 ((k0 : Int) + 1))) = k0 + 1) := by show _ = _; rw [numIn_row hK2]; omega
              have hmH : Hid (numIn (A1 + 1) wr = k0) := by show _ = _; rw [hmeas]; simp
              clear hK0 hA hTW hBW hKF hneg hIW hy hmeas ac af hSW
              gi_wp2
              go_roundw
              case rel => exact ⟨k0 + 1, hK2, by omega, hn2, hA2, hT2, hB2, hF2⟩
              case measure => rw [hm2.out, hmH.out]; omega
            · obtain rfl : k0 = j := by omega
              obtain ⟨b1, o1, rfl, c1⟩ := hIW k0 x hx
              have hl2 : (k0 : Int) < (zs.length : Int) := by omega
              have hl3 : ¬ (zs.length : Int) ≤ (k0 : Int) := by omega
              have hx0 : ¬ x < 0 := by omega
              have hxx : (x != x) = false := by simp
              have hkk : ((k0 : Int) != (k0 : Int)) = false := by simp
              have hK2 := hK0.set 0 (.int .i64 ((k0 : Int) + 1))
              have hA2 := (hA.other (b' := A1 + 1) (by omega) 0 (.int .i64 ((k0 : Int) + 1))).set 0 (.int .i64 ((posTo zs k0 : Int) + 1))
              have hK3 := hK2.other (b' := A1) (by omega) 0 (.int .i64 ((posTo zs k0 : Int) + 1))
              have hT2 := (hTW.set (b := A1 + 1) (by omega) (by omega) 0 (.int .i64 ((k0 : Int) + 1))).set (b := A1) (by omega) (by omega) 0 (.int .i64 ((posTo zs k0 : Int) + 1))
              have hB2 := (hBW.setCell (p := ⟨A1 + 1, 0, none⟩) (show A1 ≤ A1 + 1 by omega) (.int .i64 ((k0 : Int) + 1))).setCell (p := ⟨A1, 0, none⟩) (Nat.le_refl _) (.int .i64 ((posTo zs k0 : Int) + 1))
              have hF2 : KeepsFrom w15.heap.size W ((wr.setCell ⟨A1 + 1, 0, none⟩ (.int .i64 ((k0 : Int) + 1))).setCell ⟨A1, 0, none⟩ (.int .i64 ((posTo zs k0 : Int) + 1))) := (hKF.trans ((KeepsOthers.setCell _ _ _).from _)).trans ((KeepsOthers.setCell _ _ _).from _)
              have e : Hid ((posTo zs (k0 + 1) : Int) = (posTo zs k0 : Int) + 1) := by show _ = _; rw [posTo_in hx h0]; rfl
              have hne : ¬ A1 + 1 = A1 := by omega
              clear hK0 hA hTW hBW hKF hneg hIW hmeas hSW hK2
              gi_wp2
              rw [hz15] at hF2
              refine ⟨hF2, hT2, ⟨by rw [e.out]; exact hA2, k0 + 1, hK3, Nat.le_refl _, fun i hi hij => by omega⟩, hB2⟩
        rintro D2 W16 hD2 ⟨⟨hA, k0, hK0, hk0, hneg⟩, hB16⟩ hKD2
        rw [posTo_all] at hA
        have hn16 := hn15.below hB16 (by omega)
        have hD12 : D1 < A1 := by omega
        have hK16 := (hB16.block D1 hD12).trans hK15
        have hS16 := hS15.under hB16 hgi hgx (by omega) (by omega)
        have hple := pos_le zs
        have hD2lt : D2 < W16.heap.size := (Array.getElem?_eq_some_iff.1 hKD2).1
        clear hS15 hn15 hK15 hB16 rA15 rK15
        gi_wp2_with fail
        gi_loopw [] (fun wr => ∃ k0 : Nat, RowAt wr (A1 + 1) 3 #[.int .i64 (k0 : Int)] ∧ k0 ≤ zs.length ∧ Hid (∀ i, k0 ≤ i → i < zs.length → zs.getD i 0 < 0) ∧ RowAt wr A1 3 #[.int .i64 (pos zs : Int)] ∧ RowAt wr w10.heap.size 3 #[.int .i64 (nn : Int)] ∧ Side w wr a c zs up gi (rb + 1) rb ∧ wr.heap[D1]? = some (.deferred (some [])) ∧ wr.heap[D2]? = some (.deferred (some []))) (fun wr => zs.length - numIn (A1 + 1) wr)
        case atStart => exact ⟨k0, hK0, hk0, hneg, hA, hn16, hS16, hK16, hKD2⟩
        case round =>
          clear hA hK0 hk0 hneg hn16 hS16 hK16 hKD2 k0
          obtain ⟨k0, hK0, hk0, hneg, hA, hnb, hS, hKa, hKb⟩ := hrel
          have rc := hS.rR.cell (q := 0) rfl
          have kc := hK0.cell (q := 0) rfl
          have kf := hK0.frozen 0
          have hIW : IRow wr a zs := hr.below hS.low (Nat.le_refl _)
          have hmeas := numIn_row hK0
          by_cases hkj : k0 < zs.length
          · obtain ⟨y, hy⟩ : ∃ y, zs[k0]? = some y := ⟨zs[k0]'(by omega), List.getElem?_eq_getElem (by omega)⟩
            obtain ⟨b1, o1, rfl, c1⟩ := hIW k0 y hy
            have hy0 : y < 0 := by
              have := hneg.out k0 (Nat.le_refl _) hkj
              rwa [getD_of hy] at this
            have hl2 : (k0 : Int) < (zs.length : Int) := by omega
            have hK2 := hK0.set 0 (.int .i64 ((k0 : Int) + 1))
            have hA2 := hA.other (b' := A1 + 1) (by omega) 0 (.int .i64 ((k0 : Int) + 1))
            have hn2 := hnb.other (b' := A1 + 1) (by omega) 0 (.int .i64 ((k0 : Int) + 1))
            have hS2 := hS.under (show Below (A1 + 1) wr (wr.setCell ⟨A1 + 1, 0, none⟩ (.int .i64 ((k0 : Int) + 1))) from (Below.refl (A1 + 1) wr).setCell (p := ⟨A1 + 1, 0, none⟩) (Nat.le_refl _) _) hgi hgx (by omega) (by omega)
            have hKa2 := (KeepsOthers.setCell wr ⟨A1 + 1, 0, none⟩ (.int .i64 ((k0 : Int) + 1))).same D1 _ hKa rfl
            have hKb2 := (KeepsOthers.setCell wr ⟨A1 + 1, 0, none⟩ (.int .i64 ((k0 : Int) + 1))).same D2 _ hKb rfl
            have hg2 : Hid (∀ i, k0 + 1 ≤ i → i < zs.length → zs.getD i 0 < 0) := fun i hi hij => hneg.out i (by omega) hij
            have hm2 : Hid (numIn (A1 + 1) (wr.setCell ⟨A1 + 1, 0, none⟩ (.int .i64 ((k0 : Int) + 1))) = k0 + 1) := by show _ = _; rw [numIn_row hK2]; omega
            have hmH : Hid (numIn (A1 + 1) wr = k0) := by show _ = _; rw [hmeas]; simp
            clear hK0 hA hnb hS hKa hKb hneg hIW hy hmeas
            gi_wp2
            go_roundw
            case rel => exact ⟨k0 + 1, hK2, by omega, hg2, hA2, hn2, hS2, hKa2, hKb2⟩
            case measure => rw [hm2.out, hmH.out]; omega
          · obtain rfl : k0 = zs.length := by omega
            have hnl : ¬ (zs.length : Int) < (zs.length : Int) := by omega
            have ac := hA.cell (q := 0) rfl
            have nc := hnb.cell (q := 0) rfl
            have uc := hS.rU.cell (q := 0) rfl
            have haw := opawake_any p wr (hE.below hS.low (Nat.le_refl _)) (hT.below hS.low (Nat.le_refl _))
            have hle2 : (nn : Int) ≤ (pos zs : Int) := by omega
            have hor2 : ((nn : Int) == up) = true ∨ (((nn : Int) == up) = false ∧ ((nn : Int) == (pos zs : Int)) = true) := by
              by_cases h : (nn : Int) = up
              · exact .inl (by simpa using h)
              · refine .inr ⟨by simpa using h, ?_⟩
                rcases hor with h1 | h1
                · exact absurd h1 h
                · rw [h1]; simp
            clear hor hneg hIW hmeas hK0
            rcases hor2 with ho1 | ⟨ho1, ho2⟩
            · skip
              gi_wp2_with fail
              refine ⟨trivial, (callsIn_wide.2 haw).mono ?_⟩
              rintro e w17 ⟨rfl, hb17⟩
              have rB17 := hS.rB.below hb17 hS.rB.lt
              have bc := rB17.cell (q := 0) rfl
              have bf := rB17.frozen 0
              have hD1w : w.heap.size + 3 ≤ D1 := by omega
              have hD2w : w.heap.size + 3 ≤ D2 := by omega
              have hl1 : D1 < wr.heap.size := (Array.getElem?_eq_some_iff.1 hKa).1
              have hl2 : D2 < wr.heap.size := (Array.getElem?_eq_some_iff.1 hKb).1
              have hKa3 := (KeepsOthers.setCell w17 ⟨w.heap.size + 2, 0, none⟩ (.bool true)).same D1 _ ((hb17.block D1 hl1).trans hKa) rfl
              have hKb3 := (KeepsOthers.setCell w17 ⟨w.heap.size + 2, 0, none⟩ (.bool true)).same D2 _ ((hb17.block D2 hl2).trans hKb) rfl
              have hne : D2 ≠ D1 := by omega
              have rBf := rB17.set 0 (.bool true)
              have hBf : Below w.heap.size w (w17.setCell ⟨w.heap.size + 2, 0, none⟩ (.bool true)) := (hS.low.trans (hb17.mono hS.low.size)).setCell (p := ⟨w.heap.size + 2, 0, none⟩) (show w.heap.size ≤ w.heap.size + 2 by omega) _
              clear haw ac nc uc hS hA hnb hKa hKb hb17
              gi_wp2_with fail
              refine leaves_marks (B := w.heap.size + 3) [D2, D1] (w17.setCell ⟨w.heap.size + 2, 0, none⟩ (.bool true)) ⟨by simp [hne], fun D hD => ?_⟩ (fun W' hW' => ?_)
              · simp only [List.mem_cons, List.not_mem_nil, or_false] at hD
                rcases hD with rfl | rfl
                · exact ⟨hD2w, hKb3⟩
                · exact ⟨hD1w, hKa3⟩
              · have yc := (rBf.below hW' (by omega)).cell (q := 0) rfl
                refine ⟨.bool true, ?_, rfl, hBf.trans (hW'.mono (by omega))⟩
                simp [results, Tryd.results4, go_sem, yc]
            · skip
              gi_wp2_with fail
              refine ⟨trivial, (callsIn_wide.2 haw).mono ?_⟩
              rintro e w17 ⟨rfl, hb17⟩
              have rB17 := hS.rB.below hb17 hS.rB.lt
              have bc := rB17.cell (q := 0) rfl
              have bf := rB17.frozen 0
              have hD1w : w.heap.size + 3 ≤ D1 := by omega
              have hD2w : w.heap.size + 3 ≤ D2 := by omega
              have hl1 : D1 < wr.heap.size := (Array.getElem?_eq_some_iff.1 hKa).1
              have hl2 : D2 < wr.heap.size := (Array.getElem?_eq_some_iff.1 hKb).1
              have hKa3 := (KeepsOthers.setCell w17 ⟨w.heap.size + 2, 0, none⟩ (.bool true)).same D1 _ ((hb17.block D1 hl1).trans hKa) rfl
              have hKb3 := (KeepsOthers.setCell w17 ⟨w.heap.size + 2, 0, none⟩ (.bool true)).same D2 _ ((hb17.block D2 hl2).trans hKb) rfl
              have hne : D2 ≠ D1 := by omega
              have rBf := rB17.set 0 (.bool true)
              have hBf : Below w.heap.size w (w17.setCell ⟨w.heap.size + 2, 0, none⟩ (.bool true)) := (hS.low.trans (hb17.mono hS.low.size)).setCell (p := ⟨w.heap.size + 2, 0, none⟩) (show w.heap.size ≤ w.heap.size + 2 by omega) _
              clear haw ac nc uc hS hA hnb hKa hKb hb17
              gi_wp2_with fail
              refine leaves_marks (B := w.heap.size + 3) [D2, D1] (w17.setCell ⟨w.heap.size + 2, 0, none⟩ (.bool true)) ⟨by simp [hne], fun D hD => ?_⟩ (fun W' hW' => ?_)
              · simp only [List.mem_cons, List.not_mem_nil, or_false] at hD
                rcases hD with rfl | rfl
                · exact ⟨hD2w, hKb3⟩
                · exact ⟨hD1w, hKa3⟩
              · have yc := (rBf.below hW' (by omega)).cell (q := 0) rfl
                refine ⟨.bool true, ?_, rfl, hBf.trans (hW'.mono (by omega))⟩
                simp [results, Tryd.results4, go_sem, yc]

end Go.Proofs.YtkjmmoiickambaaDoor.OpSidesW
