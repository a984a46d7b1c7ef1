/-
  The walk of GramNames: it answers true for every grammar, name and symbol, and writes nothing that was there.
-/
import Derived.Test.YtpnnfocmjkccoaaDoorGramRAbove
import Derived.Test.YtpnnfocmjkccoaaDoorGramAwake2
import Derived.Test.YtpnnfocmjkccoaaDoorGramLentG
import Derived.Test.YtpnnfocmjkccoaaDoorGramOpenL
namespace Go.Proofs.YtpnnfocmjkccoaaDoor.GramNamesW
open Go.RowKit Go.Proofs.YtpnnfocmjkccoaaDoor.GramMath Go.Proofs.YtpnnfocmjkccoaaDoor.GramRow Go.Proofs.YtpnnfocmjkccoaaDoor.GramOne Go.Proofs.YtpnnfocmjkccoaaDoor.GramCheck Go.Proofs.YtpnnfocmjkccoaaDoor.GramAboveFn Go.Proofs.YtpnnfocmjkccoaaDoor.GramAwake Go.Proofs.YtpnnfocmjkccoaaDoor.GramName Go.Proofs.YtpnnfocmjkccoaaDoor.GramLent Go.Proofs.YtpnnfocmjkccoaaDoor.GramRef Go.Proofs.YtpnnfocmjkccoaaDoor.GramApart
set_option linter.unusedVariables false

/-- A grammar in a box. -/
structure Box (w : World) (b : Nat) (ta na ra : Option Addr) (tc nc rc : Nat) (g : G) : Prop where
  c0 : w.cell? ⟨b, 0, none⟩ = some (.slice ta g.ts.length tc)
  c1 : w.cell? ⟨b, 1, none⟩ = some (.slice na g.ns.length nc)
  c2 : w.cell? ⟨b, 2, none⟩ = some (.int .i64 g.ax)
  c3 : w.cell? ⟨b, 3, none⟩ = some (.slice ra g.rs.length rc)

theorem Box.below {w w' : World} {b B : Nat} {ta na ra : Option Addr} {tc nc rc : Nat} {g : G} (h : Box w b ta na ra tc nc rc g) (hb : Below B w w') (hB : b < B) : Box w' b ta na ra tc nc rc g :=
  ⟨(hb.cell (p := ⟨b, 0, none⟩) hB).trans h.c0, (hb.cell (p := ⟨b, 1, none⟩) hB).trans h.c1, (hb.cell (p := ⟨b, 2, none⟩) hB).trans h.c2, (hb.cell (p := ⟨b, 3, none⟩) hB).trans h.c3⟩

theorem Box.lt {w : World} {b : Nat} {ta na ra : Option Addr} {tc nc rc : Nat} {g : G} (h : Box w b ta na ra tc nc rc g) : b < w.heap.size := cell_lt h.c0

theorem Box.new (w : World) (ta na ra : Option Addr) (tc nc rc : Nat) (g : G) : Box (w.alloc (.cells #[.slice ta g.ts.length tc, .slice na g.ns.length nc, .int .i64 g.ax, .slice ra g.rs.length rc] 25)) w.heap.size ta na ra tc nc rc g :=
  ⟨by simp, by simp, by simp, by simp⟩

/-- What stands in memory all along: the grammar, the lent one, the errors. -/
structure St (w : World) (ba bl : Nat) (ta na ra : Option Addr) (tc nc rc g1 c1 g2 c2 g3 c3 : Nat) (lq : List GramLess.Q) (g : G) (p : Nat → Addr) : Prop where
  own : Box w ba ta na ra tc nc rc g
  lent : Box w bl (some ⟨g1, 0, none⟩) (some ⟨g2, 0, none⟩) (some ⟨g3, 0, none⟩) c1 c2 c3 g
  row : GRow w ta na ra g
  lrow : LentG w g1 c1 g2 c2 g3 c3 lq g
  errs : Sents w p

theorem St.below {w w' : World} {ba bl : Nat} {ta na ra : Option Addr} {tc nc rc g1 c1 g2 c2 g3 c3 : Nat} {lq : List GramLess.Q} {g : G} {p : Nat → Addr} (h : St w ba bl ta na ra tc nc rc g1 c1 g2 c2 g3 c3 lq g p) (hb : Below w.heap.size w w') : St w' ba bl ta na ra tc nc rc g1 c1 g2 c2 g3 c3 lq g p :=
  ⟨h.own.below hb h.own.lt, h.lent.below hb h.lent.lt, h.row.below hb (Nat.le_refl _), h.lrow.below hb (Nat.le_refl _), h.errs.below hb (Nat.le_refl _)⟩

theorem check_zero {g : G} (h : (checkG g).1 = 0) : checkG g = (0, none) := by
  have hg := good_of h
  unfold checkG at h ⊢
  by_cases h1 : 60 < g.ts.length + g.ns.length ∨ 120 < g.rs.length
  · rw [if_pos h1] at h; cases h
  rw [if_neg h1] at h ⊢
  by_cases h2 : named g.ts = false ∨ named g.ns = false
  · rw [if_pos h2] at h; cases h
  rw [if_neg h2] at h ⊢
  by_cases h3 : leftB g.ns.length g.ax = false
  · rw [if_pos h3] at h; cases h
  · rw [if_neg h3] at h ⊢
    exact rulesK_none h

theorem apart_two (B n ba bb : Nat) (Va Vb : Nat → Nat) (W : World) (hVa : VRow W ba n Va) (hVb : VRow W bb n Vb) (hne : ba ≠ bb) (hn : n ≤ 64) (h1 : B ≤ ba) (h2 : B ≤ bb ∧ B ≤ W.heap.size ∧ ba < W.heap.size ∧ bb < W.heap.size) :
    Calls Tryd.prog 29 #[.slice (some ⟨W.heap.size, 0, none⟩) 2 2] (W.alloc (.cells #[.slice (some ⟨ba, 0, none⟩) n n, .slice (some ⟨bb, 0, none⟩) n n] 46)) fun e w' => e = .returned (.bool true) ∧ Below B W w' := by
  have hal : Below W.heap.size W (W.alloc (.cells #[.slice (some ⟨ba, 0, none⟩) n n, .slice (some ⟨bb, 0, none⟩) n n] 46)) := (Below.refl _ _).alloc (Nat.le_refl _) _
  have hA := hVa.below hal h2.2.2.1
  have hB := hVb.below hal h2.2.2.2
  refine (apart_sets B 2 W.heap.size 2 (fun j => if j = 0 then ba else bb) (fun _ => n) (fun j => some ⟨if j = 0 then ba else bb, 0, none⟩) _ _ (by omega) (World.alloc_heap_new W _) ?_ ?_ ?_ ?_ ?_ h2.2.1 ?_ ?_).mono fun e w' ⟨he, hb⟩ => ⟨he, (hal.mono h2.2.1).trans hb⟩
  · intro j hj
    match j, hj with
    | 0, _ => rfl
    | 1, _ => rfl
  · intro j hj
    rfl
  · intro j hj q hq
    match j, hj with
    | 0, _ => exact ⟨(hA q hq).2, _, (hA q hq).1, fun h => by omega⟩
    | 1, _ => exact ⟨(hB q hq).2, _, (hB q hq).1, fun h => by omega⟩
  · intro a ha b hb hab _ _
    match a, ha, b, hb with
    | 0, _, 0, _ => exact absurd rfl hab
    | 0, _, 1, _ => exact hne
    | 1, _, 0, _ => exact hne.symm
    | 1, _, 1, _ => exact absurd rfl hab
  · intro j hj
    exact hn
  · intro j hj _
    match j, hj with
    | 0, _ => exact h1
    | 1, _ => exact h2.1
  · intro j hj _
    match j, hj with
    | 0, _ => show W.heap.size ≠ ba; omega
    | 1, _ => show W.heap.size ≠ bb; omega

theorem apart_none (B : Nat) (W : World) (h2 : B ≤ W.heap.size) :
    Calls Tryd.prog 29 #[.slice (some ⟨W.heap.size, 0, none⟩) 2 2] (W.alloc (.cells #[.slice none 0 0, .slice none 0 0] 46)) fun e w' => e = .returned (.bool true) ∧ Below B W w' := by
  have hal : Below W.heap.size W (W.alloc (.cells #[.slice none 0 0, .slice none 0 0] 46)) := (Below.refl _ _).alloc (Nat.le_refl _) _
  refine (apart_sets B 2 W.heap.size 2 (fun j => 0) (fun _ => 0) (fun j => none) _ _ (by omega) (World.alloc_heap_new W _) ?_ ?_ ?_ ?_ ?_ h2 ?_ ?_).mono fun e w' ⟨he, hb⟩ => ⟨he, (hal.mono h2).trans hb⟩
  · intro j hj
    match j, hj with
    | 0, _ => rfl
    | 1, _ => rfl
  · intro j hj
    rfl
  · intro j hj q hq
    exact absurd hq (Nat.not_lt_zero _)
  · intro a ha b hb hab h
    exact absurd h (Nat.not_lt_zero _)
  · intro j hj
    exact Nat.zero_le _
  · intro j hj h
    exact absurd h (Nat.not_lt_zero _)
  · intro j hj h
    exact absurd h (Nat.not_lt_zero _)

set_option maxRecDepth 100000 in
set_option maxHeartbeats 4000000 in
theorem walk (ta na ra : Option Addr) (tc nc rc : Nat) (g : G) (s : ByteArray) (y : Int) (p : Nat → Addr) (w : World) (hL : Lendable w ta na ra tc nc g) (ho : okG g) (hs : s.size ≤ 281474976710656) (hy : I64 y) (hS : Sents w p) :
    Calls Tryd.prog 4 #[.agg #[.slice ta g.ts.length tc, .slice na g.ns.length nc, .int .i64 g.ax, .slice ra g.rs.length rc], .string s, .int .i64 y] w fun e w' => e = .returned (.bool true) ∧ Below w.heap.size w w' := by
  obtain ⟨o1, o2, o3, _, o5, _⟩ := id ho
  have hB0 : Below w.heap.size w (w.alloc (.cells #[.slice ta g.ts.length tc, .slice na g.ns.length nc, .int .i64 g.ax, .slice ra g.rs.length rc] 25)) := (Below.refl _ _).alloc (Nat.le_refl _) _
  have hL0 : Lendable (w.alloc (.cells #[.slice ta g.ts.length tc, .slice na g.ns.length nc, .int .i64 g.ax, .slice ra g.rs.length rc] 25)) ta na ra tc nc g := ⟨hL.ts.below hB0 (Nat.le_refl _), hL.ns.below hB0 (Nat.le_refl _), hL.rs.below hB0 (Nat.le_refl _), hL.tn, hL.nn, hL.tm, hL.nm, hL.rm, hL.each⟩
  have hlend := lentG ta na ra tc nc rc g _ hL0
  have hrow0 := GramOpen.lendable_row hL0
  have hbox0 := Box.new w ta na ra tc nc rc g
  have hS0 := hS.below hB0 (Nat.le_refl _)
  clear hL hL0 hS
  go_enter Tryd.func4, Tryd.ntmps4
  go_wp2_with fail
  refine hlend.mono ?_
  rintro e w1 ⟨⟨g1, c1, g2, c2, g3, c3, lq, rfl, hlg⟩, hb1⟩
  have hz : (w.alloc (.cells #[.slice ta g.ts.length tc, .slice na g.ns.length nc, .int .i64 g.ax, .slice ra g.rs.length rc] 25)).heap.size = w.heap.size + 1 := by simp
  have hB1 : Below w.heap.size w w1 := hB0.trans (hb1.mono (by omega))
  have hbox1 := hbox0.below hb1 (by omega)
  have hrow1 := hrow0.below hb1 (Nat.le_refl _)
  have hS1 := hS0.below hb1 (Nat.le_refl _)
  have hbl : Below w1.heap.size w1 (w1.alloc (.cells #[.slice (some ⟨g1, 0, none⟩) g.ts.length c1, .slice (some ⟨g2, 0, none⟩) g.ns.length c2, .int .i64 g.ax, .slice (some ⟨g3, 0, none⟩) g.rs.length c3] 25)) := (Below.refl _ _).alloc (Nat.le_refl _) _
  have st : St (w1.alloc (.cells #[.slice (some ⟨g1, 0, none⟩) g.ts.length c1, .slice (some ⟨g2, 0, none⟩) g.ns.length c2, .int .i64 g.ax, .slice (some ⟨g3, 0, none⟩) g.rs.length c3] 25)) w.heap.size w1.heap.size ta na ra tc nc rc g1 c1 g2 c2 g3 c3 lq g p :=
    ⟨hbox1.below hbl hbox1.lt, Box.new w1 _ _ _ _ _ _ g, hrow1.below hbl (Nat.le_refl _), hlg.below hbl (Nat.le_refl _), hS1.below hbl (Nat.le_refl _)⟩
  have hB2 : Below w.heap.size w (w1.alloc (.cells #[.slice (some ⟨g1, 0, none⟩) g.ts.length c1, .slice (some ⟨g2, 0, none⟩) g.ns.length c2, .int .i64 g.ax, .slice (some ⟨g3, 0, none⟩) g.rs.length c3] 25)) := hB1.alloc hB1.size _
  clear hlend hrow0 hbox0 hS0 hlg hbox1 hrow1 hS1 hbl hB0 hB1 hb1 hz
  obtain ⟨q0, q1, q2, q3⟩ := id st.own
  obtain ⟨l0, l1, l2, l3⟩ := id st.lent
  go_wp2_with fail
  refine (term_any _ _ _ _ _ _ g s _ st.lrow.row.1 o1).mono ?_
  rintro e w3 ⟨rfl, hb⟩
  have hB3 := hB2.trans (hb.mono hB2.size)
  replace st := st.below hb
  clear hb hB2 q0 q1 q2 q3 l0 l1 l2 l3
  obtain ⟨q0, q1, q2, q3⟩ := id st.own
  obtain ⟨l0, l1, l2, l3⟩ := id st.lent
  go_wp2_with fail
  refine (rterm_any _ _ _ _ _ _ g s _ st.row.1 o1).mono ?_
  rintro e w4 ⟨rfl, hb⟩
  have hB4 := hB3.trans (hb.mono hB3.size)
  replace st := st.below hb
  clear hb hB3 q0 q1 q2 q3 l0 l1 l2 l3
  obtain ⟨q0, q1, q2, q3⟩ := id st.own
  obtain ⟨l0, l1, l2, l3⟩ := id st.lent
  go_wp2_with fail
  refine (nontermF_any _ _ _ _ _ _ g s _ st.lrow.row.2.1 o2).mono ?_
  rintro e w5 ⟨rfl, hb⟩
  have hB5 := hB4.trans (hb.mono hB4.size)
  replace st := st.below hb
  clear hb hB4 q0 q1 q2 q3 l0 l1 l2 l3
  obtain ⟨q0, q1, q2, q3⟩ := id st.own
  obtain ⟨l0, l1, l2, l3⟩ := id st.lent
  go_wp2_with fail
  refine (rnonterm_any _ _ _ _ _ _ g s _ st.row.2.1 o2).mono ?_
  rintro e w6 ⟨rfl, hb⟩
  have hB6 := hB5.trans (hb.mono hB5.size)
  replace st := st.below hb
  clear hb hB5 q0 q1 q2 q3 l0 l1 l2 l3
  obtain ⟨q0, q1, q2, q3⟩ := id st.own
  obtain ⟨l0, l1, l2, l3⟩ := id st.lent
  go_wp2_with fail
  refine (name_any _ _ _ _ _ _ g y _ st.lrow.row.1 st.lrow.row.2.1 ho hy).mono ?_
  rintro e w7 ⟨rfl, hb⟩
  have hB7 := hB6.trans (hb.mono hB6.size)
  replace st := st.below hb
  clear hb hB6 q0 q1 q2 q3 l0 l1 l2 l3
  obtain ⟨q0, q1, q2, q3⟩ := id st.own
  obtain ⟨l0, l1, l2, l3⟩ := id st.lent
  go_wp2_with fail
  refine (rname_any _ _ _ _ _ _ g y _ st.row.1 st.row.2.1 ho hy).mono ?_
  rintro e w8 ⟨rfl, hb⟩
  have hB8 := hB7.trans (hb.mono hB7.size)
  replace st := st.below hb
  clear hb hB7 q0 q1 q2 q3 l0 l1 l2 l3
  obtain ⟨q0, q1, q2, q3⟩ := id st.own
  obtain ⟨l0, l1, l2, l3⟩ := id st.lent
  have hf1 : ((nameS g y).toList == (nameS g y).toList) = true := by simp
  generalize idxN g.ts s = x1
  generalize idxB g.ts s = x2
  generalize idxN g.ns s = x3
  generalize idxB g.ns s = x4
  generalize nameB g y = x6
  generalize nameS g y = x5 at hf1 ⊢
  go_wp2_with fail
  refine (keptG _ _ _ _ _ _ lq _ _ _ _ _ _ g _ st.lrow st.row ho).mono ?_
  rintro e w9 ⟨rfl, hb⟩
  have hB9 := hB8.trans (hb.mono hB8.size)
  replace st := st.below hb
  clear hb hB8 q0 q1 q2 q3 l0 l1 l2 l3
  obtain ⟨q0, q1, q2, q3⟩ := id st.own
  obtain ⟨l0, l1, l2, l3⟩ := id st.lent
  go_wp2
  go_loopw [20] (fun i wr => ∃ k : Nat, k ≤ g.rs.length ∧ k ≤ 130 ∧ i = .int .i64 k ∧ St wr w.heap.size w1.heap.size ta na ra tc nc rc g1 c1 g2 c2 g3 c3 lq g p ∧ Below w.heap.size w wr) (fun i _ => g.rs.length - (intOf i).toNat)
  case atStart => exact ⟨0, by omega, by omega, rfl, st, hB9⟩
  case round =>
    clear st hB9 q0 q1 q2 q3 l0 l1 l2 l3
    obtain ⟨k, hk, hk2, rfl, st, hB9⟩ := hrel
    obtain ⟨q0, q1, q2, q3⟩ := id st.own
    obtain ⟨l0, l1, l2, l3⟩ := id st.lent
    by_cases hlt : k < g.rs.length
    · have hlt2 : (k : Int) < (g.rs.length : Int) := by omega
      by_cases hlt3 : k < 130
      · have hlt4 : (k : Int) < 130 := by omega
        obtain ⟨r, hr⟩ : ∃ r, g.rs[k]? = some r := ⟨g.rs[k], List.getElem?_eq_getElem hlt⟩
        obtain ⟨b, off, qa, qc, hra, d0, d1, hI⟩ := st.lrow.row.2.2 k r hr
        obtain ⟨b', off', qa', qc', hra', u0, u1, hI'⟩ := st.row.2.2 k r hr
        cases hra
        subst hra'
        simp only [Nat.zero_add] at d0 d1
        have hok := o5 r (List.mem_of_getElem? hr)
        have hren := renaming_any qa qc r _ hI hok
        clear hr hI
        go_wp2_with fail
        refine hren.mono ?_
        rintro e wa ⟨rfl, hba⟩
        have hBa := hB9.trans (hba.mono hB9.size)
        replace st := st.below hba
        have u0' := (hba.cell (cell_lt u0)).trans u0
        have u1' := (hba.cell (cell_lt u1)).trans u1
        have hren2 := rren_any qa' qc' r _ (hI'.below hba (Nat.le_refl _)) hok
        generalize renN r = y1 at *
        generalize renB r = y2 at *
        clear hren hI' hok hB9 q0 q1 q2 q3 l0 l1 l2 l3 d0 d1 u0 u1
        obtain ⟨q0, q1, q2, q3⟩ := id st.own
        obtain ⟨l0, l1, l2, l3⟩ := id st.lent
        go_wp2_with fail
        refine hren2.mono ?_
        rintro e wb ⟨rfl, hbb⟩
        have hBb := hBa.trans (hbb.mono hBa.size)
        replace st := st.below hbb
        clear hren2 q0 q1 q2 q3 l0 l1 l2 l3 u0' u1'
        go_wp2
        go_roundw
        case rel => exact ⟨k + 1, by omega, by omega, by go_num, st, hBb⟩
        case measure => simp [intOf]; omega
      · have hlt4 : ¬ (k : Int) < 130 := by omega
        cases hgd : decide ((checkG g).1 = 0) with
        | true =>
          have hgood := check_zero (of_decide_eq_true hgd)
          have n60 : g.ns.length ≤ 60 := by have h1 := (good_of (of_decide_eq_true hgd)).few; omega
          clear hgd
          go_wp2_with fail
          refine (above_good _ _ _ _ _ _ g p _ st.lrow.row ho (Nat.le_of_lt st.lrow.tc) (Nat.le_of_lt st.lrow.nc) st.errs hgood).mono ?_
          rintro e wa ⟨⟨ba, Va, rfl, hloa, hhia, hVa, hIa⟩, hba⟩
          have sta := st.below hba
          clear q0 q1 q2 q3 l0 l1 l2 l3
          obtain ⟨q0, q1, q2, q3⟩ := id sta.own
          obtain ⟨l0, l1, l2, l3⟩ := id sta.lent
          go_wp2_with fail
          refine (above_good _ _ _ _ _ _ g p _ sta.lrow.row ho (Nat.le_of_lt sta.lrow.tc) (Nat.le_of_lt sta.lrow.nc) sta.errs hgood).mono ?_
          rintro e wb ⟨⟨bb, Vb, rfl, hlob, hhib, hVb, hIb⟩, hbb⟩
          have stb := sta.below hbb
          clear q0 q1 q2 q3 l0 l1 l2 l3
          obtain ⟨q0, q1, q2, q3⟩ := id stb.own
          obtain ⟨l0, l1, l2, l3⟩ := id stb.lent
          go_wp2_with fail
          refine (rabove_good _ _ _ _ _ _ g _ stb.row ho hgood).mono ?_
          rintro e wc ⟨⟨bc, cc, Vc, rfl, hUc, hIc⟩, hbc⟩
          have hab : ba ≠ bb := by omega
          have Bb := hba.trans (hbb.mono hba.size)
          have Bc := Bb.trans (hbc.mono Bb.size)
          have hVa1 := ((hVa.congr (fun i hi => above_one hIa hIc i hi)).below hbb hhia).below hbc (by have := hbb.size; omega)
          have hVb1 := (hVb.congr (fun i hi => above_one hIb hIc i hi)).below hbc hhib
          have zc : ba < wc.heap.size ∧ bb < wc.heap.size := by have h1 := hbb.size; have h2 := hbc.size; omega
          have hss1 := sets_same (some ⟨ba, 0, none⟩) (some ⟨bc, 0, none⟩) g.ns.length g.ns.length cc Vc _ (vrow_row hVa1) hUc o2
          clear hVa hVb hIa hIb hIc hgood sta stb hba hbb hbc q0 q1 q2 q3 l0 l1 l2 l3
          go_wp2_with fail
          refine hss1.mono ?_
          rintro e wd ⟨rfl, hbd⟩
          have hVa2 := hVa1.below hbd zc.1
          have hVb2 := hVb1.below hbd zc.2
          have hss2 := sets_same (some ⟨bb, 0, none⟩) (some ⟨bc, 0, none⟩) g.ns.length g.ns.length cc Vc _ (vrow_row hVb2) (hUc.below hbd (Nat.le_refl _)) o2
          have zd : ba < wd.heap.size ∧ bb < wd.heap.size := by have h1 := hbd.size; omega
          have Bd := Bc.trans (hbd.mono Bc.size)
          clear hss1 hVa1 hVb1 hUc hbd Bc Bb
          go_wp2_with fail
          refine hss2.mono ?_
          rintro e we ⟨rfl, hbe⟩
          have hap := apart_two wr.heap.size g.ns.length ba bb Vc Vc we (hVa2.below hbe zd.1) (hVb2.below hbe zd.2) hab (by omega) hloa ⟨by omega, by have h1 := hbe.size; have h2 := Bd.size; omega, by have h1 := hbe.size; omega, by have h1 := hbe.size; omega⟩
          have Be := Bd.trans (hbe.mono Bd.size)
          clear hss2 hVa2 hVb2 hbe
          go_wp2_with fail
          refine hap.mono ?_
          rintro e wf ⟨rfl, hbf⟩
          have Bf := Be.trans hbf
          replace st := st.below Bf
          have hBf := hB9.trans (Bf.mono hB9.size)
          clear hap Be Bd Bf hbf hB9
          obtain ⟨q0, q1, q2, q3⟩ := id st.own
          obtain ⟨l0, l1, l2, l3⟩ := id st.lent
          go_wp2_with fail
          refine (keptG _ _ _ _ _ _ lq _ _ _ _ _ _ g _ st.lrow st.row ho).mono ?_
          rintro e wg ⟨rfl, hbg⟩
          have hBg := hBf.trans (hbg.mono hBf.size)
          replace st := st.below hbg
          clear q0 q1 q2 q3 l0 l1 l2 l3
          go_wp2_with fail
          refine (awake_any p _ st.errs).mono ?_
          rintro e wh ⟨rfl, hbh⟩
          go_wp2
          go_ret
          exact ⟨rfl, hBg.trans (hbh.mono hBg.size)⟩
        | false =>
          have hbad : (checkG g).1 ≠ 0 := of_decide_eq_false hgd
          clear hgd
          go_wp2_with fail
          refine (above_bad _ _ _ _ _ _ g p _ st.lrow.row ho (Nat.le_of_lt st.lrow.tc) (Nat.le_of_lt st.lrow.nc) st.errs hbad).mono ?_
          rintro e wa ⟨rfl, hba⟩
          have sta := st.below hba
          clear q0 q1 q2 q3 l0 l1 l2 l3
          obtain ⟨q0, q1, q2, q3⟩ := id sta.own
          obtain ⟨l0, l1, l2, l3⟩ := id sta.lent
          go_wp2_with fail
          refine (above_bad _ _ _ _ _ _ g p _ sta.lrow.row ho (Nat.le_of_lt sta.lrow.tc) (Nat.le_of_lt sta.lrow.nc) sta.errs hbad).mono ?_
          rintro e wb ⟨rfl, hbb⟩
          have stb := sta.below hbb
          clear q0 q1 q2 q3 l0 l1 l2 l3
          obtain ⟨q0, q1, q2, q3⟩ := id stb.own
          obtain ⟨l0, l1, l2, l3⟩ := id stb.lent
          go_wp2_with fail
          refine (rabove_bad _ _ _ _ _ _ g _ stb.row ho hbad).mono ?_
          rintro e wc ⟨rfl, hbc⟩
          have Bb := hba.trans (hbb.mono hba.size)
          have Bc := Bb.trans (hbc.mono Bb.size)
          have hss := fun W : World => sets_same none none 0 0 0 (fun _ => 0) W (fun i hi => absurd hi (by omega)) (fun i hi => absurd hi (by omega)) (by omega)
          clear hbad sta stb hba hbb hbc q0 q1 q2 q3 l0 l1 l2 l3
          go_wp2_with fail
          refine (hss _).mono ?_
          rintro e wd ⟨rfl, hbd⟩
          have Bd := Bc.trans (hbd.mono Bc.size)
          go_wp2_with fail
          refine (hss _).mono ?_
          rintro e we ⟨rfl, hbe⟩
          have Be := Bd.trans (hbe.mono Bd.size)
          have hap := apart_none wr.heap.size we Be.size
          clear hss hbe hbd
          go_wp2_with fail
          refine hap.mono ?_
          rintro e wf ⟨rfl, hbf⟩
          have Bf := Be.trans hbf
          replace st := st.below Bf
          have hBf := hB9.trans (Bf.mono hB9.size)
          clear hap Be Bd Bf hbf hB9 Bc Bb
          obtain ⟨q0, q1, q2, q3⟩ := id st.own
          obtain ⟨l0, l1, l2, l3⟩ := id st.lent
          go_wp2_with fail
          refine (keptG _ _ _ _ _ _ lq _ _ _ _ _ _ g _ st.lrow st.row ho).mono ?_
          rintro e wg ⟨rfl, hbg⟩
          have hBg := hBf.trans (hbg.mono hBf.size)
          replace st := st.below hbg
          clear q0 q1 q2 q3 l0 l1 l2 l3
          go_wp2_with fail
          refine (awake_any p _ st.errs).mono ?_
          rintro e wh ⟨rfl, hbh⟩
          go_wp2
          go_ret
          exact ⟨rfl, hBg.trans (hbh.mono hBg.size)⟩
    · have hnl : ¬ (k : Int) < (g.rs.length : Int) := by omega
      cases hgd : decide ((checkG g).1 = 0) with
      | true =>
        have hgood := check_zero (of_decide_eq_true hgd)
        have n60 : g.ns.length ≤ 60 := by have h1 := (good_of (of_decide_eq_true hgd)).few; omega
        clear hgd
        go_wp2_with fail
        refine (above_good _ _ _ _ _ _ g p _ st.lrow.row ho (Nat.le_of_lt st.lrow.tc) (Nat.le_of_lt st.lrow.nc) st.errs hgood).mono ?_
        rintro e wa ⟨⟨ba, Va, rfl, hloa, hhia, hVa, hIa⟩, hba⟩
        have sta := st.below hba
        clear q0 q1 q2 q3 l0 l1 l2 l3
        obtain ⟨q0, q1, q2, q3⟩ := id sta.own
        obtain ⟨l0, l1, l2, l3⟩ := id sta.lent
        go_wp2_with fail
        refine (above_good _ _ _ _ _ _ g p _ sta.lrow.row ho (Nat.le_of_lt sta.lrow.tc) (Nat.le_of_lt sta.lrow.nc) sta.errs hgood).mono ?_
        rintro e wb ⟨⟨bb, Vb, rfl, hlob, hhib, hVb, hIb⟩, hbb⟩
        have stb := sta.below hbb
        clear q0 q1 q2 q3 l0 l1 l2 l3
        obtain ⟨q0, q1, q2, q3⟩ := id stb.own
        obtain ⟨l0, l1, l2, l3⟩ := id stb.lent
        go_wp2_with fail
        refine (rabove_good _ _ _ _ _ _ g _ stb.row ho hgood).mono ?_
        rintro e wc ⟨⟨bc, cc, Vc, rfl, hUc, hIc⟩, hbc⟩
        have hab : ba ≠ bb := by omega
        have Bb := hba.trans (hbb.mono hba.size)
        have Bc := Bb.trans (hbc.mono Bb.size)
        have hVa1 := ((hVa.congr (fun i hi => above_one hIa hIc i hi)).below hbb hhia).below hbc (by have := hbb.size; omega)
        have hVb1 := (hVb.congr (fun i hi => above_one hIb hIc i hi)).below hbc hhib
        have zc : ba < wc.heap.size ∧ bb < wc.heap.size := by have h1 := hbb.size; have h2 := hbc.size; omega
        have hss1 := sets_same (some ⟨ba, 0, none⟩) (some ⟨bc, 0, none⟩) g.ns.length g.ns.length cc Vc _ (vrow_row hVa1) hUc o2
        clear hVa hVb hIa hIb hIc hgood sta stb hba hbb hbc q0 q1 q2 q3 l0 l1 l2 l3
        go_wp2_with fail
        refine hss1.mono ?_
        rintro e wd ⟨rfl, hbd⟩
        have hVa2 := hVa1.below hbd zc.1
        have hVb2 := hVb1.below hbd zc.2
        have hss2 := sets_same (some ⟨bb, 0, none⟩) (some ⟨bc, 0, none⟩) g.ns.length g.ns.length cc Vc _ (vrow_row hVb2) (hUc.below hbd (Nat.le_refl _)) o2
        have zd : ba < wd.heap.size ∧ bb < wd.heap.size := by have h1 := hbd.size; omega
        have Bd := Bc.trans (hbd.mono Bc.size)
        clear hss1 hVa1 hVb1 hUc hbd Bc Bb
        go_wp2_with fail
        refine hss2.mono ?_
        rintro e we ⟨rfl, hbe⟩
        have hap := apart_two wr.heap.size g.ns.length ba bb Vc Vc we (hVa2.below hbe zd.1) (hVb2.below hbe zd.2) hab (by omega) hloa ⟨by omega, by have h1 := hbe.size; have h2 := Bd.size; omega, by have h1 := hbe.size; omega, by have h1 := hbe.size; omega⟩
        have Be := Bd.trans (hbe.mono Bd.size)
        clear hss2 hVa2 hVb2 hbe
        go_wp2_with fail
        refine hap.mono ?_
        rintro e wf ⟨rfl, hbf⟩
        have Bf := Be.trans hbf
        replace st := st.below Bf
        have hBf := hB9.trans (Bf.mono hB9.size)
        clear hap Be Bd Bf hbf hB9
        obtain ⟨q0, q1, q2, q3⟩ := id st.own
        obtain ⟨l0, l1, l2, l3⟩ := id st.lent
        go_wp2_with fail
        refine (keptG _ _ _ _ _ _ lq _ _ _ _ _ _ g _ st.lrow st.row ho).mono ?_
        rintro e wg ⟨rfl, hbg⟩
        have hBg := hBf.trans (hbg.mono hBf.size)
        replace st := st.below hbg
        clear q0 q1 q2 q3 l0 l1 l2 l3
        go_wp2_with fail
        refine (awake_any p _ st.errs).mono ?_
        rintro e wh ⟨rfl, hbh⟩
        go_wp2
        go_ret
        exact ⟨rfl, hBg.trans (hbh.mono hBg.size)⟩
      | false =>
        have hbad : (checkG g).1 ≠ 0 := of_decide_eq_false hgd
        clear hgd
        go_wp2_with fail
        refine (above_bad _ _ _ _ _ _ g p _ st.lrow.row ho (Nat.le_of_lt st.lrow.tc) (Nat.le_of_lt st.lrow.nc) st.errs hbad).mono ?_
        rintro e wa ⟨rfl, hba⟩
        have sta := st.below hba
        clear q0 q1 q2 q3 l0 l1 l2 l3
        obtain ⟨q0, q1, q2, q3⟩ := id sta.own
        obtain ⟨l0, l1, l2, l3⟩ := id sta.lent
        go_wp2_with fail
        refine (above_bad _ _ _ _ _ _ g p _ sta.lrow.row ho (Nat.le_of_lt sta.lrow.tc) (Nat.le_of_lt sta.lrow.nc) sta.errs hbad).mono ?_
        rintro e wb ⟨rfl, hbb⟩
        have stb := sta.below hbb
        clear q0 q1 q2 q3 l0 l1 l2 l3
        obtain ⟨q0, q1, q2, q3⟩ := id stb.own
        obtain ⟨l0, l1, l2, l3⟩ := id stb.lent
        go_wp2_with fail
        refine (rabove_bad _ _ _ _ _ _ g _ stb.row ho hbad).mono ?_
        rintro e wc ⟨rfl, hbc⟩
        have Bb := hba.trans (hbb.mono hba.size)
        have Bc := Bb.trans (hbc.mono Bb.size)
        have hss := fun W : World => sets_same none none 0 0 0 (fun _ => 0) W (fun i hi => absurd hi (by omega)) (fun i hi => absurd hi (by omega)) (by omega)
        clear hbad sta stb hba hbb hbc q0 q1 q2 q3 l0 l1 l2 l3
        go_wp2_with fail
        refine (hss _).mono ?_
        rintro e wd ⟨rfl, hbd⟩
        have Bd := Bc.trans (hbd.mono Bc.size)
        go_wp2_with fail
        refine (hss _).mono ?_
        rintro e we ⟨rfl, hbe⟩
        have Be := Bd.trans (hbe.mono Bd.size)
        have hap := apart_none wr.heap.size we Be.size
        clear hss hbe hbd
        go_wp2_with fail
        refine hap.mono ?_
        rintro e wf ⟨rfl, hbf⟩
        have Bf := Be.trans hbf
        replace st := st.below Bf
        have hBf := hB9.trans (Bf.mono hB9.size)
        clear hap Be Bd Bf hbf hB9 Bc Bb
        obtain ⟨q0, q1, q2, q3⟩ := id st.own
        obtain ⟨l0, l1, l2, l3⟩ := id st.lent
        go_wp2_with fail
        refine (keptG _ _ _ _ _ _ lq _ _ _ _ _ _ g _ st.lrow st.row ho).mono ?_
        rintro e wg ⟨rfl, hbg⟩
        have hBg := hBf.trans (hbg.mono hBf.size)
        replace st := st.below hbg
        clear q0 q1 q2 q3 l0 l1 l2 l3
        go_wp2_with fail
        refine (awake_any p _ st.errs).mono ?_
        rintro e wh ⟨rfl, hbh⟩
        go_wp2
        go_ret
        exact ⟨rfl, hBg.trans (hbh.mono hBg.size)⟩

end Go.Proofs.YtpnnfocmjkccoaaDoor.GramNamesW
