/-
  The text of a symbol, by the program and by the document.
-/
import Derived.Test.YtkbljcfkokiceaaDoorShowWord
import Derived.Test.YtkbljcfkokiceaaDoorGramRef
namespace Go.Proofs.YtkbljcfkokiceaaDoor.ShowSym
open Go.RowKit Go.Proofs.YtkbljcfkokiceaaDoor.GramMath Go.Proofs.YtkbljcfkokiceaaDoor.GramRow Go.Proofs.YtkbljcfkokiceaaDoor.GramOne Go.Proofs.YtkbljcfkokiceaaDoor.GramName Go.Proofs.YtkbljcfkokiceaaDoor.ShowMath Go.Proofs.YtkbljcfkokiceaaDoor.ShowWord
set_option linter.unusedVariables false

/-- A box that holds a grammar's four parts. -/
def GBox (w : World) (b : Nat) (ta na ra : Option Addr) (tc nc rc : Nat) (g : G) : Prop :=
  w.cell? ⟨b, 0, none⟩ = some (.slice ta g.ts.length tc) ∧ w.cell? ⟨b, 1, none⟩ = some (.slice na g.ns.length nc) ∧ w.cell? ⟨b, 2, none⟩ = some (.int .i64 g.ax) ∧ w.cell? ⟨b, 3, none⟩ = some (.slice ra g.rs.length rc)

theorem GBox.new (w : World) (ta na ra : Option Addr) (tc nc rc : Nat) (g : G) (t : TypeId) : GBox (w.alloc (.cells #[.slice ta g.ts.length tc, .slice na g.ns.length nc, .int .i64 g.ax, .slice ra g.rs.length rc] t)) w.heap.size ta na ra tc nc rc g := by
  refine ⟨?_, ?_, ?_, ?_⟩ <;> simp [go_sem]

theorem GBox.below {w w' : World} {b B : Nat} {ta na ra : Option Addr} {tc nc rc : Nat} {g : G} (h : GBox w b ta na ra tc nc rc g) (hb : Below B w w') (hB : w.heap.size ≤ B) : GBox w' b ta na ra tc nc rc g :=
  have hl : b < B := Nat.lt_of_lt_of_le (cell_lt h.1) hB
  ⟨(hb.cell (p := ⟨b, 0, none⟩) hl).trans h.1, (hb.cell (p := ⟨b, 1, none⟩) hl).trans h.2.1, (hb.cell (p := ⟨b, 2, none⟩) hl).trans h.2.2.1, (hb.cell (p := ⟨b, 3, none⟩) hl).trans h.2.2.2⟩

theorem idxB_mem (ss : List ByteArray) (s : ByteArray) : idxB ss s = memB s ss := by
  rcases idx_cases ss s with ⟨h1, h2⟩ | ⟨k, h1, _, _, h2⟩
  · unfold idxB; rw [h1, h2]; rfl
  · unfold idxB; rw [h1, h2]; simp

set_option maxRecDepth 100000 in
set_option maxHeartbeats 1000000 in
theorem termText_any (ta na ra : Option Addr) (tc nc rc : Nat) (g : G) (s : ByteArray) (w : World) (hN : SRow w na g.ns) (hm : g.ns.length ≤ 1125899906842624) (hs : 4 * s.size + 4 ≤ 140737488355328) :
    Calls Tryd.prog 42 #[.agg #[.slice ta g.ts.length tc, .slice na g.ns.length nc, .int .i64 g.ax, .slice ra g.rs.length rc], .string s] w fun e w' => e = .returned (.string (tmS g s)) ∧ Below w.heap.size w w' := by
  have hB1 : Below w.heap.size w (w.alloc (.cells #[.slice ta g.ts.length tc, .slice na g.ns.length nc, .int .i64 g.ax, .slice ra g.rs.length rc] 25)) := (Below.refl _ _).alloc (Nat.le_refl _) _
  have hn := nontermF_any ta na ra tc nc rc g s _ (hN.below hB1 (Nat.le_refl _)) hm
  rw [idxB_mem] at hn
  have hi := fun W => isWord_any s W (by omega)
  have hq := fun W => WordsBytes.quote_any s W (by omega)
  change ∀ W, Calls Tryd.prog 63 #[.string s] W fun e w' => e = .returned (.string (quoteS s)) ∧ Below W.heap.size W w' at hq
  cases hM : memB s g.ns with
  | true =>
    rw [hM] at hn
    have E : Hid (tmS g s = quoteS s) := by show _ = _; unfold tmS tmB; rw [hM]; rfl
    clear hi hM
    go_enter Tryd.func42, Tryd.ntmps42
    go_wp2_with fail
    refine hn.mono ?_
    rintro e w1 ⟨rfl, hb1⟩
    go_wp2_with fail
    refine (hq _).mono ?_
    rintro e w2 ⟨rfl, hb2⟩
    go_wp2
    go_ret
    exact ⟨ret_str E.out.symm, hB1.trans ((hb1.mono (by simp)).trans (hb2.mono (Nat.le_trans (by simp) hb1.size)))⟩
  | false =>
    rw [hM] at hn
    cases hP : isW s with
    | true =>
      rw [hP] at hi
      have E : Hid (tmS g s = s) := by show _ = _; unfold tmS tmB; rw [hM, hP]; rfl
      clear hM hP hq
      go_enter Tryd.func42, Tryd.ntmps42
      go_wp2_with fail
      refine hn.mono ?_
      rintro e w1 ⟨rfl, hb1⟩
      go_wp2_with fail
      refine (hi _).mono ?_
      rintro e w2 ⟨rfl, hw2⟩
      obtain rfl := hw2.symm
      go_wp2
      go_ret
      exact ⟨ret_str E.out.symm, hB1.trans (hb1.mono (by simp))⟩
    | false =>
      rw [hP] at hi
      have E : Hid (tmS g s = quoteS s) := by show _ = _; unfold tmS tmB; rw [hM, hP]; rfl
      clear hM hP
      go_enter Tryd.func42, Tryd.ntmps42
      go_wp2_with fail
      refine hn.mono ?_
      rintro e w1 ⟨rfl, hb1⟩
      go_wp2_with fail
      refine (hi _).mono ?_
      rintro e w2 ⟨rfl, hw2⟩
      obtain rfl := hw2.symm
      go_wp2_with fail
      refine (hq _).mono ?_
      rintro e w2 ⟨rfl, hb2⟩
      go_wp2
      go_ret
      exact ⟨ret_str E.out.symm, hB1.trans ((hb1.mono (by simp)).trans (hb2.mono (Nat.le_trans (by simp) hb1.size)))⟩

theorem symS_end (g : G) : symS g (g.ts.length : Int) = ⟨#[36]⟩ := by unfold symS; rw [if_pos rfl]
theorem symS_none {g : G} {x : Int} (h : x ≠ (g.ts.length : Int)) (h2 : nameB g x = false) : symS g x = ⟨#[63]⟩ := by
  unfold nameB at h2
  rw [Bool.or_eq_false_iff] at h2
  unfold symS
  rw [if_neg h, if_neg (by rw [h2.1]; decide), if_neg (by rw [h2.2]; decide)]
theorem symS_nt {g : G} {x : Int} (h : x < 0) (h2 : nameB g x = true) : symS g x = ntS (nameS g x) := by
  have h1 : leftB g.ts.length x = false := by simp [leftB]; omega
  unfold nameB at h2
  rw [h1, Bool.false_or] at h2
  unfold symS nameS
  rw [if_neg (by omega)]
  simp [h1, h2]
theorem symS_tm {g : G} {x : Int} (h : x ≠ (g.ts.length : Int)) (h0 : ¬ x < 0) (h2 : nameB g x = true) : symS g x = tmS g (nameS g x) := by
  have h1 : leftB g.ns.length (-1 - x) = false := by simp [leftB]; omega
  unfold nameB at h2
  rw [h1, Bool.or_false] at h2
  unfold symS nameS
  rw [if_neg h]
  simp [h2]
theorem nameS_le {g : G} {x : Int} {N : Nat} (h : ∀ s ∈ g.ts, s.size ≤ N) (h2 : ∀ s ∈ g.ns, s.size ≤ N) : (nameS g x).size ≤ N := by
  unfold nameS
  split
  · rw [List.getD_eq_getElem?_getD]
    cases e : g.ts[x.toNat]? with
    | none => exact Nat.zero_le _
    | some y => exact h y (List.mem_of_getElem? e)
  · split
    · rw [List.getD_eq_getElem?_getD]
      cases e : g.ns[(-1 - x).toNat]? with
      | none => exact Nat.zero_le _
      | some y => exact h2 y (List.mem_of_getElem? e)
    · exact Nat.zero_le _

/-- No name is so long that its quotes were too long. -/
def Short (g : G) : Prop := (∀ s ∈ g.ts, s.size ≤ 35184372088831) ∧ ∀ s ∈ g.ns, s.size ≤ 35184372088831

set_option maxRecDepth 100000 in
set_option maxHeartbeats 2000000 in
theorem symbol_any (ta na ra : Option Addr) (tc nc rc : Nat) (g : G) (x : Int) (w : World) (hT : SRow w ta g.ts) (hN : SRow w na g.ns) (ho : okG g) (hx : I64 x) (hz : Short g) :
    Calls Tryd.prog 17 #[.agg #[.slice ta g.ts.length tc, .slice na g.ns.length nc, .int .i64 g.ax, .slice ra g.rs.length rc], .int .i64 x] w fun e w' => e = .returned (.string (symS g x)) ∧ Below w.heap.size w w' := by
  have hB1 : Below w.heap.size w (w.alloc (.cells #[.slice ta g.ts.length tc, .slice na g.ns.length nc, .int .i64 g.ax, .slice ra g.rs.length rc] 25)) := (Below.refl _ _).alloc (Nat.le_refl _) _
  have hn := name_any ta na ra tc nc rc g x _ (hT.below hB1 (Nat.le_refl _)) (hN.below hB1 (Nat.le_refl _)) ho hx
  have hN1 := hN.below hB1 (Nat.le_refl _)
  have hbox := GBox.new w ta na ra tc nc rc g 25
  have hsz := nameS_le (x := x) hz.1 hz.2
  by_cases h1 : x = (g.ts.length : Int)
  · have E : Hid (symS g x = ⟨#[36]⟩) := by show _ = _; rw [h1]; exact symS_end g
    have h2 : (x == (g.ts.length : Int)) = true := by simpa using h1
    clear h1
    go_enter Tryd.func17, Tryd.ntmps17
    go_wp2_with fail
    refine hn.mono ?_
    rintro e w1 ⟨rfl, hb1⟩
    obtain ⟨c0, c1, c2, c3⟩ := hbox.below hb1 (Nat.le_refl _)
    clear hn hT hN
    go_wp2
    go_ret
    exact ⟨ret_str E.out.symm, hB1.trans (hb1.mono (by simp))⟩
  · have h2 : (x == (g.ts.length : Int)) = false := by simpa using h1
    cases hB : nameB g x with
    | false =>
      rw [hB] at hn
      have E : Hid (symS g x = ⟨#[63]⟩) := symS_none h1 hB
      go_enter Tryd.func17, Tryd.ntmps17
      go_wp2_with fail
      refine hn.mono ?_
      rintro e w1 ⟨rfl, hb1⟩
      obtain ⟨c0, c1, c2, c3⟩ := hbox.below hb1 (Nat.le_refl _)
      clear h1 hn hT hN
      go_wp2
      go_ret
      exact ⟨ret_str E.out.symm, hB1.trans (hb1.mono (by simp))⟩
    | true =>
      rw [hB] at hn
      by_cases h0 : x < 0
      · have E : Hid (symS g x = ntS (nameS g x)) := symS_nt h0 hB
        have ht := fun W => nontermText_any (nameS g x) W (by omega)
        generalize nameS g x = y at *
        go_enter Tryd.func17, Tryd.ntmps17
        go_wp2_with fail
        refine hn.mono ?_
        rintro e w1 ⟨rfl, hb1⟩
        obtain ⟨c0, c1, c2, c3⟩ := hbox.below hb1 (Nat.le_refl _)
        clear h1 hn hT hN
        go_wp2_with fail
        refine (ht _).mono ?_
        rintro e w2 ⟨rfl, hb2⟩
        go_wp2
        go_ret
        exact ⟨ret_str E.out.symm, hB1.trans ((hb1.mono (by simp)).trans (hb2.mono (Nat.le_trans (by simp) hb1.size)))⟩
      · have E : Hid (symS g x = tmS g (nameS g x)) := symS_tm h1 h0 hB
        have ht := fun W h => termText_any ta na ra tc nc rc g (nameS g x) W h ho.2.1 (by omega)
        generalize nameS g x = y at *
        go_enter Tryd.func17, Tryd.ntmps17
        go_wp2_with fail
        refine hn.mono ?_
        rintro e w1 ⟨rfl, hb1⟩
        obtain ⟨c0, c1, c2, c3⟩ := hbox.below hb1 (Nat.le_refl _)
        have hN2 := hN1.below hb1 (Nat.le_refl _)
        clear h1 hn hT hN hN1
        go_wp2_with fail
        refine (ht _ hN2).mono ?_
        rintro e w2 ⟨rfl, hb2⟩
        go_wp2
        go_ret
        exact ⟨ret_str E.out.symm, hB1.trans ((hb1.mono (by simp)).trans (hb2.mono (Nat.le_trans (by simp) hb1.size)))⟩

end Go.Proofs.YtkbljcfkokiceaaDoor.ShowSym
