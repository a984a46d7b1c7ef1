/-
  The walk of ShowParts: it answers true for every grammar, numbers and row of numbers, and writes nothing that was there.
-/
import Derived.Test.YtkbljcfkokiceaaDoorShowRRule
import Derived.Test.YtkbljcfkokiceaaDoorGramLentG
import Derived.Test.YtkbljcfkokiceaaDoorGramOpenL
import Derived.Test.YtkbljcfkokiceaaDoorGramRuleOf
namespace Go.Proofs.YtkbljcfkokiceaaDoor.ShowPartsW
open Go.RowKit Go.Proofs.YtkbljcfkokiceaaDoor.GramMath Go.Proofs.YtkbljcfkokiceaaDoor.GramRow Go.Proofs.YtkbljcfkokiceaaDoor.GramOne Go.Proofs.YtkbljcfkokiceaaDoor.GramName Go.Proofs.YtkbljcfkokiceaaDoor.GramLent Go.Proofs.YtkbljcfkokiceaaDoor.GramErrs Go.Proofs.YtkbljcfkokiceaaDoor.GramSame Go.Proofs.YtkbljcfkokiceaaDoor.GramLess Go.Proofs.YtkbljcfkokiceaaDoor.ShowMath Go.Proofs.YtkbljcfkokiceaaDoor.ShowWord Go.Proofs.YtkbljcfkokiceaaDoor.ShowSym
set_option linter.unusedVariables false

/-- What lies in memory throughout: the grammar and the row as they came in, what is lent of them, the errors. -/
structure St (w : World) (b1 b2 : Nat) (ta na ra : Option Addr) (tc nc rc : Nat) (g1 c1 g2 c2 g3 c3 : Nat) (lq : List Q) (g : G) (a : Option Addr) (gi : Nat) (l : List Int) (p : Nat → Addr) : Prop where
  own : GBox w b1 ta na ra tc nc rc g
  lent : GBox w b2 (some ⟨g1, 0, none⟩) (some ⟨g2, 0, none⟩) (some ⟨g3, 0, none⟩) c1 c2 c3 g
  row : GRow w ta na ra g
  lrow : LentG w g1 c1 g2 c2 g3 c3 lq g
  ints : IRow w a l
  lints : IRow w (some ⟨gi, 0, none⟩) (l ++ [-7171])
  errs : Errs w p

theorem St.below {w w' : World} {b1 b2 : Nat} {ta na ra : Option Addr} {tc nc rc : Nat} {g1 c1 g2 c2 g3 c3 : Nat} {lq : List Q} {g : G} {a : Option Addr} {gi : Nat} {l : List Int} {p : Nat → Addr} (h : St w b1 b2 ta na ra tc nc rc g1 c1 g2 c2 g3 c3 lq g a gi l p) (hb : Below w.heap.size w w') : St w' b1 b2 ta na ra tc nc rc g1 c1 g2 c2 g3 c3 lq g a gi l p :=
  ⟨h.own.below hb (Nat.le_refl _), h.lent.below hb (Nat.le_refl _), h.row.below hb (Nat.le_refl _), h.lrow.below hb (Nat.le_refl _), h.ints.below hb (Nat.le_refl _), h.lints.below hb (Nat.le_refl _), h.errs.below hb (Nat.le_refl _)⟩

theorem rulesK_le (t n : Nat) : ∀ (rs : List R) (i : Nat), (rulesK t n rs i).1 ≤ 15
  | [], _ => by simp [rulesK]
  | r :: l, i => by
    unfold rulesK
    by_cases h : ruleK t n r = 0
    · rw [if_pos h]; exact rulesK_le t n l (i + 1)
    · rw [if_neg h]
      show ruleK t n r ≤ 15
      rcases ruleK_cases t n r with h | h | h <;> omega

theorem checkG_le (g : G) : (checkG g).1 ≤ 15 := by
  unfold checkG
  split
  · decide
  · split
    · decide
    · split
      · decide
      · exact rulesK_le _ _ _ _

theorem ruZ_le (g : G) (n : Int) : (ruZ g n).1 ≤ 15 := by
  unfold ruZ
  split
  · split <;> decide
  · exact checkG_le g

set_option maxRecDepth 100000 in
set_option maxHeartbeats 8000000 in
theorem walk (ta na ra a : Option Addr) (tc nc rc c : Nat) (g : G) (n y : Int) (l : List Int) (p : Nat → Addr) (w : World) (hL : Lendable w ta na ra tc nc g) (ho : okG g) (hSh : Short g) (hn : I64 n) (hy : I64 y) (hI : IRow w a l) (hl : ∀ x ∈ l, I64 x) (hm : l.length * 16 ≤ 140737488351232) (hnil : a = none → l.length = 0 ∧ c = 0) (hlen : (symsL g l).length ≤ 140737488355328) (hE : Errs w p) :
    Calls Tryd.prog 4 #[.agg #[.slice ta g.ts.length tc, .slice na g.ns.length nc, .int .i64 g.ax, .slice ra g.rs.length rc], .int .i64 n, .int .i64 y, .slice a l.length c] w fun e w' => e = .returned (.bool true) ∧ Below w.heap.size w w' := by
  have hB0 : Below w.heap.size w (w.alloc (.cells #[.slice ta g.ts.length tc, .slice na g.ns.length nc, .int .i64 g.ax, .slice ra g.rs.length rc] 25)) := (Below.refl _ _).alloc (Nat.le_refl _) _
  have hL0 : Lendable (w.alloc (.cells #[.slice ta g.ts.length tc, .slice na g.ns.length nc, .int .i64 g.ax, .slice ra g.rs.length rc] 25)) ta na ra tc nc g := ⟨hL.ts.below hB0 (Nat.le_refl _), hL.ns.below hB0 (Nat.le_refl _), hL.rs.below hB0 (Nat.le_refl _), hL.tn, hL.nn, hL.tm, hL.nm, hL.rm, hL.each⟩
  have hlend := lentG ta na ra tc nc rc g _ hL0
  have hrow0 := GramOpen.lendable_row hL0
  have hbox0 := GBox.new w ta na ra tc nc rc g 25
  have hE0 := hE.below hB0 (Nat.le_refl _)
  have hI0 := hI.below hB0 (Nat.le_refl _)
  have hz : (w.alloc (.cells #[.slice ta g.ts.length tc, .slice na g.ns.length nc, .int .i64 g.ax, .slice ra g.rs.length rc] 25)).heap.size = w.heap.size + 1 := by simp
  clear hL hL0 hE hI
  go_enter Tryd.func4, Tryd.ntmps4
  go_wp2_with fail
  refine hlend.mono ?_
  rintro e w1 ⟨⟨g1, c1, g2, c2, g3, c3, lq, rfl, hlg⟩, hb1⟩
  have hB1 : Below w.heap.size w w1 := hB0.trans (hb1.mono (by omega))
  have hbox1 := hbox0.below hb1 (Nat.le_refl _)
  have hrow1 := hrow0.below hb1 (Nat.le_refl _)
  have hE1 := hE0.below hb1 (Nat.le_refl _)
  have hI1 := hI0.below hb1 (Nat.le_refl _)
  go_wp2_with fail
  refine (lentI a c l w1 hI1 (by omega) hnil).mono ?_
  rintro e w2 ⟨⟨gi, ci, rfl, hgc, hcm, hgs, hli⟩, hb2⟩
  have hB2 : Below w.heap.size w w2 := hB1.trans (hb2.mono hB1.size)
  have hbl : Below w2.heap.size w2 (w2.alloc (.cells #[.slice (some ⟨g1, 0, none⟩) g.ts.length c1, .slice (some ⟨g2, 0, none⟩) g.ns.length c2, .int .i64 g.ax, .slice (some ⟨g3, 0, none⟩) g.rs.length c3] 25)) := (Below.refl _ _).alloc (Nat.le_refl _) _
  have st : St (w2.alloc (.cells #[.slice (some ⟨g1, 0, none⟩) g.ts.length c1, .slice (some ⟨g2, 0, none⟩) g.ns.length c2, .int .i64 g.ax, .slice (some ⟨g3, 0, none⟩) g.rs.length c3] 25)) w.heap.size w2.heap.size ta na ra tc nc rc g1 c1 g2 c2 g3 c3 lq g a gi l p :=
    ⟨(hbox1.below hb2 (Nat.le_refl _)).below hbl (Nat.le_refl _), GBox.new w2 _ _ _ _ _ _ g _, (hrow1.below hb2 (Nat.le_refl _)).below hbl (Nat.le_refl _), (hlg.below hb2 (Nat.le_refl _)).below hbl (Nat.le_refl _), (hI1.below hb2 (Nat.le_refl _)).below hbl (Nat.le_refl _), hli.below hbl (Nat.le_refl _), (hE1.below hb2 (Nat.le_refl _)).below hbl (Nat.le_refl _)⟩
  have hB3 : Below w.heap.size w (w2.alloc (.cells #[.slice (some ⟨g1, 0, none⟩) g.ts.length c1, .slice (some ⟨g2, 0, none⟩) g.ns.length c2, .int .i64 g.ax, .slice (some ⟨g3, 0, none⟩) g.rs.length c3] 25)) := hB2.alloc hB2.size _
  have htc := hlg.tc
  have hnc := hlg.nc
  clear hlend hrow0 hbox0 hE0 hlg hbox1 hrow1 hE1 hI0 hI1 hbl hB0 hB1 hB2 hb1 hb2 hz hli
  obtain ⟨q0, q1, q2, q3⟩ := id st.own
  obtain ⟨l0, l1, l2, l3⟩ := id st.lent
  go_wp2_with fail
  refine (rule_any _ _ _ _ _ _ g n p _ st.lrow.row ho (Nat.le_of_lt htc) (Nat.le_of_lt hnc) st.errs.sents hn).mono ?_
  rintro e w4 ⟨⟨v, rfl, hv⟩, hb⟩
  have hB4 := hB3.trans (hb.mono hB3.size)
  replace st := st.below hb
  clear hb hB3 q0 q1 q2 q3 l0 l1 l2 l3
  obtain ⟨q0, q1, q2, q3⟩ := id st.own
  obtain ⟨l0, l1, l2, l3⟩ := id st.lent
  go_wp2_with fail
  refine (rrule_any _ _ _ _ _ _ g n _ st.row ho hn).mono ?_
  rintro e w5 ⟨rfl, hb⟩
  have hB5 := hB4.trans (hb.mono hB4.size)
  replace st := st.below hb
  have hv5 := hv.below hb (Nat.le_refl _)
  clear hb hB4 q0 q1 q2 q3 l0 l1 l2 l3 hv
  go_wp2_with fail
  obtain ⟨q0, q1, q2, q3⟩ := id st.own
  obtain ⟨l0, l1, l2, l3⟩ := id st.lent
  have q0' := In.cell q0
  have q1' := In.cell q1
  have q2' := In.cell q2
  have q3' := In.cell q3
  have l0' := In.cell l0
  have l1' := In.cell l1
  have l2' := In.cell l2
  have l3' := In.cell l3
  have hne : Nonempty (In w5) := ⟨⟨w5, Below.refl _ _⟩⟩
  have hle := ruZ_le g n
  have es := str_eq (ruT g n)
  have es2 := str_eq (symS g y)
  generalize ruT g n = T at *
  clear q0 q1 q2 q3 l0 l1 l2 l3
  refine wp_region_in (by kernel_rfl) (by kernel_rfl) ?_
  repeat (go_big_quiet_step ((first
    | (go_at_call 10; refine (kind_ck _ p (ruZ g n) _ v (st.errs.below (In.h _) (Nat.le_refl _)) hle (hv5.below (In.h _) (Nat.le_refl _))).mono ?_; rintro e w6 ⟨rfl, hb6⟩; exact ⟨rfl, In.step _ hb6⟩)
    | (go_at_call 17; refine (symbol_any _ _ _ _ _ _ g y _ (st.lrow.row.1.below (In.h _) (Nat.le_refl _)) (st.lrow.row.2.1.below (In.h _) (Nat.le_refl _)) ho hy hSh).mono ?_; rintro e w6 ⟨rfl, hb6⟩; exact ⟨rfl, In.step _ hb6⟩)
    | (go_at_call 18; refine (rsymbol_any _ _ _ _ _ _ g y _ (st.row.1.below (In.h _) (Nat.le_refl _)) (st.row.2.1.below (In.h _) (Nat.le_refl _)) ho hy hSh).mono ?_; rintro e w6 ⟨rfl, hb6⟩; exact ⟨rfl, In.step _ hb6⟩))))
  refine wpQuiet_nil ?_
  rintro _ ⟨u, rfl⟩
  go_wp2_with fail
  have hB6 := hB5.trans (u.h.mono hB5.size)
  replace st := st.below u.h
  obtain ⟨W, hW⟩ := u
  clear q0' q1' q2' q3' l0' l1' l2' l3' hne hv5 es es2
  dsimp only at st hB6 ⊢
  obtain ⟨q0, q1, q2, q3⟩ := id st.own
  obtain ⟨l0, l1, l2, l3⟩ := id st.lent
  have q0' := In.cell q0
  have q1' := In.cell q1
  have q2' := In.cell q2
  have q3' := In.cell q3
  have l0' := In.cell l0
  have l1' := In.cell l1
  have l2' := In.cell l2
  have l3' := In.cell l3
  have hne : Nonempty (In W) := ⟨⟨W, Below.refl _ _⟩⟩
  have es := str_eq (symsS g l)
  clear q0 q1 q2 q3 l0 l1 l2 l3
  refine wp_region_in (by kernel_rfl) (by kernel_rfl) ?_
  repeat (go_big_quiet_step ((first
    | (go_at_call 19; refine (symbols_any _ _ _ _ _ _ _ _ g l _ (st.lrow.row.1.below (In.h _) (Nat.le_refl _)) (st.lrow.row.2.1.below (In.h _) (Nat.le_refl _)) ho ((row_frontI st.lints).below (In.h _) (Nat.le_refl _)) hl hSh hm hlen).mono ?_; rintro e w6 ⟨rfl, hb6⟩; exact ⟨rfl, In.step _ hb6⟩)
    | (go_at_call 20; refine (rsymbols_any _ _ _ _ _ _ _ _ g l _ (st.row.1.below (In.h _) (Nat.le_refl _)) (st.row.2.1.below (In.h _) (Nat.le_refl _)) ho (st.ints.below (In.h _) (Nat.le_refl _)) hl hSh (by omega) hlen).mono ?_; rintro e w6 ⟨rfl, hb6⟩; exact ⟨rfl, In.step _ hb6⟩)
    | (go_at_call 13; refine (keptG _ _ _ _ _ _ lq _ _ _ _ _ _ g _ (st.lrow.below (In.h _) (Nat.le_refl _)) (st.row.below (In.h _) (Nat.le_refl _)) ho).mono ?_; rintro e w6 ⟨rfl, hb6⟩; exact ⟨rfl, In.step _ hb6⟩)
    | (go_at_call 21; refine (keptI gi a ci c l _ (st.lints.below (In.h _) (Nat.le_refl _)) (st.ints.below (In.h _) (Nat.le_refl _)) (by omega) hgc).mono ?_; rintro e w6 ⟨rfl, q6, rfl⟩; exact ⟨rfl, In.step _ (drew_below _ q6)⟩))))
  refine wpQuiet_nil ?_
  rintro _ ⟨u, rfl⟩
  go_wp2
  go_ret
  exact ⟨rfl, hB6.trans (u.h.mono hB6.size)⟩

end Go.Proofs.YtkbljcfkokiceaaDoor.ShowPartsW
