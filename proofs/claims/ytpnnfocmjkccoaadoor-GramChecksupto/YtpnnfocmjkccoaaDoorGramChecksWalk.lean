/-
  The walk of GramChecks: it answers true for every grammar of which the lists are not too long, and writes nothing that was there.
-/
import Derived.Test.YtpnnfocmjkccoaaDoorGramAll3
import Derived.Test.YtpnnfocmjkccoaaDoorGramNamesWalk
import Derived.Test.YtpnnfocmjkccoaaDoorGramRuleOf
import Derived.Test.YtpnnfocmjkccoaaDoorGramEq2
namespace Go.Proofs.YtpnnfocmjkccoaaDoor.GramChecksW
open Go.RowKit Go.Proofs.YtpnnfocmjkccoaaDoor.GramMath Go.Proofs.YtpnnfocmjkccoaaDoor.GramRow Go.Proofs.YtpnnfocmjkccoaaDoor.GramOne Go.Proofs.YtpnnfocmjkccoaaDoor.GramCheck Go.Proofs.YtpnnfocmjkccoaaDoor.GramAboveFn Go.Proofs.YtpnnfocmjkccoaaDoor.GramAwake Go.Proofs.YtpnnfocmjkccoaaDoor.GramLent Go.Proofs.YtpnnfocmjkccoaaDoor.GramRef Go.Proofs.YtpnnfocmjkccoaaDoor.GramNamesW Go.Proofs.YtpnnfocmjkccoaaDoor.GramErrs Go.Proofs.YtpnnfocmjkccoaaDoor.GramSame Go.Proofs.YtpnnfocmjkccoaaDoor.GramCopy Go.Proofs.YtpnnfocmjkccoaaDoor.GramAll
set_option linter.unusedVariables false

/-- What stands in memory all along. -/
structure Sd (w : World) (ba bl : Nat) (ta na ra : Option Addr) (tc nc rc g1 c1 g2 c2 g3 c3 : Nat) (lq : List GramLess.Q) (g : G) (p : Nat → Addr) : Prop where
  own : Box w ba ta na ra tc nc rc g
  lent : Box w bl (some ⟨g1, 0, none⟩) (some ⟨g2, 0, none⟩) (some ⟨g3, 0, none⟩) c1 c2 c3 g
  row : GRow w ta na ra g
  lrow : LentG w g1 c1 g2 c2 g3 c3 lq g
  errs : Errs w p
  et : ErrType w

theorem Sd.below {w w' : World} {ba bl : Nat} {ta na ra : Option Addr} {tc nc rc g1 c1 g2 c2 g3 c3 : Nat} {lq : List GramLess.Q} {g : G} {p : Nat → Addr} (h : Sd w ba bl ta na ra tc nc rc g1 c1 g2 c2 g3 c3 lq g p) (hb : Below w.heap.size w w') : Sd w' ba bl ta na ra tc nc rc g1 c1 g2 c2 g3 c3 lq g p :=
  ⟨h.own.below hb h.own.lt, h.lent.below hb h.lent.lt, h.row.below hb (Nat.le_refl _), h.lrow.below hb (Nat.le_refl _), h.errs.below hb (Nat.le_refl _), h.et.below hb (Nat.le_refl _)⟩

theorem rule_same (g : G) : ruleZ (checkG g) = ruI (checkG g).2 := by
  by_cases h : (checkG g).1 = 0
  · rw [check_zero h]
    rfl
  · generalize checkG g = z at *
    match z, h with
    | (0, _), h => exact absurd rfl h
    | (k + 1, none), _ => rfl
    | (k + 1, some i), _ => rfl

theorem rulesK_le (t n : Nat) : ∀ (rs : List R) (i : Nat), (rulesK t n rs i).1 ≤ 15
  | [], _ => by simp [rulesK]
  | r :: l, i => by
    unfold rulesK
    by_cases h : ruleK t n r = 0
    · rw [if_pos h]; exact rulesK_le t n l (i + 1)
    · rw [if_neg h]
      show ruleK t n r ≤ 15
      rcases ruleK_cases t n r with h | h | h <;> omega

theorem check_le (g : G) : (checkG g).1 ≤ 15 := by
  unfold checkG
  split
  · decide
  · split
    · decide
    · split
      · decide
      · exact rulesK_le _ _ _ _

set_option maxRecDepth 100000 in
set_option maxHeartbeats 4000000 in
theorem walk (ta na ra : Option Addr) (tc nc rc : Nat) (g : G) (p : Nat → Addr) (w : World) (hL : Lendable w ta na ra tc nc g) (ho : okG g) (hE : Errs w p) (hT : ErrType w) (z1 : g.ts.length ≤ 2097152) (z2 : g.ns.length ≤ 2097152) (z3 : g.rs.length ≤ 2097152) (z4 : ∀ r ∈ g.rs, r.right.length ≤ 4194304) :
    Calls Tryd.prog 3 #[.agg #[.slice ta g.ts.length tc, .slice na g.ns.length nc, .int .i64 g.ax, .slice ra g.rs.length rc]] w fun e w' => e = .returned (.bool true) ∧ Below w.heap.size w w' := by
  have em : ∀ r ∈ g.rs, r.right.length * 8 ≤ 140737488351232 := fun r hr => (hL.each r hr).2
  have tm := hL.tm
  have nm := hL.nm
  have rm := hL.rm
  have hB0 : Below w.heap.size w (w.alloc (.cells #[.slice ta g.ts.length tc, .slice na g.ns.length nc, .int .i64 g.ax, .slice ra g.rs.length rc] 25)) := (Below.refl _ _).alloc (Nat.le_refl _) _
  have hL0 : Lendable (w.alloc (.cells #[.slice ta g.ts.length tc, .slice na g.ns.length nc, .int .i64 g.ax, .slice ra g.rs.length rc] 25)) ta na ra tc nc g := ⟨hL.ts.below hB0 (Nat.le_refl _), hL.ns.below hB0 (Nat.le_refl _), hL.rs.below hB0 (Nat.le_refl _), hL.tn, hL.nn, hL.tm, hL.nm, hL.rm, hL.each⟩
  have hlend := lentG ta na ra tc nc rc g _ hL0
  have hrow0 := GramOpen.lendable_row hL0
  have hbox0 := Box.new w ta na ra tc nc rc g
  have hE0 := hE.below hB0 (Nat.le_refl _)
  have hT0 := hT.below hB0 (Nat.le_refl _)
  clear hL hL0 hE hT
  go_enter Tryd.func3, Tryd.ntmps3
  go_wp2_with fail
  refine hlend.mono ?_
  rintro e w1 ⟨⟨g1, c1, g2, c2, g3, c3, lq, rfl, hlg⟩, hb1⟩
  have hz : (w.alloc (.cells #[.slice ta g.ts.length tc, .slice na g.ns.length nc, .int .i64 g.ax, .slice ra g.rs.length rc] 25)).heap.size = w.heap.size + 1 := by simp
  have hB1 : Below w.heap.size w w1 := hB0.trans (hb1.mono (by omega))
  have hbox1 := hbox0.below hb1 (by omega)
  have hbl : Below w1.heap.size w1 (w1.alloc (.cells #[.slice (some ⟨g1, 0, none⟩) g.ts.length c1, .slice (some ⟨g2, 0, none⟩) g.ns.length c2, .int .i64 g.ax, .slice (some ⟨g3, 0, none⟩) g.rs.length c3] 25)) := (Below.refl _ _).alloc (Nat.le_refl _) _
  have st : Sd (w1.alloc (.cells #[.slice (some ⟨g1, 0, none⟩) g.ts.length c1, .slice (some ⟨g2, 0, none⟩) g.ns.length c2, .int .i64 g.ax, .slice (some ⟨g3, 0, none⟩) g.rs.length c3] 25)) w.heap.size w1.heap.size ta na ra tc nc rc g1 c1 g2 c2 g3 c3 lq g p :=
    ⟨hbox1.below hbl hbox1.lt, Box.new w1 _ _ _ _ _ _ g, (hrow0.below hb1 (Nat.le_refl _)).below hbl (Nat.le_refl _), hlg.below hbl (Nat.le_refl _), (hE0.below hb1 (Nat.le_refl _)).below hbl (Nat.le_refl _), (hT0.below hb1 (Nat.le_refl _)).below hbl (Nat.le_refl _)⟩
  have hB2 : Below w.heap.size w (w1.alloc (.cells #[.slice (some ⟨g1, 0, none⟩) g.ts.length c1, .slice (some ⟨g2, 0, none⟩) g.ns.length c2, .int .i64 g.ax, .slice (some ⟨g3, 0, none⟩) g.rs.length c3] 25)) := hB1.alloc hB1.size _
  clear hlend hrow0 hbox0 hE0 hT0 hlg hbox1 hbl hB0 hB1 hb1 hz
  obtain ⟨q0, q1, q2, q3⟩ := id st.own
  obtain ⟨l0, l1, l2, l3⟩ := id st.lent
  have hck := check_any (some ⟨g1, 0, none⟩) (some ⟨g2, 0, none⟩) (some ⟨g3, 0, none⟩) c1 c2 c3 g p _ st.lrow.row ho (Nat.le_of_lt st.lrow.tc) (Nat.le_of_lt st.lrow.nc) st.errs.sents
  go_wp2_with fail
  refine hck.mono ?_
  rintro e w3 ⟨⟨ev, rfl, hev⟩, hb⟩
  have hB3 := hB2.trans (hb.mono hB2.size)
  replace st := st.below hb
  clear hb hB2 q0 q1 q2 q3 l0 l1 l2 l3 hck
  obtain ⟨q0, q1, q2, q3⟩ := id st.own
  obtain ⟨l0, l1, l2, l3⟩ := id st.lent
  go_wp2_with fail
  refine (rcheck_any _ _ _ _ _ _ g _ st.row ho).mono ?_
  rintro e w4 ⟨rfl, hb⟩
  have hB4 := hB3.trans (hb.mono hB3.size)
  replace st := st.below hb
  have st4 := st
  replace hev := hev.below hb (Nat.le_refl _)
  clear hb hB3 q0 q1 q2 q3 l0 l1 l2 l3
  obtain ⟨q0, q1, q2, q3⟩ := id st.own
  obtain ⟨l0, l1, l2, l3⟩ := id st.lent
  go_wp2_with fail
  refine (copy_any _ _ _ _ _ _ g _ st.lrow.row ho tm nm rm em).mono ?_
  rintro e w5 ⟨⟨x1, x2, x3, xs, rfl, hx⟩, hb⟩
  have hbx : Below w5.heap.size w5 (w5.alloc (.cells #[.slice (some ⟨x1, 0, none⟩) g.ts.length g.ts.length, .slice (some ⟨x2, 0, none⟩) g.ns.length g.ns.length, .int .i64 g.ax, .slice (some ⟨x3, 0, none⟩) g.rs.length g.rs.length] 25)) := (Below.refl _ _).alloc (Nat.le_refl _) _
  have hzx : (w5.alloc (.cells #[.slice (some ⟨x1, 0, none⟩) g.ts.length g.ts.length, .slice (some ⟨x2, 0, none⟩) g.ns.length g.ns.length, .int .i64 g.ax, .slice (some ⟨x3, 0, none⟩) g.rs.length g.rs.length] 25)).heap.size = w5.heap.size + 1 := by simp
  have hB5 := (hB4.trans (hb.mono hB4.size)).trans (hbx.mono (Nat.le_trans hB4.size hb.size))
  have hbb := hb.trans (hbx.mono hb.size)
  have hT5 := hbb
  replace st := st.below hbb
  replace hev := hev.below hbb (Nat.le_refl _)
  have hxx := hx.below hbx (Nat.le_refl _)
  have bx := Box.new w5 (some ⟨x1, 0, none⟩) (some ⟨x2, 0, none⟩) (some ⟨x3, 0, none⟩) g.ts.length g.ns.length g.rs.length g
  have hx2 := hx.ns.lt
  have hxs := hx.rs.hi
  have hsz4 := hb.size
  clear hb hbb q0 q1 q2 q3 l0 l1 l2 l3 hx
  obtain ⟨q0, q1, q2, q3⟩ := id st.own
  obtain ⟨l0, l1, l2, l3⟩ := id st.lent
  obtain ⟨d0, d1, d2, d3⟩ := id bx
  go_wp2_with fail
  refine (copy_any _ _ _ _ _ _ g _ st.lrow.row ho tm nm rm em).mono ?_
  rintro e w6 ⟨⟨y1, y2, y3, ys, rfl, hy⟩, hb⟩
  have hby : Below w6.heap.size w6 (w6.alloc (.cells #[.slice (some ⟨y1, 0, none⟩) g.ts.length g.ts.length, .slice (some ⟨y2, 0, none⟩) g.ns.length g.ns.length, .int .i64 g.ax, .slice (some ⟨y3, 0, none⟩) g.rs.length g.rs.length] 25)) := (Below.refl _ _).alloc (Nat.le_refl _) _
  have hB6 := (hB5.trans (hb.mono hB5.size)).trans (hby.mono (Nat.le_trans hB5.size hb.size))
  have hbb := hb.trans (hby.mono hb.size)
  have hsz6 := hbb.size
  have hT6 := hT5.trans (hbb.mono hT5.size)
  rw [hzx] at hsz6
  replace st := st.below hbb
  replace hev := hev.below hbb (Nat.le_refl _)
  have hx6 := hxx.below hbb (Nat.le_refl _)
  have hy6 := hy.below hby (Nat.le_refl _)
  replace bx := bx.below hbb bx.lt
  have bY := Box.new w6 (some ⟨y1, 0, none⟩) (some ⟨y2, 0, none⟩) (some ⟨y3, 0, none⟩) g.ts.length g.ns.length g.rs.length g
  rw [hzx] at hy6
  clear hb hbb hB5 hB6 hT5 q0 q1 q2 q3 l0 l1 l2 l3 d0 d1 d2 d3 hxx hy hbx hby hzx
  have hP : ∀ W W', Below W.heap.size W W' → (Sd W w.heap.size w1.heap.size ta na ra tc nc rc g1 c1 g2 c2 g3 c3 lq g p ∧ Box W w5.heap.size (some ⟨x1, 0, none⟩) (some ⟨x2, 0, none⟩) (some ⟨x3, 0, none⟩) g.ts.length g.ns.length g.rs.length g ∧ Box W w6.heap.size (some ⟨y1, 0, none⟩) (some ⟨y2, 0, none⟩) (some ⟨y3, 0, none⟩) g.ts.length g.ns.length g.rs.length g ∧ CopyAt W w4.heap.size x1 x2 x3 xs g ∧ CopyAt W (w5.heap.size + 1) y1 y2 y3 ys g ∧ Below w4.heap.size w4 W) → (Sd W' w.heap.size w1.heap.size ta na ra tc nc rc g1 c1 g2 c2 g3 c3 lq g p ∧ Box W' w5.heap.size (some ⟨x1, 0, none⟩) (some ⟨x2, 0, none⟩) (some ⟨x3, 0, none⟩) g.ts.length g.ns.length g.rs.length g ∧ Box W' w6.heap.size (some ⟨y1, 0, none⟩) (some ⟨y2, 0, none⟩) (some ⟨y3, 0, none⟩) g.ts.length g.ns.length g.rs.length g ∧ CopyAt W' w4.heap.size x1 x2 x3 xs g ∧ CopyAt W' (w5.heap.size + 1) y1 y2 y3 ys g ∧ Below w4.heap.size w4 W') := fun W W' hb h => ⟨h.1.below hb, h.2.1.below hb h.2.1.lt, h.2.2.1.below hb h.2.2.1.lt, h.2.2.2.1.below hb (Nat.le_refl _), h.2.2.2.2.1.below hb (Nat.le_refl _), h.2.2.2.2.2.trans (hb.mono h.2.2.2.2.2.size)⟩
  have hkd := kind_ck _ p (checkG g) _ ev st.errs (check_le g) hev
  go_wp2_with fail
  refine hkd.mono ?_
  rintro e w7 ⟨rfl, hb⟩
  have h7 := hP _ _ hb ⟨st, bx, bY, hx6, hy6, hT6⟩
  replace hev := hev.below hb (Nat.le_refl _)
  clear hb st bx bY hx6 hy6 hT6 hkd
  obtain ⟨q0, q1, q2, q3⟩ := id h7.1.own
  obtain ⟨l0, l1, l2, l3⟩ := id h7.1.lent
  obtain ⟨d0, d1, d2, d3⟩ := id h7.2.1
  obtain ⟨a0, a1, a2, a3⟩ := id h7.2.2.1
  have hrl := rule_ck _ p (checkG g) _ ev h7.1.et hev
  rw [rule_same] at hrl
  go_wp2_with fail
  refine (hrl).mono ?_
  rintro e w8 ⟨rfl, hb⟩
  have h8 := hP _ _ hb h7
  clear hb q0 q1 q2 q3 l0 l1 l2 l3 d0 d1 d2 d3 a0 a1 a2 a3 h7
  obtain ⟨q0, q1, q2, q3⟩ := id h8.1.own
  obtain ⟨l0, l1, l2, l3⟩ := id h8.1.lent
  obtain ⟨d0, d1, d2, d3⟩ := id h8.2.1
  obtain ⟨a0, a1, a2, a3⟩ := id h8.2.2.1
  clear hrl hev
  generalize (checkG g).1 = t1
  generalize ruI (checkG g).2 = t2
  have r8 := grammar_any (some ⟨x1, 0, none⟩) (some ⟨x2, 0, none⟩) (some ⟨x3, 0, none⟩) ta na ra g.ts.length g.ns.length g.rs.length tc nc rc g g _ h8.2.2.2.1.row h8.1.row ho ho
  rw [eqG_refl] at r8
  go_wp2_with fail
  refine (r8).mono ?_
  rintro e w9 ⟨rfl, hb⟩
  have h9 := hP _ _ hb h8
  clear hb q0 q1 q2 q3 l0 l1 l2 l3 d0 d1 d2 d3 a0 a1 a2 a3 h8
  obtain ⟨q0, q1, q2, q3⟩ := id h9.1.own
  obtain ⟨l0, l1, l2, l3⟩ := id h9.1.lent
  obtain ⟨d0, d1, d2, d3⟩ := id h9.2.1
  obtain ⟨a0, a1, a2, a3⟩ := id h9.2.2.1
  clear r8
  have r9 := grammar_any (some ⟨y1, 0, none⟩) (some ⟨y2, 0, none⟩) (some ⟨y3, 0, none⟩) ta na ra g.ts.length g.ns.length g.rs.length tc nc rc g g _ h9.2.2.2.2.1.row h9.1.row ho ho
  rw [eqG_refl] at r9
  go_wp2_with fail
  refine (r9).mono ?_
  rintro e w10 ⟨rfl, hb⟩
  have h10 := hP _ _ hb h9
  clear hb q0 q1 q2 q3 l0 l1 l2 l3 d0 d1 d2 d3 a0 a1 a2 a3 h9
  obtain ⟨q0, q1, q2, q3⟩ := id h10.1.own
  obtain ⟨l0, l1, l2, l3⟩ := id h10.1.lent
  obtain ⟨d0, d1, d2, d3⟩ := id h10.2.1
  obtain ⟨a0, a1, a2, a3⟩ := id h10.2.2.1
  clear r9
  go_wp2_with fail
  refine (keptG _ _ _ _ _ _ lq _ _ _ _ _ _ g _ h10.1.lrow h10.1.row ho).mono ?_
  rintro e w11 ⟨rfl, hb⟩
  have h11 := hP _ _ hb h10
  clear hb q0 q1 q2 q3 l0 l1 l2 l3 d0 d1 d2 d3 a0 a1 a2 a3 h10
  obtain ⟨q0, q1, q2, q3⟩ := id h11.1.own
  obtain ⟨l0, l1, l2, l3⟩ := id h11.1.lent
  obtain ⟨d0, d1, d2, d3⟩ := id h11.2.1
  obtain ⟨a0, a1, a2, a3⟩ := id h11.2.2.1
  have r11 := same_any (some ⟨g1, 0, none⟩) (some ⟨g2, 0, none⟩) (some ⟨g3, 0, none⟩) (some ⟨x1, 0, none⟩) (some ⟨x2, 0, none⟩) (some ⟨x3, 0, none⟩) c1 c2 c3 g.ts.length g.ns.length g.rs.length g g _ h11.1.lrow.row h11.2.2.2.1.row ho ho
  rw [eqG_refl] at r11
  go_wp2_with fail
  refine (r11).mono ?_
  rintro e w12 ⟨rfl, hb⟩
  have h12 := hP _ _ hb h11
  clear hb q0 q1 q2 q3 l0 l1 l2 l3 d0 d1 d2 d3 a0 a1 a2 a3 h11
  obtain ⟨q0, q1, q2, q3⟩ := id h12.1.own
  obtain ⟨l0, l1, l2, l3⟩ := id h12.1.lent
  obtain ⟨d0, d1, d2, d3⟩ := id h12.2.1
  obtain ⟨a0, a1, a2, a3⟩ := id h12.2.2.1
  clear r11
  have hba : Below w12.heap.size w12 (w12.alloc (.cells #[.slice (some ⟨x1, 0, none⟩) g.ts.length g.ts.length, .slice (some ⟨x2, 0, none⟩) g.ns.length g.ns.length, .int .i64 g.ax, .slice (some ⟨x3, 0, none⟩) g.rs.length g.rs.length, .slice (some ⟨y1, 0, none⟩) g.ts.length g.ts.length, .slice (some ⟨y2, 0, none⟩) g.ns.length g.ns.length, .int .i64 g.ax, .slice (some ⟨y3, 0, none⟩) g.rs.length g.rs.length] 25)) := (Below.refl _ _).alloc (Nat.le_refl _) _
  have hTw : Two (w12.alloc (.cells #[.slice (some ⟨x1, 0, none⟩) g.ts.length g.ts.length, .slice (some ⟨x2, 0, none⟩) g.ns.length g.ns.length, .int .i64 g.ax, .slice (some ⟨x3, 0, none⟩) g.rs.length g.rs.length, .slice (some ⟨y1, 0, none⟩) g.ts.length g.ts.length, .slice (some ⟨y2, 0, none⟩) g.ns.length g.ns.length, .int .i64 g.ax, .slice (some ⟨y3, 0, none⟩) g.rs.length g.rs.length] 25)) w4.heap.size (w5.heap.size + 1) w12.heap.size (fun i => if i = 0 then x1 else y1) (fun i => if i = 0 then x2 else y2) (fun i => if i = 0 then x3 else y3) (fun i => if i = 0 then xs else ys) g := by
    refine ⟨h12.2.2.2.1.below hba (Nat.le_refl _), h12.2.2.2.2.1.below hba (Nat.le_refl _), ?_, ?_, ?_, ?_⟩
    · show x2 < w5.heap.size + 1
      omega
    · intro x hx
      have := hxs x hx
      omega
    · omega
    · intro i hi
      match i, hi with
      | 0, _ => exact ⟨by simp [sl], by simp [sl], by simp [sl]⟩
      | 1, _ => exact ⟨by simp [sl], by simp [sl], by simp [sl]⟩
  have hgr := grammars_any w4.heap.size (w5.heap.size + 1) w12.heap.size 2 _ _ _ _ g _ hTw z1 z2 z3 z4
  have hT12 := h12.2.2.2.2.2
  have hT13 := hT12.trans (hba.mono hT12.size)
  clear hTw hba h12 hP
  go_wp2_with fail
  refine hgr.mono ?_
  rintro e w14 ⟨rfl, hb⟩
  have hT14 := hT13.trans hb
  replace st4 := st4.below hT14
  have hB14 := hB4.trans (hT14.mono hB4.size)
  clear hb hT12 hT13 hT14 hgr q0 q1 q2 q3 l0 l1 l2 l3 d0 d1 d2 d3 a0 a1 a2 a3
  obtain ⟨q0, q1, q2, q3⟩ := id st4.own
  obtain ⟨l0, l1, l2, l3⟩ := id st4.lent
  go_wp2_with fail
  refine (keptG _ _ _ _ _ _ lq _ _ _ _ _ _ g _ st4.lrow st4.row ho).mono ?_
  rintro e w15 ⟨rfl, hb⟩
  have hB15 := hB14.trans (hb.mono hB14.size)
  replace st4 := st4.below hb
  clear hb q0 q1 q2 q3 l0 l1 l2 l3
  go_wp2_with fail
  refine (awake_any p _ st4.errs.sents).mono ?_
  rintro e w16 ⟨rfl, hb⟩
  go_wp2
  go_ret
  exact ⟨rfl, hB15.trans (hb.mono hB15.size)⟩

end Go.Proofs.YtpnnfocmjkccoaaDoor.GramChecksW
