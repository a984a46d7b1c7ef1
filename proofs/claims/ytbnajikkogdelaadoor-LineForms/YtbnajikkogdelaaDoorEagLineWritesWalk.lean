/-
  Texts that stand together: LineWritesWalk, WordsKnown.
-/
import Derived.Test.YtbnajikkogdelaaDoorEagLineSt
import Derived.Test.YtbnajikkogdelaaDoorEagLineWrite
import Derived.Test.YtbnajikkogdelaaDoorEagLineRWrite
import Derived.Test.YtbnajikkogdelaaDoorEWordsKind
import Derived.Test.YtbnajikkogdelaaDoorEWordsLine
import Derived.Test.YtbnajikkogdelaaDoorEagWordsQuote
namespace Go.Proofs.YtbnajikkogdelaaDoor.LineWritesW
open Go.RowKit Go.Proofs.YtbnajikkogdelaaDoor.GramMath Go.Proofs.YtbnajikkogdelaaDoor.GramRow Go.Proofs.YtbnajikkogdelaaDoor.GramOne Go.Proofs.YtbnajikkogdelaaDoor.GramErrs Go.Proofs.YtbnajikkogdelaaDoor.GramLent Go.Proofs.YtbnajikkogdelaaDoor.GramLess Go.Proofs.YtbnajikkogdelaaDoor.LineSt Go.Proofs.YtbnajikkogdelaaDoor.LineMath
set_option linter.unusedVariables false

theorem ckG_le (g : G) : (checkG g).1 ≤ 15 := by
  unfold checkG
  split
  · decide
  · split
    · decide
    · split
      · decide
      · exact rulesK_le _ _

set_option maxRecDepth 100000 in
set_option maxHeartbeats 8000000 in
theorem walk (ta na ra : Option Addr) (tc nc rc : Nat) (g : G) (xa : Option Addr) (xc : Nat) (zs : List Int) (p : Nat → Addr) (w : World) (hL : Lendable w ta na ra tc nc g) (ho : okG g) (hI : IRow w xa zs) (hm : zs.length * 8 ≤ 140737488351232) (hi64 : ∀ z ∈ zs, I64 z) (hnil : xa = none → zs.length = 0 ∧ xc = 0) (hE : Errs w p) :
    Calls Tryd.prog 4 #[.agg #[.slice ta g.ts.length tc, .slice na g.ns.length nc, .int .i64 g.ax, .slice ra g.rs.length rc], .slice xa zs.length xc] w fun e w' => e = .returned (.bool true) ∧ Below w.heap.size w w' := by
  have hB0 : Below w.heap.size w (w.alloc (.cells #[.slice ta g.ts.length tc, .slice na g.ns.length nc, .int .i64 g.ax, .slice ra g.rs.length rc] 25)) := (Below.refl _ _).alloc (Nat.le_refl _) _
  have hL0 := Lendable.below hL hB0 (Nat.le_refl _)
  have hlend := lentG ta na ra tc nc rc g _ hL0
  have hrow0 := GramOpen.lendable_row hL0
  have hbox0 := GBox.new w ta na ra tc nc rc g 25
  have hE0 := hE.below hB0 (Nat.le_refl _)
  have hI0 := hI.below hB0 (Nat.le_refl _)
  have hz : (w.alloc (.cells #[.slice ta g.ts.length tc, .slice na g.ns.length nc, .int .i64 g.ax, .slice ra g.rs.length rc] 25)).heap.size = w.heap.size + 1 := by simp
  clear hL hL0 hE hI
  go_enter Tryd.func4, Tryd.ntmps4
  go_wp2_with fail
  refine hlend.mono ?_
  rintro e w1 ⟨⟨g1, c1, g2, c2, g3, c3, lq, rfl, hlg⟩, hb1⟩
  have hB1 : Below w.heap.size w w1 := hB0.trans (hb1.mono (by omega))
  have hbox1 := hbox0.below hb1 (Nat.le_refl _)
  have hrow1 := hrow0.below hb1 (Nat.le_refl _)
  have hE1 := hE0.below hb1 (Nat.le_refl _)
  have hI1 := hI0.below hb1 (Nat.le_refl _)
  have hlz := GramLent.lentI2 xa xc zs w1 hI1 hm hnil
  clear hlend hrow0 hbox0 hE0 hI0 hz hb1 hB0
  go_wp2_with fail
  refine hlz.mono ?_
  rintro e w2 ⟨⟨gi, ci, rfl, hci, _, _, hli, _⟩, hb2⟩
  have hB2 : Below w.heap.size w w2 := hB1.trans (hb2.mono hB1.size)
  have hbl : Below w2.heap.size w2 (w2.alloc (.cells #[.slice (some ⟨g1, 0, none⟩) g.ts.length c1, .slice (some ⟨g2, 0, none⟩) g.ns.length c2, .int .i64 g.ax, .slice (some ⟨g3, 0, none⟩) g.rs.length c3] 25)) := (Below.refl _ _).alloc (Nat.le_refl _) _
  have st : St (w2.alloc (.cells #[.slice (some ⟨g1, 0, none⟩) g.ts.length c1, .slice (some ⟨g2, 0, none⟩) g.ns.length c2, .int .i64 g.ax, .slice (some ⟨g3, 0, none⟩) g.rs.length c3] 25)) w.heap.size w2.heap.size ta na ra tc nc rc g1 c1 g2 c2 g3 c3 lq g p :=
    ⟨(hbox1.below hb2 (Nat.le_refl _)).below hbl (Nat.le_refl _), GBox.new w2 _ _ _ _ _ _ g _, (hrow1.below hb2 (Nat.le_refl _)).below hbl (Nat.le_refl _), (hlg.below hb2 (Nat.le_refl _)).below hbl (Nat.le_refl _), (hE1.below hb2 (Nat.le_refl _)).below hbl (Nat.le_refl _)⟩
  have hB3 : Below w.heap.size w (w2.alloc (.cells #[.slice (some ⟨g1, 0, none⟩) g.ts.length c1, .slice (some ⟨g2, 0, none⟩) g.ns.length c2, .int .i64 g.ax, .slice (some ⟨g3, 0, none⟩) g.rs.length c3] 25)) := hB2.alloc hB2.size _
  have hli3 := hli.below hbl (Nat.le_refl _)
  have hI3 := (hI1.below hb2 (Nat.le_refl _)).below hbl (Nat.le_refl _)
  have htc := hlg.tc
  have hnc := hlg.nc
  clear hlz hlg hbox1 hrow1 hE1 hI1 hbl hB1 hb2 hB2 hli
  obtain ⟨l0, l1, l2, l3⟩ := id st.lent
  go_wp2_with fail
  refine (write_any _ _ _ _ _ _ _ _ g zs p _ st.lrow.row ho (Nat.le_of_lt htc) (Nat.le_of_lt hnc) (GramLent.row_frontI hli3) (by omega) hi64 st.errs).mono ?_
  rintro e w4 ⟨⟨v, rfl, hv⟩, hb⟩
  have hB4 := hB3.trans (hb.mono hB3.size)
  have hli4 := hli3.below hb (Nat.le_refl _)
  have hI4 := hI3.below hb (Nat.le_refl _)
  replace st := st.below hb
  clear hb hB3 l0 l1 l2 l3 hli3 hI3
  obtain ⟨q0, q1, q2, q3⟩ := id st.own
  go_wp2_with fail
  refine (rwrite_any _ _ _ _ _ _ _ _ g zs _ st.row ho hI4 (by omega) hi64).mono ?_
  rintro e w5 ⟨rfl, hb⟩
  have hB5 := hB4.trans (hb.mono hB4.size)
  have hli5 := hli4.below hb (Nat.le_refl _)
  have hI5 := hI4.below hb (Nat.le_refl _)
  replace st := st.below hb
  have hv5 := hv.below hb (Nat.le_refl _)
  clear hb hB4 q0 q1 q2 q3 hv hli4 hI4
  have es := str_eq (wrT g zs)
  have hle := wrZ_le g zs (ckG_le g)
  go_wp2_with fail
  refine (kind_ck _ p (wrZ g zs) _ v st.errs hle hv5).mono ?_
  rintro e w6 ⟨rfl, hb⟩
  have hB6 := hB5.trans (hb.mono hB5.size)
  have hli6 := hli5.below hb (Nat.le_refl _)
  have hI6 := hI5.below hb (Nat.le_refl _)
  replace st := st.below hb
  clear hb hB5 hv5 hli5 hI5
  obtain ⟨q0, q1, q2, q3⟩ := id st.own
  obtain ⟨l0, l1, l2, l3⟩ := id st.lent
  go_wp2_with fail
  refine (keptG _ _ _ _ _ _ lq _ _ _ _ _ _ g w6 st.lrow st.row ho).mono ?_
  rintro e w7 ⟨rfl, hb⟩
  have hB7 := hB6.trans (hb.mono hB6.size)
  have hli7 := hli6.below hb (Nat.le_refl _)
  have hI7 := hI6.below hb (Nat.le_refl _)
  clear hb hB6 hli6 hI6 q0 q1 q2 q3 l0 l1 l2 l3
  go_wp2_with fail
  refine (keptI gi xa ci xc zs w7 hli7 hI7 (by omega) hci).mono ?_
  rintro e w8 ⟨rfl, q, rfl⟩
  go_wp2
  go_ret
  exact ⟨rfl, bdrew hB7 q⟩

end Go.Proofs.YtbnajikkogdelaaDoor.LineWritesW

namespace Go.Proofs.YtbnajikkogdelaaDoor.WordsBytes
open Go.RowKit Go.Proofs.YtbnajikkogdelaaDoor.WordsMath Go.Proofs.YtbnajikkogdelaaDoor.WordsOne

def ErrType (w : World) : Prop := w.cell? ⟨15, 0, none⟩ = some (.iface 134 (.agg #[.pointer (some ⟨17, 29, none⟩)]))

theorem ErrType.below {w w' : World} {B : Nat} (h : ErrType w) (hb : Below B w w') (hB : w.heap.size ≤ B) : ErrType w' := (hb.cell (Nat.lt_of_lt_of_le (cell_block h) hB)).trans h

theorem ErrAt.below {base : Nat} {aS : Addr} {p : Nat} {w w' : World} {v : Value} {B : Nat} (h : ErrAt base aS p w v) (hb : Below B w w') (hB : w.heap.size ≤ B) : ErrAt base aS p w' v := by
  obtain ⟨b, h1, h2, h3⟩ := h
  exact ⟨b, h1, h2, (hb.block b (Nat.lt_of_lt_of_le (Array.getElem?_eq_some_iff.1 h3).1 hB)).trans h3⟩

theorem neq_ptr (a : Addr) (w : World) : (binOp .neq 72 (.pointer (some a)) (.pointer none)).run Tryd.prog w = .ok (.bool true) w := by kernel_rfl

set_option maxRecDepth 100000 in
set_option maxHeartbeats 1000000 in
theorem place_of (aS : Addr) (w : World) (base n : Nat) (v : Value) (hg : ErrType w) (hv : ErrAt base aS n w v) : Calls Tryd.prog 15 #[v] w fun e w' => e = .returned (.int .i64 (n : Int)) ∧ Below w.heap.size w w' := by
  obtain ⟨blk, _, rfl, hblk⟩ := hv
  have hlt := (Array.getElem?_eq_some_iff.1 hblk).1
  have hneq := neq_ptr
  have hB0 : Below w.heap.size w (w.alloc (.cells #[.pointer none] 72)) := (Below.refl _ _).alloc (Nat.le_refl _) _
  have hg0 := hg.below hB0 (Nat.le_refl _)
  have hf0 : (w.alloc (.cells #[.pointer none] 72)).frozen? ⟨w.heap.size, 0, none⟩ = false := by simp
  have ht0 : (w.alloc (.cells #[.pointer none] 72)).cell? ⟨w.heap.size, 0, none⟩ = some (.pointer none) := by simp
  go_enter Tryd.func15, Tryd.ntmps15
  go_wp2_with fail
  refine (as_at ⟨blk, 0, none⟩ ⟨w.heap.size, 0, none⟩ _ _ hg0 ht0 hf0).mono ?_
  rintro e w1 ⟨rfl, hc1, hb1⟩
  have hB1 := hB0.trans hb1
  have hblk1 := (hB1.block blk hlt).trans hblk
  have hc2 : w1.cell? ⟨blk, 0, none⟩ = some (.int .i64 (n : Int)) := by
    unfold World.cell?
    rw [hblk1]
    rfl
  go_wp2
  go_ret
  exact ⟨rfl, hB1⟩

def knownL : List UInt8 := [101, 32, 58, 32, 101, 32, 43, 32, 34, 116, 34, 32, 35, 32, 110, 111]

end Go.Proofs.YtbnajikkogdelaaDoor.WordsBytes
