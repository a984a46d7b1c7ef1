/-
  Texts that stand together: WordsQuote, WordsKnown, SpecTell, GramEq2.
-/
import Derived.Test.YtjblkgephboajaaGreatDoorBagApartVals
import Derived.Test.YtjblkgephboajaaGreatDoorBagWordsKind
import Derived.Test.YtjblkgephboajaaGreatDoorBagWordsUnquote
import Derived.Test.YtjblkgephboajaaGreatDoorBagSpecRead
import Derived.Test.YtjblkgephboajaaGreatDoorBSpecAsNo
import Derived.Test.YtjblkgephboajaaGreatDoorBagGramAboveFn
namespace Go.Proofs.YtjblkgephboajaaGreatDoor.WordsBytes
open Go.RowKit WordsMath WordsOne

end Go.Proofs.YtjblkgephboajaaGreatDoor.WordsBytes

namespace Go.Proofs.YtjblkgephboajaaGreatDoor.WordsBytes
open Go.RowKit WordsMath WordsOne

def ErrType (w : World) : Prop := w.cell? ⟨15, 0, none⟩ = some (.iface 167 (.agg #[.pointer (some ⟨19, 27, none⟩)]))

theorem ErrType.below {w w' : World} {B : Nat} (h : ErrType w) (hb : Below B w w') (hB : w.heap.size ≤ B) : ErrType w' := (hb.cell (Nat.lt_of_lt_of_le (cell_block h) hB)).trans h

theorem neq_ptr (a : Addr) (w : World) : (binOp .neq 68 (.pointer (some a)) (.pointer none)).run Tryz.prog w = .ok (.bool true) w := by kernel_rfl

set_option maxRecDepth 100000 in
set_option maxHeartbeats 1000000 in
theorem place_of (aS : Addr) (w : World) (base n : Nat) (v : Value) (hg : ErrType w) (hv : ErrAt base aS n w v) : Calls Tryz.prog 10 #[v] w fun e w' => e = .returned (.int .i64 (n : Int)) ∧ Below w.heap.size w w' := by
  obtain ⟨blk, _, rfl, hblk⟩ := hv
  have hlt := (Array.getElem?_eq_some_iff.1 hblk).1
  have hneq := neq_ptr
  have hB0 : Below w.heap.size w (w.alloc (.cells #[.pointer none] 68)) := (Below.refl _ _).alloc (Nat.le_refl _) _
  have hg0 := hg.below hB0 (Nat.le_refl _)
  have hf0 : (w.alloc (.cells #[.pointer none] 68)).frozen? ⟨w.heap.size, 0, none⟩ = false := by simp
  have ht0 : (w.alloc (.cells #[.pointer none] 68)).cell? ⟨w.heap.size, 0, none⟩ = some (.pointer none) := by simp
  go_enter Tryz.func10, Tryz.ntmps10
  go_wp2_with fail
  refine (as_at ⟨blk, 0, none⟩ ⟨w.heap.size, 0, none⟩ _ _ hg0 ht0 hf0).mono ?_
  rintro e w1 ⟨rfl, hc1, hb1⟩
  have hB1 := hB0.trans hb1
  have hblk1 := (hB1.block blk hlt).trans hblk
  have hc2 : w1.cell? ⟨blk, 0, none⟩ = some (.int .i64 (n : Int)) := by
    unfold World.cell?
    rw [hblk1]
    rfl
  go_wp2
  go_ret
  exact ⟨rfl, hB1⟩

def knownL : List UInt8 := [101, 32, 58, 32, 101, 32, 43, 32, 34, 116, 34, 32, 35, 32, 110, 111]

end Go.Proofs.YtjblkgephboajaaGreatDoor.WordsBytes

namespace Go.Proofs.YtjblkgephboajaaGreatDoor.SpecMem
open GramLess Go.RowKit Go.Maps Go.WideMaps GramMath GramRow GramOne GramApart GramRoll GramCopy LineMath SpecLn SpecMd SpecTx SpecRun
set_option linter.unusedVariables false
set_option linter.unusedSimpArgs false

set_option maxRecDepth 100000 in
set_option maxHeartbeats 1000000 in
theorem place_nil (w : World) : Calls Tryz.prog 10 #[.nilIface] w fun e w' => e = .returned (.int .i64 (-1)) ∧ Below w.heap.size w w' := by
  have hB0 : Below w.heap.size w (w.alloc (.cells #[.pointer none] 68)) := (Below.refl _ _).alloc (Nat.le_refl _) _
  go_enter Tryz.func10, Tryz.ntmps10
  go_wp2
  go_ret
  exact ⟨rfl, hB0⟩
set_option maxRecDepth 100000 in
set_option maxHeartbeats 1000000 in
theorem place_no (v : Value) (t : TypeId) (w : World) (hg : GramErrs.ErrType w) (h : ∀ W (tt : Addr), Below w.heap.size w W → GramErrs.ErrType W → Calls Tryz.prog 32 #[.iface t v, .iface 70 (.pointer (some tt))] W fun ev w' => ev = .returned (.bool false) ∧ Below W.heap.size W w') :
    Calls Tryz.prog 10 #[.iface t v] w fun e w' => e = .returned (.int .i64 (-1)) ∧ Below w.heap.size w w' := by
  have hB0 : Below w.heap.size w (w.alloc (.cells #[.pointer none] 68)) := (Below.refl _ _).alloc (Nat.le_refl _) _
  have hz : (w.alloc (.cells #[.pointer none] 68)).heap.size = w.heap.size + 1 := by simp
  have has := h _ ⟨w.heap.size, 0, none⟩ hB0 (hg.below hB0 (Nat.le_refl _))
  go_enter Tryz.func10, Tryz.ntmps10
  go_wp2_with fail
  refine has.mono ?_
  rintro e w1 ⟨rfl, hb1⟩
  have hB1 := hB0.trans (hb1.mono (by omega))
  clear has h hb1
  go_wp2
  go_ret
  exact ⟨rfl, hB1⟩
theorem place_ck (base : Nat) (p : Nat → Addr) (z : Nat × Option Nat) (w : World) (v : Value) (hg : GramErrs.ErrType w) (hv : CkV base p z w v) : Calls Tryz.prog 10 #[v] w fun e w' => e = .returned (.int .i64 (-1)) ∧ Below w.heap.size w w' := by
  match z, hv with
  | (0, _), hv =>
    have e : v = .nilIface := hv
    rw [e]
    exact place_nil w
  | (k + 1, none), hv =>
    have e : v = .iface 204 (.pointer (some (p (k + 1)))) := hv
    rw [e]
    exact place_no _ _ w hg (fun W tt hB hW => WordsBytes.as_noE _ tt W hW)
  | (k + 1, some i), hv =>
    obtain ⟨b, hb, e, hh⟩ := hv
    rw [e]
    have hr : RowAt w b 76 #[.int .i64 (i : Int), .iface 204 (.pointer (some (p (k + 1))))] := hh
    exact place_no _ _ w hg (fun W tt hB hW => WordsBytes.as_noR ⟨b, 0, none⟩ tt W hW (p (k + 1)) i (fun W' hB' => ((hr.below hB hr.lt).below hB' (hr.below hB hr.lt).lt).cell (q := 1) rfl))

theorem kind_at (p : Nat → Addr) (w : World) (base n k : Nat) (v : Value) (hE : GramErrs.Errs w p) (hk : k < 15) (hv : WordsBytes.ErrAt base (p (k + 1)) n w v) : Calls Tryz.prog 9 #[v] w fun e w' => e = .returned (.int .i64 ((k : Int) + 1)) ∧ Below w.heap.size w w' := by
  obtain ⟨blk, _, rfl, hblk⟩ := hv
  have hE' : WordsBytes.Errs w (fun j => p (j + 1)) := hE
  refine WordsBytes.kind_of 68 (.pointer (some ⟨blk, 0, none⟩)) k (fun j => p (j + 1)) w hk hE' ?_
  intro W b hB hb
  have hblk2 := (hB.block blk (Array.getElem?_eq_some_iff.1 hblk).1).trans hblk
  by_cases he : p (k + 1) = b
  · subst he
    simpa using WordsBytes.is_place_same blk _ (p (k + 1)) W hblk2
  · simpa [he] using WordsBytes.is_place_other blk _ (p (k + 1)) b W hblk2 he ((hE'.1 k hk).2.below hB (Nat.le_refl _)) hb
theorem ckLe (g : G) : (checkG g).1 ≤ 15 := by
  unfold checkG
  split
  · decide
  · split
    · decide
    · split
      · decide
      · exact LineMath.rulesK_le _ _

/-- The kind and the place of what a text comes to. -/
def kZ (z : Except Nat (List Sd)) : Nat := match z with | .error _ => 2 | .ok all => (checkG (madeZ all)).1
def pZ (z : Except Nat (List Sd)) : Int := match z with | .error q => (q : Int) | .ok _ => -1
/-- The error that Read tells. -/
def ErV (p : Nat → Addr) (B : Nat) (z : Except Nat (List Sd)) (w : World) (v : Value) : Prop :=
  match z with
  | .error q => WordsBytes.ErrAt B (p 2) q w v
  | .ok all => CkV B p (checkG (madeZ all)) w v
theorem ErV.below {p : Nat → Addr} {B : Nat} {z : Except Nat (List Sd)} {w w' : World} {v : Value} (h : ErV p B z w v) (hb : Below w.heap.size w w') : ErV p B z w' v := by
  cases z with
  | error q => exact ErrAt.keep h (fun b _ hl => hb.block b hl)
  | ok all => exact CkV.below h hb (Nat.le_refl _)
theorem read_tells {p : Nat → Addr} {B : Nat} {z : Except Nat (List Sd)} {e : Ending} {w : World} (h : ReR (p 2) p B z e w) : ∃ x0 n0 c0 x1 n1 c1 ax x3 n3 c3 v, e = .returned (.tuple #[.agg #[.slice x0 n0 c0, .slice x1 n1 c1, .int .i64 ax, .slice x3 n3 c3], v]) ∧ ErV p B z w v := by
  cases z with
  | error q =>
    obtain ⟨v, he, hv⟩ := h
    exact ⟨_, _, _, _, _, _, _, _, _, _, v, he, hv⟩
  | ok all =>
    rcases h with ⟨hc, b1, b2, b3, bs, he, _⟩ | ⟨hc, v, he, hv⟩
    · refine ⟨_, _, _, _, _, _, _, _, _, _, _, he, ?_⟩
      show CkV _ _ _ _ _
      match hq : checkG (madeZ all), hc with
      | (0, _), _ => rfl
      | (k + 1, _), hc => simp at hc
    · exact ⟨_, _, _, _, _, _, _, _, _, _, v, he, hv⟩
theorem kind_any {p : Nat → Addr} {B : Nat} {z : Except Nat (List Sd)} {w : World} {v : Value} (hE : GramErrs.Errs w p) (h : ErV p B z w v) : Calls Tryz.prog 9 #[v] w fun e w' => e = .returned (.int .i64 (kZ z : Int)) ∧ Below w.heap.size w w' := by
  cases z with
  | error q => exact kind_at p w B q 1 v hE (by omega) h
  | ok all => exact GramErrs.kind_ck B p (checkG (madeZ all)) w v hE (ckLe _) h
theorem place_any {p : Nat → Addr} {B : Nat} {z : Except Nat (List Sd)} {w : World} {v : Value} (hg : GramErrs.ErrType w) (h : ErV p B z w v) : Calls Tryz.prog 10 #[v] w fun e w' => e = .returned (.int .i64 (pZ z)) ∧ Below w.heap.size w w' := by
  cases z with
  | error q => exact WordsBytes.place_of _ _ _ _ _ hg h
  | ok all => exact place_ck B p _ w v hg h

end Go.Proofs.YtjblkgephboajaaGreatDoor.SpecMem

namespace Go.Proofs.YtjblkgephboajaaGreatDoor.GramSame
open Go.RowKit GramMath GramRow GramOne
set_option linter.unusedVariables false

set_option maxRecDepth 100000 in
set_option maxHeartbeats 4000000 in
theorem grammar_any (ta na ra tb nb rb : Option Addr) (tc nc rc td nd rd : Nat) (g h : G) (w : World) (hG : GRow w ta na ra g) (hH : GRow w tb nb rb h) (og : okG g) (oh : okG h) :
    Calls Tryz.prog 12 #[.agg #[.slice ta g.ts.length tc, .slice na g.ns.length nc, .int .i64 g.ax, .slice ra g.rs.length rc], .agg #[.slice tb h.ts.length td, .slice nb h.ns.length nd, .int .i64 h.ax, .slice rb h.rs.length rd]] w fun e w' => e = .returned (.bool (eqG g h)) ∧ Below w.heap.size w w' := by
  have hB : Below w.heap.size w ((w.alloc (.cells #[.slice ta g.ts.length tc, .slice na g.ns.length nc, .int .i64 g.ax, .slice ra g.rs.length rc] 25)).alloc (.cells #[.slice tb h.ts.length td, .slice nb h.ns.length nd, .int .i64 h.ax, .slice rb h.rs.length rd] 25)) := ((Below.refl _ _).alloc (Nat.le_refl _) _).alloc (by simp) _
  obtain ⟨G1, G2, G3⟩ := hG.below hB (Nat.le_refl _)
  obtain ⟨H1, H2, H3⟩ := hH.below hB (Nat.le_refl _)
  obtain ⟨p1, p2, p3, _, p5, _⟩ := og
  obtain ⟨q1, q2, q3, _, q5, _⟩ := oh
  have hand := eqG_and g h
  have ht := fun q => strs_any ta tb tc td g.ts h.ts (World.drewN ((w.alloc (.cells #[.slice ta g.ts.length tc, .slice na g.ns.length nc, .int .i64 g.ax, .slice ra g.rs.length rc] 25)).alloc (.cells #[.slice tb h.ts.length td, .slice nb h.ns.length nd, .int .i64 h.ax, .slice rb h.rs.length rd] 25)) q) G1 H1 p1 q1
  have hn := fun q => strs_any na nb nc nd g.ns h.ns (World.drewN ((w.alloc (.cells #[.slice ta g.ts.length tc, .slice na g.ns.length nc, .int .i64 g.ax, .slice ra g.rs.length rc] 25)).alloc (.cells #[.slice tb h.ts.length td, .slice nb h.ns.length nd, .int .i64 h.ax, .slice rb h.rs.length rd] 25)) q) G2 H2 p2 q2
  have hr := fun q => rules_any ra rb rc rd g.rs h.rs (World.drewN ((w.alloc (.cells #[.slice ta g.ts.length tc, .slice na g.ns.length nc, .int .i64 g.ax, .slice ra g.rs.length rc] 25)).alloc (.cells #[.slice tb h.ts.length td, .slice nb h.ns.length nd, .int .i64 h.ax, .slice rb h.rs.length rd] 25)) q) G3 H3 p3 q3 p5 q5
  cases ht1 : eqS g.ts h.ts with
  | false =>
    rw [ht1, Bool.false_and, Bool.false_and, Bool.false_and] at hand
    have E : Hid (eqG g h = false) := hand
    rw [ht1] at ht
    clear hand ht1
    go_enter Tryz.func12, Tryz.ntmps12
    go_wp2_with fail
    refine (ht 0).mono ?_
    rintro e w1 ⟨rfl, q, rfl⟩
    go_wp2
    go_ret
    exact ⟨ret_bool E.out.symm, hB.os, hB.tape, hB.output, hB.size, hB.block⟩
  | true =>
    rw [ht1, Bool.true_and] at hand
    rw [ht1] at ht
    cases hn1 : eqS g.ns h.ns with
    | false =>
      rw [hn1, Bool.false_and, Bool.false_and] at hand
      have E : Hid (eqG g h = false) := hand
      rw [hn1] at hn
      clear hand ht1 hn1
      go_enter Tryz.func12, Tryz.ntmps12
      go_wp2_with fail
      refine (ht 0).mono ?_
      rintro e w1 ⟨rfl, q, rfl⟩
      go_wp2_with fail
      refine (hn _).mono ?_
      rintro e w1 ⟨rfl, q2, rfl⟩
      go_wp2
      go_ret
      exact ⟨ret_bool E.out.symm, hB.os, hB.tape, hB.output, hB.size, hB.block⟩
    | true =>
      rw [hn1, Bool.true_and] at hand
      rw [hn1] at hn
      by_cases hax : g.ax = h.ax
      · have hf : (g.ax == h.ax) = true := by simpa using hax
        rw [decide_eq_true hax, Bool.true_and] at hand
        have E : Hid (eqG g h = eqRs g.rs h.rs) := hand
        clear hand hax ht1 hn1
        go_enter Tryz.func12, Tryz.ntmps12
        go_wp2_with fail
        refine (ht 0).mono ?_
        rintro e w1 ⟨rfl, q, rfl⟩
        go_wp2_with fail
        refine (hn _).mono ?_
        rintro e w1 ⟨rfl, q2, rfl⟩
        rw [World.drewN_drewN]
        go_wp2_with fail
        refine (hr _).mono ?_
        rintro e w1 ⟨rfl, q3, rfl⟩
        go_wp2
        go_ret
        exact ⟨ret_bool E.out.symm, hB.os, hB.tape, hB.output, hB.size, hB.block⟩
      · have hf : (g.ax == h.ax) = false := by simpa using hax
        rw [decide_eq_false hax, Bool.false_and] at hand
        have E : Hid (eqG g h = false) := hand
        clear hand hax ht1 hn1 hr
        go_enter Tryz.func12, Tryz.ntmps12
        go_wp2_with fail
        refine (ht 0).mono ?_
        rintro e w1 ⟨rfl, q, rfl⟩
        go_wp2_with fail
        refine (hn _).mono ?_
        rintro e w1 ⟨rfl, q2, rfl⟩
        go_wp2
        go_ret
        exact ⟨ret_bool E.out.symm, hB.os, hB.tape, hB.output, hB.size, hB.block⟩

end Go.Proofs.YtjblkgephboajaaGreatDoor.GramSame
