/-
  Texts that stand together: WordsTrim, WordsMarks, WordsRLines, RangeOwn, WordsSLines, WordsWLines, LineSR, SpecSplit.
-/
import Derived.Test.YtjblkgephboajaaGreatDoorBagLineMath
import Derived.Test.YtjblkgephboajaaGreatDoorBagGramLent
import Derived.RangeFuncLeaves
import Derived.RangeFuncBox
import Derived.RangeFuncNested
import Derived.RangeFuncBound
import Derived.OwnWalkIn
import Derived.Below
import Derived.RangeFuncCalls
import Derived.Shelf.Abstract
import Derived.Shelf.RegionOpen
import Derived.TacticsInMore
import Derived.LoopNIn
import Derived.LoopIn
import Derived.BigRegionIn
import Derived.Maps.AppendAt
namespace Go.Proofs.YtjblkgephboajaaGreatDoor.WordsCutM
open Go.RowKit WordsMath WordsOne WordsBytes

theorem copy_any (s : ByteArray) (w : World) (hs : s.size ≤ 281474976710656) : Calls Tryz.prog 71 #[.string s] w fun e w' => e = .returned (.string s) ∧ Below w.heap.size w w' := by
  go_enter Tryz.func71, Tryz.ntmps71
  go_wp2_with fail
  refine (Tryz.stringslite_Clone s w hs).mono ?_
  rintro e w1 ⟨rfl, hb⟩
  go_wp2
  go_ret
  exact ⟨rfl, hb⟩

end Go.Proofs.YtjblkgephboajaaGreatDoor.WordsCutM

namespace Go.Proofs.YtjblkgephboajaaGreatDoor.WordsMarks
open Go.RowKit
set_option linter.unusedVariables false

/-- The marks that loops over sequences leave. -/
def marks (Ds : List Nat) : List Deferred := Ds.map (fun D => { target := .collected D, args := #[] })
def OpenAt (w : World) (B : Nat) (Ds : List Nat) : Prop := Ds.Nodup ∧ ∀ D ∈ Ds, B ≤ D ∧ w.heap[D]? = some (.deferred (some []))

end Go.Proofs.YtjblkgephboajaaGreatDoor.WordsMarks

namespace Go.Proofs.YtjblkgephboajaaGreatDoor.WordsCutM
open Go.RowKit WordsMath WordsOne WordsBytes

theorem piece (s : ByteArray) (f k : Nat) : s.extract f k = ⟨((s.data.toList.drop f).take (k - f)).toArray⟩ := by
  rw [← Lib.extract_data]

end Go.Proofs.YtjblkgephboajaaGreatDoor.WordsCutM

namespace Go.Proofs.YtjblkgephboajaaGreatDoor.RangeOwn
open Go.RowKit
set_option linter.unusedVariables false

variable {F : Fence} {n : Nat} {P : Program}

/-- The record that the statement lays for its loop. -/
def recOf (fn : FuncId) (a : Act) (ps : Array Tmp) (assign body : Code) (D : Nat) : Loop :=
  { state := .ready, pending := none, fn := fn, tmps := a.tmps, params := ps, assign := assign, body := body, defers := D }

/-- THE STATEMENT: what is left to show is the iterator's own call, the record and the block for deferred calls lying behind all that lay there. -/
theorem enter {g : Operand} {ps : Array Tmp} {assign body : Code} {Q : Exit → Act → World → Prop} {a : Act} {w : World}
    (hro : F.round = none) (h1 : 1 ≤ n) {gf : Nat} {lb : Array Value} (hg : a.eval g = .func (.func gf) #[] lb) (hFg : F.fn gf) (eg : ∀ args w, (callFunc gf args).run P w = .ok (.enter gf args) w)
    (h : ∀ fn, F.fn fn → CallsIn F (n - 1) P gf (#[.func (.yield (w.heap.size + 1)) #[] #[]] ++ lb) ((w.alloc (.deferred (some []))).alloc (.loop (recOf fn a ps assign body w.heap.size)))
      (rangePost F n P (w.heap.size + 1) Q { a with defers := [{ target := .collected w.heap.size, args := #[] }] ++ a.defers })) :
    (Code.rangeFunc g ps assign body).wpIn F n P Q a w := by
  refine wpIn_rangeFunc ?_
  intro fn hfn
  have hc := h fn hfn
  have he : (Instr.enterLoop fn a.tmps ps assign body F.round).run P w = .ok (w.heap.size + 1, [{ target := .collected w.heap.size, args := #[] }]) ((w.alloc (.deferred (some []))).alloc (.loop (recOf fn a ps assign body w.heap.size))) := by
    rw [hro]
    exact run_enterLoop_outer _ _ _ _ _
  generalize (w.alloc (.deferred (some []))).alloc (.loop (recOf fn a ps assign body w.heap.size)) = W1 at hc he
  refine ⟨w.heap.size + 1, [{ target := .collected w.heap.size, args := #[] }], W1, { target := .fn (.func gf) lb, args := #[.func (.yield (w.heap.size + 1)) #[] #[]] }, W1, gf, #[.func (.yield (w.heap.size + 1)) #[] #[]] ++ lb, W1, he, ?_, ?_, ?_, fun _ => h1, ?_⟩
  · simp only [resolve, hg]
    simp [go_sem]
  · intro f' hf'
    simp [Target.leads] at hf'
    subst hf'
    exact hFg
  · simp [invoke, go_sem, eg]
  · exact hc

/-- A ROUND: the assignments, then the body, from the record that is ready. -/
theorem round {l : Nat} {r : Loop} {args : Array Value} {W : World} {R : Ending → World → Prop} (hl : W.heap[l]? = some (.loop r)) (hs : args.size = r.params.size) (hF : F.fn r.fn)
    (h : r.assign.wpIn (F.inRound l) n P (Exit.then (fun a₁ w₁ => ∃ r1 : Loop, w₁.heap[l]? = some (.loop r1) ∧ r1.state = .ready ∧ r.body.wpIn (F.inRound l) n P (roundPost P l R) a₁ (w₁.putObj l (.loop { r1 with state := .busy }))) (fun _ _ _ => False))
      { tmps := (r.params.zip args).foldl (fun tmps (t, a) => tmps.setIfInBounds t a) r.tmps, defers := [] } W) : YieldAt F n P l args W R := by
  refine ⟨r.fn, _, r.assign, r.body, run_yield hl hs, roundIn_of_wpIn hF (wpIn_mono h ?_)⟩
  intro e a₁ w₁ hq
  cases e with
  | normal =>
    obtain ⟨r1, h1, h2, h3⟩ := hq
    exact ⟨_, run_beginRound h1 h2, h3⟩
  | exit id => exact hq
  | goto t => exact hq
  | ret => exact hq
  | panic c => exact hq
  | outgrown => exact hq

theorem goes_on {l : Nat} {r : Loop} {a : Act} {W : World} {R : Ending → World → Prop} (hl : W.heap[l]? = some (.loop r)) (h : R (.returned (.bool true)) (W.putObj l (.loop { r with state := .ready, pending := none }))) : roundPost P l R .normal a W :=
  ⟨_, _, run_endRound none hl, h⟩
theorem leaves {l : Nat} {r : Loop} {a : Act} {W : World} {R : Ending → World → Prop} (hl : W.heap[l]? = some (.loop r)) (h : R (.returned (.bool false)) (W.putObj l (.loop { r with state := .done, pending := some .ret }))) : roundPost P l R .ret a W :=
  ⟨_, _, run_endRound (some .ret) hl, h⟩

/-- BEHIND THE ITERATOR: it ran out. -/
theorem ran_out {l : Nat} {r : Loop} {Q : Exit → Act → World → Prop} {a : Act} {W : World} {v : Value} (hl : W.heap[l]? = some (.loop r)) (hr : r.state = .ready) (hp : r.pending = none) (h : Q .normal a (W.putObj l (.loop { r with state := .exhausted }))) : rangePost F n P l Q a (.returned v) W := by
  refine ⟨_, _, run_endLoop hl (by rw [hr]; simp), ?_⟩
  have h' := h
  rw [hp] at h' ⊢
  exact h'
/-- BEHIND THE ITERATOR: the body returned. -/
theorem was_left {l : Nat} {r : Loop} {c : Code} {Q : Exit → Act → World → Prop} {a : Act} {W : World} {v : Value} (hl : W.heap[l]? = some (.loop r)) (hr : r.state = .done) (hp : r.pending = some c) (h : c.wpIn F n P Q a (W.putObj l (.loop { r with state := .exhausted }))) : rangePost F n P l Q a (.returned v) W := by
  refine ⟨_, _, run_endLoop hl (by rw [hr]; simp), ?_⟩
  have h' := h
  rw [hp] at h' ⊢
  exact h'

end Go.Proofs.YtjblkgephboajaaGreatDoor.RangeOwn

namespace Go.Proofs.YtjblkgephboajaaGreatDoor.WordsSLines
open Go.RowKit WordsMath WordsOne WordsBytes WordsCutM
set_option linter.unusedVariables false

/-- How long the text is that lies in a box. -/
def leftIn (b : Nat) (W : World) : Nat := match W.cell? ⟨b, 0, none⟩ with | some (.string s) => s.size | _ => 0

/-- The first line of a text with its end, and what is left. -/
def lineOf (l : List UInt8) : List UInt8 × List UInt8 := if 0 ≤ Lib.indexByte l 10 then (l.take ((Lib.indexByte l 10).toNat + 1), l.drop ((Lib.indexByte l 10).toNat + 1)) else (l, [])

end Go.Proofs.YtjblkgephboajaaGreatDoor.WordsSLines

namespace Go.Proofs.YtjblkgephboajaaGreatDoor.WordsSLines
open Go.RowKit WordsMath WordsOne WordsBytes WordsCutM
set_option linter.unusedVariables false

end Go.Proofs.YtjblkgephboajaaGreatDoor.WordsSLines

namespace Go.Proofs.YtjblkgephboajaaGreatDoor.LineRg
open Go.RowKit WordsMath WordsOne WordsBytes WordsCutM WordsSLines
set_option linter.unusedVariables false

/-- All that was there lies as it did, but for what lies from lo to hi. -/
structure Out (lo hi : Nat) (W W' : World) : Prop where
  os : W'.os = W.os
  tape : W'.tape = W.tape
  output : W'.output = W.output
  size : W.heap.size ≤ W'.heap.size
  block : ∀ k, k < W.heap.size → ¬ (lo ≤ k ∧ k < hi) → W'.heap[k]? = W.heap[k]?

theorem Out.trans {lo hi : Nat} {a b c : World} (h : Out lo hi a b) (k : Out lo hi b c) : Out lo hi a c :=
  ⟨k.os.trans h.os, k.tape.trans h.tape, k.output.trans h.output, Nat.le_trans h.size k.size, fun i hi hn => (k.block i (Nat.lt_of_lt_of_le hi h.size) hn).trans (h.block i hi hn)⟩
theorem Out.of_below {lo hi : Nat} {W W' : World} (h : Below W.heap.size W W') : Out lo hi W W' := ⟨h.os, h.tape, h.output, h.size, fun k hk _ => h.block k hk⟩
theorem Out.alloc (lo hi : Nat) (W : World) (o : Obj) : Out lo hi W (W.alloc o) := .of_below ((Below.refl _ _).alloc (Nat.le_refl _) _)
theorem Out.drew (lo hi : Nat) (W : World) : Out lo hi W W.drew := ⟨rfl, rfl, rfl, Nat.le_refl W.heap.size, fun _ _ _ => rfl⟩
theorem Out.putObj {lo hi l : Nat} (W : World) {o : Obj} (o' : Obj) (hl : W.heap[l]? = some o) (h1 : lo ≤ l) (h2 : l < hi) : Out lo hi W (W.putObj l o') := by
  have hg := grownBy_putObj' W l o'
  exact ⟨hg.os, hg.tape, hg.output, hg.size, fun k hk hn => hg.block k hk (fun e => hn (by cases e; exact ⟨h1, h2⟩))⟩
theorem Out.below {lo hi B : Nat} {W W' : World} (h : Out lo hi W W') (hB : B ≤ lo) (hW : B ≤ W.heap.size) : Below B W W' := ⟨h.os, h.tape, h.output, h.size, fun k hk => h.block k (by omega) (fun e => by omega)⟩

/-- What lies from lo to hi lies as it did. -/
def Mid (lo hi : Nat) (W W' : World) : Prop := W.heap.size ≤ W'.heap.size ∧ ∀ k, lo ≤ k → k < hi → W'.heap[k]? = W.heap[k]?
/-- How the body of a round may be left. -/
def postM (B b0 : Nat) (I : List UInt8 → World → Prop) (Ix : Code → World → Prop) (r : List UInt8) (W : World) : Exit → Act → World → Prop
  | .normal, _, W' => Mid B (B + 2) W W' ∧ Boxed W' b0 9 (.string ⟨r.toArray⟩) ∧ I r W'
  | .ret, _, W' => Mid B (B + 2) W W' ∧ Ix .ret W'
  | .exit id, _, W' => Mid B (B + 2) W W' ∧ Ix (.exit id) W'
  | .goto t, _, W' => Mid B (B + 2) W W' ∧ Ix (.goto t) W'
  | .panic _, _, _ => False
  | .outgrown, _, _ => False

/-- How a function with one loop over a sequence leaves. -/
theorem leaves_one {F : Fence} {n : Nat} {P : Program} {fn : Func} {tmps : Array Value} {R : Ending → World → Prop} {D : Nat} {W : World} (hD : W.heap[D]? = some (.deferred (some []))) (h : LeavesInM F n P fn tmps R [] .returning (W.putObj D (.deferred none))) : LeavesInM F n P fn tmps R [{ target := .collected D, args := #[] }] .returning W :=
  ⟨by simp, .inl ⟨D, _, rfl, run_takeDeferred hD, h⟩⟩

end Go.Proofs.YtjblkgephboajaaGreatDoor.LineRg

namespace Go.Proofs.YtjblkgephboajaaGreatDoor.SpecRg
open Go.RowKit WordsSLines WordsMath WordsOne WordsBytes WordsCutM SpecTx LineRg
set_option linter.unusedVariables false
set_option linter.unusedSimpArgs false

theorem split_run : ∀ (a cur r : List UInt8), (∀ x ∈ a, x ≠ 10) → splitGo cur (a ++ r) = splitGo (cur ++ a) r
  | [], cur, r, _ => by rw [List.nil_append, List.append_nil]
  | x :: a, cur, r, h => by
    rw [List.cons_append]
    show (if x = 10 then _ else splitGo (cur ++ [x]) (a ++ r)) = _
    rw [if_neg (h x (List.mem_cons_self ..)), split_run a _ r (fun y hy => h y (List.mem_cons_of_mem _ hy)), List.append_assoc]
    rfl
theorem split_at {l : List UInt8} {i : Nat} (h : Lib.indexByte l 10 = (i : Int)) : i < l.length ∧ splitGo [] l = l.take i :: splitGo [] (l.drop (i + 1)) := by
  obtain ⟨h1, h2⟩ := Lib.indexByte_some h
  obtain ⟨hi, he⟩ := List.getElem?_eq_some_iff.1 h1
  refine ⟨hi, ?_⟩
  have e : l = l.take i ++ 10 :: l.drop (i + 1) := by
    rw [← he, List.getElem_cons_drop, List.take_append_drop]
  conv => lhs; rw [e]
  rw [split_run _ _ _ (fun x hx h3 => by
    obtain ⟨k, hk, hx2⟩ := List.getElem_of_mem hx
    rw [List.length_take] at hk
    refine h2 k (by omega) ?_
    rw [List.getElem_take] at hx2
    rw [List.getElem?_eq_getElem (by omega), hx2, h3])]
  simp [splitGo]
theorem split_none {l : List UInt8} (h : Lib.indexByte l 10 = -1) : splitGo [] l = [l] := by
  have hn := Lib.indexByte_none h
  have := split_run l [] [] (fun x hx h3 => by
    obtain ⟨k, hk, hx2⟩ := List.getElem_of_mem hx
    exact hn k (by rw [List.getElem?_eq_getElem hk, hx2, h3]))
  rw [List.append_nil, List.nil_append] at this
  rw [this]
  rfl

/-- The boxes that the sequence keeps: what is left, what parts, and that nothing of it is kept. -/
structure Bx (b0 : Nat) (r : List UInt8) (W : World) : Prop where
  txt : Boxed W b0 9 (.string ⟨r.toArray⟩)
  sep : Boxed W (b0 + 1) 9 (.string ⟨#[10]⟩)
  sav : Boxed W (b0 + 2) 3 (.int .i64 0)
theorem Bx.of {b0 : Nat} {r : List UInt8} {W W' : World} (h : Bx b0 r W) (h0 : W'.heap[b0]? = W.heap[b0]?) (h1 : W'.heap[b0 + 1]? = W.heap[b0 + 1]?) (h2 : W'.heap[b0 + 2]? = W.heap[b0 + 2]?) : Bx b0 r W' := ⟨h0.trans h.txt, h1.trans h.sep, h2.trans h.sav⟩
theorem Bx.put {b0 : Nat} {r : List UInt8} {W : World} (h : Bx b0 r W) (r' : List UInt8) : Bx b0 r' (W.setCell ⟨b0, 0, none⟩ (.string ⟨r'.toArray⟩)) :=
  ⟨h.txt.set _, (Below.heap_setCell _ _ _ _ (show b0 + 1 ≠ b0 by omega)).trans h.sep, (Below.heap_setCell _ _ _ _ (show b0 + 2 ≠ b0 by omega)).trans h.sav⟩

set_option maxRecDepth 100000 in
set_option maxHeartbeats 2000000 in
theorem splits_in (n : Nat) (hn : 1 ≤ n) (l b0 : Nat) (J : List (List UInt8) → World → Prop) (Jx : World → Prop)
    (hD : ∀ r W, J r W → J r W.drew) (hSet : ∀ r W v, J r W → J r (W.setCell ⟨b0, 0, none⟩ v))
    (hY : ∀ x r s W, Bx b0 s W → J (x :: r) W → YieldAt Fence.wide (n - 1) Tryz.prog l #[.string ⟨x.toArray⟩] W fun e W' =>
      (e = .returned (.bool true) ∧ J r W' ∧ Bx b0 s W') ∨ (e = .returned (.bool false) ∧ Jx W'))
    (s : List UInt8) (W : World) (hb : Bx b0 s W) (hs : s.length ≤ 16777216) (h0 : J (splitGo [] s) W) :
    CallsIn Fence.wide n Tryz.prog 92 #[.func (.yield l) #[] #[], .pointer (some ⟨b0 + 1, 0, none⟩), .pointer (some ⟨b0, 0, none⟩), .pointer (some ⟨b0 + 2, 0, none⟩)] W fun e W' => (∃ v, e = .returned v) ∧ (J [] W' ∨ Jx W') := by
  refine callsIn_of_wp Tryz.func92 rfl trivial ?_ rfl
  simp only [Tryz.ntmps92, List.size_toArray, List.length_cons, List.length_nil, Nat.reduceAdd, Nat.reduceSub, Array.replicate_succ, Array.replicate_zero, List.push_toArray, List.append_toArray, List.nil_append, List.cons_append]
  have c1 := hb.sep.cell
  gi_wp2
  gi_loopw [7, 8] (fun _ _ wr => ∃ r : List UInt8, r.length ≤ 16777216 ∧ Bx b0 r wr ∧ J (splitGo [] r) wr) (fun _ _ wr => leftIn b0 wr)
  case atStart => exact ⟨s, hs, hb, h0⟩
  case round =>
    clear c1
    obtain ⟨r, hrl, hbx, hJ⟩ := hrel
    have c0 := hbx.txt.cell
    have f0 := hbx.txt.frozen
    have c1 := hbx.sep.cell
    have c2 := hbx.sav.cell
    have hsz : (⟨r.toArray⟩ : ByteArray).size = r.length := by simp [ByteArray.size]
    have hix := Tryz.strings_Index_one ⟨r.toArray⟩ 10 wr
    rw [show (⟨r.toArray⟩ : ByteArray).data.toList = r from List.toList_toArray] at hix
    by_cases hi : 0 ≤ Lib.indexByte r 10
    · obtain ⟨i, hie⟩ : ∃ i : Nat, Lib.indexByte r 10 = (i : Int) := ⟨_, (Int.toNat_of_nonneg hi).symm⟩
      rw [hie] at hix
      obtain ⟨hil, hsp⟩ := split_at hie
      have hi0 : ¬ (i : Int) < 0 := by omega
      have hil2 : (i : Int) ≤ ((⟨r.toArray⟩ : ByteArray).size : Int) := by omega
      have HI3 : Hid ((i : Int) + 1 ≤ ((⟨r.toArray⟩ : ByteArray).size : Int) ∧ (i : Int) + 1 ≤ 16777216) := by show _ ∧ _; omega
      have L1 : (⟨(r.take i).toArray⟩ : ByteArray) = (⟨r.toArray⟩ : ByteArray).extract 0 i := by rw [piece]; simp
      have L2 : (⟨(r.drop (i + 1)).toArray⟩ : ByteArray) = (⟨r.toArray⟩ : ByteArray).extract (i + 1) r.length := by
        rw [piece]
        show (⟨(r.drop (i + 1)).toArray⟩ : ByteArray) = ⟨((r.drop (i + 1)).take (r.length - (i + 1))).toArray⟩
        rw [List.take_of_length_le (by rw [List.length_drop]; exact Nat.le_refl _)]
      have hm : Hid ((r.drop (i + 1)).length < r.length) := by show _ < _; rw [List.length_drop]; omega
      have hm' : Hid ((r.drop (i + 1)).length ≤ 16777216) := by show _ ≤ _; rw [List.length_drop]; omega
      have hYr := hY (r.take i) (splitGo [] (r.drop (i + 1))) r wr hbx (by rw [← hsp]; exact hJ)
      rw [L1] at hYr
      obtain ⟨fn, tmps, assign, body, hy, hR⟩ := hYr
      have HL : Hid (leftIn b0 wr = r.length) := by
        show _ = _
        unfold leftIn
        rw [c0]
        simp [ByteArray.size]
      have HL2 : Hid ((⟨r.toArray⟩ : ByteArray).extract (i + 1) r.length = ⟨(r.drop (i + 1)).toArray⟩) := L2.symm
      have hw1 : wrap64 (i : Int) = (i : Int) := by unfold wrap64; omega
      clear hi hsp L1 L2 hY hJ hbx hie hil hrl hsz
      gi_wp2_with (refine ⟨trivial, ?_⟩; gi_at_call 94; refine (callsIn_wide.2 hix).mono ?_; rintro e w' ⟨rfl, hw'⟩; obtain rfl := hw'.symm)
      refine hR.mono ?_
      rintro e W3 (⟨rfl, hJ3, hb3⟩ | ⟨rfl, hJx3⟩)
      · obtain ⟨hil3, hil4⟩ := HI3.out
        have hw2 : wrap64 ((i : Int) + 1) = (i : Int) + 1 := by unfold wrap64; omega
        clear hil4
        have d0 := hb3.txt.cell
        have e0 := hb3.txt.frozen
        have d1 := hb3.sep.cell
        have hJ4 := hSet _ _ (.string ⟨(r.drop (i + 1)).toArray⟩) hJ3
        have hb4 := hb3.put (r.drop (i + 1))
        have hl4 : Hid (leftIn b0 (W3.setCell ⟨b0, 0, none⟩ (.string ⟨(r.drop (i + 1)).toArray⟩)) = (r.drop (i + 1)).length) := by
          show _ = _
          unfold leftIn
          rw [hb4.txt.cell]
          simp [ByteArray.size]
        generalize hrest : r.drop (i + 1) = rest at *
        rw [← HL2.out] at hb4 hJ4 hl4
        clear hrest
        clear hy hR c0 f0 c1 c2 hJ3 hb3
        gi_wp2
        go_roundw
        case rel =>
          rw [HL2.out] at hb4 hJ4 ⊢
          exact ⟨rest, hm'.out, hb4, hJ4⟩
        case measure =>
          rw [hl4.out, HL.out]
          exact hm.out
      · clear hy hR c0 f0 c1 c2
        gi_wp2
        refine bodyPost_ret (results_none rfl _ _ _) rfl ?_
        exact ⟨⟨_, rfl⟩, .inr hJx3⟩
    · have hie : Lib.indexByte r 10 = -1 := by
        have := Lib.indexByte_ge r 10
        omega
      rw [hie] at hix
      have hYr := hY r [] r wr hbx (by rw [← split_none hie]; exact hJ)
      obtain ⟨fn, tmps, assign, body, hy, hR⟩ := hYr
      clear hi hY hJ hbx hie
      gi_wp2_with (refine ⟨trivial, ?_⟩; gi_at_call 94; refine (callsIn_wide.2 hix).mono ?_; rintro e w' ⟨rfl, hw'⟩; obtain rfl := hw'.symm)
      refine hR.mono ?_
      rintro e W3 (⟨rfl, hJ3, hb3⟩ | ⟨rfl, hJx3⟩)
      · clear hy hR c0 f0 c1 c2
        gi_wp2
        go_end0
        exact ⟨⟨_, rfl⟩, .inl hJ3⟩
      · clear hy hR c0 f0 c1 c2
        gi_wp2
        go_end0
        exact ⟨⟨_, rfl⟩, .inr hJx3⟩

/-- How the body of a round may be left. -/
def postS (B b0 : Nat) (s' : List UInt8) (I : List (List UInt8) → World → Prop) (Ix : Code → World → Prop) (r : List (List UInt8)) (W : World) : Exit → Act → World → Prop
  | .normal, _, W' => Mid B (B + 2) W W' ∧ Bx b0 s' W' ∧ I r W'
  | .ret, _, W' => Mid B (B + 2) W W' ∧ Ix .ret W'
  | .exit id, _, W' => Mid B (B + 2) W W' ∧ Ix (.exit id) W'
  | .goto t, _, W' => Mid B (B + 2) W W' ∧ Ix (.goto t) W'
  | .panic _, _, _ => False
  | .outgrown, _, _ => False

theorem putBx {w : World} {b0 l : Nat} {r : List UInt8} {o : Obj} (o' : Obj) (h : Bx b0 r w) (hl : w.heap[l]? = some o) (ho : o.isCells = false) : Bx b0 r (w.putObj l o') := by
  have f : ∀ {b : Nat} {t : TypeId} {v : Value}, Boxed w b t v → Boxed (w.putObj l o') b t v := fun {b t v} h => by
    refine h.kept (grownBy_putObj' w l o') ?_
    intro e
    have h3 : w.heap[b]? = _ := h
    have e2 : b = l := by cases e; rfl
    rw [e2, hl] at h3
    cases h3
    cases ho
  exact ⟨f h.txt, f h.sep, f h.sav⟩

theorem range_splits {g : Operand} {ps : Array Tmp} {assign body : Code} {Q : Exit → Act → World → Prop} {a : Act} {w : World} (n : Nat) (hn : 2 ≤ n) (b0 : Nat) (s : List UInt8) (hm : s.length ≤ 16777216)
    (hg : a.eval g = .func (.func 92) #[] #[.pointer (some ⟨b0 + 1, 0, none⟩), .pointer (some ⟨b0, 0, none⟩), .pointer (some ⟨b0 + 2, 0, none⟩)]) (hT : Bx b0 s w) (hps : ps.size = 1)
    (I : List (List UInt8) → World → Prop) (Ix : Code → World → Prop) (hI : ∀ r W W', I r W → Out w.heap.size (w.heap.size + 2) W W' → I r W') (hIx : ∀ c W W', Ix c W → Out w.heap.size (w.heap.size + 2) W W' → Ix c W') (h0 : I (splitGo [] s) w)
    (hset : ∀ r W v, I r W → I r (W.setCell ⟨b0, 0, none⟩ v)) (hb0 : b0 + 2 < w.heap.size)
    (a₁ : List UInt8 → Act)
    (hassign : ∀ (l : Nat) (x : List UInt8) (W : World) (K : Act → World → Prop), K (a₁ x) W →
      assign.wpIn (Fence.wide.inRound l) (n - 1 - 1) Tryz.prog (Exit.then K (fun _ _ _ => False)) { tmps := (ps.zip #[Value.string ⟨x.toArray⟩]).foldl (fun t (p, v) => t.setIfInBounds p v) a.tmps, defers := [] } W)
    (hbody : ∀ (l : Nat) (x : List UInt8) (r : List (List UInt8)) (s' : List UInt8) (W : World), w.heap.size + 2 ≤ W.heap.size → Bx b0 s' W → I (x :: r) W → body.wpIn (Fence.wide.inRound l) (n - 1 - 1) Tryz.prog (postS w.heap.size b0 s' I Ix r W) (a₁ x) W)
    (hdone : ∀ (W : World), w.heap.size + 2 ≤ W.heap.size → I [] W → W.heap[w.heap.size]? = some (.deferred (some [])) → Q .normal { a with defers := { target := .collected w.heap.size, args := #[] } :: a.defers } W)
    (hstop : ∀ (c : Code) (W : World), w.heap.size + 2 ≤ W.heap.size → Ix c W → W.heap[w.heap.size]? = some (.deferred (some [])) → c.wpIn Fence.wide n Tryz.prog Q { a with defers := { target := .collected w.heap.size, args := #[] } :: a.defers } W) :
    (Code.rangeFunc g ps assign body).wpIn Fence.wide n Tryz.prog Q a w := by
  refine RangeOwn.enter rfl (by omega) hg trivial (enters_of Tryz.func92 (by kernel_rfl) rfl) ?_
  intro fn hfn
  have hL1 : ((w.alloc (.deferred (some []))).alloc (.loop (RangeOwn.recOf fn a ps assign body w.heap.size))).heap[w.heap.size + 1]? = some (.loop (RangeOwn.recOf fn a ps assign body w.heap.size)) := by
    have := World.alloc_heap_new (w.alloc (.deferred (some []))) (.loop (RangeOwn.recOf fn a ps assign body w.heap.size))
    rwa [World.size_alloc] at this
  have hK1 : ((w.alloc (.deferred (some []))).alloc (.loop (RangeOwn.recOf fn a ps assign body w.heap.size))).heap[w.heap.size]? = some (.deferred (some [])) :=
    (Below.heap_alloc _ _ _ (by simp)).trans (World.alloc_heap_new w _)
  have hI1 := hI _ _ _ h0 ((Out.alloc _ _ w (.deferred (some []))).trans (Out.alloc _ _ _ (.loop (RangeOwn.recOf fn a ps assign body w.heap.size))))
  have hT1 : Bx b0 s ((w.alloc (.deferred (some []))).alloc (.loop (RangeOwn.recOf fn a ps assign body w.heap.size))) := ⟨(hT.txt.alloc _).alloc _, (hT.sep.alloc _).alloc _, (hT.sav.alloc _).alloc _⟩
  refine (splits_in (n - 1) (by omega) (w.heap.size + 1) b0
    (fun r W => I r W ∧ W.heap[w.heap.size + 1]? = some (.loop (RangeOwn.recOf fn a ps assign body w.heap.size)) ∧ W.heap[w.heap.size]? = some (.deferred (some [])))
    (fun W => ∃ c, Ix c W ∧ W.heap[w.heap.size + 1]? = some (.loop { RangeOwn.recOf fn a ps assign body w.heap.size with state := .done, pending := some c }) ∧ W.heap[w.heap.size]? = some (.deferred (some [])))
    (fun r W h => ⟨hI _ _ _ h.1 (Out.drew _ _ W), h.2⟩) (fun r W v h => ⟨hset r W v h.1, (Below.heap_setCell _ _ _ _ (by show _ ≠ b0; omega)).trans h.2.1, (Below.heap_setCell _ _ _ _ (by show _ ≠ b0; omega)).trans h.2.2⟩) ?_ s _ hT1 hm ⟨hI1, hL1, hK1⟩).mono ?_
  · rintro x r s' W hT2 ⟨hi, hl, hk⟩
    have hlt : w.heap.size + 1 < W.heap.size := (Array.getElem?_eq_some_iff.1 hl).1
    refine RangeOwn.round hl (by show 1 = ps.size; omega) hfn (hassign _ _ W _ ⟨_, hl, rfl, ?_⟩)
    have hl2 : (W.putObj (w.heap.size + 1) (.loop { RangeOwn.recOf fn a ps assign body w.heap.size with state := .busy })).heap[w.heap.size + 1]? = some (.loop { RangeOwn.recOf fn a ps assign body w.heap.size with state := .busy }) := World.putObj_heap_same hlt
    have hk2 : (W.putObj (w.heap.size + 1) (.loop { RangeOwn.recOf fn a ps assign body w.heap.size with state := .busy })).heap[w.heap.size]? = some (.deferred (some [])) := (World.putObj_heap_other (by omega)).trans hk
    refine wpIn_mono (hbody _ x r s' _ (by simp [World.putObj]; omega) (putBx _ hT2 hl rfl) (hI _ _ _ hi (Out.putObj W _ hl (by omega) (by omega)))) ?_
    have fin : ∀ (o : Obj) (W3 : World), Mid w.heap.size (w.heap.size + 2) (W.putObj (w.heap.size + 1) (.loop { RangeOwn.recOf fn a ps assign body w.heap.size with state := .busy })) W3 →
        W3.heap[w.heap.size + 1]? = some (.loop { RangeOwn.recOf fn a ps assign body w.heap.size with state := .busy }) ∧ (W3.putObj (w.heap.size + 1) o).heap[w.heap.size + 1]? = some o ∧ (W3.putObj (w.heap.size + 1) o).heap[w.heap.size]? = some (.deferred (some [])) := fun o W3 hk3 => by
      have hl3 := (hk3.2 (w.heap.size + 1) (by omega) (by omega)).trans hl2
      exact ⟨hl3, World.putObj_heap_same (Array.getElem?_eq_some_iff.1 hl3).1, (World.putObj_heap_other (by omega)).trans ((hk3.2 _ (Nat.le_refl _) (by omega)).trans hk2)⟩
    rintro e a3 W3 hp
    cases e with
    | normal =>
      obtain ⟨hk3, hT3, hi3⟩ := hp
      obtain ⟨hl3, hl4, hk4⟩ := fin (.loop (RangeOwn.recOf fn a ps assign body w.heap.size)) W3 hk3
      exact RangeOwn.goes_on hl3 (.inl ⟨rfl, ⟨hI _ _ _ hi3 (Out.putObj W3 _ hl3 (by omega) (by omega)), hl4, hk4⟩, putBx _ hT3 hl3 rfl⟩)
    | ret =>
      obtain ⟨hk3, hi3⟩ := hp
      obtain ⟨hl3, hl4, hk4⟩ := fin (.loop { RangeOwn.recOf fn a ps assign body w.heap.size with state := .done, pending := some .ret }) W3 hk3
      exact ⟨_, _, run_endRound (some .ret) hl3, .inr ⟨rfl, .ret, hIx _ _ _ hi3 (Out.putObj W3 _ hl3 (by omega) (by omega)), hl4, hk4⟩⟩
    | exit id =>
      obtain ⟨hk3, hi3⟩ := hp
      obtain ⟨hl3, hl4, hk4⟩ := fin (.loop { RangeOwn.recOf fn a ps assign body w.heap.size with state := .done, pending := some (.exit id) }) W3 hk3
      exact ⟨_, _, run_endRound (some (.exit id)) hl3, .inr ⟨rfl, .exit id, hIx _ _ _ hi3 (Out.putObj W3 _ hl3 (by omega) (by omega)), hl4, hk4⟩⟩
    | goto t =>
      obtain ⟨hk3, hi3⟩ := hp
      obtain ⟨hl3, hl4, hk4⟩ := fin (.loop { RangeOwn.recOf fn a ps assign body w.heap.size with state := .done, pending := some (.goto t) }) W3 hk3
      exact ⟨_, _, run_endRound (some (.goto t)) hl3, .inr ⟨rfl, .goto t, hIx _ _ _ hi3 (Out.putObj W3 _ hl3 (by omega) (by omega)), hl4, hk4⟩⟩
    | panic ch => exact hp.elim
    | outgrown => exact hp.elim
  · rintro e W2 ⟨⟨v, rfl⟩, (⟨hi, hl, hk⟩ | ⟨c, hi, hl, hk⟩)⟩
    · exact RangeOwn.ran_out hl rfl rfl (hdone _ (by have := (Array.getElem?_eq_some_iff.1 hl).1; simp [World.putObj]; omega) (hI _ _ _ hi (Out.putObj W2 _ hl (by omega) (by omega))) ((World.putObj_heap_other (by omega)).trans hk))
    · exact RangeOwn.was_left (c := c) hl rfl rfl (hstop c _ (by have := (Array.getElem?_eq_some_iff.1 hl).1; simp [World.putObj]; omega) (hIx _ _ _ hi (Out.putObj W2 _ hl (by omega) (by omega))) ((World.putObj_heap_other (by omega)).trans hk))

end Go.Proofs.YtjblkgephboajaaGreatDoor.SpecRg
