/-
  Texts that stand together: WordsSLines.
-/
import Derived.Test.YtbnajikkogdelaaDoorEagLineInText
import Derived.Test.YtbnajikkogdelaaDoorEagWordsRLines
import Derived.RangeFuncNested
import Derived.RangeFuncBound
import Derived.RangeFuncCalls
import Derived.RangeFuncLeaves
import Derived.RangeFuncBox
import Derived.Shelf.Abstract
import Derived.Shelf.RegionOpen
import Derived.OwnWalkIn
import Derived.TacticsInMore
import Derived.LoopNIn
import Derived.LoopIn
import Derived.BigRegionIn
import Derived.Maps.AppendAt
namespace Go.Proofs.YtbnajikkogdelaaDoor.WordsSLines
open Go.RowKit Go.Proofs.YtbnajikkogdelaaDoor.WordsMath Go.Proofs.YtbnajikkogdelaaDoor.WordsOne Go.Proofs.YtbnajikkogdelaaDoor.WordsBytes Go.Proofs.YtbnajikkogdelaaDoor.WordsCutM
set_option linter.unusedVariables false

/-- How long the text is that lies in a box. -/
def leftIn (b : Nat) (W : World) : Nat := match W.cell? ⟨b, 0, none⟩ with | some (.string s) => s.size | _ => 0

/-- The first line of a text with its end, and what is left. -/
def lineOf (l : List UInt8) : List UInt8 × List UInt8 := if 0 ≤ Lib.indexByte l 10 then (l.take ((Lib.indexByte l 10).toNat + 1), l.drop ((Lib.indexByte l 10).toNat + 1)) else (l, [])

set_option maxRecDepth 100000 in
set_option maxHeartbeats 2000000 in
theorem slines1_in (n : Nat) (hn : 1 ≤ n) (l b0 : Nat) (J Jx : List UInt8 → World → Prop)
    (hD : ∀ r W, J r W → J r W.drew) (hSet : ∀ r W v, J r W → J r (W.setCell ⟨b0, 0, none⟩ v))
    (hY : ∀ r W, r ≠ [] → Boxed W b0 9 (.string ⟨(lineOf r).2.toArray⟩) → J r W → YieldAt Fence.wide (n - 1) Tryd.prog l #[.string ⟨(lineOf r).1.toArray⟩] W fun e W' =>
      (e = .returned (.bool true) ∧ J (lineOf r).2 W' ∧ Boxed W' b0 9 (.string ⟨(lineOf r).2.toArray⟩)) ∨ (e = .returned (.bool false) ∧ Jx (lineOf r).2 W'))
    (s : List UInt8) (W : World) (hb : Boxed W b0 9 (.string ⟨s.toArray⟩)) (hs : s.length ≤ 1048576) (h0 : J s W) :
    CallsIn Fence.wide n Tryd.prog 76 #[.func (.yield l) #[] #[], .pointer (some ⟨b0, 0, none⟩)] W fun e W' => (∃ v, e = .returned v) ∧ ((J [] W' ∧ Boxed W' b0 9 (.string ⟨#[]⟩)) ∨ ∃ r, Jx r W') := by
  refine callsIn_of_wp Tryd.func76 rfl trivial ?_ rfl
  simp only [Tryd.ntmps76, List.size_toArray, List.length_cons, List.length_nil, Nat.reduceAdd, Nat.reduceSub, Array.replicate_succ, Array.replicate_zero, List.push_toArray, List.append_toArray, List.nil_append, List.cons_append]
  gi_wp2
  gi_loopw [3] (fun p wr => ∃ r : List UInt8, r.length ≤ 1048576 ∧ Boxed wr b0 9 (.string ⟨r.toArray⟩) ∧ J r wr) (fun _ wr => leftIn b0 wr)
  case atStart => exact ⟨s, hs, hb, h0⟩
  case round =>
    obtain ⟨r, hrl, hbx, hJ⟩ := hrel
    have c0 := hbx.cell
    have f0 := hbx.frozen
    have hsz : (⟨r.toArray⟩ : ByteArray).size = r.length := by simp [ByteArray.size]
    by_cases hr : r = []
    · subst hr
      gi_wp2
      go_end0
      exact ⟨⟨_, rfl⟩, .inl ⟨hJ, hbx⟩⟩
    · have hlen : 0 < r.length := List.length_pos_iff.2 hr
      have hlen2 : (0 : Int) < ((⟨r.toArray⟩ : ByteArray).size : Int) := by omega
      have hix := Tryd.strings_IndexByte ⟨r.toArray⟩ 10 wr
      change Calls Tryd.prog _ _ wr fun e w' => e = .returned (.int .i64 (Lib.indexByte r 10)) ∧ w' = wr at hix
      by_cases hi : 0 ≤ Lib.indexByte r 10
      · obtain ⟨i, hie⟩ : ∃ i : Nat, Lib.indexByte r 10 = (i : Int) := ⟨_, (Int.toNat_of_nonneg hi).symm⟩
        rw [hie] at hix
        have hil := (cut_at hie).1
        have hil2 : (i : Int) < ((⟨r.toArray⟩ : ByteArray).size : Int) := by omega
        have hlo : lineOf r = (r.take (i + 1), r.drop (i + 1)) := by unfold lineOf; rw [if_pos hi, hie, Int.toNat_natCast]
        have L1 : (⟨(lineOf r).1.toArray⟩ : ByteArray) = (⟨r.toArray⟩ : ByteArray).extract 0 (i + 1) := by rw [hlo, piece]; simp
        have L2 : (⟨(lineOf r).2.toArray⟩ : ByteArray) = (⟨r.toArray⟩ : ByteArray).extract (i + 1) r.length := by
          rw [hlo, piece]
          show (⟨(r.drop (i + 1)).toArray⟩ : ByteArray) = ⟨((r.drop (i + 1)).take (r.length - (i + 1))).toArray⟩
          rw [List.take_of_length_le (by rw [List.length_drop]; exact Nat.le_refl _)]
        have hm : (lineOf r).2.length < r.length := by rw [hlo]; simp; omega
        have hYr := hY r ((wr.setCell ⟨b0, 0, none⟩ (.string ⟨(lineOf r).2.toArray⟩)).drew) hr (hbx.set _) (hD _ _ (hSet _ _ _ hJ))
        rw [L1] at hYr
        have hb3' : Hid (∀ W', Boxed W' b0 9 (.string ⟨(lineOf r).2.toArray⟩) → leftIn b0 W' < leftIn b0 wr) := fun W' h => by
          unfold leftIn
          rw [h.cell, c0]
          simpa [ByteArray.size] using hm
        have hm' : Hid ((lineOf r).2.length ≤ 1048576) := by show _ ≤ _; omega
        generalize hrest : (lineOf r).2 = rest at *
        rw [L2] at hYr
        obtain ⟨fn, tmps, assign, body, hy, hR⟩ := hYr
        have L2' : Hid ((⟨r.toArray⟩ : ByteArray).extract (i + 1) r.length = ⟨rest.toArray⟩) := L2.symm
        clear hi hlo hm L1 L2 hY hD hSet hJ hrest
        gi_wp2_with (refine ⟨trivial, ?_⟩; gi_at_call 77; refine (callsIn_wide.2 hix).mono ?_; rintro e w' ⟨rfl, hw'⟩; obtain rfl := hw'.symm)
        gi_region
        all_goals (try gi_wp2)
        all_goals
          refine hR.mono ?_
          rintro e W3 (⟨rfl, hJ3, hb3⟩ | ⟨rfl, hJx3⟩)
          · rw [L2'.out] at hb3
            have hmm := hb3'.out _ hb3
            clear hy hR hb3' L2'
            gi_wp2
            go_roundw
            case rel => exact ⟨rest, hm'.out, hb3, hJ3⟩
            case measure => exact hmm
          · clear hy hR hb3' L2'
            gi_wp2
            refine bodyPost_ret (results_none rfl _ _ _) rfl ?_
            exact ⟨⟨_, rfl⟩, .inr ⟨_, hJx3⟩⟩
      · have hie : Lib.indexByte r 10 = -1 := by
          have := Lib.indexByte_ge r 10
          omega
        rw [hie] at hix
        have hlo : lineOf r = (r, []) := by unfold lineOf; rw [if_neg hi]
        have hYr := hY r (wr.setCell ⟨b0, 0, none⟩ (.string ⟨#[]⟩)) hr (by rw [hlo]; exact hbx.set _) (hSet _ _ _ hJ)
        rw [hlo] at hYr
        obtain ⟨fn, tmps, assign, body, hy, hR⟩ := hYr
        have hb3' : Hid (∀ W', Boxed W' b0 9 (.string ⟨#[]⟩) → leftIn b0 W' < leftIn b0 wr) := fun W' h => by
          unfold leftIn
          rw [h.cell, c0]
          show 0 < (⟨r.toArray⟩ : ByteArray).size
          rw [hsz]
          exact hlen
        clear hi hlo hY hD hSet hJ
        gi_wp2_with (refine ⟨trivial, ?_⟩; gi_at_call 77; refine (callsIn_wide.2 hix).mono ?_; rintro e w' ⟨rfl, hw'⟩; obtain rfl := hw'.symm)
        refine hR.mono ?_
        rintro e W3 (⟨rfl, hJ3, hb3⟩ | ⟨rfl, hJx3⟩)
        · have hmm := hb3'.out _ hb3
          clear hy hR hb3'
          gi_wp2
          go_roundw
          case rel => exact ⟨[], by simp, hb3, hJ3⟩
          case measure => exact hmm
        · clear hy hR hb3'
          gi_wp2
          refine bodyPost_ret (results_none rfl _ _ _) rfl ?_
          exact ⟨⟨_, rfl⟩, .inr ⟨_, hJx3⟩⟩

end Go.Proofs.YtbnajikkogdelaaDoor.WordsSLines
