/-
  The errors of this program by their kinds and places; the line that the document names.
-/
import Derived.Test.YtbhgbfkepagnbaaDoorWordsKind
import Derived.Test.YtbhgbfkepagnbaaDoorWordsLine
import Derived.Test.YtbhgbfkepagnbaaDoorWordsQuote
namespace Go.Proofs.YtbhgbfkepagnbaaDoor.WordsBytes
open Go.RowKit Go.Proofs.YtbhgbfkepagnbaaDoor.WordsMath Go.Proofs.YtbhgbfkepagnbaaDoor.WordsOne

def ErrType (w : World) : Prop := w.cell? ⟨15, 0, none⟩ = some (.iface 84 (.agg #[.pointer (some ⟨17, 24, none⟩)]))

theorem ErrType.below {w w' : World} {B : Nat} (h : ErrType w) (hb : Below B w w') (hB : w.heap.size ≤ B) : ErrType w' := (hb.cell (Nat.lt_of_lt_of_le (cell_block h) hB)).trans h

theorem kind_long (p : Nat → Addr) (w : World) (hE : Errs w p) : Calls Tryd.prog 9 #[.iface 100 (.pointer (some (p 11)))] w fun e w' => e = .returned (.int .i64 12) ∧ Below w.heap.size w w' := by
  refine kind_of 100 (.pointer (some (p 11))) 11 p w (by omega) hE ?_
  intro W b hB hb
  by_cases he : p 11 = b
  · subst he
    simpa using is_same (p 11) W
  · simpa [he] using is_other (p 11) b W he ((hE.1 11 (by omega)).2.below hB (Nat.le_refl _)) hb

theorem ErrAt.below {base : Nat} {aS : Addr} {p : Nat} {w w' : World} {v : Value} {B : Nat} (h : ErrAt base aS p w v) (hb : Below B w w') (hB : w.heap.size ≤ B) : ErrAt base aS p w' v := by
  obtain ⟨b, h1, h2, h3⟩ := h
  exact ⟨b, h1, h2, (hb.block b (Nat.lt_of_lt_of_le (Array.getElem?_eq_some_iff.1 h3).1 hB)).trans h3⟩

theorem kind_place (p : Nat → Addr) (w : World) (base n : Nat) (v : Value) (hE : Errs w p) (hv : ErrAt base (p 1) n w v) : Calls Tryd.prog 9 #[v] w fun e w' => e = .returned (.int .i64 2) ∧ Below w.heap.size w w' := by
  obtain ⟨blk, _, rfl, hblk⟩ := hv
  refine kind_of 53 (.pointer (some ⟨blk, 0, none⟩)) 1 p w (by omega) hE ?_
  intro W b hB hb
  have hblk2 := (hB.block blk (Array.getElem?_eq_some_iff.1 hblk).1).trans hblk
  by_cases he : p 1 = b
  · subst he
    simpa using is_place_same blk _ (p 1) W hblk2
  · simpa [he] using is_place_other blk _ (p 1) b W hblk2 he ((hE.1 1 (by omega)).2.below hB (Nat.le_refl _)) hb

theorem neq_ptr (a : Addr) (w : World) : (binOp .neq 53 (.pointer (some a)) (.pointer none)).run Tryd.prog w = .ok (.bool true) w := by kernel_rfl

set_option maxRecDepth 100000 in
set_option maxHeartbeats 1000000 in
theorem place_of (aS : Addr) (w : World) (base n : Nat) (v : Value) (hg : ErrType w) (hv : ErrAt base aS n w v) : Calls Tryd.prog 11 #[v] w fun e w' => e = .returned (.int .i64 (n : Int)) ∧ Below w.heap.size w w' := by
  obtain ⟨blk, _, rfl, hblk⟩ := hv
  have hlt := (Array.getElem?_eq_some_iff.1 hblk).1
  have hneq := neq_ptr
  have hB0 : Below w.heap.size w (w.alloc (.cells #[.pointer none] 53)) := (Below.refl _ _).alloc (Nat.le_refl _) _
  have hg0 := hg.below hB0 (Nat.le_refl _)
  have hf0 : (w.alloc (.cells #[.pointer none] 53)).frozen? ⟨w.heap.size, 0, none⟩ = false := by simp
  have ht0 : (w.alloc (.cells #[.pointer none] 53)).cell? ⟨w.heap.size, 0, none⟩ = some (.pointer none) := by simp
  go_enter Tryd.func11, Tryd.ntmps11
  go_wp2_with fail
  refine (as_at ⟨blk, 0, none⟩ ⟨w.heap.size, 0, none⟩ _ _ hg0 ht0 hf0).mono ?_
  rintro e w1 ⟨rfl, hc1, hb1⟩
  have hB1 := hB0.trans hb1
  have hblk1 := (hB1.block blk hlt).trans hblk
  have hc2 : w1.cell? ⟨blk, 0, none⟩ = some (.int .i64 (n : Int)) := by
    unfold World.cell?
    rw [hblk1]
    rfl
  go_wp2
  go_ret
  exact ⟨rfl, hB1⟩

def knownL : List UInt8 := [101, 32, 58, 32, 101, 32, 43, 32, 34, 116, 34, 32, 35, 32, 110, 111]

theorem known_line : lineL knownL 0 [] = .ok [⟨[101], false, 0⟩, ⟨[58], false, 2⟩, ⟨[101], false, 4⟩, ⟨[43], false, 6⟩, ⟨[116], true, 8⟩] := by kernel_rfl
theorem known_bad : lineL [34, 97, 34, 98] 0 [] = .error 3 := by kernel_rfl
theorem known_quote : quoteL [97, 255, 34] = [34, 97, 92, 120, 70, 70, 92, 34, 34] := by decide

theorem eq_word (w : World) : (binOp .eql 37 (.agg #[.string ⟨#[116]⟩, .bool true, .int .i64 8]) (.agg #[.string ⟨#[116]⟩, .bool true, .int .i64 8])).run Tryd.prog w = .ok (.bool true) w := by kernel_rfl

set_option maxRecDepth 100000 in
set_option maxHeartbeats 4000000 in
theorem known_any (p : Nat → Addr) (w : World) (hE : Errs w p) (hg : ErrType w) : Calls Tryd.prog 12 #[] w fun e w' => e = .returned (.bool true) ∧ Below w.heap.size w w' := by
  have hq := eq_word
  have hl1 := fun W hS => line_any ⟨#[101, 32, 58, 32, 101, 32, 43, 32, 34, 116, 34, 32, 35, 32, 110, 111]⟩ _ (p 1) W (by decide) hS (show Hid _ from known_line)
  have hl2 := fun W hS => line_any ⟨#[34, 97, 34, 98]⟩ _ (p 1) W (by decide) hS (show Hid _ from known_bad)
  have hqq := fun W => quote_any ⟨#[97, 255, 34]⟩ W (by decide)
  rw [show (⟨#[97, 255, 34]⟩ : ByteArray).data.toList = [97, 255, 34] from rfl, known_quote] at hqq
  go_enter Tryd.func12, Tryd.ntmps12
  go_wp2_with fail
  refine (hl1 _ hE.syntax).mono ?_
  rintro e w1 ⟨⟨v, he, hown⟩, hb1⟩
  subst he
  obtain ⟨g, c, rfl⟩ := ownsRow_succ (k := 4) hown
  have hW1 := WRow.of_own (ws := [⟨[101], false, 0⟩, ⟨[58], false, 2⟩, ⟨[101], false, 4⟩, ⟨[43], false, 6⟩, ⟨[116], true, 8⟩]) hown
  have hE1 := hE.below hb1 (Nat.le_refl _)
  have hg1 := hg.below hb1 (Nat.le_refl _)
  go_wp2_with fail
  refine (hl2 _ hE1.syntax).mono ?_
  rintro e w2 ⟨⟨v, he, hv⟩, hb2⟩
  subst he
  have hW2 := hW1.below hb2 (Nat.le_refl _)
  have hE2 := hE1.below hb2 (Nat.le_refl _)
  have hg2 := hg1.below hb2 (Nat.le_refl _)
  obtain ⟨b', off', hb', c1, c2, c3⟩ := hW2 4 _ rfl
  cases hb'
  have d1 : w2.cell? ⟨g, 12, none⟩ = some (.string ⟨#[116]⟩) := c1
  have d2 : w2.cell? ⟨g, 13, none⟩ = some (.bool true) := c2
  have d3 : w2.cell? ⟨g, 14, none⟩ = some (.int .i64 8) := c3
  clear c1 c2 c3 hW1 hW2 hown hl1 hl2
  go_wp2_with fail
  refine (kind_place p _ _ _ _ hE2 hv).mono ?_
  rintro e w3 ⟨rfl, hb3⟩
  have hv3 := hv.below hb3 (Nat.le_refl _)
  have hg3 := hg2.below hb3 (Nat.le_refl _)
  go_wp2_with fail
  refine (place_of (p 1) _ _ _ _ hg3 hv3).mono ?_
  rintro e w4 ⟨rfl, hb4⟩
  go_wp2_with fail
  refine (hqq _).mono ?_
  rintro e w5 ⟨rfl, hb5⟩
  go_wp2
  go_ret
  refine ⟨rfl, ?_⟩
  exact hb1.trans ((hb2.trans ((hb3.trans ((hb4.trans (hb5.mono hb4.size)).mono hb3.size)).mono hb2.size)).mono hb1.size)

end Go.Proofs.YtbhgbfkepagnbaaDoor.WordsBytes
