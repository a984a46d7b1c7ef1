/-
  Texts that stand together: WordsQuote, WordsKnown.
-/
import Derived.Test.YtgepbophnbbbpaaGreatDoorBagWordsBytes
import Derived.Test.YtgepbophnbbbpaaGreatDoorBagWordsKind
import Derived.Test.YtgepbophnbbbpaaGreatDoorBagWordsLine
namespace Go.Proofs.YtgepbophnbbbpaaGreatDoor.WordsBytes
open Go.RowKit Go.Proofs.YtgepbophnbbbpaaGreatDoor.WordsMath Go.Proofs.YtgepbophnbbbpaaGreatDoor.WordsOne

end Go.Proofs.YtgepbophnbbbpaaGreatDoor.WordsBytes

namespace Go.Proofs.YtgepbophnbbbpaaGreatDoor.WordsBytes
open Go.RowKit Go.Proofs.YtgepbophnbbbpaaGreatDoor.WordsMath Go.Proofs.YtgepbophnbbbpaaGreatDoor.WordsOne

def ErrType (w : World) : Prop := w.cell? ⟨15, 0, none⟩ = some (.iface 167 (.agg #[.pointer (some ⟨19, 27, none⟩)]))

theorem ErrType.below {w w' : World} {B : Nat} (h : ErrType w) (hb : Below B w w') (hB : w.heap.size ≤ B) : ErrType w' := (hb.cell (Nat.lt_of_lt_of_le (cell_block h) hB)).trans h

theorem ErrAt.below {base : Nat} {aS : Addr} {p : Nat} {w w' : World} {v : Value} {B : Nat} (h : ErrAt base aS p w v) (hb : Below B w w') (hB : w.heap.size ≤ B) : ErrAt base aS p w' v := by
  obtain ⟨b, h1, h2, h3⟩ := h
  exact ⟨b, h1, h2, (hb.block b (Nat.lt_of_lt_of_le (Array.getElem?_eq_some_iff.1 h3).1 hB)).trans h3⟩

theorem neq_ptr (a : Addr) (w : World) : (binOp .neq 68 (.pointer (some a)) (.pointer none)).run Tryz.prog w = .ok (.bool true) w := by kernel_rfl

set_option maxRecDepth 100000 in
set_option maxHeartbeats 1000000 in
theorem place_of (aS : Addr) (w : World) (base n : Nat) (v : Value) (hg : ErrType w) (hv : ErrAt base aS n w v) : Calls Tryz.prog 10 #[v] w fun e w' => e = .returned (.int .i64 (n : Int)) ∧ Below w.heap.size w w' := by
  obtain ⟨blk, _, rfl, hblk⟩ := hv
  have hlt := (Array.getElem?_eq_some_iff.1 hblk).1
  have hneq := neq_ptr
  have hB0 : Below w.heap.size w (w.alloc (.cells #[.pointer none] 68)) := (Below.refl _ _).alloc (Nat.le_refl _) _
  have hg0 := hg.below hB0 (Nat.le_refl _)
  have hf0 : (w.alloc (.cells #[.pointer none] 68)).frozen? ⟨w.heap.size, 0, none⟩ = false := by simp
  have ht0 : (w.alloc (.cells #[.pointer none] 68)).cell? ⟨w.heap.size, 0, none⟩ = some (.pointer none) := by simp
  go_enter Tryz.func10, Tryz.ntmps10
  go_wp2_with fail
  refine (as_at ⟨blk, 0, none⟩ ⟨w.heap.size, 0, none⟩ _ _ hg0 ht0 hf0).mono ?_
  rintro e w1 ⟨rfl, hc1, hb1⟩
  have hB1 := hB0.trans hb1
  have hblk1 := (hB1.block blk hlt).trans hblk
  have hc2 : w1.cell? ⟨blk, 0, none⟩ = some (.int .i64 (n : Int)) := by
    unfold World.cell?
    rw [hblk1]
    rfl
  go_wp2
  go_ret
  exact ⟨rfl, hB1⟩

def knownL : List UInt8 := [101, 32, 58, 32, 101, 32, 43, 32, 34, 116, 34, 32, 35, 32, 110, 111]

end Go.Proofs.YtgepbophnbbbpaaGreatDoor.WordsBytes
