/-
  Texts that stand together: WordsRow, WordsLists.
-/
import Derived.Test.YtgepbophnbbbpaaGreatDoorDagWordsMath
namespace Go.Proofs.YtgepbophnbbbpaaGreatDoor.WordsBytes
open Go.RowKit Go.Proofs.YtgepbophnbbbpaaGreatDoor.WordsMath Go.Proofs.YtgepbophnbbbpaaGreatDoor.WordsOne

def strV (t : List UInt8) : Value := .string ⟨t.toArray⟩
def wv (x : W) : List Value := [.string ⟨x.text.toArray⟩, .bool x.quoted, .int .i64 (x.place : Int)]
def cellsW (ws : List W) : List Value := ws.flatMap wv

/-- The words of a slice. -/
def WRow (w : World) (a : Option Addr) (ws : List W) : Prop := ∀ i x, ws[i]? = some x → ∃ b off, a = some ⟨b, off, none⟩ ∧ w.cell? ⟨b, off + i * 3, none⟩ = some (.string ⟨x.text.toArray⟩) ∧ w.cell? ⟨b, off + i * 3 + 1, none⟩ = some (.bool x.quoted) ∧ w.cell? ⟨b, off + i * 3 + 2, none⟩ = some (.int .i64 (x.place : Int))

theorem cellsW_snoc (ws : List W) (x : W) : cellsW (ws ++ [x]) = cellsW ws ++ wv x := by simp [cellsW]

theorem cellsW_get : ∀ (ws : List W) (i : Nat) (x : W), ws[i]? = some x → (cellsW ws)[i * 3]? = some (.string ⟨x.text.toArray⟩) ∧ (cellsW ws)[i * 3 + 1]? = some (.bool x.quoted) ∧ (cellsW ws)[i * 3 + 2]? = some (.int .i64 (x.place : Int))
  | [], i, x, h => by simp at h
  | y :: r, 0, x, h => by
    obtain rfl : y = x := by simpa using h
    exact ⟨rfl, rfl, rfl⟩
  | y :: r, i + 1, x, h => by
    have ih := cellsW_get r i x (by simpa using h)
    have e : cellsW (y :: r) = wv y ++ cellsW r := rfl
    rw [e, show (i + 1) * 3 = (wv y).length + i * 3 from by simp [wv]; omega]
    refine ⟨?_, ?_, ?_⟩
    · rw [List.getElem?_append_right (by omega), Nat.add_sub_cancel_left]; exact ih.1
    · rw [Nat.add_assoc, List.getElem?_append_right (by omega), Nat.add_sub_cancel_left]; exact ih.2.1
    · rw [Nat.add_assoc, List.getElem?_append_right (by omega), Nat.add_sub_cancel_left]; exact ih.2.2

theorem cell_lt {w : World} {p : Addr} {v : Value} (h : w.cell? p = some v) : p.block < w.heap.size := by
  unfold World.cell? at h
  by_cases hb : p.block < w.heap.size
  · exact hb
  · rw [Array.getElem?_eq_none (by omega)] at h
    simp at h

theorem WRow.below {w w' : World} {a : Option Addr} {ws : List W} {B : Nat} (h : WRow w a ws) (hb : Below B w w') (hB : w.heap.size ≤ B) : WRow w' a ws := by
  intro i x hi
  obtain ⟨b, off, ha, h1, h2, h3⟩ := h i x hi
  have hlt : b < w.heap.size := cell_lt h1
  exact ⟨b, off, ha, by rw [hb.cell (show b < B by omega)]; exact h1, by rw [hb.cell (show b < B by omega)]; exact h2, by rw [hb.cell (show b < B by omega)]; exact h3⟩

theorem WRow.of_own {w : World} {base : Nat} {e : TypeId} {g c : Nat} {ws : List W} (h : w.ownsRow base e 3 (.slice (some ⟨g, 0, none⟩) ws.length c) ws.length (cellsW ws)) : WRow w (some ⟨g, 0, none⟩) ws := by
  intro i x hi
  have hlt := (List.getElem?_eq_some_iff.1 hi).1
  obtain ⟨h1, h2, h3⟩ := cellsW_get ws i x hi
  refine ⟨g, 0, rfl, ?_, ?_, ?_⟩
  · rw [Nat.zero_add, h.cellAt (i * 3) (by omega)]; exact h1
  · rw [Nat.zero_add, h.cellAt (i * 3 + 1) (by omega)]; exact h2
  · rw [Nat.zero_add, h.cellAt (i * 3 + 2) (by omega)]; exact h3

theorem WRow.take {w : World} {a : Option Addr} {ws : List W} (h : WRow w a ws) (n : Nat) : WRow w a (ws.take n) := by
  intro i x hi
  rw [List.getElem?_take] at hi
  by_cases hn : i < n
  · rw [if_pos hn] at hi; exact h i x hi
  · rw [if_neg hn] at hi; cases hi

/-- The words in turn, as they are written. -/
def pr (x : W) : List UInt8 × Bool := (x.text, x.quoted)
def outW (ws : List W) (k : Nat) : List UInt8 := writeL ((ws.take k).map pr)
def allW (ws : List W) : List UInt8 := writeL (ws.map pr)

end Go.Proofs.YtgepbophnbbbpaaGreatDoor.WordsBytes

namespace Go.Proofs.YtgepbophnbbbpaaGreatDoor.WordsBytes
open Go.RowKit Go.Proofs.YtgepbophnbbbpaaGreatDoor.WordsMath Go.Proofs.YtgepbophnbbbpaaGreatDoor.WordsOne

def SRow (w : World) (a : Option Addr) (n : Nat) (ss : List ByteArray) : Prop :=
  ∀ i, i < n → ∃ b off, a = some ⟨b, off, none⟩ ∧ w.cell? ⟨b, off + i, none⟩ = some (.string (ss.getD i ByteArray.empty))
def BRow (w : World) (a : Option Addr) (n : Nat) (qs : List Bool) : Prop :=
  ∀ i, i < n → ∃ b off, a = some ⟨b, off, none⟩ ∧ w.cell? ⟨b, off + i, none⟩ = some (.bool (qs.getD i false))

theorem SRow.below {w w' : World} {a : Option Addr} {n : Nat} {ss : List ByteArray} (h : SRow w a n ss) (hb : Below w.heap.size w w') : SRow w' a n ss := fun i hi => by
  obtain ⟨b, off, ha, hc⟩ := h i hi
  exact ⟨b, off, ha, by rw [hb.cell (cell_lt hc)]; exact hc⟩
theorem BRow.below {w w' : World} {a : Option Addr} {n : Nat} {ss : List Bool} (h : BRow w a n ss) (hb : Below w.heap.size w w') : BRow w' a n ss := fun i hi => by
  obtain ⟨b, off, ha, hc⟩ := h i hi
  exact ⟨b, off, ha, by rw [hb.cell (cell_lt hc)]; exact hc⟩

/-- The words that the lists say. -/
def wAt (ss : List ByteArray) (qs : List Bool) (m : Nat) (step : Nat) (i : Nat) : W := ⟨(ss.getD i ByteArray.empty).data.toList, decide (i < m) && qs.getD i false, step * i⟩
def wsOf (ss : List ByteArray) (qs : List Bool) (m step n : Nat) : List W := (List.range n).map (wAt ss qs m step)

theorem own_shape {W : World} {base : Nat} {e : TypeId} {v : Value} {ws : List Go.Proofs.YtgepbophnbbbpaaGreatDoor.WordsMath.W} (h : W.ownsRow base e 3 v ws.length (cellsW ws)) : ∃ a c, v = .slice a ws.length c ∧ WRow W a ws := by
  obtain ⟨_, ⟨rfl, hn⟩ | ⟨g, cap, cur, rfl, _⟩⟩ := id h
  · obtain rfl : ws = [] := List.eq_nil_of_length_eq_zero hn
    exact ⟨none, 0, rfl, fun i x hx => by simp at hx⟩
  · exact ⟨_, cap, rfl, WRow.of_own h⟩

theorem app3 {B : Nat} {w w1 w2 : World} {o : Obj} {v : Value} {e : TypeId} {n : Nat} {xs : List Value} (hb : Below B w w1) (hB : B ≤ w1.heap.size) (hrow : w1.ownsRow B e 3 v n xs) (hg : (w1.alloc o).grownBy w2 v.ownBlock) : Below B w w2 :=
  (hb.alloc hB o).grown hg (by simp; omega) (fun k hk => (hrow.lt k hk).1)

theorem own_wrow {W : World} {base : Nat} {e : TypeId} {a : Option Addr} {c : Nat} {ws : List Go.Proofs.YtgepbophnbbbpaaGreatDoor.WordsMath.W} (h : W.ownsRow base e 3 (.slice a ws.length c) ws.length (cellsW ws)) : WRow W a ws := by
  obtain ⟨a', c', he, hw⟩ := own_shape h
  cases he
  exact hw

theorem WRow.left {w : World} {a : Option Addr} {ws : List Go.Proofs.YtgepbophnbbbpaaGreatDoor.WordsMath.W} (us : List Go.Proofs.YtgepbophnbbbpaaGreatDoor.WordsMath.W) (h : WRow w a (ws ++ us)) : WRow w a ws := fun i x hx => h i x (by rw [List.getElem?_append_left (List.getElem?_eq_some_iff.1 hx).1]; exact hx)

theorem infoW : (Tryz.prog.info? 102).map (fun i => (i.zero, i.size, i.bytes)) = some (some (.agg #[.string ⟨#[]⟩, .bool false, .int .i64 0]), 3, 32) := by kernel_rfl

theorem infoR : (Tryz.prog.info? 159).map (fun i => (i.zero, i.size, i.bytes)) = some (some (.agg #[.string ⟨#[]⟩, .bool false, .int .i64 0]), 3, 32) := by kernel_rfl

theorem row3 {W : World} {B : Nat} {e : TypeId} {v' : Value} {ws : List Go.Proofs.YtgepbophnbbbpaaGreatDoor.WordsMath.W} {n : Nat} {x : Go.Proofs.YtgepbophnbbbpaaGreatDoor.WordsMath.W} (h : W.ownsRow B e 3 v' (n + 1) (cellsW ws ++ wv x)) :
    ∃ g c, v' = .slice (some ⟨g, 0, none⟩) (n + 1) c ∧ W.ownsRow B e 3 (.slice (some ⟨g, 0, none⟩) (n + 1) c) (n + 1) (cellsW (ws ++ [x])) := by
  rw [← cellsW_snoc] at h
  obtain ⟨g, c, rfl⟩ := ownsRow_succ h
  exact ⟨g, c, rfl, h⟩

end Go.Proofs.YtgepbophnbbbpaaGreatDoor.WordsBytes
