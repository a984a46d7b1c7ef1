/-
  Rows of words in memory, and how words are written one behind the other. No part of the program.
-/
import Derived.Test.YtbnajikkogdelaaDoorWordsBytes
namespace Go.Proofs.YtbnajikkogdelaaDoor.WordsBytes
open Go.RowKit Go.Proofs.YtbnajikkogdelaaDoor.WordsMath Go.Proofs.YtbnajikkogdelaaDoor.WordsOne

def strV (t : List UInt8) : Value := .string ⟨t.toArray⟩
def wv (x : W) : List Value := [.string ⟨x.text.toArray⟩, .bool x.quoted, .int .i64 (x.place : Int)]
def cellsW (ws : List W) : List Value := ws.flatMap wv

/-- The words of a slice. -/
def WRow (w : World) (a : Option Addr) (ws : List W) : Prop := ∀ i x, ws[i]? = some x → ∃ b off, a = some ⟨b, off, none⟩ ∧ w.cell? ⟨b, off + i * 3, none⟩ = some (.string ⟨x.text.toArray⟩) ∧ w.cell? ⟨b, off + i * 3 + 1, none⟩ = some (.bool x.quoted) ∧ w.cell? ⟨b, off + i * 3 + 2, none⟩ = some (.int .i64 (x.place : Int))

theorem cellsW_len (ws : List W) : (cellsW ws).length = ws.length * 3 := by
  induction ws with
  | nil => rfl
  | cons x r ih =>
    show (wv x ++ cellsW r).length = _
    rw [List.length_append, ih, List.length_cons]
    simp [wv]
    omega

theorem cellsW_snoc (ws : List W) (x : W) : cellsW (ws ++ [x]) = cellsW ws ++ wv x := by simp [cellsW]

theorem cellsW_get : ∀ (ws : List W) (i : Nat) (x : W), ws[i]? = some x → (cellsW ws)[i * 3]? = some (.string ⟨x.text.toArray⟩) ∧ (cellsW ws)[i * 3 + 1]? = some (.bool x.quoted) ∧ (cellsW ws)[i * 3 + 2]? = some (.int .i64 (x.place : Int))
  | [], i, x, h => by simp at h
  | y :: r, 0, x, h => by
    obtain rfl : y = x := by simpa using h
    exact ⟨rfl, rfl, rfl⟩
  | y :: r, i + 1, x, h => by
    have ih := cellsW_get r i x (by simpa using h)
    have e : cellsW (y :: r) = wv y ++ cellsW r := rfl
    rw [e, show (i + 1) * 3 = (wv y).length + i * 3 from by simp [wv]; omega]
    refine ⟨?_, ?_, ?_⟩
    · rw [List.getElem?_append_right (by omega), Nat.add_sub_cancel_left]; exact ih.1
    · rw [Nat.add_assoc, List.getElem?_append_right (by omega), Nat.add_sub_cancel_left]; exact ih.2.1
    · rw [Nat.add_assoc, List.getElem?_append_right (by omega), Nat.add_sub_cancel_left]; exact ih.2.2

theorem cell_lt {w : World} {p : Addr} {v : Value} (h : w.cell? p = some v) : p.block < w.heap.size := by
  unfold World.cell? at h
  by_cases hb : p.block < w.heap.size
  · exact hb
  · rw [Array.getElem?_eq_none (by omega)] at h
    simp at h

theorem WRow.below {w w' : World} {a : Option Addr} {ws : List W} {B : Nat} (h : WRow w a ws) (hb : Below B w w') (hB : w.heap.size ≤ B) : WRow w' a ws := by
  intro i x hi
  obtain ⟨b, off, ha, h1, h2, h3⟩ := h i x hi
  have hlt : b < w.heap.size := cell_lt h1
  exact ⟨b, off, ha, by rw [hb.cell (show b < B by omega)]; exact h1, by rw [hb.cell (show b < B by omega)]; exact h2, by rw [hb.cell (show b < B by omega)]; exact h3⟩

theorem WRow.of_own {w : World} {base : Nat} {e : TypeId} {g c : Nat} {ws : List W} (h : w.ownsRow base e 3 (.slice (some ⟨g, 0, none⟩) ws.length c) ws.length (cellsW ws)) : WRow w (some ⟨g, 0, none⟩) ws := by
  intro i x hi
  have hlt := (List.getElem?_eq_some_iff.1 hi).1
  obtain ⟨h1, h2, h3⟩ := cellsW_get ws i x hi
  refine ⟨g, 0, rfl, ?_, ?_, ?_⟩
  · rw [Nat.zero_add, h.cellAt (i * 3) (by omega)]; exact h1
  · rw [Nat.zero_add, h.cellAt (i * 3 + 1) (by omega)]; exact h2
  · rw [Nat.zero_add, h.cellAt (i * 3 + 2) (by omega)]; exact h3

theorem WRow.take {w : World} {a : Option Addr} {ws : List W} (h : WRow w a ws) (n : Nat) : WRow w a (ws.take n) := by
  intro i x hi
  rw [List.getElem?_take] at hi
  by_cases hn : i < n
  · rw [if_pos hn] at hi; exact h i x hi
  · rw [if_neg hn] at hi; cases hi

/-- The words in turn, as they are written. -/
def pr (x : W) : List UInt8 × Bool := (x.text, x.quoted)
def outW (ws : List W) (k : Nat) : List UInt8 := writeL ((ws.take k).map pr)
def allW (ws : List W) : List UInt8 := writeL (ws.map pr)

theorem writeL_snoc (l : List (List UInt8 × Bool)) (x : List UInt8 × Bool) : writeL (l ++ [x]) = writeL l ++ (if l = [] then [] else [32]) ++ wordL x.1 x.2 := by
  cases l with
  | nil => simp [writeL]
  | cons y r => simp [writeL]

theorem outW_zero (ws : List W) : outW ws 0 = [] := rfl

theorem outW_first {ws : List W} {x : W} (h : ws[0]? = some x) : outW ws 1 = wordL x.text x.quoted := by
  cases ws with
  | nil => cases h
  | cons y r => obtain rfl : y = x := by simpa using h
                simp [outW, writeL, pr]

theorem outW_start {ws : List W} {x : W} {k : Nat} (hk : k = 0) (h : ws[k]? = some x) : outW ws (k + 1) = outW ws k ++ wordL x.text x.quoted := by
  subst hk
  rw [outW_zero, List.nil_append]
  exact outW_first h

theorem outW_next {ws : List W} {x : W} {k : Nat} (h : ws[k]? = some x) (hk : 0 < k) : outW ws (k + 1) = outW ws k ++ [32] ++ wordL x.text x.quoted := by
  obtain ⟨hlt, he⟩ := List.getElem?_eq_some_iff.1 h
  unfold outW
  rw [List.take_succ_eq_append_getElem hlt, he, List.map_append, List.map_cons, List.map_nil, writeL_snoc, if_neg]
  · rfl
  · intro e
    have : ((ws.take k).map pr).length = 0 := by rw [e]; rfl
    rw [List.length_map, List.length_take] at this
    omega

theorem outW_end {ws : List W} {k : Nat} (h : ws.length ≤ k) : outW ws k = allW ws := by
  unfold outW allW
  rw [List.take_of_length_le h]

theorem outW_step_le (ws : List W) (k : Nat) : (outW ws k).length ≤ (outW ws (k + 1)).length := by
  by_cases hlt : k < ws.length
  · have h : ws[k]? = some ws[k] := List.getElem?_eq_getElem hlt
    by_cases hk : k = 0
    · subst hk; rw [outW_zero]; simp
    · rw [outW_next h (by omega)]; simp
  · rw [outW_end (by omega), outW_end (by omega)]; exact Nat.le_refl _

theorem outW_le (ws : List W) (k : Nat) : (outW ws k).length ≤ (allW ws).length := by
  have : ∀ d k, ws.length - k ≤ d → (outW ws k).length ≤ (allW ws).length := by
    intro d
    induction d with
    | zero => intro k hk; rw [outW_end (by omega)]; exact Nat.le_refl _
    | succ d ih =>
      intro k hk
      exact Nat.le_trans (outW_step_le ws k) (ih (k + 1) (by omega))
  exact this _ k (Nat.le_refl _)

theorem size_list (l : List UInt8) : (⟨l.toArray⟩ : ByteArray).size = l.length := by simp [ByteArray.size]

end Go.Proofs.YtbnajikkogdelaaDoor.WordsBytes
