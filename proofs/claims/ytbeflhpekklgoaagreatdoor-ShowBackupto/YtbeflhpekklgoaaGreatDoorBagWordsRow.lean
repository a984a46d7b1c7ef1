/-
  Texts that stand together: WordsRow, WordsLists, LineMath, WordsCutMath, WordsMath2, SpecLineM.
-/
import Derived.Test.YtbeflhpekklgoaaGreatDoorBagShowMath
import Derived.Test.YtbeflhpekklgoaaGreatDoorBagWordsRQuote
import Derived.Lib.IndexLaws
import Derived.Test.YtbeflhpekklgoaaGreatDoorBagGramOpens
namespace Go.Proofs.YtbeflhpekklgoaaGreatDoor.WordsBytes
open Go.RowKit Go.Proofs.YtbeflhpekklgoaaGreatDoor.WordsMath Go.Proofs.YtbeflhpekklgoaaGreatDoor.WordsOne

def strV (t : List UInt8) : Value := .string ⟨t.toArray⟩
def wv (x : W) : List Value := [.string ⟨x.text.toArray⟩, .bool x.quoted, .int .i64 (x.place : Int)]
def cellsW (ws : List W) : List Value := ws.flatMap wv

/-- The words of a slice. -/
def WRow (w : World) (a : Option Addr) (ws : List W) : Prop := ∀ i x, ws[i]? = some x → ∃ b off, a = some ⟨b, off, none⟩ ∧ w.cell? ⟨b, off + i * 3, none⟩ = some (.string ⟨x.text.toArray⟩) ∧ w.cell? ⟨b, off + i * 3 + 1, none⟩ = some (.bool x.quoted) ∧ w.cell? ⟨b, off + i * 3 + 2, none⟩ = some (.int .i64 (x.place : Int))

theorem cellsW_snoc (ws : List W) (x : W) : cellsW (ws ++ [x]) = cellsW ws ++ wv x := by simp [cellsW]

theorem cellsW_get : ∀ (ws : List W) (i : Nat) (x : W), ws[i]? = some x → (cellsW ws)[i * 3]? = some (.string ⟨x.text.toArray⟩) ∧ (cellsW ws)[i * 3 + 1]? = some (.bool x.quoted) ∧ (cellsW ws)[i * 3 + 2]? = some (.int .i64 (x.place : Int))
  | [], i, x, h => by simp at h
  | y :: r, 0, x, h => by
    obtain rfl : y = x := by simpa using h
    exact ⟨rfl, rfl, rfl⟩
  | y :: r, i + 1, x, h => by
    have ih := cellsW_get r i x (by simpa using h)
    have e : cellsW (y :: r) = wv y ++ cellsW r := rfl
    rw [e, show (i + 1) * 3 = (wv y).length + i * 3 from by simp [wv]; omega]
    refine ⟨?_, ?_, ?_⟩
    · rw [List.getElem?_append_right (by omega), Nat.add_sub_cancel_left]; exact ih.1
    · rw [Nat.add_assoc, List.getElem?_append_right (by omega), Nat.add_sub_cancel_left]; exact ih.2.1
    · rw [Nat.add_assoc, List.getElem?_append_right (by omega), Nat.add_sub_cancel_left]; exact ih.2.2

theorem cell_lt {w : World} {p : Addr} {v : Value} (h : w.cell? p = some v) : p.block < w.heap.size := by
  unfold World.cell? at h
  by_cases hb : p.block < w.heap.size
  · exact hb
  · rw [Array.getElem?_eq_none (by omega)] at h
    simp at h

theorem WRow.below {w w' : World} {a : Option Addr} {ws : List W} {B : Nat} (h : WRow w a ws) (hb : Below B w w') (hB : w.heap.size ≤ B) : WRow w' a ws := by
  intro i x hi
  obtain ⟨b, off, ha, h1, h2, h3⟩ := h i x hi
  have hlt : b < w.heap.size := cell_lt h1
  exact ⟨b, off, ha, by rw [hb.cell (show b < B by omega)]; exact h1, by rw [hb.cell (show b < B by omega)]; exact h2, by rw [hb.cell (show b < B by omega)]; exact h3⟩

theorem WRow.of_own {w : World} {base : Nat} {e : TypeId} {g c : Nat} {ws : List W} (h : w.ownsRow base e 3 (.slice (some ⟨g, 0, none⟩) ws.length c) ws.length (cellsW ws)) : WRow w (some ⟨g, 0, none⟩) ws := by
  intro i x hi
  have hlt := (List.getElem?_eq_some_iff.1 hi).1
  obtain ⟨h1, h2, h3⟩ := cellsW_get ws i x hi
  refine ⟨g, 0, rfl, ?_, ?_, ?_⟩
  · rw [Nat.zero_add, h.cellAt (i * 3) (by omega)]; exact h1
  · rw [Nat.zero_add, h.cellAt (i * 3 + 1) (by omega)]; exact h2
  · rw [Nat.zero_add, h.cellAt (i * 3 + 2) (by omega)]; exact h3

theorem WRow.take {w : World} {a : Option Addr} {ws : List W} (h : WRow w a ws) (n : Nat) : WRow w a (ws.take n) := by
  intro i x hi
  rw [List.getElem?_take] at hi
  by_cases hn : i < n
  · rw [if_pos hn] at hi; exact h i x hi
  · rw [if_neg hn] at hi; cases hi

/-- The words in turn, as they are written. -/
def pr (x : W) : List UInt8 × Bool := (x.text, x.quoted)
def outW (ws : List W) (k : Nat) : List UInt8 := writeL ((ws.take k).map pr)
def allW (ws : List W) : List UInt8 := writeL (ws.map pr)

theorem writeL_snoc (l : List (List UInt8 × Bool)) (x : List UInt8 × Bool) : writeL (l ++ [x]) = writeL l ++ (if l = [] then [] else [32]) ++ wordL x.1 x.2 := by
  cases l with
  | nil => simp [writeL]
  | cons y r => simp [writeL]

theorem outW_zero (ws : List W) : outW ws 0 = [] := rfl

theorem outW_first {ws : List W} {x : W} (h : ws[0]? = some x) : outW ws 1 = wordL x.text x.quoted := by
  cases ws with
  | nil => cases h
  | cons y r => obtain rfl : y = x := by simpa using h
                simp [outW, writeL, pr]

theorem outW_start {ws : List W} {x : W} {k : Nat} (hk : k = 0) (h : ws[k]? = some x) : outW ws (k + 1) = outW ws k ++ wordL x.text x.quoted := by
  subst hk
  rw [outW_zero, List.nil_append]
  exact outW_first h

theorem outW_next {ws : List W} {x : W} {k : Nat} (h : ws[k]? = some x) (hk : 0 < k) : outW ws (k + 1) = outW ws k ++ [32] ++ wordL x.text x.quoted := by
  obtain ⟨hlt, he⟩ := List.getElem?_eq_some_iff.1 h
  unfold outW
  rw [List.take_succ_eq_append_getElem hlt, he, List.map_append, List.map_cons, List.map_nil, writeL_snoc, if_neg]
  · rfl
  · intro e
    have : ((ws.take k).map pr).length = 0 := by rw [e]; rfl
    rw [List.length_map, List.length_take] at this
    omega

theorem outW_end {ws : List W} {k : Nat} (h : ws.length ≤ k) : outW ws k = allW ws := by
  unfold outW allW
  rw [List.take_of_length_le h]

end Go.Proofs.YtbeflhpekklgoaaGreatDoor.WordsBytes

namespace Go.Proofs.YtbeflhpekklgoaaGreatDoor.WordsBytes
open Go.RowKit Go.Proofs.YtbeflhpekklgoaaGreatDoor.WordsMath Go.Proofs.YtbeflhpekklgoaaGreatDoor.WordsOne

def SRow (w : World) (a : Option Addr) (n : Nat) (ss : List ByteArray) : Prop :=
  ∀ i, i < n → ∃ b off, a = some ⟨b, off, none⟩ ∧ w.cell? ⟨b, off + i, none⟩ = some (.string (ss.getD i ByteArray.empty))
def BRow (w : World) (a : Option Addr) (n : Nat) (qs : List Bool) : Prop :=
  ∀ i, i < n → ∃ b off, a = some ⟨b, off, none⟩ ∧ w.cell? ⟨b, off + i, none⟩ = some (.bool (qs.getD i false))

theorem SRow.below {w w' : World} {a : Option Addr} {n : Nat} {ss : List ByteArray} (h : SRow w a n ss) (hb : Below w.heap.size w w') : SRow w' a n ss := fun i hi => by
  obtain ⟨b, off, ha, hc⟩ := h i hi
  exact ⟨b, off, ha, by rw [hb.cell (cell_lt hc)]; exact hc⟩
theorem BRow.below {w w' : World} {a : Option Addr} {n : Nat} {ss : List Bool} (h : BRow w a n ss) (hb : Below w.heap.size w w') : BRow w' a n ss := fun i hi => by
  obtain ⟨b, off, ha, hc⟩ := h i hi
  exact ⟨b, off, ha, by rw [hb.cell (cell_lt hc)]; exact hc⟩

/-- The words that the lists say. -/
def wAt (ss : List ByteArray) (qs : List Bool) (m : Nat) (step : Nat) (i : Nat) : W := ⟨(ss.getD i ByteArray.empty).data.toList, decide (i < m) && qs.getD i false, step * i⟩
def wsOf (ss : List ByteArray) (qs : List Bool) (m step n : Nat) : List W := (List.range n).map (wAt ss qs m step)

theorem wordL_len (t : List UInt8) (q : Bool) : (wordL t q).length ≤ 4 * t.length + 2 := by
  unfold wordL
  split
  · exact quoteL_len t
  · omega

theorem allW_len (M : Nat) : ∀ ws : List W, (∀ x ∈ ws, x.text.length ≤ M) → (allW ws).length ≤ ws.length * (4 * M + 3) := by
  intro ws h
  have key : ∀ k, k ≤ ws.length → (outW ws k).length ≤ k * (4 * M + 3) := by
    intro k
    induction k with
    | zero => intro _; rw [outW_zero]; simp
    | succ k ih =>
      intro hk
      have hx : ws[k]? = some ws[k] := List.getElem?_eq_getElem (by omega)
      have hm := h _ (List.mem_of_getElem? hx)
      have hw := wordL_len ws[k].text ws[k].quoted
      have := ih (by omega)
      rw [Nat.succ_mul]
      by_cases hk0 : k = 0
      · rw [outW_start hk0 hx, List.length_append]
        omega
      · rw [outW_next hx (by omega), List.length_append, List.length_append]
        simp only [List.length_cons, List.length_nil]
        omega
  rw [← outW_end (Nat.le_refl ws.length)]
  exact key _ (Nat.le_refl _)

theorem own_shape {W : World} {base : Nat} {e : TypeId} {v : Value} {ws : List Go.Proofs.YtbeflhpekklgoaaGreatDoor.WordsMath.W} (h : W.ownsRow base e 3 v ws.length (cellsW ws)) : ∃ a c, v = .slice a ws.length c ∧ WRow W a ws := by
  obtain ⟨_, ⟨rfl, hn⟩ | ⟨g, cap, cur, rfl, _⟩⟩ := id h
  · obtain rfl : ws = [] := List.eq_nil_of_length_eq_zero hn
    exact ⟨none, 0, rfl, fun i x hx => by simp at hx⟩
  · exact ⟨_, cap, rfl, WRow.of_own h⟩

theorem app3 {B : Nat} {w w1 w2 : World} {o : Obj} {v : Value} {e : TypeId} {n : Nat} {xs : List Value} (hb : Below B w w1) (hB : B ≤ w1.heap.size) (hrow : w1.ownsRow B e 3 v n xs) (hg : (w1.alloc o).grownBy w2 v.ownBlock) : Below B w w2 :=
  (hb.alloc hB o).grown hg (by simp; omega) (fun k hk => (hrow.lt k hk).1)

theorem own_wrow {W : World} {base : Nat} {e : TypeId} {a : Option Addr} {c : Nat} {ws : List Go.Proofs.YtbeflhpekklgoaaGreatDoor.WordsMath.W} (h : W.ownsRow base e 3 (.slice a ws.length c) ws.length (cellsW ws)) : WRow W a ws := by
  obtain ⟨a', c', he, hw⟩ := own_shape h
  cases he
  exact hw

theorem WRow.left {w : World} {a : Option Addr} {ws : List Go.Proofs.YtbeflhpekklgoaaGreatDoor.WordsMath.W} (us : List Go.Proofs.YtbeflhpekklgoaaGreatDoor.WordsMath.W) (h : WRow w a (ws ++ us)) : WRow w a ws := fun i x hx => h i x (by rw [List.getElem?_append_left (List.getElem?_eq_some_iff.1 hx).1]; exact hx)

theorem infoW : (Tryz.prog.info? 87).map (fun i => (i.zero, i.size, i.bytes)) = some (some (.agg #[.string ⟨#[]⟩, .bool false, .int .i64 0]), 3, 32) := by kernel_rfl

theorem row3 {W : World} {B : Nat} {e : TypeId} {v' : Value} {ws : List Go.Proofs.YtbeflhpekklgoaaGreatDoor.WordsMath.W} {n : Nat} {x : Go.Proofs.YtbeflhpekklgoaaGreatDoor.WordsMath.W} (h : W.ownsRow B e 3 v' (n + 1) (cellsW ws ++ wv x)) :
    ∃ g c, v' = .slice (some ⟨g, 0, none⟩) (n + 1) c ∧ W.ownsRow B e 3 (.slice (some ⟨g, 0, none⟩) (n + 1) c) (n + 1) (cellsW (ws ++ [x])) := by
  rw [← cellsW_snoc] at h
  obtain ⟨g, c, rfl⟩ := ownsRow_succ h
  exact ⟨g, c, rfl, h⟩

end Go.Proofs.YtbeflhpekklgoaaGreatDoor.WordsBytes

namespace Go.Proofs.YtbeflhpekklgoaaGreatDoor.LineMath
open Go.RowKit Go.Proofs.YtbeflhpekklgoaaGreatDoor.GramMath Go.Proofs.YtbeflhpekklgoaaGreatDoor.GramRow Go.Proofs.YtbeflhpekklgoaaGreatDoor.GramOne Go.Proofs.YtbeflhpekklgoaaGreatDoor.GramCheck
set_option linter.unusedVariables false

abbrev Wd := Go.Proofs.YtbeflhpekklgoaaGreatDoor.WordsMath.W

theorem namedTo_size {ss : List ByteArray} {n : Nat} (h : namedTo ss n = true) : ∀ i x, i < n → ss[i]? = some x → x.size ≤ 32 := by
  induction n with
  | zero => intro i x hi; omega
  | succ n ih =>
    intro i x hi hx
    rw [namedTo_succ, Bool.and_eq_true] at h
    rcases Nat.lt_or_ge i n with h1 | h1
    · exact ih h.1 i x h1 hx
    · obtain rfl : i = n := by omega
      have h2 := h.2
      unfold nameAt at h2
      rw [hx] at h2
      simp at h2
      exact h2.1.2
theorem good_ts {g : G} (h : GoodG g) : ∀ s ∈ g.ts, s.size ≤ 32 := fun s hs => by
  obtain ⟨i, hi⟩ := List.mem_iff_getElem?.1 hs
  exact namedTo_size h.nt i s (List.getElem?_eq_some_iff.1 hi).1 hi

/-- The name of a token, and its word. -/
def nameOf (g : G) (z : Int) : ByteArray := g.ts.getD z.toNat ByteArray.empty
def wOf (g : G) (z : Int) : Wd := ⟨(nameOf g z).data.toList, false, 0⟩
def w0 : Wd := ⟨[], false, 0⟩
/-- May a number be a token? -/
def tokB (g : G) (z : Int) : Bool := decide (0 ≤ z) && decide (z < (g.ts.length : Int))
/-- The words of tokens of which the first k were told. -/
def wsTo (g : G) (zs : List Int) (k : Nat) : List Wd := (zs.take k).map (wOf g) ++ List.replicate (zs.length - k) w0

theorem name_small {g : G} (h : GoodG g) (z : Int) : (nameOf g z).size ≤ 32 := by
  unfold nameOf
  rw [List.getD_eq_getElem?_getD]
  cases hx : g.ts[z.toNat]? with
  | none => exact Nat.zero_le _
  | some x => exact good_ts h x (List.mem_of_getElem? hx)

/-- The text of tokens. -/
def textL (g : G) (zs : List Int) : List UInt8 := WordsBytes.allW (zs.map (wOf g))
theorem word_small {g : G} (h : GoodG g) (zs : List Int) : ∀ x ∈ zs.map (wOf g), x.text.length ≤ 32 := fun x hx => by
  obtain ⟨z, _, rfl⟩ := List.mem_map.1 hx
  show (nameOf g z).data.toList.length ≤ 32
  have := name_small h z
  rwa [← WordsOne.list_size] at this
theorem text_small {g : G} (h : GoodG g) (zs : List Int) : (textL g zs).length ≤ zs.length * 131 := by
  have := WordsBytes.allW_len 32 _ (word_small h zs)
  rwa [List.length_map] at this

/-- What writing tokens comes to: what is wrong, and the text. -/
def wrZ (g : G) (zs : List Int) : Nat × Option Nat :=
  if (checkG g).1 ≠ 0 then checkG g
  else if 65536 < zs.length then (12, none)
  else if zs.all (tokB g) = false then (1, none)
  else if 1048576 < (textL g zs).length then (12, none)
  else (0, none)
def wrT (g : G) (zs : List Int) : ByteArray := if (wrZ g zs).1 = 0 then ⟨(textL g zs).toArray⟩ else ⟨#[]⟩

/-- Words that were made in a block of their own. -/
def Made (w : World) (b : Nat) (ws : List Wd) : Prop := ∃ C, w.heap[b]? = some (.cells C 87 (0, 0)) ∧ ∀ i x, ws[i]? = some x → C[i * 3]? = some (.string ⟨x.text.toArray⟩) ∧ C[i * 3 + 1]? = some (.bool x.quoted) ∧ C[i * 3 + 2]? = some (.int .i64 (x.place : Int))

theorem Made.row {w : World} {b : Nat} {ws : List Wd} (h : Made w b ws) : WordsBytes.WRow w (some ⟨b, 0, none⟩) ws := fun i x hx => by
  obtain ⟨C, hC, hc⟩ := h
  obtain ⟨c1, c2, c3⟩ := hc i x hx
  have f : ∀ j, w.cell? ⟨b, j, none⟩ = C[j]? := fun j => by (unfold World.cell?; rw [hC]; rfl)
  exact ⟨b, 0, rfl, by rw [f, Nat.zero_add]; exact c1, by rw [f, Nat.zero_add]; exact c2, by rw [f, Nat.zero_add]; exact c3⟩
theorem Made.lt {w : World} {b : Nat} {ws : List Wd} (h : Made w b ws) : b < w.heap.size := by
  obtain ⟨C, hC, _⟩ := h
  exact (Array.getElem?_eq_some_iff.1 hC).1
theorem Made.cell {w : World} {b k : Nat} {ws : List Wd} (h : Made w b ws) (hk : k < ws.length) : ∃ v, w.cell? ⟨b, k * 3, none⟩ = some v := by
  obtain ⟨C, hC, hc⟩ := h
  exact ⟨_, by unfold World.cell?; rw [hC]; exact (hc k _ (List.getElem?_eq_getElem hk)).1⟩
theorem Made.frozen {w : World} {b : Nat} {ws : List Wd} (h : Made w b ws) (q : Nat) : w.frozen? ⟨b, q, none⟩ = false := by
  obtain ⟨C, hC, _⟩ := h
  simp [World.frozen?, hC]
theorem Made.below {w w' : World} {b B : Nat} {ws : List Wd} (h : Made w b ws) (hb : Below B w w') (hB : b < B) : Made w' b ws := by
  obtain ⟨C, hC, hc⟩ := h
  exact ⟨C, (hb.block b hB).trans hC, hc⟩
theorem Made.set {w : World} {b k : Nat} {ws : List Wd} {x : Wd} (h : Made w b ws) (hx : ws[k]? = some x) (t : ByteArray) : Made (w.setCell ⟨b, k * 3, none⟩ (.string t)) b (ws.set k { x with text := t.data.toList }) := by
  obtain ⟨C, hC, hc⟩ := h
  refine ⟨C.setIfInBounds (k * 3) (.string t), ?_, ?_⟩
  · simp only [World.setCell, Array.getElem?_modify]
    simp [hC]
  · intro i y hy
    have hlt : k * 3 < C.size := (Array.getElem?_eq_some_iff.1 (hc k x hx).1).1
    by_cases e : i = k
    · subst e
      have hl := (List.getElem?_eq_some_iff.1 hx).1
      rw [List.getElem?_set_self hl] at hy
      cases hy
      obtain ⟨c1, c2, c3⟩ := hc i x hx
      refine ⟨?_, ?_, ?_⟩
      · rw [Array.getElem?_setIfInBounds_self_of_lt hlt]
      · rw [Array.getElem?_setIfInBounds_ne (by omega)]; exact c2
      · rw [Array.getElem?_setIfInBounds_ne (by omega)]; exact c3
    · rw [List.getElem?_set_ne (fun q => e q.symm)] at hy
      obtain ⟨c1, c2, c3⟩ := hc i y hy
      refine ⟨?_, ?_, ?_⟩
      · rw [Array.getElem?_setIfInBounds_ne (by omega)]; exact c1
      · rw [Array.getElem?_setIfInBounds_ne (by omega)]; exact c2
      · rw [Array.getElem?_setIfInBounds_ne (by omega)]; exact c3
theorem Made.new (w : World) (n : Nat) : Made (w.alloc (.cells (madeCells #[.string ⟨#[]⟩, .bool false, .int .i64 0] (n * 3)) 87)) w.heap.size (List.replicate n w0) := by
  refine ⟨_, heap_alloc_new w _, fun i x hx => ?_⟩
  rw [List.getElem?_replicate] at hx
  by_cases hi : i < n
  · rw [if_pos hi] at hx
    cases hx
    refine ⟨?_, ?_, ?_⟩
    · rw [Array.getElem?_eq_getElem (by rw [size_madeCells]; omega)]
      simp [madeCells, w0]
    · rw [Array.getElem?_eq_getElem (by rw [size_madeCells]; omega)]
      simp [madeCells, w0]
    · rw [Array.getElem?_eq_getElem (by rw [size_madeCells]; omega)]
      simp [madeCells, w0]
  · rw [if_neg hi] at hx; cases hx

end Go.Proofs.YtbeflhpekklgoaaGreatDoor.LineMath

namespace Go.Proofs.YtbeflhpekklgoaaGreatDoor.WordsCutM
open Go.RowKit Go.Proofs.YtbeflhpekklgoaaGreatDoor.WordsMath Go.Proofs.YtbeflhpekklgoaaGreatDoor.WordsOne Go.Proofs.YtbeflhpekklgoaaGreatDoor.WordsBytes

def cutGo : List UInt8 → List UInt8 → List (List UInt8)
  | cur, [] => if cur = [] then [] else [cur]
  | cur, c :: r => if c = 10 then cur :: cutGo [] r else cutGo (cur ++ [c]) r

/-- The cells of a row of texts. -/
def cellsL (ls : List (List UInt8)) : List Value := ls.map (fun l => Value.string ⟨l.toArray⟩)

end Go.Proofs.YtbeflhpekklgoaaGreatDoor.WordsCutM

namespace Go.Proofs.YtbeflhpekklgoaaGreatDoor.WordsMath

/-- The ways of a line at its first byte. -/
theorem lineL_ways (c : UInt8) (r : List UInt8) (i : Nat) (out : List W) :
    (blankN c.toNat = true ∧ lineL (c :: r) i out = lineL r (i + 1) out) ∨
    (c.toNat = 35 ∧ lineL (c :: r) i out = .ok out) ∨
    (c.toNat = 34 ∧ ∃ p, unqE r (i + 1) = .error p ∧ lineL (c :: r) i out = .error p) ∨
    (c.toNat = 34 ∧ ∃ t e, unqE r (i + 1) = .ok (t, e) ∧ lineL (c :: r) i out = lineL (r.drop (e - (i + 1))) e (out ++ [⟨t, true, i⟩])) ∨
    (plainN c.toNat = true ∧ c.toNat ≠ 35 ∧ endsL (r.drop (plainLen r)) = true ∧ lineL (c :: r) i out = lineL (r.drop (plainLen r)) (i + 1 + plainLen r) (out ++ [⟨c :: r.take (plainLen r), false, i⟩])) ∨
    (∃ k, k ≤ r.length + 1 ∧ lineL (c :: r) i out = .error (i + k)) := by
  cases hb : blankN c.toNat with
  | true => exact .inl ⟨rfl, lineL_blank hb r i out⟩
  | false =>
    by_cases h35 : c.toNat = 35
    · exact .inr (.inl ⟨h35, lineL_comment h35 r i out⟩)
    · by_cases h34 : c.toNat = 34
      · cases hu : unqE r (i + 1) with
        | error p => exact .inr (.inr (.inl ⟨h34, p, rfl, lineL_bad h34 hu out⟩))
        | ok x =>
          obtain ⟨t, e⟩ := x
          exact .inr (.inr (.inr (.inl ⟨h34, t, e, rfl, lineL_quoted h34 hu out⟩)))
      · cases hp : plainN c.toNat with
        | true =>
          cases he : endsL (r.drop (plainLen r)) with
          | true => exact .inr (.inr (.inr (.inr (.inl ⟨rfl, h35, rfl, lineL_plain hp h35 he i out⟩))))
          | false => exact .inr (.inr (.inr (.inr (.inr ⟨1 + plainLen r, by have := plainLen_le r; omega, by rw [lineL_cut hp h35 he, Nat.add_assoc]⟩))))
        | false => exact .inr (.inr (.inr (.inr (.inr ⟨0, by omega, by rw [lineL_wrong hp hb h34, Nat.add_zero]⟩))))

theorem lineL_ok (n : Nat) : ∀ (l : List UInt8) (i : Nat) (out us : List W), l.length ≤ n → lineL l i out = .ok us →
    ∃ more, us = out ++ more ∧ more.Pairwise (fun a b => a.place < b.place) ∧ ∀ x ∈ more, i ≤ x.place ∧ x.place < i + l.length := by
  induction n with
  | zero =>
    intro l i out us hl h
    obtain rfl : l = [] := List.eq_nil_of_length_eq_zero (by omega)
    rw [lineL_nil] at h
    cases h
    exact ⟨[], by simp, List.Pairwise.nil, fun x hx => by cases hx⟩
  | succ n ih =>
    intro l i out us hl h
    cases l with
    | nil =>
      rw [lineL_nil] at h
      cases h
      exact ⟨[], by simp, List.Pairwise.nil, fun x hx => by cases hx⟩
    | cons c r =>
      simp only [List.length_cons] at hl ⊢
      have step : ∀ (k e : Nat) (x : W), x.place = i → e = i + 1 + k → k ≤ r.length → lineL (r.drop k) e (out ++ [x]) = .ok us →
          ∃ more, us = out ++ more ∧ more.Pairwise (fun a b => a.place < b.place) ∧ ∀ x ∈ more, i ≤ x.place ∧ x.place < i + (r.length + 1) := by
        intro k e x hx he hk h2
        have hlen : (r.drop k).length = r.length - k := List.length_drop
        obtain ⟨more, h3, h4, h5⟩ := ih (r.drop k) e (out ++ [x]) us (by omega) h2
        refine ⟨x :: more, by rw [h3]; simp, List.pairwise_cons.2 ⟨fun y hy => ?_, h4⟩, fun y hy => ?_⟩
        · have := h5 y hy; omega
        · rcases List.mem_cons.1 hy with rfl | hy
          · omega
          · have := h5 y hy; omega
      rcases lineL_ways c r i out with ⟨_, w⟩ | ⟨_, w⟩ | ⟨_, p, _, w⟩ | ⟨_, t, e, hu, w⟩ | ⟨_, _, _, w⟩ | ⟨k, _, w⟩
      · rw [w] at h
        obtain ⟨more, h3, h4, h5⟩ := ih r (i + 1) out us (by omega) h
        exact ⟨more, h3, h4, fun x hx => by have := h5 x hx; omega⟩
      · rw [w] at h
        cases h
        exact ⟨[], by simp, List.Pairwise.nil, fun x hx => by cases hx⟩
      · rw [w] at h; cases h
      · rw [w] at h
        have hb := unqE_bound.1 _ _ hu
        exact step (e - (i + 1)) e _ rfl (by omega) (by omega) h
      · rw [w] at h
        exact step (plainLen r) _ _ rfl rfl (plainLen_le r) h
      · rw [w] at h; cases h

theorem rise_len : ∀ (ws : List W) (a b : Nat), ws.Pairwise (fun a b => a.place < b.place) → (∀ x ∈ ws, a ≤ x.place ∧ x.place < b) → ws.length ≤ b - a
  | [], _, _, _, _ => by simp
  | x :: r, a, b, h, hb => by
    obtain ⟨h1, h2⟩ := List.pairwise_cons.1 h
    have hx := hb x (by simp)
    have := rise_len r (x.place + 1) b h2 (fun y hy => ⟨h1 y hy, (hb y (by simp [hy])).2⟩)
    simp only [List.length_cons]
    omega

theorem lineL_err (n : Nat) : ∀ (l : List UInt8) (i : Nat) (out : List W) (p : Nat), l.length ≤ n → lineL l i out = .error p → i ≤ p ∧ p ≤ i + l.length := by
  induction n with
  | zero =>
    intro l i out p hl h
    obtain rfl : l = [] := List.eq_nil_of_length_eq_zero (by omega)
    rw [lineL_nil] at h
    cases h
  | succ n ih =>
    intro l i out p hl h
    cases l with
    | nil => rw [lineL_nil] at h; cases h
    | cons c r =>
      simp only [List.length_cons] at hl ⊢
      rcases lineL_ways c r i out with ⟨_, w⟩ | ⟨_, w⟩ | ⟨_, q, hu, w⟩ | ⟨_, t, e, hu, w⟩ | ⟨_, _, _, w⟩ | ⟨k, hk, w⟩
      · rw [w] at h
        have := ih r (i + 1) out p (by omega) h
        omega
      · rw [w] at h; cases h
      · rw [w] at h
        cases h
        have := unqE_bound.2 _ hu
        omega
      · rw [w] at h
        have hb := unqE_bound.1 _ _ hu
        have hlen : (r.drop (e - (i + 1))).length = r.length - (e - (i + 1)) := List.length_drop
        have := ih _ e _ p (by omega) h
        omega
      · rw [w] at h
        have hb := plainLen_le r
        have hlen : (r.drop (plainLen r)).length = r.length - plainLen r := List.length_drop
        have := ih _ _ _ p (by omega) h
        omega
      · rw [w] at h
        cases h
        omega

end Go.Proofs.YtbeflhpekklgoaaGreatDoor.WordsMath

namespace Go.Proofs.YtbeflhpekklgoaaGreatDoor.LineRead
/-- A name for the namespace, so that it may be opened where a program has no reader of lines. -/
def here : Bool := true
end Go.Proofs.YtbeflhpekklgoaaGreatDoor.LineRead
namespace Go.Proofs.YtbeflhpekklgoaaGreatDoor.SpecLn
open Go.Proofs.YtbeflhpekklgoaaGreatDoor.LineRead Go.Proofs.YtbeflhpekklgoaaGreatDoor.LineMath
set_option linter.unusedVariables false
set_option linter.unusedSimpArgs false

/-- An alternative: whose, its names, where it begins. -/
structure Sd where
  left : List UInt8
  names : List Wd
  at_ : Nat
def mk (w : Wd) (c : UInt8) : Bool := !w.quoted && (w.text == [c])
def isEnd (w : Wd) : Bool := !w.quoted && (w.text == [])
/-- May a word be a name, by its length, and as it is no colon? -/
def lenB (w : Wd) : Bool := !mk w 58 && (decide (0 < w.text.length) && decide (w.text.length ≤ 32))
def nameB (w : Wd) : Bool := !mk w 124 && lenB w
def shift (start : Nat) (s : Sd) : Sd := ⟨s.left, s.names, start + s.at_⟩
/-- A name more for the last alternative. -/
def push (start : Nat) (out : List Sd) (w : Wd) : List Sd :=
  match out.getLast? with
  | none => out
  | some s => out.dropLast ++ [⟨s.left, s.names ++ [w], if s.names = [] then start + w.place else s.at_⟩]

inductive St where
  | beg | col | nam | fin
structure PS where
  st : St
  left : List UInt8
  rs : List Sd
def opened (start : Nat) (left : List UInt8) (rs : List Sd) (w : Wd) : PS := ⟨.nam, left, rs ++ [⟨left, [], start + w.place + w.text.length⟩]⟩
/-- One word taken by a state; or the place in the line that is wrong. -/
def step (start : Nat) (p : PS) (w : Wd) : Except Nat PS :=
  match p.st with
  | .beg => if isEnd w then .ok ⟨.fin, p.left, p.rs⟩
    else if mk w 124 && !p.rs.isEmpty then .ok (opened start p.left p.rs w)
    else if mk w 124 || w.quoted then .error w.place
    else if lenB w then .ok ⟨.col, w.text, p.rs⟩ else .error w.place
  | .col => if mk w 58 then .ok (opened start p.left p.rs w) else .error w.place
  | .nam => if isEnd w then .ok ⟨.fin, p.left, p.rs⟩
    else if mk w 124 then .ok (opened start p.left p.rs w)
    else if lenB w then .ok ⟨.nam, p.left, push start p.rs w⟩ else .error w.place
  | .fin => .ok p
def run (start : Nat) : List Wd → PS → Except Nat PS
  | [], p => .ok p
  | w :: r, p => match step start p w with
    | .error e => .error e
    | .ok p' => run start r p'

/-- The document's: the rest of a line, behind its first mark. -/
def docGo (left : List UInt8) : List Wd → List Sd → Except Nat (List Sd)
  | [], out => .ok out
  | w :: r, out => if mk w 124 then docGo left r (out ++ [⟨left, [], w.place + 1⟩])
    else if nameB w then docGo left r (push 0 out w) else .error w.place
/-- The document's: a line that has words. -/
def docLine (ws : List Wd) (left : List UInt8) (stop : Nat) : Except Nat (List Sd × List UInt8) :=
  match ws with
  | [] => .ok ([], left)
  | w :: r =>
    if mk w 124 then if left = [] then .error w.place else (docGo left (w :: r) []).map (·, left)
    else if nameB w && !w.quoted then
      match r with
      | [] => .error stop
      | c :: r' => if mk c 58 then (docGo w.text r' [⟨w.text, [], c.place + 1⟩]).map (·, w.text) else .error c.place
    else .error w.place

theorem mk_len {w : Wd} {c : UInt8} (h : mk w c = true) : w.text.length = 1 ∧ w.quoted = false := by
  unfold mk at h
  simp at h
  rw [h.2]
  exact ⟨rfl, h.1⟩
theorem end_mk {w : Wd} {c : UInt8} (h : isEnd w = true) : mk w c = false := by
  unfold isEnd at h
  unfold mk
  simp at h ⊢
  intro _
  rw [h.2]
  simp
theorem push_app (start : Nat) (all out : List Sd) (w : Wd) (h : out ≠ []) : push start (all ++ out.map (shift start)) w = all ++ (push 0 out w).map (shift start) := by
  obtain ⟨l, s, rfl⟩ : ∃ l s, out = l ++ [s] := ⟨out.dropLast, out.getLast h, (List.dropLast_concat_getLast h).symm⟩
  unfold push
  rw [List.map_append, List.map_cons, List.map_nil, ← List.append_assoc, List.getLast?_append, List.getLast?_append]
  simp [shift]
  split <;> rfl
theorem push_ne (start : Nat) (out : List Sd) (w : Wd) (h : out ≠ []) : push start out w ≠ [] := by
  obtain ⟨l, s, rfl⟩ : ∃ l s, out = l ++ [s] := ⟨out.dropLast, out.getLast h, (List.dropLast_concat_getLast h).symm⟩
  unfold push
  rw [List.getLast?_append]
  simp

/-- Behind the first mark the states take just what the document takes. -/
theorem run_go (start : Nat) (left : List UInt8) (all : List Sd) (e : Wd) (he : isEnd e = true) : ∀ (ws : List Wd) (out : List Sd), out ≠ [] → (∀ w ∈ ws, isEnd w = false) →
    run start (ws ++ [e]) ⟨.nam, left, all ++ out.map (shift start)⟩ = (docGo left ws out).map (fun o => ⟨.fin, left, all ++ o.map (shift start)⟩)
  | [], out, h, _ => by
    show run start [e] _ = _
    unfold run step
    simp [he, run, docGo, Except.map]
  | w :: r, out, h, hw => by
    have hwe := hw w List.mem_cons_self
    have hr := fun x hx => hw x (List.mem_cons_of_mem w hx)
    show run start (w :: (r ++ [e])) _ = _
    unfold run step docGo
    simp only [hwe]
    by_cases hm : mk w 124 = true
    · have hl := (mk_len hm).1
      simp only [hm, if_true, Bool.false_eq_true, if_false, opened]
      have := run_go start left all e he r (out ++ [⟨left, [], w.place + 1⟩]) (by simp) hr
      rw [← this]
      rw [List.map_append, ← List.append_assoc, hl]
      rfl
    · simp only [hm, Bool.false_eq_true, if_false]
      have hn : nameB w = lenB w := by unfold nameB; simp at hm; rw [hm]; rfl
      rw [hn]
      by_cases hl : lenB w = true
      · simp only [hl, if_true]
        rw [push_app start all out w h]
        exact run_go start left all e he r (push 0 out w) (push_ne 0 out w h) hr
      · simp only [hl, Bool.false_eq_true, if_false]
        rfl

/-- THE STATES TAKE A LINE AS THE DOCUMENT DOES. -/
theorem run_line (start : Nat) (left : List UInt8) (all : List Sd) (e : Wd) (he : isEnd e = true) (ws : List Wd) (hw : ∀ w ∈ ws, isEnd w = false) (ha : all = [] ↔ left = []) :
    run start (ws ++ [e]) ⟨.beg, left, all⟩ = (docLine ws left e.place).map (fun o => ⟨.fin, o.2, all ++ o.1.map (shift start)⟩) := by
  match ws, hw with
  | [], _ =>
    show run start [e] _ = _
    unfold run step
    simp [he, run, docLine, Except.map]
  | w :: r, hw =>
    have hwe := hw w List.mem_cons_self
    have hr := fun x hx => hw x (List.mem_cons_of_mem w hx)
    show run start (w :: (r ++ [e])) _ = _
    unfold run step docLine
    simp only [hwe, Bool.false_eq_true, if_false]
    by_cases hm : mk w 124 = true
    · have hl := (mk_len hm).1
      simp only [hm, Bool.true_and, Bool.true_or, if_true]
      by_cases hz : left = []
      · have hz2 := ha.2 hz
        rw [if_pos hz, hz2]
        rfl
      · have hz2 : ¬ all = [] := fun h => hz (ha.1 h)
        rw [if_neg hz]
        have hz3 : (!all.isEmpty) = true := by cases all with
          | nil => exact absurd rfl hz2
          | cons => rfl
        simp only [hz3, if_true, opened]
        have := run_go start left all e he r [⟨left, [], w.place + 1⟩] (by simp) hr
        unfold docGo
        simp only [hm, if_true, List.nil_append]
        rw [hl]
        change run start (r ++ [e]) ⟨.nam, left, all ++ [⟨left, [], start + w.place + 1⟩]⟩ = _ at this
        rw [this]
        cases docGo left r [⟨left, [], w.place + 1⟩] <;> rfl
    · have hm' : mk w 124 = false := by simpa using hm
      simp only [hm', Bool.false_and, Bool.false_or, Bool.false_eq_true, if_false]
      have hn : nameB w = lenB w := by unfold nameB; rw [hm']; rfl
      rw [hn]
      by_cases hq : w.quoted = true
      · simp [hq, Except.map]
      · have hq' : w.quoted = false := by simpa using hq
        simp only [hq', Bool.false_eq_true, if_false, Bool.not_false, Bool.and_true]
        by_cases hl : lenB w = true
        · simp only [hl, if_true]
          match r, hr with
          | [], _ =>
            show run start [e] _ = _
            unfold run step
            simp [end_mk he, Except.map]
          | c :: r', hr =>
            have hr' := fun x hx => hr x (List.mem_cons_of_mem c hx)
            show run start (c :: (r' ++ [e])) _ = _
            unfold run step
            by_cases hc : mk c 58 = true
            · have hl1 := (mk_len hc).1
              simp only [hc, if_true, opened]
              have := run_go start w.text all e he r' [⟨w.text, [], c.place + 1⟩] (by simp) hr'
              rw [hl1]
              change run start (r' ++ [e]) ⟨.nam, w.text, all ++ [⟨w.text, [], start + c.place + 1⟩]⟩ = _ at this
              rw [this]
              cases docGo w.text r' [⟨w.text, [], c.place + 1⟩] <;> rfl
            · simp only [hc, Bool.false_eq_true, if_false]
              rfl
        · simp only [hl, Bool.false_eq_true, if_false]
          rfl

end Go.Proofs.YtbeflhpekklgoaaGreatDoor.SpecLn
