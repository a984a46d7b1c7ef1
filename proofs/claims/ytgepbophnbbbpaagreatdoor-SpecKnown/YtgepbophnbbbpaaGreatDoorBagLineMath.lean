/-
  Texts that stand together: LineMath, WordsCutMath.
-/
import Derived.Test.YtgepbophnbbbpaaGreatDoorBagWordsLine
import Derived.Test.YtgepbophnbbbpaaGreatDoorBagWordsRow
import Derived.Test.YtgepbophnbbbpaaGreatDoorBagWordsBytes
import Derived.Lib.IndexLaws
namespace Go.Proofs.YtgepbophnbbbpaaGreatDoor.LineMath
open Go.RowKit Go.Proofs.YtgepbophnbbbpaaGreatDoor.GramMath Go.Proofs.YtgepbophnbbbpaaGreatDoor.GramRow Go.Proofs.YtgepbophnbbbpaaGreatDoor.GramOne Go.Proofs.YtgepbophnbbbpaaGreatDoor.GramCheck
set_option linter.unusedVariables false

abbrev Wd := Go.Proofs.YtgepbophnbbbpaaGreatDoor.WordsMath.W

/-- The name of a token, and its word. -/
def nameOf (g : G) (z : Int) : ByteArray := g.ts.getD z.toNat ByteArray.empty
def wOf (g : G) (z : Int) : Wd := ⟨(nameOf g z).data.toList, false, 0⟩
def w0 : Wd := ⟨[], false, 0⟩
/-- May a number be a token? -/
def tokB (g : G) (z : Int) : Bool := decide (0 ≤ z) && decide (z < (g.ts.length : Int))
/-- The words of tokens of which the first k were told. -/
def wsTo (g : G) (zs : List Int) (k : Nat) : List Wd := (zs.take k).map (wOf g) ++ List.replicate (zs.length - k) w0

/-- The text of tokens. -/
def textL (g : G) (zs : List Int) : List UInt8 := WordsBytes.allW (zs.map (wOf g))
/-- What writing tokens comes to: what is wrong, and the text. -/
def wrZ (g : G) (zs : List Int) : Nat × Option Nat :=
  if (checkG g).1 ≠ 0 then checkG g
  else if 65536 < zs.length then (12, none)
  else if zs.all (tokB g) = false then (1, none)
  else if 1048576 < (textL g zs).length then (12, none)
  else (0, none)
def wrT (g : G) (zs : List Int) : ByteArray := if (wrZ g zs).1 = 0 then ⟨(textL g zs).toArray⟩ else ⟨#[]⟩

theorem rulesK_le {t n : Nat} : ∀ (rs : List R) (i : Nat), (rulesK t n rs i).1 ≤ 15 := by
  intro rs
  induction rs with
  | nil => intro i; exact Nat.zero_le _
  | cons r rs ih =>
    intro i
    rw [rulesK]
    split
    · exact ih _
    · show ruleK t n r ≤ 15
      unfold ruleK
      split <;> (try split) <;> (try split) <;> omega

/-- Words that were made in a block of their own. -/
def Made (w : World) (b : Nat) (ws : List Wd) : Prop := ∃ C, w.heap[b]? = some (.cells C 102 (0, 0)) ∧ ∀ i x, ws[i]? = some x → C[i * 3]? = some (.string ⟨x.text.toArray⟩) ∧ C[i * 3 + 1]? = some (.bool x.quoted) ∧ C[i * 3 + 2]? = some (.int .i64 (x.place : Int))

theorem Made.row {w : World} {b : Nat} {ws : List Wd} (h : Made w b ws) : WordsBytes.WRow w (some ⟨b, 0, none⟩) ws := fun i x hx => by
  obtain ⟨C, hC, hc⟩ := h
  obtain ⟨c1, c2, c3⟩ := hc i x hx
  have f : ∀ j, w.cell? ⟨b, j, none⟩ = C[j]? := fun j => by (unfold World.cell?; rw [hC]; rfl)
  exact ⟨b, 0, rfl, by rw [f, Nat.zero_add]; exact c1, by rw [f, Nat.zero_add]; exact c2, by rw [f, Nat.zero_add]; exact c3⟩
theorem Made.lt {w : World} {b : Nat} {ws : List Wd} (h : Made w b ws) : b < w.heap.size := by
  obtain ⟨C, hC, _⟩ := h
  exact (Array.getElem?_eq_some_iff.1 hC).1
theorem Made.cell {w : World} {b k : Nat} {ws : List Wd} (h : Made w b ws) (hk : k < ws.length) : ∃ v, w.cell? ⟨b, k * 3, none⟩ = some v := by
  obtain ⟨C, hC, hc⟩ := h
  exact ⟨_, by unfold World.cell?; rw [hC]; exact (hc k _ (List.getElem?_eq_getElem hk)).1⟩
theorem Made.frozen {w : World} {b : Nat} {ws : List Wd} (h : Made w b ws) (q : Nat) : w.frozen? ⟨b, q, none⟩ = false := by
  obtain ⟨C, hC, _⟩ := h
  simp [World.frozen?, hC]
theorem Made.below {w w' : World} {b B : Nat} {ws : List Wd} (h : Made w b ws) (hb : Below B w w') (hB : b < B) : Made w' b ws := by
  obtain ⟨C, hC, hc⟩ := h
  exact ⟨C, (hb.block b hB).trans hC, hc⟩
theorem Made.set {w : World} {b k : Nat} {ws : List Wd} {x : Wd} (h : Made w b ws) (hx : ws[k]? = some x) (t : ByteArray) : Made (w.setCell ⟨b, k * 3, none⟩ (.string t)) b (ws.set k { x with text := t.data.toList }) := by
  obtain ⟨C, hC, hc⟩ := h
  refine ⟨C.setIfInBounds (k * 3) (.string t), ?_, ?_⟩
  · simp only [World.setCell, Array.getElem?_modify]
    simp [hC]
  · intro i y hy
    have hlt : k * 3 < C.size := (Array.getElem?_eq_some_iff.1 (hc k x hx).1).1
    by_cases e : i = k
    · subst e
      have hl := (List.getElem?_eq_some_iff.1 hx).1
      rw [List.getElem?_set_self hl] at hy
      cases hy
      obtain ⟨c1, c2, c3⟩ := hc i x hx
      refine ⟨?_, ?_, ?_⟩
      · rw [Array.getElem?_setIfInBounds_self_of_lt hlt]
      · rw [Array.getElem?_setIfInBounds_ne (by omega)]; exact c2
      · rw [Array.getElem?_setIfInBounds_ne (by omega)]; exact c3
    · rw [List.getElem?_set_ne (fun q => e q.symm)] at hy
      obtain ⟨c1, c2, c3⟩ := hc i y hy
      refine ⟨?_, ?_, ?_⟩
      · rw [Array.getElem?_setIfInBounds_ne (by omega)]; exact c1
      · rw [Array.getElem?_setIfInBounds_ne (by omega)]; exact c2
      · rw [Array.getElem?_setIfInBounds_ne (by omega)]; exact c3
theorem Made.new (w : World) (n : Nat) : Made (w.alloc (.cells (madeCells #[.string ⟨#[]⟩, .bool false, .int .i64 0] (n * 3)) 102)) w.heap.size (List.replicate n w0) := by
  refine ⟨_, heap_alloc_new w _, fun i x hx => ?_⟩
  rw [List.getElem?_replicate] at hx
  by_cases hi : i < n
  · rw [if_pos hi] at hx
    cases hx
    refine ⟨?_, ?_, ?_⟩
    · rw [Array.getElem?_eq_getElem (by rw [size_madeCells]; omega)]
      simp [madeCells, w0]
    · rw [Array.getElem?_eq_getElem (by rw [size_madeCells]; omega)]
      simp [madeCells, w0]
    · rw [Array.getElem?_eq_getElem (by rw [size_madeCells]; omega)]
      simp [madeCells, w0]
  · rw [if_neg hi] at hx; cases hx

end Go.Proofs.YtgepbophnbbbpaaGreatDoor.LineMath

namespace Go.Proofs.YtgepbophnbbbpaaGreatDoor.WordsCutM
open Go.RowKit Go.Proofs.YtgepbophnbbbpaaGreatDoor.WordsMath Go.Proofs.YtgepbophnbbbpaaGreatDoor.WordsOne Go.Proofs.YtgepbophnbbbpaaGreatDoor.WordsBytes

def cutGo : List UInt8 → List UInt8 → List (List UInt8)
  | cur, [] => if cur = [] then [] else [cur]
  | cur, c :: r => if c = 10 then cur :: cutGo [] r else cutGo (cur ++ [c]) r

/-- The cells of a row of texts. -/
def cellsL (ls : List (List UInt8)) : List Value := ls.map (fun l => Value.string ⟨l.toArray⟩)

end Go.Proofs.YtgepbophnbbbpaaGreatDoor.WordsCutM
