/-
  Texts that stand together: GramRefs, LineMath, WordsCutMath, WordsMath2.
-/
import Derived.Test.YtaieeclobokflaaDoorBagSpecTabs
import Derived.Test.YtaieeclobokflaaDoorBGramBase
import Derived.Test.YtaieeclobokflaaDoorBBaseMath
import Derived.Test.YtaieeclobokflaaDoorBagWordsRow
import Derived.Test.YtaieeclobokflaaDoorBagWordsMath
import Derived.Lib.IndexLaws
namespace Go.Proofs.YtaieeclobokflaaDoor.GramRef
open Go.RowKit Go.Proofs.YtaieeclobokflaaDoor.GramMath Go.Proofs.YtaieeclobokflaaDoor.GramRow Go.Proofs.YtaieeclobokflaaDoor.GramOne Go.Proofs.YtaieeclobokflaaDoor.GramName
set_option linter.unusedVariables false

end Go.Proofs.YtaieeclobokflaaDoor.GramRef

namespace Go.Proofs.YtaieeclobokflaaDoor.GramRef
open Go.RowKit Go.Proofs.YtaieeclobokflaaDoor.GramMath Go.Proofs.YtaieeclobokflaaDoor.GramRow Go.Proofs.YtaieeclobokflaaDoor.GramOne Go.Proofs.YtaieeclobokflaaDoor.GramCheck
set_option linter.unusedVariables false

/-- The number of a rule, -1 for none. -/
def ruI : Option Nat → Int
  | none => -1
  | some i => (i : Int)

end Go.Proofs.YtaieeclobokflaaDoor.GramRef

namespace Go.Proofs.YtaieeclobokflaaDoor.GramRef
open Go.RowKit Go.Proofs.YtaieeclobokflaaDoor.GramMath Go.Proofs.YtaieeclobokflaaDoor.GramRow Go.Proofs.YtaieeclobokflaaDoor.GramOne Go.Proofs.YtaieeclobokflaaDoor.GramAboveFn Go.Proofs.YtaieeclobokflaaDoor.GramApart
set_option linter.unusedVariables false

/-- Booleans in a row of their own. -/
def BRow (w : World) (b n : Nat) (S : Nat → Bool) : Prop := ∀ i, i < n → w.cell? ⟨b, i, none⟩ = some (.bool (S i)) ∧ w.frozen? ⟨b, i, none⟩ = false

theorem BRow.below {w w' : World} {b n B : Nat} {S : Nat → Bool} (h : BRow w b n S) (hb : Below B w w') (hB : b < B) : BRow w' b n S := fun i hi =>
  ⟨(hb.cell (p := ⟨b, i, none⟩) hB).trans (h i hi).1, (hb.frozen (p := ⟨b, i, none⟩) hB).trans (h i hi).2⟩

theorem BRow.set {w : World} {b n t : Nat} {S : Nat → Bool} (h : BRow w b n S) (ht : t < n) : BRow (w.setCell ⟨b, t, none⟩ (.bool true)) b n (updB S t) := fun i hi => by
  refine ⟨?_, by rw [World.frozen?_setCell]; exact (h i hi).2⟩
  by_cases e : i = t
  · subst e
    rw [updB_at]
    exact World.cell?_setCell_same (h := (h i hi).1) ..
  · rw [updB_ne _ e, World.cell?_setCell_other (h := show (⟨b, t, none⟩ : Addr) ≠ ⟨b, i, none⟩ from fun h => e (by cases h; rfl))]
    exact (h i hi).1

def numV (x : Nat) : Value := .int .i64 (x : Int)

end Go.Proofs.YtaieeclobokflaaDoor.GramRef

namespace Go.Proofs.YtaieeclobokflaaDoor.LineMath
open Go.RowKit Go.Proofs.YtaieeclobokflaaDoor.GramMath Go.Proofs.YtaieeclobokflaaDoor.GramRow Go.Proofs.YtaieeclobokflaaDoor.GramOne Go.Proofs.YtaieeclobokflaaDoor.GramCheck
set_option linter.unusedVariables false

abbrev Wd := Go.Proofs.YtaieeclobokflaaDoor.WordsMath.W

/-- The name of a token, and its word. -/
def nameOf (g : G) (z : Int) : ByteArray := g.ts.getD z.toNat ByteArray.empty
def wOf (g : G) (z : Int) : Wd := ⟨(nameOf g z).data.toList, false, 0⟩
def w0 : Wd := ⟨[], false, 0⟩
/-- May a number be a token? -/
def tokB (g : G) (z : Int) : Bool := decide (0 ≤ z) && decide (z < (g.ts.length : Int))
/-- The words of tokens of which the first k were told. -/
def wsTo (g : G) (zs : List Int) (k : Nat) : List Wd := (zs.take k).map (wOf g) ++ List.replicate (zs.length - k) w0

/-- The text of tokens. -/
def textL (g : G) (zs : List Int) : List UInt8 := WordsBytes.allW (zs.map (wOf g))
/-- What writing tokens comes to: what is wrong, and the text. -/
def wrZ (g : G) (zs : List Int) : Nat × Option Nat :=
  if (checkG g).1 ≠ 0 then checkG g
  else if 65536 < zs.length then (12, none)
  else if zs.all (tokB g) = false then (1, none)
  else if 1048576 < (textL g zs).length then (12, none)
  else (0, none)
def wrT (g : G) (zs : List Int) : ByteArray := if (wrZ g zs).1 = 0 then ⟨(textL g zs).toArray⟩ else ⟨#[]⟩

theorem rulesK_le {t n : Nat} : ∀ (rs : List R) (i : Nat), (rulesK t n rs i).1 ≤ 15 := by
  intro rs
  induction rs with
  | nil => intro i; exact Nat.zero_le _
  | cons r rs ih =>
    intro i
    rw [rulesK]
    split
    · exact ih _
    · show ruleK t n r ≤ 15
      unfold ruleK
      split <;> (try split) <;> (try split) <;> omega

/-- Words that were made in a block of their own. -/
def Made (w : World) (b : Nat) (ws : List Wd) : Prop := ∃ C, w.heap[b]? = some (.cells C 67 (0, 0)) ∧ ∀ i x, ws[i]? = some x → C[i * 3]? = some (.string ⟨x.text.toArray⟩) ∧ C[i * 3 + 1]? = some (.bool x.quoted) ∧ C[i * 3 + 2]? = some (.int .i64 (x.place : Int))

theorem Made.row {w : World} {b : Nat} {ws : List Wd} (h : Made w b ws) : WordsBytes.WRow w (some ⟨b, 0, none⟩) ws := fun i x hx => by
  obtain ⟨C, hC, hc⟩ := h
  obtain ⟨c1, c2, c3⟩ := hc i x hx
  have f : ∀ j, w.cell? ⟨b, j, none⟩ = C[j]? := fun j => by (unfold World.cell?; rw [hC]; rfl)
  exact ⟨b, 0, rfl, by rw [f, Nat.zero_add]; exact c1, by rw [f, Nat.zero_add]; exact c2, by rw [f, Nat.zero_add]; exact c3⟩
theorem Made.lt {w : World} {b : Nat} {ws : List Wd} (h : Made w b ws) : b < w.heap.size := by
  obtain ⟨C, hC, _⟩ := h
  exact (Array.getElem?_eq_some_iff.1 hC).1
theorem Made.cell {w : World} {b k : Nat} {ws : List Wd} (h : Made w b ws) (hk : k < ws.length) : ∃ v, w.cell? ⟨b, k * 3, none⟩ = some v := by
  obtain ⟨C, hC, hc⟩ := h
  exact ⟨_, by unfold World.cell?; rw [hC]; exact (hc k _ (List.getElem?_eq_getElem hk)).1⟩
theorem Made.frozen {w : World} {b : Nat} {ws : List Wd} (h : Made w b ws) (q : Nat) : w.frozen? ⟨b, q, none⟩ = false := by
  obtain ⟨C, hC, _⟩ := h
  simp [World.frozen?, hC]
theorem Made.below {w w' : World} {b B : Nat} {ws : List Wd} (h : Made w b ws) (hb : Below B w w') (hB : b < B) : Made w' b ws := by
  obtain ⟨C, hC, hc⟩ := h
  exact ⟨C, (hb.block b hB).trans hC, hc⟩
theorem Made.set {w : World} {b k : Nat} {ws : List Wd} {x : Wd} (h : Made w b ws) (hx : ws[k]? = some x) (t : ByteArray) : Made (w.setCell ⟨b, k * 3, none⟩ (.string t)) b (ws.set k { x with text := t.data.toList }) := by
  obtain ⟨C, hC, hc⟩ := h
  refine ⟨C.setIfInBounds (k * 3) (.string t), ?_, ?_⟩
  · simp only [World.setCell, Array.getElem?_modify]
    simp [hC]
  · intro i y hy
    have hlt : k * 3 < C.size := (Array.getElem?_eq_some_iff.1 (hc k x hx).1).1
    by_cases e : i = k
    · subst e
      have hl := (List.getElem?_eq_some_iff.1 hx).1
      rw [List.getElem?_set_self hl] at hy
      cases hy
      obtain ⟨c1, c2, c3⟩ := hc i x hx
      refine ⟨?_, ?_, ?_⟩
      · rw [Array.getElem?_setIfInBounds_self_of_lt hlt]
      · rw [Array.getElem?_setIfInBounds_ne (by omega)]; exact c2
      · rw [Array.getElem?_setIfInBounds_ne (by omega)]; exact c3
    · rw [List.getElem?_set_ne (fun q => e q.symm)] at hy
      obtain ⟨c1, c2, c3⟩ := hc i y hy
      refine ⟨?_, ?_, ?_⟩
      · rw [Array.getElem?_setIfInBounds_ne (by omega)]; exact c1
      · rw [Array.getElem?_setIfInBounds_ne (by omega)]; exact c2
      · rw [Array.getElem?_setIfInBounds_ne (by omega)]; exact c3
theorem Made.new (w : World) (n : Nat) : Made (w.alloc (.cells (madeCells #[.string ⟨#[]⟩, .bool false, .int .i64 0] (n * 3)) 67)) w.heap.size (List.replicate n w0) := by
  refine ⟨_, heap_alloc_new w _, fun i x hx => ?_⟩
  rw [List.getElem?_replicate] at hx
  by_cases hi : i < n
  · rw [if_pos hi] at hx
    cases hx
    refine ⟨?_, ?_, ?_⟩
    · rw [Array.getElem?_eq_getElem (by rw [size_madeCells]; omega)]
      simp [madeCells, w0]
    · rw [Array.getElem?_eq_getElem (by rw [size_madeCells]; omega)]
      simp [madeCells, w0]
    · rw [Array.getElem?_eq_getElem (by rw [size_madeCells]; omega)]
      simp [madeCells, w0]
  · rw [if_neg hi] at hx; cases hx

end Go.Proofs.YtaieeclobokflaaDoor.LineMath

namespace Go.Proofs.YtaieeclobokflaaDoor.WordsCutM
open Go.RowKit Go.Proofs.YtaieeclobokflaaDoor.WordsMath Go.Proofs.YtaieeclobokflaaDoor.WordsOne Go.Proofs.YtaieeclobokflaaDoor.WordsBytes

def cutGo : List UInt8 → List UInt8 → List (List UInt8)
  | cur, [] => if cur = [] then [] else [cur]
  | cur, c :: r => if c = 10 then cur :: cutGo [] r else cutGo (cur ++ [c]) r

/-- The cells of a row of texts. -/
def cellsL (ls : List (List UInt8)) : List Value := ls.map (fun l => Value.string ⟨l.toArray⟩)

end Go.Proofs.YtaieeclobokflaaDoor.WordsCutM

namespace Go.Proofs.YtaieeclobokflaaDoor.WordsMath

/-- The ways of a line at its first byte. -/
theorem lineL_ways (c : UInt8) (r : List UInt8) (i : Nat) (out : List W) :
    (blankN c.toNat = true ∧ lineL (c :: r) i out = lineL r (i + 1) out) ∨
    (c.toNat = 35 ∧ lineL (c :: r) i out = .ok out) ∨
    (c.toNat = 34 ∧ ∃ p, unqE r (i + 1) = .error p ∧ lineL (c :: r) i out = .error p) ∨
    (c.toNat = 34 ∧ ∃ t e, unqE r (i + 1) = .ok (t, e) ∧ lineL (c :: r) i out = lineL (r.drop (e - (i + 1))) e (out ++ [⟨t, true, i⟩])) ∨
    (plainN c.toNat = true ∧ c.toNat ≠ 35 ∧ endsL (r.drop (plainLen r)) = true ∧ lineL (c :: r) i out = lineL (r.drop (plainLen r)) (i + 1 + plainLen r) (out ++ [⟨c :: r.take (plainLen r), false, i⟩])) ∨
    (∃ k, k ≤ r.length + 1 ∧ lineL (c :: r) i out = .error (i + k)) := by
  cases hb : blankN c.toNat with
  | true => exact .inl ⟨rfl, lineL_blank hb r i out⟩
  | false =>
    by_cases h35 : c.toNat = 35
    · exact .inr (.inl ⟨h35, lineL_comment h35 r i out⟩)
    · by_cases h34 : c.toNat = 34
      · cases hu : unqE r (i + 1) with
        | error p => exact .inr (.inr (.inl ⟨h34, p, rfl, lineL_bad h34 hu out⟩))
        | ok x =>
          obtain ⟨t, e⟩ := x
          exact .inr (.inr (.inr (.inl ⟨h34, t, e, rfl, lineL_quoted h34 hu out⟩)))
      · cases hp : plainN c.toNat with
        | true =>
          cases he : endsL (r.drop (plainLen r)) with
          | true => exact .inr (.inr (.inr (.inr (.inl ⟨rfl, h35, rfl, lineL_plain hp h35 he i out⟩))))
          | false => exact .inr (.inr (.inr (.inr (.inr ⟨1 + plainLen r, by have := plainLen_le r; omega, by rw [lineL_cut hp h35 he, Nat.add_assoc]⟩))))
        | false => exact .inr (.inr (.inr (.inr (.inr ⟨0, by omega, by rw [lineL_wrong hp hb h34, Nat.add_zero]⟩))))

theorem lineL_ok (n : Nat) : ∀ (l : List UInt8) (i : Nat) (out us : List W), l.length ≤ n → lineL l i out = .ok us →
    ∃ more, us = out ++ more ∧ more.Pairwise (fun a b => a.place < b.place) ∧ ∀ x ∈ more, i ≤ x.place ∧ x.place < i + l.length := by
  induction n with
  | zero =>
    intro l i out us hl h
    obtain rfl : l = [] := List.eq_nil_of_length_eq_zero (by omega)
    rw [lineL_nil] at h
    cases h
    exact ⟨[], by simp, List.Pairwise.nil, fun x hx => by cases hx⟩
  | succ n ih =>
    intro l i out us hl h
    cases l with
    | nil =>
      rw [lineL_nil] at h
      cases h
      exact ⟨[], by simp, List.Pairwise.nil, fun x hx => by cases hx⟩
    | cons c r =>
      simp only [List.length_cons] at hl ⊢
      have step : ∀ (k e : Nat) (x : W), x.place = i → e = i + 1 + k → k ≤ r.length → lineL (r.drop k) e (out ++ [x]) = .ok us →
          ∃ more, us = out ++ more ∧ more.Pairwise (fun a b => a.place < b.place) ∧ ∀ x ∈ more, i ≤ x.place ∧ x.place < i + (r.length + 1) := by
        intro k e x hx he hk h2
        have hlen : (r.drop k).length = r.length - k := List.length_drop
        obtain ⟨more, h3, h4, h5⟩ := ih (r.drop k) e (out ++ [x]) us (by omega) h2
        refine ⟨x :: more, by rw [h3]; simp, List.pairwise_cons.2 ⟨fun y hy => ?_, h4⟩, fun y hy => ?_⟩
        · have := h5 y hy; omega
        · rcases List.mem_cons.1 hy with rfl | hy
          · omega
          · have := h5 y hy; omega
      rcases lineL_ways c r i out with ⟨_, w⟩ | ⟨_, w⟩ | ⟨_, p, _, w⟩ | ⟨_, t, e, hu, w⟩ | ⟨_, _, _, w⟩ | ⟨k, _, w⟩
      · rw [w] at h
        obtain ⟨more, h3, h4, h5⟩ := ih r (i + 1) out us (by omega) h
        exact ⟨more, h3, h4, fun x hx => by have := h5 x hx; omega⟩
      · rw [w] at h
        cases h
        exact ⟨[], by simp, List.Pairwise.nil, fun x hx => by cases hx⟩
      · rw [w] at h; cases h
      · rw [w] at h
        have hb := unqE_bound.1 _ _ hu
        exact step (e - (i + 1)) e _ rfl (by omega) (by omega) h
      · rw [w] at h
        exact step (plainLen r) _ _ rfl rfl (plainLen_le r) h
      · rw [w] at h; cases h

theorem rise_len : ∀ (ws : List W) (a b : Nat), ws.Pairwise (fun a b => a.place < b.place) → (∀ x ∈ ws, a ≤ x.place ∧ x.place < b) → ws.length ≤ b - a
  | [], _, _, _, _ => by simp
  | x :: r, a, b, h, hb => by
    obtain ⟨h1, h2⟩ := List.pairwise_cons.1 h
    have hx := hb x (by simp)
    have := rise_len r (x.place + 1) b h2 (fun y hy => ⟨h1 y hy, (hb y (by simp [hy])).2⟩)
    simp only [List.length_cons]
    omega

theorem lineL_err (n : Nat) : ∀ (l : List UInt8) (i : Nat) (out : List W) (p : Nat), l.length ≤ n → lineL l i out = .error p → i ≤ p ∧ p ≤ i + l.length := by
  induction n with
  | zero =>
    intro l i out p hl h
    obtain rfl : l = [] := List.eq_nil_of_length_eq_zero (by omega)
    rw [lineL_nil] at h
    cases h
  | succ n ih =>
    intro l i out p hl h
    cases l with
    | nil => rw [lineL_nil] at h; cases h
    | cons c r =>
      simp only [List.length_cons] at hl ⊢
      rcases lineL_ways c r i out with ⟨_, w⟩ | ⟨_, w⟩ | ⟨_, q, hu, w⟩ | ⟨_, t, e, hu, w⟩ | ⟨_, _, _, w⟩ | ⟨k, hk, w⟩
      · rw [w] at h
        have := ih r (i + 1) out p (by omega) h
        omega
      · rw [w] at h; cases h
      · rw [w] at h
        cases h
        have := unqE_bound.2 _ hu
        omega
      · rw [w] at h
        have hb := unqE_bound.1 _ _ hu
        have hlen : (r.drop (e - (i + 1))).length = r.length - (e - (i + 1)) := List.length_drop
        have := ih _ e _ p (by omega) h
        omega
      · rw [w] at h
        have hb := plainLen_le r
        have hlen : (r.drop (plainLen r)).length = r.length - plainLen r := List.length_drop
        have := ih _ _ _ p (by omega) h
        omega
      · rw [w] at h
        cases h
        omega

end Go.Proofs.YtaieeclobokflaaDoor.WordsMath
