/-
  Texts that stand together: LineMath.
-/
import Derived.Test.YtbnajikkogdelaaDoorEGramRefs
import Derived.Test.YtbnajikkogdelaaDoorEagWordsRow
namespace Go.Proofs.YtbnajikkogdelaaDoor.LineMath
open Go.RowKit Go.Proofs.YtbnajikkogdelaaDoor.GramMath Go.Proofs.YtbnajikkogdelaaDoor.GramRow Go.Proofs.YtbnajikkogdelaaDoor.GramOne Go.Proofs.YtbnajikkogdelaaDoor.GramCheck
set_option linter.unusedVariables false

abbrev Wd := Go.Proofs.YtbnajikkogdelaaDoor.WordsMath.W

theorem namedTo_size {ss : List ByteArray} {n : Nat} (h : namedTo ss n = true) : ∀ i x, i < n → ss[i]? = some x → x.size ≤ 32 := by
  induction n with
  | zero => intro i x hi; omega
  | succ n ih =>
    intro i x hi hx
    rw [namedTo_succ, Bool.and_eq_true] at h
    rcases Nat.lt_or_ge i n with h1 | h1
    · exact ih h.1 i x h1 hx
    · obtain rfl : i = n := by omega
      have h2 := h.2
      unfold nameAt at h2
      rw [hx] at h2
      simp at h2
      exact h2.1.2
theorem good_ts {g : G} (h : GoodG g) : ∀ s ∈ g.ts, s.size ≤ 32 := fun s hs => by
  obtain ⟨i, hi⟩ := List.mem_iff_getElem?.1 hs
  exact namedTo_size h.nt i s (List.getElem?_eq_some_iff.1 hi).1 hi

/-- The name of a token, and its word. -/
def nameOf (g : G) (z : Int) : ByteArray := g.ts.getD z.toNat ByteArray.empty
def wOf (g : G) (z : Int) : Wd := ⟨(nameOf g z).data.toList, false, 0⟩
def w0 : Wd := ⟨[], false, 0⟩
/-- May a number be a token? -/
def tokB (g : G) (z : Int) : Bool := decide (0 ≤ z) && decide (z < (g.ts.length : Int))
/-- The words of tokens of which the first k were told. -/
def wsTo (g : G) (zs : List Int) (k : Nat) : List Wd := (zs.take k).map (wOf g) ++ List.replicate (zs.length - k) w0

theorem wsTo_len (g : G) (zs : List Int) {k : Nat} (hk : k ≤ zs.length) : (wsTo g zs k).length = zs.length := by
  unfold wsTo
  rw [List.length_append, List.length_map, List.length_take, List.length_replicate]
  omega
theorem wsTo_all (g : G) (zs : List Int) : wsTo g zs zs.length = zs.map (wOf g) := by simp [wsTo]
theorem wsTo_zero (g : G) (zs : List Int) : wsTo g zs 0 = List.replicate zs.length w0 := by simp [wsTo]
theorem wsTo_set (g : G) (zs : List Int) {k : Nat} {z : Int} (h : zs[k]? = some z) : (wsTo g zs k).set k (wOf g z) = wsTo g zs (k + 1) := by
  obtain ⟨hk, e⟩ := List.getElem?_eq_some_iff.1 h
  have h1 : (zs.take k).length = k := by rw [List.length_take]; omega
  have h2 : zs.length - k = (zs.length - (k + 1)) + 1 := by omega
  unfold wsTo
  rw [List.set_append_right _ _ (by rw [List.length_map, h1]; exact Nat.le_refl _), List.length_map, h1, Nat.sub_self, h2, List.replicate_succ, List.set_cons_zero, List.take_succ_eq_append_getElem hk, e]
  simp

theorem name_get {g : G} {z : Int} (h : tokB g z = true) : ∃ x, g.ts[z.toNat]? = some x ∧ nameOf g z = x := by
  unfold tokB at h
  simp at h
  have hl : z.toNat < g.ts.length := by omega
  exact ⟨_, List.getElem?_eq_getElem hl, by unfold nameOf; rw [List.getD_eq_getElem?_getD, List.getElem?_eq_getElem hl]; rfl⟩
theorem name_small {g : G} (h : GoodG g) (z : Int) : (nameOf g z).size ≤ 32 := by
  unfold nameOf
  rw [List.getD_eq_getElem?_getD]
  cases hx : g.ts[z.toNat]? with
  | none => exact Nat.zero_le _
  | some x => exact good_ts h x (List.mem_of_getElem? hx)

/-- The text of tokens. -/
def textL (g : G) (zs : List Int) : List UInt8 := WordsBytes.allW (zs.map (wOf g))
theorem word_small {g : G} (h : GoodG g) (zs : List Int) : ∀ x ∈ zs.map (wOf g), x.text.length ≤ 32 := fun x hx => by
  obtain ⟨z, _, rfl⟩ := List.mem_map.1 hx
  show (nameOf g z).data.toList.length ≤ 32
  have := name_small h z
  rwa [← WordsOne.list_size] at this
theorem text_small {g : G} (h : GoodG g) (zs : List Int) : (textL g zs).length ≤ zs.length * 131 := by
  have := WordsBytes.allW_len 32 _ (word_small h zs)
  rwa [List.length_map] at this

/-- What writing tokens comes to: what is wrong, and the text. -/
def wrZ (g : G) (zs : List Int) : Nat × Option Nat :=
  if (checkG g).1 ≠ 0 then checkG g
  else if 65536 < zs.length then (12, none)
  else if zs.all (tokB g) = false then (1, none)
  else if 1048576 < (textL g zs).length then (12, none)
  else (0, none)
def wrT (g : G) (zs : List Int) : ByteArray := if (wrZ g zs).1 = 0 then ⟨(textL g zs).toArray⟩ else ⟨#[]⟩

theorem wr_bad {g : G} {zs : List Int} (h : (checkG g).1 ≠ 0) : wrZ g zs = checkG g ∧ wrT g zs = ⟨#[]⟩ := by
  have e : wrZ g zs = checkG g := by unfold wrZ; rw [if_pos h]
  exact ⟨e, by unfold wrT; rw [e, if_neg h]⟩
theorem wr_long {g : G} {zs : List Int} (h : (checkG g).1 = 0) (hl : 65536 < zs.length) : wrZ g zs = (12, none) ∧ wrT g zs = ⟨#[]⟩ := by
  have e : wrZ g zs = (12, none) := by unfold wrZ; rw [if_neg (by rw [h]; decide), if_pos hl]
  exact ⟨e, by unfold wrT; rw [e, if_neg (by decide)]⟩
theorem wr_arg {g : G} {zs : List Int} (h : (checkG g).1 = 0) (hl : zs.length ≤ 65536) {k : Nat} {z : Int} (hz : zs[k]? = some z) (hb : tokB g z = false) : wrZ g zs = (1, none) ∧ wrT g zs = ⟨#[]⟩ := by
  have ha : zs.all (tokB g) = false := by
    rw [List.all_eq_false]
    exact ⟨z, List.mem_of_getElem? hz, by rw [hb]; decide⟩
  have e : wrZ g zs = (1, none) := by unfold wrZ; rw [if_neg (by rw [h]; decide), if_neg (by omega), if_pos ha]
  exact ⟨e, by unfold wrT; rw [e, if_neg (by decide)]⟩
theorem wr_text {g : G} {zs : List Int} (h : (checkG g).1 = 0) (hl : zs.length ≤ 65536) (ha : ∀ z ∈ zs, tokB g z = true) (ht : 1048576 < (textL g zs).length) : wrZ g zs = (12, none) ∧ wrT g zs = ⟨#[]⟩ := by
  have h2 : ¬ zs.all (tokB g) = false := by rw [List.all_eq_true.2 ha]; decide
  have e : wrZ g zs = (12, none) := by unfold wrZ; rw [if_neg (by rw [h]; decide), if_neg (by omega), if_neg h2, if_pos ht]
  exact ⟨e, by unfold wrT; rw [e, if_neg (by decide)]⟩
theorem wr_ok {g : G} {zs : List Int} (h : (checkG g).1 = 0) (hl : zs.length ≤ 65536) (ha : ∀ z ∈ zs, tokB g z = true) (ht : (textL g zs).length ≤ 1048576) : wrZ g zs = (0, none) ∧ wrT g zs = ⟨(textL g zs).toArray⟩ := by
  have h2 : ¬ zs.all (tokB g) = false := by rw [List.all_eq_true.2 ha]; decide
  have e : wrZ g zs = (0, none) := by unfold wrZ; rw [if_neg (by rw [h]; decide), if_neg (by omega), if_neg h2, if_neg (by omega)]
  exact ⟨e, by unfold wrT; rw [e, if_pos rfl]⟩

theorem rulesK_le {t n : Nat} : ∀ (rs : List R) (i : Nat), (rulesK t n rs i).1 ≤ 15 := by
  intro rs
  induction rs with
  | nil => intro i; exact Nat.zero_le _
  | cons r rs ih =>
    intro i
    rw [rulesK]
    split
    · exact ih _
    · show ruleK t n r ≤ 15
      unfold ruleK
      split <;> (try split) <;> (try split) <;> omega

/-- Words that were made in a block of their own. -/
def Made (w : World) (b : Nat) (ws : List Wd) : Prop := ∃ C, w.heap[b]? = some (.cells C 48 (0, 0)) ∧ ∀ i x, ws[i]? = some x → C[i * 3]? = some (.string ⟨x.text.toArray⟩) ∧ C[i * 3 + 1]? = some (.bool x.quoted) ∧ C[i * 3 + 2]? = some (.int .i64 (x.place : Int))

theorem Made.row {w : World} {b : Nat} {ws : List Wd} (h : Made w b ws) : WordsBytes.WRow w (some ⟨b, 0, none⟩) ws := fun i x hx => by
  obtain ⟨C, hC, hc⟩ := h
  obtain ⟨c1, c2, c3⟩ := hc i x hx
  have f : ∀ j, w.cell? ⟨b, j, none⟩ = C[j]? := fun j => by (unfold World.cell?; rw [hC]; rfl)
  exact ⟨b, 0, rfl, by rw [f, Nat.zero_add]; exact c1, by rw [f, Nat.zero_add]; exact c2, by rw [f, Nat.zero_add]; exact c3⟩
theorem Made.lt {w : World} {b : Nat} {ws : List Wd} (h : Made w b ws) : b < w.heap.size := by
  obtain ⟨C, hC, _⟩ := h
  exact (Array.getElem?_eq_some_iff.1 hC).1
theorem Made.cell {w : World} {b k : Nat} {ws : List Wd} (h : Made w b ws) (hk : k < ws.length) : ∃ v, w.cell? ⟨b, k * 3, none⟩ = some v := by
  obtain ⟨C, hC, hc⟩ := h
  exact ⟨_, by unfold World.cell?; rw [hC]; exact (hc k _ (List.getElem?_eq_getElem hk)).1⟩
theorem Made.frozen {w : World} {b : Nat} {ws : List Wd} (h : Made w b ws) (q : Nat) : w.frozen? ⟨b, q, none⟩ = false := by
  obtain ⟨C, hC, _⟩ := h
  simp [World.frozen?, hC]
theorem Made.below {w w' : World} {b B : Nat} {ws : List Wd} (h : Made w b ws) (hb : Below B w w') (hB : b < B) : Made w' b ws := by
  obtain ⟨C, hC, hc⟩ := h
  exact ⟨C, (hb.block b hB).trans hC, hc⟩
theorem Made.set {w : World} {b k : Nat} {ws : List Wd} {x : Wd} (h : Made w b ws) (hx : ws[k]? = some x) (t : ByteArray) : Made (w.setCell ⟨b, k * 3, none⟩ (.string t)) b (ws.set k { x with text := t.data.toList }) := by
  obtain ⟨C, hC, hc⟩ := h
  refine ⟨C.setIfInBounds (k * 3) (.string t), ?_, ?_⟩
  · simp only [World.setCell, Array.getElem?_modify]
    simp [hC]
  · intro i y hy
    have hlt : k * 3 < C.size := (Array.getElem?_eq_some_iff.1 (hc k x hx).1).1
    by_cases e : i = k
    · subst e
      have hl := (List.getElem?_eq_some_iff.1 hx).1
      rw [List.getElem?_set_self hl] at hy
      cases hy
      obtain ⟨c1, c2, c3⟩ := hc i x hx
      refine ⟨?_, ?_, ?_⟩
      · rw [Array.getElem?_setIfInBounds_self_of_lt hlt]
      · rw [Array.getElem?_setIfInBounds_ne (by omega)]; exact c2
      · rw [Array.getElem?_setIfInBounds_ne (by omega)]; exact c3
    · rw [List.getElem?_set_ne (fun q => e q.symm)] at hy
      obtain ⟨c1, c2, c3⟩ := hc i y hy
      refine ⟨?_, ?_, ?_⟩
      · rw [Array.getElem?_setIfInBounds_ne (by omega)]; exact c1
      · rw [Array.getElem?_setIfInBounds_ne (by omega)]; exact c2
      · rw [Array.getElem?_setIfInBounds_ne (by omega)]; exact c3
theorem Made.new (w : World) (n : Nat) : Made (w.alloc (.cells (madeCells #[.string ⟨#[]⟩, .bool false, .int .i64 0] (n * 3)) 48)) w.heap.size (List.replicate n w0) := by
  refine ⟨_, heap_alloc_new w _, fun i x hx => ?_⟩
  rw [List.getElem?_replicate] at hx
  by_cases hi : i < n
  · rw [if_pos hi] at hx
    cases hx
    refine ⟨?_, ?_, ?_⟩
    · rw [Array.getElem?_eq_getElem (by rw [size_madeCells]; omega)]
      simp [madeCells, w0]
    · rw [Array.getElem?_eq_getElem (by rw [size_madeCells]; omega)]
      simp [madeCells, w0]
    · rw [Array.getElem?_eq_getElem (by rw [size_madeCells]; omega)]
      simp [madeCells, w0]
  · rw [if_neg hi] at hx; cases hx

end Go.Proofs.YtbnajikkogdelaaDoor.LineMath
