/-
  Texts that stand together: LineFormsM.
-/
import Derived.Test.YtbnajikkogdelaaDoorEagWordsMath3
namespace Go.Proofs.YtbnajikkogdelaaDoor.LineFm
open Go.RowKit Go.Proofs.YtbnajikkogdelaaDoor.GramMath Go.Proofs.YtbnajikkogdelaaDoor.GramRow Go.Proofs.YtbnajikkogdelaaDoor.GramOne Go.Proofs.YtbnajikkogdelaaDoor.LineMath Go.Proofs.YtbnajikkogdelaaDoor.LineRead Go.Proofs.YtbnajikkogdelaaDoor.LineReadsW Go.Proofs.YtbnajikkogdelaaDoor.LineBk Go.Proofs.YtbnajikkogdelaaDoor.WordsCutM Go.Proofs.YtbnajikkogdelaaDoor.WordsBytes
set_option linter.unusedVariables false
set_option linter.unusedSimpArgs false

def comL : List UInt8 := [32, 35, 32, 97, 32, 99, 111, 109, 109, 101, 110, 116, 32, 34]
/-- What stands behind a word. -/
def sepL (c : Nat) : List UInt8 := if c = 0 then [32] else if c = 1 then [10] else if c = 2 then comL ++ [10, 10] else [9, 32, 32]
/-- The text of the first k tokens, by forms. -/
def formT (g : G) (zs : List Int) (f : Nat → Bool × Nat) : Nat → List UInt8
  | 0 => [32]
  | k + 1 => formT g zs f k ++ (WordsMath.wordL (nameOf g (zs.getD k 0)).data.toList (f k).1 ++ sepL (f k).2)

theorem cut_app : ∀ (A cur Y : List UInt8), (10 : UInt8) ∉ A → cutGo cur (A ++ Y) = cutGo (cur ++ A) Y
  | [], cur, Y, _ => by simp
  | c :: r, cur, Y, h => by
    have hc : c ≠ 10 := fun e => h (by rw [e]; exact List.mem_cons_self)
    rw [List.cons_append]
    conv => lhs; unfold cutGo
    rw [if_neg hc, cut_app r (cur ++ [c]) Y (fun hm => h (List.mem_cons_of_mem _ hm))]
    simp
theorem cut_ten (cur Y : List UInt8) : cutGo cur (10 :: Y) = cur :: cutGo [] Y := by
  conv => lhs; unfold cutGo
  rw [if_pos rfl]

theorem words_app {g : G} {start : Nat} : ∀ (us vs : List Wd) (st st' : TP), wordsZ g start us st = .ok st' → wordsZ g start (us ++ vs) st = wordsZ g start vs st'
  | [], vs, st, st', h => by cases h; rfl
  | u :: us, vs, st, st', h => by
    cases hz : takeZ g start st u with
    | error q => rw [words_bad hz] at h; cases h
    | ok st2 =>
      rw [words_ok hz] at h
      rw [List.cons_append, words_ok hz]
      exact words_app us vs st2 st' h

/-- Where the reading stands behind a text, whatever follows. -/
structure At (g : G) (T : List UInt8) (zs : List Int) (start : Nat) (st : TP) (cur : List UInt8) (us : List Wd) (ps : List Int) : Prop where
  cut : ∀ Y, linesZ g (cutGo [] (T ++ Y)) 0 ([], []) = linesZ g (cutGo cur Y) start st
  line : ∀ Z, WordsMath.lineL (cur ++ Z) 0 [] = WordsMath.lineL Z cur.length us
  toks : wordsZ g start us st = .ok (zs, ps)

theorem At.start (g : G) : At g [32] [] 0 ([], []) [32] [] [] :=
  ⟨fun Y => by
    show linesZ g (cutGo [] ([32] ++ Y)) 0 ([], []) = _
    rw [cut_app [32] [] Y (by decide)]
    rfl, fun Z => WordsMath.lineL_blank (by decide) Z 0 [], rfl⟩

theorem one_more {g : G} (hg : GoodG g) {zs ps : List Int} {start : Nat} {st : TP} {us : List Wd} {z : Int} (h : wordsZ g start us st = .ok (zs, ps)) (ht : tokB g z = true) (hl : zs.length < 65536) (q : Bool) (pl : Nat) : ∃ ps', wordsZ g start (us ++ [⟨(nameOf g z).data.toList, q, pl⟩]) st = .ok (zs ++ [z], ps') := by
  have hz : 0 ≤ z := by unfold tokB at ht; simp at ht; exact ht.1
  have hn := name_num hg ht q pl
  refine ⟨ps ++ [((start + pl : Nat) : Int)], ?_⟩
  rw [words_app _ _ _ _ h, words_ok (take_ok hl (by omega)), words_nil, hn]

theorem At.blank {g : G} (hg : GoodG g) {T : List UInt8} {zs ps : List Int} {start : Nat} {st : TP} {cur : List UInt8} {us : List Wd} (h : At g T zs start st cur us ps) {z : Int} (ht : tokB g z = true) (hl : zs.length < 65536) (q : Bool) (S : List UInt8) (hS : S ≠ []) (hb : ∀ c ∈ S, WordsMath.blankN c.toNat = true) :
    ∃ cur' us' ps', At g (T ++ (WordsMath.wordL (nameOf g z).data.toList q ++ S)) (zs ++ [z]) start st cur' us' ps' := by
  obtain ⟨ps', hp⟩ := one_more hg h.toks ht hl (q || !WordsMath.plainW (nameOf g z).data.toList) cur.length
  have hS10 : (10 : UInt8) ∉ S := fun hm => by have := hb 10 hm; revert this; decide
  have hE : ∀ Z, WordsMath.endsL (S ++ Z) = true := fun Z => by
    cases S with
    | nil => exact absurd rfl hS
    | cons c r => exact hb c List.mem_cons_self
  have hBl : ∀ (S : List UInt8), (∀ c ∈ S, WordsMath.blankN c.toNat = true) → ∀ (Z : List UInt8) (i : Nat) (out : List Wd), WordsMath.lineL (S ++ Z) i out = WordsMath.lineL Z (i + S.length) out := by
    intro S
    induction S with
    | nil => intro _ Z i out; rfl
    | cons c r ih =>
      intro hb Z i out
      rw [List.cons_append, WordsMath.lineL_blank (hb c List.mem_cons_self), ih (fun c hc => hb c (List.mem_cons_of_mem _ hc))]
      congr 1
      simp
      omega
  refine ⟨cur ++ (WordsMath.wordL (nameOf g z).data.toList q ++ S), _, ps', fun Y => ?_, fun Z => ?_, hp⟩
  · rw [List.append_assoc, h.cut, cut_app _ _ _ (fun hm => by
      rcases List.mem_append.1 hm with hm | hm
      · exact word_ten _ _ hm
      · exact hS10 hm)]
  · rw [List.append_assoc, h.line, List.append_assoc, WordsMath.lineL_word _ _ _ (hE Z), hBl S hb]
    congr 1
    simp
    omega

/-- A line that ends behind a word and what is no word. -/
theorem At.close {g : G} (hg : GoodG g) {T : List UInt8} {zs ps : List Int} {start : Nat} {st : TP} {cur : List UInt8} {us : List Wd} (h : At g T zs start st cur us ps) {z : Int} (ht : tokB g z = true) (hl : zs.length < 65536) (q : Bool) (S : List UInt8) (hS10 : (10 : UInt8) ∉ S) (hS : WordsMath.endsL S = true) (hb : ∀ i out, WordsMath.lineL S i out = .ok out) :
    ∃ start' st', st'.1 = zs ++ [z] ∧ At g (T ++ (WordsMath.wordL (nameOf g z).data.toList q ++ (S ++ [10]))) (zs ++ [z]) start' st' [] [] st'.2 := by
  obtain ⟨ps', hp⟩ := one_more hg h.toks ht hl (q || !WordsMath.plainW (nameOf g z).data.toList) cur.length
  have hline : lineZ g start (cur ++ (WordsMath.wordL (nameOf g z).data.toList q ++ S)) st = .ok (zs ++ [z], ps') := by
    rw [line_ok (ws := us ++ [⟨(nameOf g z).data.toList, q || !WordsMath.plainW (nameOf g z).data.toList, cur.length⟩]) (by rw [h.line, WordsMath.lineL_word _ _ _ hS, hb])]
    exact hp
  refine ⟨start + (cur ++ (WordsMath.wordL (nameOf g z).data.toList q ++ S)).length + 1, (zs ++ [z], ps'), rfl, fun Y => ?_, fun Z => rfl, rfl⟩
  have e : T ++ (WordsMath.wordL (nameOf g z).data.toList q ++ (S ++ [10])) ++ Y = T ++ ((WordsMath.wordL (nameOf g z).data.toList q ++ S) ++ (10 :: Y)) := by simp
  rw [e, h.cut, cut_app _ _ _ (fun hm => by
      rcases List.mem_append.1 hm with hm | hm
      · exact word_ten _ _ hm
      · exact hS10 hm), cut_ten, lines_ok hline]

theorem At.empty {g : G} {T : List UInt8} {zs : List Int} {start : Nat} {st : TP} (h : At g T zs start st [] [] st.2) (hz : st.1 = zs) : At g (T ++ [10]) zs (start + 0 + 1) st [] [] st.2 :=
  ⟨fun Y => by
    rw [List.append_assoc, h.cut, show ([10] ++ Y : List UInt8) = 10 :: Y from rfl, cut_ten, lines_ok (by rw [line_ok (ws := []) (WordsMath.lineL_nil 0 []), words_nil])]
    rfl, fun Z => rfl, by rw [words_nil, ← hz]⟩

theorem form_at {g : G} (hg : GoodG g) {zs : List Int} (ha : ∀ z ∈ zs, tokB g z = true) (hl : zs.length ≤ 65536) (f : Nat → Bool × Nat) : ∀ k, k ≤ zs.length → ∃ start st cur us ps, At g (formT g zs f k) (zs.take k) start st cur us ps
  | 0, _ => ⟨0, ([], []), [32], [], [], by have h := At.start g; rw [List.take_zero]; exact h⟩
  | k + 1, hk => by
    obtain ⟨start, st, cur, us, ps, h⟩ := form_at hg ha hl f k (by omega)
    have hz : zs[k]? = some (zs.getD k 0) := by rw [List.getD_eq_getElem?_getD, List.getElem?_eq_getElem (by omega)]; rfl
    have htk := ha _ (List.mem_of_getElem? hz)
    have hlk : (zs.take k).length < 65536 := by rw [List.length_take]; omega
    have e : zs.take (k + 1) = zs.take k ++ [zs.getD k 0] := by
      obtain ⟨hk', e⟩ := List.getElem?_eq_some_iff.1 hz
      rw [List.take_succ_eq_append_getElem hk', e]
    rw [e]
    show ∃ start st cur us ps, At g (formT g zs f k ++ (WordsMath.wordL (nameOf g (zs.getD k 0)).data.toList (f k).1 ++ sepL (f k).2)) _ start st cur us ps
    generalize zs.getD k 0 = z at *
    generalize zs.take k = pre at *
    unfold sepL
    split
    · obtain ⟨c', u', p', h'⟩ := h.blank hg htk hlk (f k).1 [32] (by decide) (by decide)
      exact ⟨_, _, _, _, _, h'⟩
    · split
      · obtain ⟨s', st', _, h'⟩ := h.close hg htk hlk (f k).1 [] (by decide) rfl (fun i out => WordsMath.lineL_nil i out)
        exact ⟨_, _, _, _, _, h'⟩
      · split
        · obtain ⟨s', st', e1, h'⟩ := h.close hg htk hlk (f k).1 comL (by decide) (by decide) (fun i out => by
            show WordsMath.lineL (32 :: 35 :: _) i out = .ok out
            rw [WordsMath.lineL_blank (by decide), WordsMath.lineL_comment (by decide)])
          have h2 := h'.empty e1
          refine ⟨s' + 0 + 1, st', [], [], st'.2, ?_⟩
          have e2 : formT g zs f k ++ (WordsMath.wordL (nameOf g z).data.toList (f k).1 ++ (comL ++ [10])) ++ [10] = formT g zs f k ++ (WordsMath.wordL (nameOf g z).data.toList (f k).1 ++ (comL ++ [10, 10])) := by simp
          rw [← e2]
          exact h2
        · obtain ⟨c', u', p', h'⟩ := h.blank hg htk hlk (f k).1 [9, 32, 32] (by decide) (by decide)
          exact ⟨_, _, _, _, _, h'⟩

/-- THE FORMS MAKE NO DIFFERENCE. -/
theorem forms {g : G} {zs : List Int} (hc : (checkG g).1 = 0) (hl : zs.length ≤ 65536) (ha : ∀ z ∈ zs, tokB g z = true) (f : Nat → Bool × Nat) (ht : (formT g zs f zs.length).length ≤ 1048576) : ∃ ps, readZ g (formT g zs f zs.length) = .ok (zs, ps) := by
  have hg := good_of hc
  obtain ⟨start, st, cur, us, ps, h⟩ := form_at hg ha hl f zs.length (Nat.le_refl _)
  rw [List.take_length] at h
  have h1 := h.cut []
  have h2 := h.line []
  rw [List.append_nil, WordsMath.lineL_nil] at h2
  rw [List.append_nil] at h1
  refine ⟨ps, read_ok hc ht ?_⟩
  rw [h1]
  by_cases he : cur = []
  · subst he
    rw [WordsMath.lineL_nil] at h2
    obtain rfl : [] = us := by simpa using h2
    have h3 := h.toks
    rw [words_nil] at h3
    show linesZ g (cutGo [] []) start st = _
    rw [cutGo_none, lines_nil]
    exact h3
  · have hcc : cutGo cur [] = [cur] := by unfold cutGo; rw [if_neg he]
    rw [hcc, lines_ok (st' := (zs, ps)) (by rw [line_ok h2]; exact h.toks), lines_nil]

theorem sep_len (c : Nat) : (sepL c).length ≤ 16 := by
  unfold sepL
  split
  · decide
  · split
    · decide
    · split <;> decide
theorem form_len {g : G} (hg : GoodG g) (zs : List Int) (f : Nat → Bool × Nat) : ∀ k, (formT g zs f k).length ≤ 1 + k * 146
  | 0 => by show ([32] : List UInt8).length ≤ 1 + 0 * 146; decide
  | k + 1 => by
    have h1 := form_len hg zs f k
    have h2 := sep_len (f k).2
    have h3 := wordL_len (nameOf g (zs.getD k 0)).data.toList (f k).1
    have h4 : (nameOf g (zs.getD k 0)).data.toList.length ≤ 32 := by have := name_small hg (zs.getD k 0); rwa [← WordsOne.list_size] at this
    show (formT g zs f k ++ (WordsMath.wordL (nameOf g (zs.getD k 0)).data.toList (f k).1 ++ sepL (f k).2)).length ≤ _
    rw [List.length_append, List.length_append, Nat.succ_mul]
    omega

end Go.Proofs.YtbnajikkogdelaaDoor.LineFm
