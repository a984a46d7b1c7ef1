/-
  Texts that stand together: WordsMath3, LineBackM.
-/
import Derived.Test.YtbnajikkogdelaaDoorEagWordsMath2
import Derived.Test.YtbnajikkogdelaaDoorEagWordsRow
import Derived.Test.YtbnajikkogdelaaDoorEagLineReadsWalk
namespace Go.Proofs.YtbnajikkogdelaaDoor.WordsMath
open Go.Proofs.YtbnajikkogdelaaDoor.WordsBytes

theorem u8_ext {a b : UInt8} (h : a.toNat = b.toNat) : a = b := UInt8.toNat_inj.1 h

theorem hexN_hexB (n : Nat) (h : n < 16) : hexN (hexB n).toNat = some n := by
  have : ∀ n : Fin 16, hexN (hexB n.1).toNat = some n.1 := by decide
  exact this ⟨n, h⟩

/-- A quoted byte is read as itself. -/
theorem unqL_byte (c : UInt8) (X : List UInt8) (j : Nat) (acc : List UInt8) : unqL (quoteB c ++ X) j acc = unqL X (j + (quoteB c).length) (acc ++ [c]) := by
  unfold quoteB
  by_cases h1 : c.toNat = 34 ∨ c.toNat = 92
  · rw [if_pos h1]
    have hp : pieceL 92 (c :: X) = some (c, 1) := by
      unfold pieceL escL
      rw [if_pos (show (92 : UInt8).toNat = 92 by decide)]
      simp [h1]
    show unqL (92 :: c :: X) j acc = _
    rw [unqL_some (by decide) hp]
    rfl
  · rw [if_neg h1]
    by_cases h2 : c.toNat = 10
    · rw [if_pos h2]
      obtain rfl : c = 10 := u8_ext h2
      have hp : pieceL 92 (110 :: X) = some (10, 1) := rfl
      show unqL (92 :: 110 :: X) j acc = _
      rw [unqL_some (by decide) hp]
      rfl
    · rw [if_neg h2]
      by_cases h3 : c.toNat < 32 ∨ 127 ≤ c.toNat
      · rw [if_pos h3]
        have hlt := c.toNat_lt
        have hv : UInt8.ofNat (16 * (c.toNat / 16) + c.toNat % 16) = c := by
          apply u8_ext
          rw [UInt8.toNat_ofNat']
          omega
        have hs : sixL (hexB (c.toNat / 16) :: hexB (c.toNat % 16) :: X) = some c := by
          unfold sixL
          dsimp only
          rw [hexN_hexB _ (by omega), hexN_hexB _ (by omega)]
          dsimp only
          rw [hv]
        have hp : pieceL 92 (120 :: hexB (c.toNat / 16) :: hexB (c.toNat % 16) :: X) = some (c, 3) := by
          unfold pieceL
          rw [if_pos (show (92 : UInt8).toNat = 92 by decide)]
          unfold escL
          dsimp only
          rw [if_neg (by decide), if_neg (by decide), if_pos (by decide), hs]
          rfl
        show unqL (92 :: 120 :: hexB (c.toNat / 16) :: hexB (c.toNat % 16) :: X) j acc = _
        rw [unqL_some (by decide) hp]
        rfl
      · rw [if_neg h3]
        have hp : pieceL c X = some (c, 0) := by
          unfold pieceL
          rw [if_neg (by omega), if_neg h2]
        show unqL (c :: X) j acc = _
        rw [unqL_some (by omega) hp]
        rfl

theorem unqL_quoted (X : List UInt8) : ∀ (t : List UInt8) (j : Nat) (acc : List UInt8), unqL (t.flatMap quoteB ++ 34 :: X) j acc = .ok (acc ++ t, j + (t.flatMap quoteB).length + 1)
  | [], j, acc => by
    rw [List.flatMap_nil, List.nil_append, unqL_end (by decide)]
    simp
  | c :: r, j, acc => by
    rw [List.flatMap_cons, List.append_assoc, unqL_byte, unqL_quoted X r, List.length_append]
    simp only [List.append_assoc, List.cons_append, List.nil_append]
    rw [Nat.add_assoc j]

theorem plainLen_all (X : List UInt8) (hX : endsL X = true) : ∀ r : List UInt8, allPlain r = true → plainLen (r ++ X) = r.length
  | [], _ => by
    rw [List.nil_append]
    cases X with
    | nil => rfl
    | cons c t =>
      have hb : blankN c.toNat = true := hX
      have hp : plainN c.toNat = false := by
        cases hp : plainN c.toNat with
        | false => rfl
        | true => rw [(plain_not hp).1] at hb; cases hb
      simp [plainLen, hp]
  | c :: r, h => by
    rw [allPlain_cons, Bool.and_eq_true] at h
    rw [List.cons_append]
    unfold plainLen
    rw [if_pos h.1, plainLen_all X hX r h.2]
    rfl

/-- A word that was written is read as it was. -/
theorem lineL_word (t : List UInt8) (q : Bool) (X : List UInt8) (hX : endsL X = true) (i : Nat) (out : List W) :
    lineL (wordL t q ++ X) i out = lineL X (i + (wordL t q).length) (out ++ [⟨t, q || !plainW t, i⟩]) := by
  unfold wordL
  by_cases hq : (q || !plainW t) = true
  · rw [if_pos hq, hq]
    unfold quoteL
    rw [List.cons_append, List.append_assoc]
    have hu : unqL (t.flatMap quoteB ++ ([34] ++ X)) (i + 1) [] = .ok (t, i + 1 + (t.flatMap quoteB).length + 1) := by
      have := unqL_quoted X t (i + 1) []
      simpa using this
    have hdrop : (t.flatMap quoteB ++ ([34] ++ X)).drop (i + 1 + (t.flatMap quoteB).length + 1 - (i + 1)) = X := by
      rw [show i + 1 + (t.flatMap quoteB).length + 1 - (i + 1) = (t.flatMap quoteB ++ [34]).length by simp; omega, ← List.append_assoc]
      exact List.drop_left
    have hE : unqE (t.flatMap quoteB ++ ([34] ++ X)) (i + 1) = .ok (t, i + 1 + (t.flatMap quoteB).length + 1) := by
      unfold unqE
      rw [hu]
      dsimp only
      rw [hdrop, if_pos hX]
    rw [lineL_quoted (by decide) hE, hdrop]
    congr 1
    simp
    omega
  · have hq' : (q || !plainW t) = false := by simpa using hq
    rw [if_neg hq, hq']
    have hp : plainW t = true := by
      cases hp : plainW t with
      | true => rfl
      | false => rw [hp] at hq'; simp at hq'
    unfold plainW at hp
    rw [Bool.and_eq_true] at hp
    cases t with
    | nil => exact absurd hp.2 (by decide)
    | cons c r =>
      rw [allPlain_cons, Bool.and_eq_true] at hp
      have h35 : c.toNat ≠ 35 := by have := hp.2; simpa [headOk] using this
      have hl := plainLen_all X hX r hp.1.2
      have hd : (r ++ X).drop (plainLen (r ++ X)) = X := by rw [hl]; exact List.drop_left
      rw [List.cons_append, lineL_plain hp.1.1 h35 (by rw [hd]; exact hX), hd, hl, List.take_left]
      congr 1
      simp
      omega

def nq (x : W) : List UInt8 × Bool := (x.text, x.quoted || !plainW x.text)

theorem lineL_rest : ∀ (xs : List W) (i : Nat) (out : List W), ∃ us, lineL ((xs.map pr).flatMap (fun x => 32 :: wordL x.1 x.2)) i out = .ok (out ++ us) ∧ us.map pr = xs.map nq
  | [], i, out => ⟨[], by rw [List.map_nil, List.flatMap_nil, lineL_nil]; simp, rfl⟩
  | x :: r, i, out => by
    have hX : endsL ((r.map pr).flatMap (fun x => 32 :: wordL x.1 x.2)) = true := by
      cases r with
      | nil => rfl
      | cons y s => rfl
    obtain ⟨us, h1, h2⟩ := lineL_rest r (i + 1 + (wordL x.text x.quoted).length) (out ++ [⟨x.text, x.quoted || !plainW x.text, i + 1⟩])
    refine ⟨⟨x.text, x.quoted || !plainW x.text, i + 1⟩ :: us, ?_, by simp [h2, pr, nq]⟩
    rw [List.map_cons, List.flatMap_cons, List.cons_append, lineL_blank (by decide)]
    show lineL (wordL x.text x.quoted ++ _) (i + 1) out = _
    rw [lineL_word _ _ _ hX, h1]
    simp

/-- What is written is read again. -/
theorem lineL_back (ws : List W) : ∃ us, lineL (allW ws) 0 [] = .ok us ∧ us.map pr = ws.map nq := by
  cases ws with
  | nil => exact ⟨[], by show lineL [] 0 [] = _; rw [lineL_nil], rfl⟩
  | cons x r =>
    have hX : endsL ((r.map pr).flatMap (fun x => 32 :: wordL x.1 x.2)) = true := by
      cases r with
      | nil => rfl
      | cons y s => rfl
    obtain ⟨us, h1, h2⟩ := lineL_rest r (0 + (wordL x.text x.quoted).length) ([] ++ [⟨x.text, x.quoted || !plainW x.text, 0⟩])
    refine ⟨⟨x.text, x.quoted || !plainW x.text, 0⟩ :: us, ?_, by simp [h2, pr, nq]⟩
    show lineL (wordL x.text x.quoted ++ _) 0 [] = _
    rw [lineL_word _ _ _ hX, h1]
    simp

end Go.Proofs.YtbnajikkogdelaaDoor.WordsMath

namespace Go.Proofs.YtbnajikkogdelaaDoor.LineBk
open Go.RowKit Go.Proofs.YtbnajikkogdelaaDoor.GramMath Go.Proofs.YtbnajikkogdelaaDoor.GramRow Go.Proofs.YtbnajikkogdelaaDoor.GramOne Go.Proofs.YtbnajikkogdelaaDoor.LineMath Go.Proofs.YtbnajikkogdelaaDoor.LineRead Go.Proofs.YtbnajikkogdelaaDoor.LineReadsW Go.Proofs.YtbnajikkogdelaaDoor.WordsCutM Go.Proofs.YtbnajikkogdelaaDoor.WordsBytes
set_option linter.unusedVariables false
set_option linter.unusedSimpArgs false

theorem name_num {g : G} (hg : GoodG g) {z : Int} (h : tokB g z = true) (q : Bool) (pl : Nat) : num g ⟨(nameOf g z).data.toList, q, pl⟩ = z := by
  obtain ⟨x, hx, e⟩ := name_get h
  have hz : 0 ≤ z := by unfold tokB at h; simp at h; exact h.1
  unfold num
  show idx g.ts ⟨(nameOf g z).data.toList.toArray⟩ = z
  rw [WordsLists_mk, e, idx_hit hx (fun j hj hjx => good_fresh hg hx (by
    rw [List.mem_iff_getElem?]
    exact ⟨j, by rw [List.getElem?_take_of_lt hj]; exact hjx⟩)), Int.toNat_of_nonneg hz]

/-- Words whose texts are names are taken as their tokens. -/
theorem words_names {g : G} (hg : GoodG g) (start : Nat) : ∀ (us : List Wd) (zs : List Int) (st : TP), us.map (fun u => u.text) = zs.map (fun z => (nameOf g z).data.toList) → (∀ z ∈ zs, tokB g z = true) → st.1.length + zs.length ≤ 65536 → ∃ ps, wordsZ g start us st = .ok (st.1 ++ zs, st.2 ++ ps)
  | [], [], st, _, _, _ => ⟨[], by rw [words_nil]; simp⟩
  | [], z :: zs, st, h, _, _ => by simp at h
  | u :: us, [], st, h, _, _ => by simp at h
  | u :: us, z :: zs, st, h, ha, hl => by
    simp only [List.map_cons, List.cons.injEq] at h
    have hn : num g u = z := by
      obtain ⟨t, q, pl⟩ := u
      have ht : t = (nameOf g z).data.toList := h.1
      subst ht
      exact name_num hg (ha z List.mem_cons_self) q pl
    have hz : 0 ≤ z := by have := ha z List.mem_cons_self; unfold tokB at this; simp at this; exact this.1
    simp only [List.length_cons] at hl
    obtain ⟨ps, e⟩ := words_names hg start us zs (st.1 ++ [num g u], st.2 ++ [((start + u.place : Nat) : Int)]) h.2 (fun y hy => ha y (List.mem_cons_of_mem _ hy)) (by simp; omega)
    refine ⟨((start + u.place : Nat) : Int) :: ps, ?_⟩
    rw [words_ok (take_ok (by omega) (by omega)), e, hn]
    simp

theorem hex_ten : ∀ n, n < 16 → WordsMath.hexB n ≠ 10 := by decide
theorem quote_ten (c : UInt8) : (10 : UInt8) ∉ WordsMath.quoteB c := by
  have hb : c.toNat < 256 := c.toNat_lt
  unfold WordsMath.quoteB
  split
  · rename_i h
    intro hm
    simp only [List.mem_cons, List.not_mem_nil, or_false] at hm
    rcases hm with hm | hm
    · revert hm; decide
    · rw [← hm] at h; revert h; decide
  · split
    · intro hm
      revert hm
      decide
    · split
      · intro hm
        simp only [List.mem_cons, List.not_mem_nil, or_false] at hm
        rcases hm with hm | hm | hm | hm
        · revert hm; decide
        · revert hm; decide
        · exact hex_ten _ (by omega) hm.symm
        · exact hex_ten _ (by omega) hm.symm
      · rename_i h1 h2
        intro hm
        simp only [List.mem_cons, List.not_mem_nil, or_false] at hm
        rw [← hm] at h1
        exact h1 (by decide)
theorem plain_ten {c : UInt8} (h : WordsMath.plainN c.toNat = true) : c ≠ 10 := by
  rintro rfl
  revert h
  decide
theorem word_ten (t : List UInt8) (q : Bool) : (10 : UInt8) ∉ WordsMath.wordL t q := by
  unfold WordsMath.wordL
  split
  · unfold WordsMath.quoteL
    intro h
    rcases List.mem_cons.1 h with h | h
    · revert h; decide
    · rcases List.mem_append.1 h with h | h
      · obtain ⟨c, _, hc⟩ := List.mem_flatMap.1 h
        exact quote_ten c hc
      · revert h; decide
  · rename_i hq
    intro h
    have hp : WordsMath.plainW t = true := by
      cases hp : WordsMath.plainW t with
      | true => rfl
      | false => rw [hp] at hq; simp at hq
    unfold WordsMath.plainW WordsMath.allPlain at hp
    rw [Bool.and_eq_true] at hp
    exact plain_ten (List.all_eq_true.1 hp.1 10 h) rfl
theorem all_ten (ws : List Wd) : (10 : UInt8) ∉ allW ws := by
  cases ws with
  | nil => intro h; cases h
  | cons x r =>
    intro h
    have h' : (10 : UInt8) ∈ WordsMath.wordL x.text x.quoted ++ (r.map pr).flatMap (fun x => 32 :: WordsMath.wordL x.1 x.2) := h
    rcases List.mem_append.1 h' with h | h
    · exact word_ten _ _ h
    · obtain ⟨y, _, hy⟩ := List.mem_flatMap.1 h
      rcases List.mem_cons.1 hy with h | h
      · revert h; decide
      · exact word_ten _ _ h
theorem cut_one : ∀ (s cur : List UInt8), (10 : UInt8) ∉ s → cutGo cur s = if cur ++ s = [] then [] else [cur ++ s]
  | [], cur, _ => by unfold cutGo; simp
  | c :: r, cur, h => by
    have hc : c ≠ 10 := fun e => h (by rw [e]; exact List.mem_cons_self)
    unfold cutGo
    rw [if_neg hc, cut_one r (cur ++ [c]) (fun hm => h (List.mem_cons_of_mem _ hm))]
    simp

/-- THERE AND BACK. -/
theorem back {g : G} {zs : List Int} (hc : (checkG g).1 = 0) (hl : zs.length ≤ 65536) (ha : ∀ z ∈ zs, tokB g z = true) (ht : (textL g zs).length ≤ 1048576) : ∃ ps, readZ g (textL g zs) = .ok (zs, ps) := by
  have hg := good_of hc
  obtain ⟨us, h1, h2⟩ := WordsMath.lineL_back (zs.map (wOf g))
  have h3 : us.map (fun u => u.text) = zs.map (fun z => (nameOf g z).data.toList) := by
    have := congrArg (List.map Prod.fst) h2
    simp only [List.map_map] at this
    exact this
  obtain ⟨ps, e⟩ := words_names hg 0 us zs ([], []) h3 ha (by simpa using hl)
  have e2 : lineZ g 0 (textL g zs) ([], []) = .ok (zs, ps) := by
    have h1' : WordsMath.lineL (textL g zs) 0 [] = .ok us := h1
    rw [line_ok h1', e]
    simp
  refine ⟨ps, read_ok hc ht ?_⟩
  have h10 : (10 : UInt8) ∉ textL g zs := all_ten _
  rw [cut_one _ _ h10]
  by_cases he : textL g zs = []
  · rw [List.nil_append, if_pos he, lines_nil]
    rw [he] at e2
    rw [line_ok (ws := []) (WordsMath.lineL_nil 0 []), words_nil] at e2
    exact e2
  · rw [List.nil_append, if_neg he, lines_ok e2, lines_nil]

theorem take_tok {g : G} {start : Nat} {st st' : TP} {x : Wd} (h : takeZ g start st x = .ok st') (ha : ∀ z ∈ st.1, tokB g z = true) : ∀ z ∈ st'.1, tokB g z = true := by
  unfold takeZ at h
  split at h
  · cases h
  · split at h
    · cases h
    · rename_i h1 h2
      cases h
      intro z hz
      rcases List.mem_append.1 hz with hz | hz
      · exact ha z hz
      · rw [List.mem_singleton.1 hz]
        unfold num at h2 ⊢
        rcases idx_cases g.ts ⟨x.text.toArray⟩ with ⟨e, _⟩ | ⟨k, e, hk, _, _⟩
        · omega
        · rw [e]
          have := (List.getElem?_eq_some_iff.1 hk).1
          unfold tokB
          simp
          omega
theorem words_tok {g : G} {start : Nat} : ∀ (ws : List Wd) (st st' : TP), wordsZ g start ws st = .ok st' → (∀ z ∈ st.1, tokB g z = true) ∧ st.1.length ≤ 65536 ∧ st.2.length = st.1.length → (∀ z ∈ st'.1, tokB g z = true) ∧ st'.1.length ≤ 65536 ∧ st'.2.length = st'.1.length
  | [], st, st', h, ha => by cases h; exact ha
  | x :: ws, st, st', h, ha => by
    cases hz : takeZ g start st x with
    | error q => rw [words_bad hz] at h; cases h
    | ok st2 =>
      rw [words_ok hz] at h
      obtain ⟨l1, l2⟩ := take_len hz ha.2.1 ha.2.2
      exact words_tok ws st2 st' h ⟨take_tok hz ha.1, l1, l2⟩
theorem lines_tok {g : G} : ∀ (ls : List (List UInt8)) (start : Nat) (st st' : TP), linesZ g ls start st = .ok st' → (∀ z ∈ st.1, tokB g z = true) ∧ st.1.length ≤ 65536 ∧ st.2.length = st.1.length → (∀ z ∈ st'.1, tokB g z = true) ∧ st'.1.length ≤ 65536 ∧ st'.2.length = st'.1.length
  | [], start, st, st', h, ha => by cases h; exact ha
  | l :: ls, start, st, st', h, ha => by
    cases hz : lineZ g start l st with
    | error q => obtain ⟨a, b⟩ := q; rw [lines_bad hz] at h; cases h
    | ok st2 =>
      rw [lines_ok hz] at h
      cases hl : WordsMath.lineL l 0 [] with
      | error q => rw [line_bad hl] at hz; cases hz
      | ok ws =>
        rw [line_ok hl] at hz
        exact lines_tok ls _ st2 st' h (words_tok ws st st2 hz ha)
theorem read_tok {g : G} {t : List UInt8} {st : TP} (h : readZ g t = .ok st) : (checkG g).1 = 0 ∧ (∀ z ∈ st.1, tokB g z = true) ∧ st.1.length ≤ 65536 := by
  unfold readZ at h
  by_cases hc : (checkG g).1 = 0
  · rw [if_neg (by rw [hc]; decide)] at h
    split at h
    · cases h
    · cases hz : linesZ g (cutGo [] t) 0 ([], []) with
      | error q => obtain ⟨a, b⟩ := q; rw [hz] at h; cases h
      | ok st2 =>
        rw [hz] at h
        cases h
        obtain ⟨h1, h2, _⟩ := lines_tok _ _ _ _ hz ⟨fun z hz => (by cases hz), by simp, rfl⟩
        exact ⟨hc, h1, h2⟩
  · rw [if_pos hc] at h
    cases h

end Go.Proofs.YtbnajikkogdelaaDoor.LineBk
