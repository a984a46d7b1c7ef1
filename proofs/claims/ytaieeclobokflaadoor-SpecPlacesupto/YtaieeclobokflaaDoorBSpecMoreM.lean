/-
  Texts that stand together: SpecMoreM.
-/
import Derived.Test.YtaieeclobokflaaDoorBagSpecPlM
namespace Go.Proofs.YtaieeclobokflaaDoor.SpecMo
open Go.Proofs.YtaieeclobokflaaDoor.GramMath Go.Proofs.YtaieeclobokflaaDoor.GramOne Go.Proofs.YtaieeclobokflaaDoor.LineRead Go.Proofs.YtaieeclobokflaaDoor.LineMath Go.Proofs.YtaieeclobokflaaDoor.SpecLn Go.Proofs.YtaieeclobokflaaDoor.SpecMd Go.Proofs.YtaieeclobokflaaDoor.SpecTx Go.Proofs.YtaieeclobokflaaDoor.SpecPl
set_option linter.unusedVariables false
set_option linter.unusedSimpArgs false

theorem total_cons (l : List UInt8) (ls : List (List UInt8)) : total (l :: ls) = l.length + 1 + total ls := rfl
theorem text_err : ∀ (ls : List (List UInt8)) (start : Nat) (all : List Sd) (p : Nat), textD ls start all = .error p →
    ∃ pre l rest, ls = pre ++ l :: rest ∧ start + total pre ≤ p ∧ p ≤ start + total pre + l.length ∧ ∀ rest', textD (pre ++ l :: rest') start all = .error p
  | [], start, all, p, h => by cases h
  | l :: ls, start, all, p, h => by
    unfold textD at h
    split at h
    · rename_i hb
      cases h
      refine ⟨[], l, ls, rfl, by show start + 0 ≤ _; omega, by show _ ≤ start + 0 + _; omega, fun rest' => ?_⟩
      show textD (l :: rest') start all = _
      unfold textD
      rw [if_pos hb]
    · rename_i hb
      cases hl : WordsMath.lineL l 0 [] with
      | error e =>
        rw [hl] at h
        cases h
        have := (WordsMath.lineL_err _ l 0 [] e (Nat.le_refl _) hl).2
        refine ⟨[], l, ls, rfl, by show start + 0 ≤ _; omega, by show _ ≤ start + 0 + _; omega, fun rest' => ?_⟩
        show textD (l :: rest') start all = _
        unfold textD
        rw [if_neg hb, hl]
      | ok ws =>
        rw [hl] at h
        simp only at h
        obtain ⟨more, e, hp, hw⟩ := WordsMath.lineL_ok _ l 0 [] ws (Nat.le_refl _) hl
        rw [List.nil_append] at e
        subst e
        obtain ⟨_, k2⟩ := line_rise (left := lastL all) (b := l.length) hp (fun w hw' => by have := (hw w hw').2; omega)
        cases hd : docLine ws (lastL all) l.length with
        | error e =>
          rw [hd] at h
          cases h
          have := k2 e hd
          refine ⟨[], l, ls, rfl, by show start + 0 ≤ _; omega, by show _ ≤ start + 0 + _; omega, fun rest' => ?_⟩
          show textD (l :: rest') start all = _
          unfold textD
          rw [if_neg hb, hl]
          simp only
          rw [hd]
        | ok o =>
          rw [hd] at h
          simp only at h
          obtain ⟨pre, x, rest, h1, h2, h3, h4⟩ := text_err ls _ _ p h
          refine ⟨l :: pre, x, rest, by rw [h1]; rfl, by unfold total; omega, by unfold total; omega, fun rest' => ?_⟩
          show textD (l :: (pre ++ x :: rest')) start all = _
          unfold textD
          rw [if_neg hb, hl]
          simp only
          rw [hd]
          exact h4 rest'

/-- A text cut at the ends of lines, taken as far as a line's end. -/
theorem split_take : ∀ (t cur : List UInt8) (pre : List (List UInt8)) (l : List UInt8) (rest : List (List UInt8)), splitGo cur t = pre ++ l :: rest →
    cur.length ≤ total pre + l.length ∧ total pre + l.length ≤ cur.length + t.length ∧ (total pre + l.length < cur.length + t.length → t[total pre + l.length - cur.length]? = some 10) ∧
    (∀ j, total pre ≤ j + cur.length → j + cur.length < total pre + l.length → t[j]? ≠ some 10) ∧
    ∀ more, splitGo cur (t.take (total pre + l.length - cur.length) ++ 10 :: more) = pre ++ l :: splitGo [] more
  | [], cur, pre, l, rest, h => by
    unfold splitGo at h
    cases pre with
    | nil =>
      simp at h
      obtain ⟨rfl, rfl⟩ := h
      simp [total, splitGo]
    | cons a b =>
      simp at h
  | c :: r, cur, pre, l, rest, h => by
    unfold splitGo at h
    by_cases hc : c = 10
    · rw [if_pos hc] at h
      cases pre with
      | nil =>
        rw [List.nil_append, List.cons.injEq] at h
        obtain ⟨rfl, h⟩ := h
        refine ⟨by simp [total], by simp [total], fun _ => by simp [total, hc], fun j h1 h2 => by simp [total] at h1 h2; omega, fun more => ?_⟩
        simp [total, splitGo]
      | cons a b =>
        rw [List.cons_append, List.cons.injEq] at h
        obtain ⟨rfl, h⟩ := h
        obtain ⟨h1, h2, h3, h4, h5⟩ := split_take r [] b l rest h
        simp only [List.length_nil, Nat.zero_add, Nat.add_zero, Nat.sub_zero] at h1 h2 h3 h4 h5
        have e : total (cur :: b) + l.length - cur.length = (total b + l.length) + 1 := by rw [total_cons]; omega
        refine ⟨by rw [total_cons]; omega, by rw [total_cons, List.length_cons]; omega, fun hh => ?_, fun j k1 k2 => ?_, fun more => ?_⟩
        · rw [e, List.getElem?_cons_succ]
          refine h3 ?_
          rw [total_cons, List.length_cons] at hh
          omega
        · rw [total_cons] at k1 k2
          cases j with
          | zero => omega
          | succ j =>
            rw [List.getElem?_cons_succ]
            exact h4 j (by omega) (by omega)
        · rw [e, List.take_succ_cons, List.cons_append]
          conv => lhs; unfold splitGo
          rw [if_pos hc, h5 more]
          rfl
    · rw [if_neg hc] at h
      obtain ⟨h1, h2, h3, h4, h5⟩ := split_take r (cur ++ [c]) pre l rest h
      rw [List.length_append, List.length_singleton] at h1 h2 h3 h4 h5
      have e : total pre + l.length - cur.length = (total pre + l.length - (cur.length + 1)) + 1 := by omega
      refine ⟨by omega, by simp; omega, fun hh => ?_, fun j k1 k2 => ?_, fun more => ?_⟩
      · rw [e, List.getElem?_cons_succ]
        refine h3 ?_
        simp at hh
        omega
      · cases j with
        | zero => simp [hc]
        | succ j =>
          rw [List.getElem?_cons_succ]
          exact h4 j (by omega) (by omega)
      · rw [e, List.take_succ_cons, List.cons_append]
        conv => lhs; unfold splitGo
        rw [if_neg hc, h5 more]

/-- WHAT STANDS BEHIND MAKES NO DIFFERENCE. -/
theorem more_same (t more : List UInt8) (p e : Nat) (h : sidesZ t = .error p) (hpe : p ≤ e) (he : e ≤ t.length) (hno : ∀ j, p ≤ j → j < e → t[j]? ≠ some 10) (hend : e = t.length ∨ t[e]? = some 10) (hne : ¬ (e = t.length ∧ p = e)) : sidesZ (t.take e ++ 10 :: more) = .error p := by
  unfold sidesZ at h ⊢
  rw [sides_two] at h ⊢
  cases hx : textD (splitGo [] t) 0 [] with
  | ok o =>
    rw [hx] at h
    simp only at h
    split at h
    · cases h
      exact absurd ⟨by omega, by omega⟩ hne
    · cases h
  | error q =>
    rw [hx] at h
    cases h
    obtain ⟨pre, l, rest, h1, h2, h3, h4⟩ := text_err _ 0 [] p hx
    obtain ⟨_, k2, k3, k4, k5⟩ := split_take t [] pre l rest h1
    simp only [List.length_nil, Nat.zero_add, Nat.add_zero, Nat.sub_zero] at k2 k3 k4 k5 h2 h3
    have hE : e = total pre + l.length := by
      rcases Nat.lt_trichotomy e (total pre + l.length) with hlt | heq | hgt
      · rcases hend with h5 | h5
        · omega
        · exact absurd h5 (k4 e (by omega) hlt)
      · exact heq
      · exact absurd (k3 (by omega)) (hno _ (by omega) hgt)
    rw [hE, k5 more, h4]

end Go.Proofs.YtaieeclobokflaaDoor.SpecMo
