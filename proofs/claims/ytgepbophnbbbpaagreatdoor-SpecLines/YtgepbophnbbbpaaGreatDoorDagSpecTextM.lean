/-
  Texts that stand together: SpecTextM, SpecNumM, SpecPlM, OrdersZ, SpecMem.
-/
import Derived.Test.YtgepbophnbbbpaaGreatDoorDagLineMath
import Derived.Deep.RegionHeld3
import Derived.WalkKit
import Derived.Test.YtgepbophnbbbpaaGreatDoorDGramBuild4
import Derived.Test.YtgepbophnbbbpaaGreatDoorDWordsLine
import Derived.Test.YtgepbophnbbbpaaGreatDoorDGramErrs
namespace Go.Proofs.YtgepbophnbbbpaaGreatDoor.SpecTx
open Go.Proofs.YtgepbophnbbbpaaGreatDoor.GramMath Go.Proofs.YtgepbophnbbbpaaGreatDoor.GramOne Go.Proofs.YtgepbophnbbbpaaGreatDoor.LineRead Go.Proofs.YtgepbophnbbbpaaGreatDoor.LineMath Go.Proofs.YtgepbophnbbbpaaGreatDoor.SpecLn Go.Proofs.YtgepbophnbbbpaaGreatDoor.SpecMd
set_option linter.unusedVariables false
set_option linter.unusedSimpArgs false

/-- The words of a line are no ends: one that is not quoted has letters. -/
theorem line_words : ∀ (n : Nat) (l : List UInt8) (i : Nat) (out ws : List Wd), l.length ≤ n → WordsMath.lineL l i out = .ok ws → (∀ w ∈ out, isEnd w = false) → ∀ w ∈ ws, isEnd w = false := by
  intro n
  induction n with
  | zero =>
    intro l i out ws hn h ho
    cases l with
    | nil => rw [WordsMath.lineL] at h; cases h; exact ho
    | cons c r => simp at hn
  | succ n ih =>
    intro l i out ws hn h ho
    cases l with
    | nil => rw [WordsMath.lineL] at h; cases h; exact ho
    | cons c r =>
      simp at hn
      rw [WordsMath.lineL] at h
      split at h
      · exact ih r (i + 1) out ws hn h ho
      · split at h
        · cases h; exact ho
        · split at h
          · cases hu : WordsMath.unqE r (i + 1) with
            | error p => rw [hu] at h; cases h
            | ok te =>
              rw [hu] at h
              refine ih _ _ _ ws (by rw [List.length_drop]; omega) h ?_
              intro w hw
              rcases List.mem_append.1 hw with hw | hw
              · exact ho w hw
              · simp at hw
                rw [hw]
                rfl
          · split at h
            · split at h
              · refine ih _ _ _ ws (by rw [List.length_drop]; omega) h ?_
                intro w hw
                rcases List.mem_append.1 hw with hw | hw
                · exact ho w hw
                · simp at hw
                  rw [hw]
                  rfl
              · cases h
            · cases h

/-- A text cut at each end of a line: one piece more than there are ends. -/
def splitGo : List UInt8 → List UInt8 → List (List UInt8)
  | cur, [] => [cur]
  | cur, c :: r => if c = 10 then cur :: splitGo [] r else splitGo (cur ++ [c]) r
/-- The word that stands for a line's end. -/
def endW (l : List UInt8) : Wd := ⟨[], false, l.length⟩

def textP : List (List UInt8) → Nat → List UInt8 → List Sd → Except Nat (List Sd)
  | [], start, left, all => .ok all
  | l :: ls, start, left, all =>
    if 1048576 < l.length then .error (start + 1048576)
    else match WordsMath.lineL l 0 [] with
      | .error p => .error (start + p)
      | .ok ws => match run start (ws ++ [endW l]) ⟨.beg, left, all⟩ with
        | .error p => .error (start + p)
        | .ok q => textP ls (start + l.length + 1) q.left q.rs
def lastL (all : List Sd) : List UInt8 := match all.getLast? with | none => [] | some s => s.left
def textD : List (List UInt8) → Nat → List Sd → Except Nat (List Sd)
  | [], start, all => .ok all
  | l :: ls, start, all =>
    if 1048576 < l.length then .error (start + 1048576)
    else match WordsMath.lineL l 0 [] with
      | .error p => .error (start + p)
      | .ok ws => match docLine ws (lastL all) l.length with
        | .error p => .error (start + p)
        | .ok o => textD ls (start + l.length + 1) (all ++ o.1.map (shift start))
/-- The alternatives of a text; or the place that is wrong. -/
def sidesZ (t : List UInt8) : Except Nat (List Sd) :=
  match textP (splitGo [] t) 0 [] [] with
  | .error p => .error p
  | .ok all => if all = [] then .error t.length else .ok all

theorem push_last (start : Nat) (out : List Sd) (w : Wd) : lastL (push start out w) = lastL out := by
  unfold lastL push
  cases h : out.getLast? with
  | none => simp only [h]
  | some s => simp
theorem go_last (left : List UInt8) : ∀ (ws : List Wd) (out o : List Sd), docGo left ws out = .ok o → out ≠ [] → lastL out = left → o ≠ [] ∧ lastL o = left
  | [], out, o, h, hn, hl => by cases h; exact ⟨hn, hl⟩
  | w :: r, out, o, h, hn, hl => by
    unfold docGo at h
    split at h
    · exact go_last left r _ o h (by simp) (by unfold lastL; simp)
    · split at h
      · exact go_last left r _ o h (push_ne 0 out w hn) (by rw [push_last]; exact hl)
      · cases h
theorem name_ne {w : Wd} (h : nameB w = true) : w.text ≠ [] := by
  unfold nameB lenB at h
  simp at h
  intro e
  have := h.2.2.1
  rw [e] at this
  exact absurd this (by simp)
theorem line_last {ws : List Wd} {left : List UInt8} {stop : Nat} {o : List Sd × List UInt8} (h : docLine ws left stop = .ok o) : (o.1 = [] ∧ o.2 = left) ∨ (o.1 ≠ [] ∧ lastL o.1 = o.2 ∧ o.2 ≠ []) := by
  cases ws with
  | nil => cases h; exact .inl ⟨rfl, rfl⟩
  | cons w r =>
    refine .inr ?_
    unfold docLine at h
    by_cases hm : mk w 124 = true
    · simp only [hm, if_true] at h
      by_cases hz : left = []
      · rw [if_pos hz] at h; cases h
      · rw [if_neg hz] at h
        cases hg : docGo left (w :: r) [] with
        | error e => rw [hg] at h; cases h
        | ok x =>
          rw [hg] at h
          cases h
          unfold docGo at hg
          simp only [hm, if_true] at hg
          obtain ⟨h1, h2⟩ := go_last left r _ x hg (by simp) (by unfold lastL; simp)
          exact ⟨h1, h2, hz⟩
    · simp only [hm, Bool.false_eq_true, if_false] at h
      by_cases hn : (nameB w && !w.quoted) = true
      · simp only [hn, if_true] at h
        have hne := name_ne (w := w) (by simp at hn; exact hn.1)
        cases r with
        | nil => cases h
        | cons c r' =>
          simp only at h
          by_cases hc : mk c 58 = true
          · simp only [hc, if_true] at h
            cases hg : docGo w.text r' [⟨w.text, [], c.place + 1⟩] with
            | error e => rw [hg] at h; cases h
            | ok x =>
              rw [hg] at h
              cases h
              obtain ⟨h1, h2⟩ := go_last w.text r' _ x hg (by simp) (by unfold lastL; simp)
              exact ⟨h1, h2, hne⟩
          · simp only [hc, Bool.false_eq_true, if_false] at h
            cases h
      · simp only [hn, Bool.false_eq_true, if_false] at h
        cases h
theorem last_app {all out : List Sd} (start : Nat) (h : out ≠ []) : lastL (all ++ out.map (shift start)) = lastL out := by
  obtain ⟨l, s, rfl⟩ : ∃ l s, out = l ++ [s] := ⟨out.dropLast, out.getLast h, (List.dropLast_concat_getLast h).symm⟩
  unfold lastL
  rw [List.map_append, List.map_cons, List.map_nil, ← List.append_assoc, List.getLast?_append, List.getLast?_append]
  simp [shift]

/-- THE STATES READ A TEXT AS THE DOCUMENT DOES. -/
theorem text_two : ∀ (ls : List (List UInt8)) (start : Nat) (left : List UInt8) (all : List Sd), (all = [] ↔ left = []) → lastL all = left → textP ls start left all = textD ls start all
  | [], _, _, _, _, _ => rfl
  | l :: ls, start, left, all, ha, hl => by
    unfold textP textD
    split
    · rfl
    · cases hw : WordsMath.lineL l 0 [] with
      | error p => rfl
      | ok ws =>
        simp only
        rw [run_line start left all (endW l) rfl ws (line_words _ l 0 [] ws (Nat.le_refl _) hw (by simp)) ha, hl]
        rw [show (endW l).place = l.length from rfl]
        cases hd : docLine ws left l.length with
        | error p => rfl
        | ok o =>
          simp only [Except.map]
          refine text_two ls _ o.2 _ ?_ ?_
          · rcases line_last hd with ⟨h1, h2⟩ | ⟨h1, h2, h3⟩
            · rw [h1, h2]
              simpa using ha
            · simp [h1, h3]
          · rcases line_last hd with ⟨h1, h2⟩ | ⟨h1, h2, h3⟩
            · rw [h1, h2]
              simpa using hl
            · rw [last_app start h1]
              exact h2
theorem sides_two (t : List UInt8) : textP (splitGo [] t) 0 [] [] = textD (splitGo [] t) 0 [] := text_two _ 0 [] [] (by simp) rfl

/-- What a text comes to: an error's place; what Check says of the grammar; or the grammar and the places. -/
inductive Sz where
  | syn (p : Nat) | chk (k : Nat × Option Nat) | ok (g : G) (ps : List Nat)
def specZ (t : List UInt8) : Sz :=
  match sidesZ t with
  | .error p => .syn p
  | .ok all => if (checkG (madeZ all)).1 = 0 then .ok (madeZ all) (all.map Sd.at_) else .chk (checkG (madeZ all))
end Go.Proofs.YtgepbophnbbbpaaGreatDoor.SpecTx

namespace Go.Proofs.YtgepbophnbbbpaaGreatDoor.SpecNm
open Go.Proofs.YtgepbophnbbbpaaGreatDoor.GramMath Go.Proofs.YtgepbophnbbbpaaGreatDoor.GramOne Go.Proofs.YtgepbophnbbbpaaGreatDoor.LineRead Go.Proofs.YtgepbophnbbbpaaGreatDoor.LineMath Go.Proofs.YtgepbophnbbbpaaGreatDoor.SpecLn Go.Proofs.YtgepbophnbbbpaaGreatDoor.SpecMd Go.Proofs.YtgepbophnbbbpaaGreatDoor.SpecTx
set_option linter.unusedVariables false
set_option linter.unusedSimpArgs false

/-! What the document asks of a right side's symbols, and of rules, one after another. -/
/-- The terminals after a right side, if they come in order. -/
def termsGo : List Int → Nat → Option Nat
  | [], t => some t
  | x :: r, t => if (t : Int) < x then none else termsGo r (if x = (t : Int) then t + 1 else t)
/-- Nonterminals and terminals after rules, if they come in order. -/
def rulesGo : List R → Nat → Nat → Option (Nat × Nat)
  | [], n, t => some (n, t)
  | r :: l, n, t => if (n : Int) < r.left then none else match termsGo r.right t with
    | none => none
    | some t' => rulesGo l (if r.left = (n : Int) then n + 1 else n) t'
end Go.Proofs.YtgepbophnbbbpaaGreatDoor.SpecNm

namespace Go.Proofs.YtgepbophnbbbpaaGreatDoor.SpecPl
open Go.Proofs.YtgepbophnbbbpaaGreatDoor.GramMath Go.Proofs.YtgepbophnbbbpaaGreatDoor.GramOne Go.Proofs.YtgepbophnbbbpaaGreatDoor.LineRead Go.Proofs.YtgepbophnbbbpaaGreatDoor.LineMath Go.Proofs.YtgepbophnbbbpaaGreatDoor.SpecLn Go.Proofs.YtgepbophnbbbpaaGreatDoor.SpecMd Go.Proofs.YtgepbophnbbbpaaGreatDoor.SpecTx
set_option linter.unusedVariables false
set_option linter.unusedSimpArgs false

/-- Places that rise, none past m. -/
def Rise (out : List Sd) (m : Nat) : Prop := out.Pairwise (fun a b => a.at_ < b.at_) ∧ ∀ s ∈ out, s.at_ ≤ m
theorem Rise.mono {out : List Sd} {m n : Nat} (h : Rise out m) (hn : m ≤ n) : Rise out n := ⟨h.1, fun s hs => Nat.le_trans (h.2 s hs) hn⟩
theorem Rise.snoc {out : List Sd} {m : Nat} (h : Rise out m) (s : Sd) (hs : m < s.at_) : Rise (out ++ [s]) s.at_ := by
  refine ⟨List.pairwise_append.2 ⟨h.1, List.pairwise_singleton _ _, fun a ha b hb => ?_⟩, fun a ha => ?_⟩
  · simp at hb
    rw [hb]
    exact Nat.lt_of_le_of_lt (h.2 a ha) hs
  · rcases List.mem_append.1 ha with ha | ha
    · exact Nat.le_trans (h.2 a ha) (Nat.le_of_lt hs)
    · simp at ha
      rw [ha]
      exact Nat.le_refl _
theorem Rise.push {out : List Sd} {m : Nat} (h : Rise out m) (w : Wd) (hw : m ≤ w.place) : Rise (push 0 out w) w.place := by
  unfold SpecLn.push
  cases hg : out.getLast? with
  | none => exact h.mono hw
  | some s =>
    have hne : out ≠ [] := by intro e; rw [e] at hg; cases hg
    obtain ⟨l, rfl⟩ : ∃ l, out = l ++ [s] := by
      obtain ⟨l, x, rfl⟩ : ∃ l x, out = l ++ [x] := ⟨out.dropLast, out.getLast hne, (List.dropLast_concat_getLast hne).symm⟩
      rw [List.getLast?_append] at hg
      simp at hg
      exact ⟨l, by rw [hg]⟩
    rw [List.dropLast_concat]
    obtain ⟨h1, h2⟩ := h
    rw [List.pairwise_append] at h1
    have hsm := h2 s (by simp)
    refine ⟨List.pairwise_append.2 ⟨h1.1, List.pairwise_singleton _ _, fun a ha b hb => ?_⟩, fun a ha => ?_⟩
    · simp at hb
      have := h1.2.2 a ha s (by simp)
      rw [hb]
      simp only
      split <;> omega
    · rcases List.mem_append.1 ha with ha | ha
      · exact Nat.le_trans (h2 a (List.mem_append.2 (.inl ha))) hw
      · simp at ha
        rw [ha]
        simp only
        split <;> omega
theorem go_rise (left : List UInt8) (b : Nat) : ∀ (ws : List Wd) (out o : List Sd) (m : Nat), ws.Pairwise (fun a b => a.place < b.place) → (∀ w ∈ ws, m ≤ w.place ∧ w.place < b) → m ≤ b → Rise out m → docGo left ws out = .ok o → Rise o b
  | [], out, o, m, _, _, hm, h, e => by cases e; exact h.mono hm
  | w :: r, out, o, m, hp, hw, hm, h, e => by
    rw [List.pairwise_cons] at hp
    have h0 := hw w List.mem_cons_self
    have hr : ∀ x ∈ r, w.place + 1 ≤ x.place ∧ x.place < b := fun x hx => ⟨hp.1 x hx, (hw x (List.mem_cons_of_mem w hx)).2⟩
    unfold docGo at e
    split at e
    · exact go_rise left b r _ o (w.place + 1) hp.2 hr (by omega) (h.snoc ⟨left, [], w.place + 1⟩ (by show m < w.place + 1; omega)) e
    · split at e
      · exact go_rise left b r _ o (w.place + 1) hp.2 hr (by omega) ((h.push w h0.1).mono (by omega)) e
      · cases e
theorem go_err (left : List UInt8) : ∀ (ws : List Wd) (out : List Sd) (p : Nat), docGo left ws out = .error p → ∃ w ∈ ws, p = w.place
  | [], out, p, e => by cases e
  | w :: r, out, p, e => by
    unfold docGo at e
    split at e
    · obtain ⟨x, hx, h⟩ := go_err left r _ p e
      exact ⟨x, List.mem_cons_of_mem w hx, h⟩
    · split at e
      · obtain ⟨x, hx, h⟩ := go_err left r _ p e
        exact ⟨x, List.mem_cons_of_mem w hx, h⟩
      · cases e
        exact ⟨w, List.mem_cons_self, rfl⟩
theorem line_rise {ws : List Wd} {left : List UInt8} {b : Nat} (hp : ws.Pairwise (fun a b => a.place < b.place)) (hw : ∀ w ∈ ws, w.place < b) : (∀ o, docLine ws left b = .ok o → Rise o.1 b) ∧ (∀ p, docLine ws left b = .error p → p ≤ b) := by
  have nil : ∀ m, Rise [] m := fun m => ⟨List.Pairwise.nil, fun s hs => by cases hs⟩
  cases ws with
  | nil => exact ⟨fun o h => (by cases h; exact nil b), fun p h => (by cases h)⟩
  | cons w r =>
    have hp2 := List.pairwise_cons.1 hp
    have hwb := hw w List.mem_cons_self
    have hrb := fun x hx => hw x (List.mem_cons_of_mem w hx)
    unfold docLine
    by_cases hm : mk w 124 = true
    · simp only [hm, if_true]
      by_cases hz : left = []
      · rw [if_pos hz]
        exact ⟨fun o h => (by cases h), fun p h => (by cases h; omega)⟩
      · rw [if_neg hz]
        cases hg : docGo left (w :: r) [] with
        | error e =>
          refine ⟨fun o h => (by cases h), fun p h => ?_⟩
          cases h
          obtain ⟨x, hx, h⟩ := go_err left _ _ _ hg
          have := hw x hx
          omega
        | ok x =>
          refine ⟨fun o h => ?_, fun p h => (by cases h)⟩
          cases h
          exact go_rise left b (w :: r) [] x 0 hp (fun y hy => ⟨Nat.zero_le _, hw y hy⟩) (Nat.zero_le _) (nil 0) hg
    · simp only [hm, Bool.false_eq_true, if_false]
      by_cases hn : (nameB w && !w.quoted) = true
      · simp only [hn, if_true]
        cases r with
        | nil => exact ⟨fun o h => (by cases h), fun p h => (by cases h; omega)⟩
        | cons c r' =>
          have hp3 := List.pairwise_cons.1 hp2.2
          have hcb := hrb c List.mem_cons_self
          simp only
          by_cases hc : mk c 58 = true
          · simp only [hc, if_true]
            cases hg : docGo w.text r' [⟨w.text, [], c.place + 1⟩] with
            | error e =>
              refine ⟨fun o h => (by cases h), fun p h => ?_⟩
              cases h
              obtain ⟨x, hx, h⟩ := go_err _ _ _ _ hg
              have := hrb x (List.mem_cons_of_mem c hx)
              omega
            | ok x =>
              refine ⟨fun o h => ?_, fun p h => (by cases h)⟩
              cases h
              exact go_rise w.text b r' _ x (c.place + 1) hp3.2 (fun y hy => ⟨hp3.1 y hy, hrb y (List.mem_cons_of_mem c hy)⟩) (by omega) ((nil (c.place)).snoc ⟨w.text, [], c.place + 1⟩ (by show c.place < c.place + 1; omega)) hg
          · simp only [hc, Bool.false_eq_true, if_false]
            exact ⟨fun o h => (by cases h), fun p h => (by cases h; omega)⟩
      · simp only [hn, Bool.false_eq_true, if_false]
        exact ⟨fun o h => (by cases h), fun p h => (by cases h; omega)⟩

/-- How long lines are, with their ends. -/
def total : List (List UInt8) → Nat
  | [] => 0
  | l :: ls => l.length + 1 + total ls
theorem total_split : ∀ (r cur : List UInt8), total (splitGo cur r) = cur.length + r.length + 1
  | [], cur => by simp [splitGo, total]
  | c :: r, cur => by
    unfold splitGo
    split
    · unfold total
      rw [total_split r []]
      simp
      omega
    · rw [total_split r (cur ++ [c])]
      simp
      omega
theorem text_rise : ∀ (ls : List (List UInt8)) (start : Nat) (all : List Sd), all.Pairwise (fun a b => a.at_ < b.at_) → (∀ s ∈ all, s.at_ < start) →
    (∀ o, textD ls start all = .ok o → o.Pairwise (fun a b => a.at_ < b.at_) ∧ ∀ s ∈ o, s.at_ < start + total ls) ∧ (∀ p, textD ls start all = .error p → p < start + total ls)
  | [], start, all, h1, h2 => ⟨fun o h => (by cases h; exact ⟨h1, h2⟩), fun p h => (by cases h)⟩
  | l :: ls, start, all, h1, h2 => by
    unfold textD total
    split
    · exact ⟨fun o h => (by cases h), fun p h => (by cases h; omega)⟩
    · cases hl : WordsMath.lineL l 0 [] with
      | error e =>
        refine ⟨fun o h => (by cases h), fun p h => ?_⟩
        cases h
        have := (WordsMath.lineL_err _ l 0 [] e (Nat.le_refl _) hl).2
        omega
      | ok ws =>
        obtain ⟨more, e, hp, hw⟩ := WordsMath.lineL_ok _ l 0 [] ws (Nat.le_refl _) hl
        rw [List.nil_append] at e
        subst e
        obtain ⟨k1, k2⟩ := line_rise (left := lastL all) (b := l.length) hp (fun w hw' => by have := (hw w hw').2; omega)
        simp only
        cases hd : docLine ws (lastL all) l.length with
        | error e =>
          refine ⟨fun o h => (by cases h), fun p h => ?_⟩
          cases h
          have := k2 e hd
          omega
        | ok o =>
          simp only
          have hR := k1 o hd
          have ih := text_rise ls (start + l.length + 1) (all ++ o.1.map (shift start)) (by
            refine List.pairwise_append.2 ⟨h1, List.pairwise_map.2 (hR.1.imp (fun {a b} h => by show start + a.at_ < start + b.at_; omega)), fun a ha b hb => ?_⟩
            obtain ⟨x, _, rfl⟩ := List.mem_map.1 hb
            have := h2 a ha
            show a.at_ < start + x.at_
            omega) (fun s hs => by
            rcases List.mem_append.1 hs with hs | hs
            · have := h2 s hs
              omega
            · obtain ⟨x, hx, rfl⟩ := List.mem_map.1 hs
              have := hR.2 x hx
              show start + x.at_ < _
              omega)
          have et : start + l.length + 1 + total ls = start + (l.length + 1 + total ls) := by omega
          rw [et] at ih
          exact ih
/-- PLACES RISE AND LIE WITHIN THE TEXT. -/
theorem sides_rise (t : List UInt8) : (∀ all, sidesZ t = .ok all → all ≠ [] ∧ all.Pairwise (fun a b => a.at_ < b.at_) ∧ ∀ s ∈ all, s.at_ ≤ t.length) ∧ (∀ p, sidesZ t = .error p → p ≤ t.length) := by
  obtain ⟨h1, h2⟩ := text_rise (splitGo [] t) 0 [] List.Pairwise.nil (fun s hs => by cases hs)
  rw [total_split, ← sides_two] at *
  unfold sidesZ
  cases hx : textP (splitGo [] t) 0 [] [] with
  | error p =>
    refine ⟨fun all h => (by cases h), fun q h => ?_⟩
    cases h
    have := h2 p hx
    simp at this
    omega
  | ok o =>
    obtain ⟨a, b⟩ := h1 o hx
    by_cases ho : o = []
    · simp only [if_pos ho]
      exact ⟨fun all h => (by cases h), fun q h => (by cases h; exact Nat.le_refl _)⟩
    · simp only [if_neg ho]
      refine ⟨fun all h => ?_, fun q h => (by cases h)⟩
      cases h
      exact ⟨ho, a, fun s hs => by have := b s hs; simp at this; omega⟩

end Go.Proofs.YtgepbophnbbbpaaGreatDoor.SpecPl

namespace Go.Proofs.YtgepbophnbbbpaaGreatDoor.OrdersZ
set_option linter.unusedVariables false

variable {P : Program} {ops : Array Oper} {Q : Exit → Act → World → Prop} {md : Region.Mode} {S : World → Prop} {z : Nat}

/-- The last operation waits for this one. -/
def waitsB (md : Region.Mode) (ops : Array Oper) (z i : Nat) : Bool :=
  match ops[z]? with
  | some o => o.after.any (fun e => Region.binds md e && e.on == i)
  | none => true

/-- In whatever order: S behind each operation but the last. -/
def wpAnyZ (P : Program) (md : Region.Mode) (ops : Array Oper) (Q : Exit → Act → World → Prop) (S : World → Prop) (z : Nat) : Nat → Array Bool → Act → World → Prop
  | 0, listed, a, w => Region.ready md ops listed = [] ∧ Q .normal a w
  | n + 1, listed, a, w => (Region.ready md ops listed = [] → Q .normal a w) ∧ ∀ i ∈ Region.ready md ops listed, wpOp P ops Q i (fun a' w' => (i ≠ z → S w') ∧ wpAnyZ P md ops Q S z n (listed.setIfInBounds i true) a' w') a w

theorem any_of_Z : ∀ (n : Nat) (listed : Array Bool) (a : Act) (w : World), wpAnyZ P md ops Q S z n listed a w → wpAny P md ops Q n listed a w
  | 0, _, _, _, h => h
  | n + 1, _, _, _, h => ⟨h.1, fun i hi => wpOp_mono (fun a' w' k => any_of_Z n _ a' w' k.2) (h.2 i hi)⟩

theorem firstZ {i : Nat} {oi : Oper} {v : Value} (hi : ops[i]? = some oi) (hsel : ∀ (j : Nat) (o : Oper) cs b, ops[j]? = some o → o.op ≠ .select cs b) (hz : waitsB md ops z i = true) (hzi : i ≠ z)
    (hQ : ∀ c a w, Q (.panic c) (a.put oi.dst v) w → Q (.panic c) a w) (n : Nat) :
    ∀ (listed : Array Bool) (a : Act) (w : World),
      (∀ j oj, ops[j]? = some oj → j ≠ i → listed.getD j true = false → (∀ e ∈ oj.after, Region.binds md e = true → e.on ≠ i) → oi.apart ops oj = true) →
      i ∈ Region.ready md ops listed → YieldsIf P ops S oi v a → S w →
      wpAnyZ P md ops Q S z n (listed.setIfInBounds i true) (a.put oi.dst v) w → wpAnyZ P md ops Q S z (n + 1) listed a w := by
  induction n with
  | zero =>
    intro listed a w hf hr hy hS H
    constructor
    · intro h; rw [h] at hr; cases hr
    · intro j hj
      rcases Decidable.em (j = i) with e | e
      · rw [e]; exact hy.wpOp hi hS ⟨fun _ => hS, H⟩
      · have h1 := ready_mono hj e
        rw [H.1] at h1
        cases h1
  | succ n ih =>
    intro listed a w hf hr hy hS H
    constructor
    · intro h; rw [h] at hr; cases hr
    · intro j hj
      rcases Decidable.em (j = i) with e | e
      · rw [e]; exact hy.wpOp hi hS ⟨fun _ => hS, H⟩
      · obtain ⟨hun, oj, hoj, hall⟩ := mem_ready.1 hj
        have hui := (mem_ready.1 hr).1
        have hno : ∀ x ∈ oj.after, Region.binds md x = true → x.on ≠ i := by
          intro x hx hb he
          have h1 := hall x hx hb
          rw [he] at h1
          by_cases hlt : i < listed.size
          · simp [hlt] at hui h1
            rw [hui] at h1
            cases h1
          · simp [Array.getElem?_eq_none (Nat.le_of_not_lt hlt)] at h1
        have hjz : j ≠ z := by
          intro hz2
          subst hz2
          unfold waitsB at hz
          rw [hoj] at hz
          simp only at hz
          obtain ⟨k, hk, hk2⟩ := Array.any_eq_true.1 hz
          rw [Bool.and_eq_true, beq_iff_eq] at hk2
          exact hno _ (Array.getElem_mem hk) hk2.1 hk2.2
        have h2 := wpOp_putIf hoj (hf j oj hoj e hun hno) (fun cs b => hsel i oi cs b hi) (fun cs b => hsel j oj cs b hoj) hQ hy (H.2 j (ready_mono hj e))
        refine wpOp_mono ?_ h2
        rintro a' w' ⟨hy', hs', hr'⟩
        refine ⟨hs', ih _ a' w' ?_ (ready_mono hr (Ne.symm e)) hy' (hs' hjz) ?_⟩
        · intro k ok hk hki hku hkn
          refine hf k ok hk hki ?_ hkn
          rcases Decidable.em (j = k) with e2 | e2
          · rw [← e2]; exact hun
          · rw [getD_set_ne true e2] at hku; exact hku
        · rw [Array.setIfInBounds_comm _ _ e]
          exact hr'

theorem takeZ {i : Nat} {oi : Oper} {v : Value} {n : Nat} {listed : Array Bool} {a : Act} {w : World} (hi : ops[i]? = some oi)
    (hs : Region.noSelect ops = true) (hz : waitsB md ops z i = true) (hzi : (i == z) = false) (hf : Region.free md ops listed i = true) (hr : (Region.ready md ops listed).contains i = true)
    (hQ : ∀ c a w, Q (.panic c) (a.put oi.dst v) w → Q (.panic c) a w) (hy : YieldsIf P ops S oi v a) (hS : S w)
    (h : wpAnyZ P md ops Q S z n (listed.setIfInBounds i true) (a.put oi.dst v) w) : wpAnyZ P md ops Q S z (n + 1) listed a w :=
  firstZ hi (Region.noSelect_spec hs) hz (by simpa using hzi) hQ n listed a w (Region.free_spec hi hf) (by simpa using hr) hy hS h

/-- The one operation that may come up, not the last. -/
theorem readyZ {i : Nat} {o : Oper} {n : Nat} {listed : Array Bool} {a : Act} {w : World} (hr : Region.ready md ops listed = [i]) (ho : ops[i]? = some o)
    (h : ∀ K' : Act → World → Prop, Shut (∀ a w, S w → (S w → wpAnyZ P md ops Q S z n (listed.setIfInBounds i true) a w) → K' a w) → if Region.wanted o (yielded ops a.tmps) = true then Oper.wp P o a w K' Q else K' (a.put o.dst undef) w) : wpAnyZ P md ops Q S z (n + 1) listed a w := by
  refine ⟨(fun h0 => by rw [hr] at h0; cases h0), fun j hj => ?_⟩
  rw [hr] at hj
  obtain rfl : j = i := by simpa using hj
  exact wpOp_step ho (fun K' hK => h K' (fun a w hS hW => hK a w ⟨fun _ => hS, hW hS⟩))

/-- The last one. -/
theorem lastZ {o : Oper} {n : Nat} {listed : Array Bool} {a : Act} {w : World} (hr : Region.ready md ops listed = [z]) (ho : ops[z]? = some o)
    (h : ∀ K' : Act → World → Prop, Shut (∀ a w, wpAnyZ P md ops Q S z n (listed.setIfInBounds z true) a w → K' a w) → if Region.wanted o (yielded ops a.tmps) = true then Oper.wp P o a w K' Q else K' (a.put o.dst undef) w) : wpAnyZ P md ops Q S z (n + 1) listed a w := by
  refine ⟨(fun h0 => by rw [hr] at h0; cases h0), fun j hj => ?_⟩
  rw [hr] at hj
  obtain rfl : j = z := by simpa using hj
  exact wpOp_step ho (fun K' hK => h K' (fun a w hW => hK a w ⟨fun e => absurd rfl e, hW⟩))

theorem doneZ {listed : Array Bool} {a : Act} {w : World} (hr : Region.ready md ops listed = []) (h : Q .normal a w) : ∀ n, wpAnyZ P md ops Q S z n listed a w
  | 0 => ⟨hr, h⟩
  | _ + 1 => ⟨fun _ => h, by rw [hr]; simp⟩

theorem region_Z {id : Nat} {a : Act} {w : World} (z : Nat) (hm : P.follows .mixedOrders = true) (hS : S w.drew)
    (h : S w.drew → wpAnyZ P .any ops Q S z ops.size (Array.replicate ops.size false) a w.drew) : (Code.region id ops true).wp P Q a w :=
  wp_region_any hm (any_of_Z _ _ _ _ (h hS))

end Go.Proofs.YtgepbophnbbbpaaGreatDoor.OrdersZ

namespace Go.Proofs.YtgepbophnbbbpaaGreatDoor.SpecMem
open Go.RowKit Go.Maps Go.WideMaps Go.Proofs.YtgepbophnbbbpaaGreatDoor.GramMath Go.Proofs.YtgepbophnbbbpaaGreatDoor.GramRow Go.Proofs.YtgepbophnbbbpaaGreatDoor.GramOne Go.Proofs.YtgepbophnbbbpaaGreatDoor.GramApart Go.Proofs.YtgepbophnbbbpaaGreatDoor.GramRoll Go.Proofs.YtgepbophnbbbpaaGreatDoor.GramCopy Go.Proofs.YtgepbophnbbbpaaGreatDoor.LineMath Go.Proofs.YtgepbophnbbbpaaGreatDoor.SpecLn Go.Proofs.YtgepbophnbbbpaaGreatDoor.SpecMd Go.Proofs.YtgepbophnbbbpaaGreatDoor.WordsBytes
set_option linter.unusedVariables false
set_option linter.unusedSimpArgs false

/-! Names and their numbers. -/
theorem add_in {ss : List ByteArray} {s : ByteArray} (h : memB s ss = true) : addN ss s = ss := by unfold addN; rw [if_pos h]
theorem add_out {ss : List ByteArray} {s : ByteArray} (h : memB s ss = false) : addN ss s = ss ++ [s] := by unfold addN; rw [if_neg (by rw [h]; decide)]
theorem add_mem (ss : List ByteArray) (s : ByteArray) : memB s (addN ss s) = true := by
  cases h : memB s ss with
  | true => rw [add_in h]; exact h
  | false => rw [add_out h]; exact (memB_iff _ _).2 (by simp)
theorem mem_add {ss : List ByteArray} {s : ByteArray} (t : ByteArray) (h : memB s ss = true) : memB s (addN ss t) = true := by
  cases ht : memB t ss with
  | true => rw [add_in ht]; exact h
  | false => rw [add_out ht]; exact (memB_iff _ _).2 (List.mem_append_left _ ((memB_iff _ _).1 h))
theorem idx_app {ss : List ByteArray} {s : ByteArray} (more : List ByteArray) (h : memB s ss = true) : idx (ss ++ more) s = idx ss s := by
  have h2 : memB s (ss ++ more) = true := (memB_iff _ _).2 (List.mem_append_left _ ((memB_iff _ _).1 h))
  rcases idx_cases ss s with ⟨_, h3⟩ | ⟨k, e, hk, hb, _⟩
  · rw [h] at h3; cases h3
  rcases idx_cases (ss ++ more) s with ⟨_, h3⟩ | ⟨j, e2, hj, hb2, _⟩
  · rw [h2] at h3; cases h3
  rw [e, e2]
  have hkl := (List.getElem?_eq_some_iff.1 hk).1
  rcases Nat.lt_trichotomy j k with h4 | h4 | h4
  · have := hb j h4
    rw [List.getElem?_append_left (by omega)] at hj
    exact absurd hj this
  · rw [h4]
  · have := hb2 k h4
    rw [List.getElem?_append_left hkl] at this
    exact absurd hk this
theorem idx_add {ss : List ByteArray} {s : ByteArray} (t : ByteArray) (h : memB s ss = true) : idx (addN ss t) s = idx ss s := by
  cases ht : memB t ss with
  | true => rw [add_in ht]
  | false => rw [add_out ht, idx_app _ h]
theorem num_add (ss : List ByteArray) (s : ByteArray) : numS ss s = idx (addN ss s) s := by
  cases h : memB s ss with
  | true => unfold numS; rw [if_pos h, add_in h]
  | false =>
    unfold numS
    rw [if_neg (by rw [h]; decide), add_out h]
    rcases idx_cases (ss ++ [s]) s with ⟨_, h3⟩ | ⟨k, e, hk, hb, _⟩
    · rw [show memB s (ss ++ [s]) = true from (memB_iff _ _).2 (by simp)] at h3; cases h3
    rw [e]
    have hkl := (List.getElem?_eq_some_iff.1 hk).1
    simp at hkl
    rcases Nat.lt_or_ge k ss.length with h4 | h4
    · rw [List.getElem?_append_left h4] at hk
      have : memB s ss = true := (memB_iff _ _).2 (List.mem_of_getElem? hk)
      rw [h] at this; cases this
    · rw [show k = ss.length by omega]

/-- An alternative, and the value of its names. -/
structure Qr where
  s : Sd
  v : Value
def cellsR (ns : List ByteArray) (qs : List Qr) : List Value := qs.flatMap (fun q => [.int .i64 (idx ns (bt q.s.left)), q.v, .int .i64 (q.s.at_ : Int)])
/-- The block of the last names. -/
def ofNames (qs : List Qr) (k : Nat) : Prop := ∃ q, qs.getLast? = some q ∧ q.v.ownBlock = some k

/-- A map of at most so many entries. -/
def OwnM (w : World) (mb M : Nat) (D : DataW Unit) : Prop := ∃ n, n ≤ M ∧ w.ownsMap (H := Unit) Tryz.prog 9 (plainElem Tryz.prog 3) mb n D
theorem OwnM.at {w w' : World} {mb M : Nat} {D : DataW Unit} (h : OwnM w mb M D) (he : w'.heap[mb]? = w.heap[mb]?) : OwnM w' mb M D := by
  obtain ⟨n, h1, h2⟩ := h
  exact ⟨n, h1, ownsMap_of h2 he⟩
theorem OwnM.lt {w : World} {mb M : Nat} {D : DataW Unit} (h : OwnM w mb M D) : mb < w.heap.size := by
  obtain ⟨n, h1, h2⟩ := h
  exact ownsMap_lt h2
theorem OwnM.mono {w : World} {mb M M' : Nat} {D : DataW Unit} (h : OwnM w mb M D) (hM : M ≤ M') : OwnM w mb M' D := by
  obtain ⟨n, h1, h2⟩ := h
  exact ⟨n, Nat.le_trans h1 hM, h2⟩

structure RdN (w : World) (rb bb mb base : Nat) (nx : Value) (start : Nat) (ln : Int) (ns : List ByteArray) (qs : List Qr) (D : DataW Unit) (rv nv mv : Value) : Prop where
  box : RowAt w rb 85 #[nx, .int .i64 (start : Int), .int .i64 ln, .pointer (some ⟨bb, 0, none⟩), .map (some mb), rv]
  t : Roll w bb 0 base [] (.slice none 0 0) (.map none)
  n : Roll w bb 2 base ns nv mv
  a : w.cell? ⟨bb, 4, none⟩ = some (.int .i64 0)
  af : w.frozen? ⟨bb, 4, none⟩ = false
  r : RulesOf w bb base [] (.slice none 0 0) []
  own : OwnM w mb (start + 1) D
  map : MapOf D ns
  rules : w.ownsRow base 88 3 rv qs.length (cellsR ns qs)
  each : ∀ q ∈ qs, w.ownsRow base 102 3 q.v q.s.names.length (cellsW q.s.names)
  far : qs.Pairwise (fun p q => ∀ k, p.v.ownBlock = some k → q.v.ownBlock ≠ some k)
  known : ∀ q ∈ qs, memB (bt q.s.left) ns = true
  rlt : rb < base
  mlt : mb < base
  rbb : rb ≠ bb
  mbb : mb ≠ bb

theorem frozen_of_block {w w' : World} {b : Nat} (h : w'.heap[b]? = w.heap[b]?) (o : Nat) : w'.frozen? ⟨b, o, none⟩ = w.frozen? ⟨b, o, none⟩ := by
  unfold World.frozen?
  rw [h]
theorem Roll.at {w w' : World} {b off base : Nat} {ss : List ByteArray} {nv mv : Value} (h : Roll w b off base ss nv mv) (hb : w'.heap[b]? = w.heap[b]?) (hk : ∀ k, base ≤ k → k < w.heap.size → ofRoll nv mv k → w'.heap[k]? = w.heap[k]?) : Roll w' b off base ss nv mv where
  c0 := (World.cell?_of_block hb).trans h.c0
  c1 := (World.cell?_of_block hb).trans h.c1
  f0 := (frozen_of_block hb _).trans h.f0
  f1 := (frozen_of_block hb _).trans h.f1
  row := own_block h.row (fun g hg => hk g (h.blocks (.inl hg)).1 (h.blocks (.inl hg)).2 (.inl hg))
  map := by
    rcases h.map with hm | ⟨mb, D, hne, hm, hb1, hown, hD⟩
    · exact .inl hm
    · have hr : ofRoll nv mv mb := .inr hm
      exact .inr ⟨mb, D, hne, hm, hb1, ownsMap_of hown (hk mb (h.blocks hr).1 (h.blocks hr).2 hr), hD⟩
  nil := h.nil
  lt := h.lt
theorem RulesOf.at {w w' : World} {b base : Nat} (h : RulesOf w b base [] (.slice none 0 0) []) (hb : w'.heap[b]? = w.heap[b]?) : RulesOf w' b base [] (.slice none 0 0) [] :=
  ⟨(World.cell?_of_block hb).trans h.c, (frozen_of_block hb _).trans h.f, own_block h.row (fun g hg => by simp [Value.ownBlock] at hg), h.map, fun x hx => by cases hx⟩

section
variable {w w' : World} {rb bb mb base start : Nat} {nx : Value} {ln : Int} {ns : List ByteArray} {qs : List Qr} {D : DataW Unit} {rv nv mv : Value}

theorem RdN.blt (h : RdN w rb bb mb base nx start ln ns qs D rv nv mv) : bb < base := h.n.lt
theorem RdN.bsz (h : RdN w rb bb mb base nx start ln ns qs D rv nv mv) : bb < w.heap.size := GramRow.cell_lt h.a
theorem RdN.far2 (h : RdN w rb bb mb base nx start ln ns qs D rv nv mv) : ∀ k, ofRoll (.slice none 0 0) (.map none) k → ¬ ofRoll nv mv k := fun k hk => by
  rcases hk with hk | hk <;> cases hk
theorem RdN.bld (h : RdN w rb bb mb base nx start ln ns qs D rv nv mv) (hlt : base ≤ w.heap.size) : Build w bb base ⟨[], ns, 0, []⟩ (.slice none 0 0) (.map none) nv mv (.slice none 0 0) [] :=
  ⟨h.t, h.n, h.a, h.af, h.r, h.far2, hlt⟩
/-- All that a reader has lies as it did. -/
theorem RdN.block (h : RdN w rb bb mb base nx start ln ns qs D rv nv mv) (hk : ∀ k, k < w.heap.size → (k = rb ∨ k = bb ∨ k = mb ∨ base ≤ k) → w'.heap[k]? = w.heap[k]?) : RdN w' rb bb mb base nx start ln ns qs D rv nv mv where
  box := (hk rb h.box.lt (.inl rfl)).trans h.box
  t := Roll.at h.t (hk bb h.bsz (.inr (.inl rfl))) (fun k h1 h2 _ => hk k h2 (.inr (.inr (.inr h1))))
  n := Roll.at h.n (hk bb h.bsz (.inr (.inl rfl))) (fun k h1 h2 _ => hk k h2 (.inr (.inr (.inr h1))))
  a := (World.cell?_of_block (hk bb h.bsz (.inr (.inl rfl)))).trans h.a
  af := (frozen_of_block (hk bb h.bsz (.inr (.inl rfl))) _).trans h.af
  r := RulesOf.at h.r (hk bb h.bsz (.inr (.inl rfl)))
  own := h.own.at (hk mb h.own.lt (.inr (.inr (.inl rfl))))
  map := h.map
  rules := own_block h.rules (fun g hg => hk g (h.rules.lt g hg).2 (.inr (.inr (.inr (h.rules.lt g hg).1))))
  each q hq := own_block (h.each q hq) (fun g hg => hk g ((h.each q hq).lt g hg).2 (.inr (.inr (.inr ((h.each q hq).lt g hg).1))))
  far := h.far
  known := h.known
  rlt := h.rlt
  mlt := h.mlt
  rbb := h.rbb
  mbb := h.mbb
theorem RdN.below (h : RdN w rb bb mb base nx start ln ns qs D rv nv mv) (hb : Below w.heap.size w w') : RdN w' rb bb mb base nx start ln ns qs D rv nv mv := h.block (fun k hk _ => hb.block k hk)

theorem map_not_row {b mb M : Nat} {t : TypeId} {C : Array Value} {D : DataW Unit} (h : OwnM w mb M D) (hr : RowAt w b t C) : mb ≠ b := by
  obtain ⟨_, _, es, clock, h1, _⟩ := h
  rintro rfl
  rw [show w.heap[mb]? = _ from hr] at h1
  cases h1
theorem own_row {e : TypeId} {size n g : Nat} {v : Value} {xs : List Value} (h : w.ownsRow base e size v n xs) (hg : v.ownBlock = some g) : ∃ cur, RowAt w g e cur := by
  obtain ⟨_, ⟨hn, _⟩ | ⟨g', cap, cur, hv, _, hh, _⟩⟩ := h
  · rw [hn] at hg; simp [Value.ownBlock] at hg
  · rw [hv] at hg
    have e : g' = g := by simpa [Value.ownBlock] using hg
    subst e
    exact ⟨cur, hh⟩
end

/-- What a call writes of what was there: below a number but three blocks; and no words but the last alternative's. -/
structure Chg (base rb bb mb : Nat) (qs qs' : List Qr) (w w' : World) : Prop where
  os : w'.os = w.os
  tape : w'.tape = w.tape
  output : w'.output = w.output
  size : w.heap.size ≤ w'.heap.size
  block : ∀ k, k < base → k ≠ rb → k ≠ bb → k ≠ mb → w'.heap[k]? = w.heap[k]?
  row : ∀ b t C, base ≤ b → t ≠ 9 → t ≠ 88 → (t = 102 → ¬ ofNames qs b) → RowAt w b t C → RowAt w' b t C
  new : ∀ k, ofNames qs' k → ofNames qs k ∨ w.heap.size ≤ k
theorem Chg.refl (base rb bb mb : Nat) (qs : List Qr) (w : World) : Chg base rb bb mb qs qs w w := ⟨rfl, rfl, rfl, Nat.le_refl _, fun _ _ _ _ _ => rfl, fun _ _ _ _ _ _ _ h => h, fun _ h => .inl h⟩
theorem Chg.trans {base rb bb mb : Nat} {q1 q2 q3 : List Qr} {a b c : World} (h : Chg base rb bb mb q1 q2 a b) (k : Chg base rb bb mb q2 q3 b c) : Chg base rb bb mb q1 q3 a c :=
  ⟨k.os.trans h.os, k.tape.trans h.tape, k.output.trans h.output, Nat.le_trans h.size k.size, fun i h1 h2 h3 h4 => (k.block i h1 h2 h3 h4).trans (h.block i h1 h2 h3 h4),
   fun i t C h0 h9 hr h2 h1 => k.row i t C h0 h9 hr (fun ht e => by
     rcases h.new i e with h3 | h3
     · exact h2 ht h3
     · have := h1.lt; omega) (h.row i t C h0 h9 hr h2 h1),
   fun i h1 => by
     rcases k.new i h1 with h2 | h2
     · exact h.new i h2
     · exact .inr (Nat.le_trans h.size h2)⟩
theorem Chg.of_below {base rb bb mb : Nat} (qs : List Qr) {w w' : World} (h : Below w.heap.size w w') (hB : base ≤ w.heap.size) : Chg base rb bb mb qs qs w w' :=
  ⟨h.os, h.tape, h.output, h.size, fun k hk _ _ _ => h.block k (by omega), fun b t C _ _ _ _ hr => hr.below h hr.lt, fun _ h => .inl h⟩
theorem Chg.below {base rb bb mb B : Nat} {qs qs' : List Qr} {w w' : World} (h : Chg base rb bb mb qs qs' w w') (h1 : B ≤ rb) (h2 : B ≤ bb) (h3 : B ≤ mb) (h4 : B ≤ base) : Below B w w' := ⟨h.os, h.tape, h.output, h.size, fun k hk => h.block k (by omega) (by omega) (by omega) (by omega)⟩

theorem Chg.word {base rb bb mb : Nat} {qs qs' : List Qr} {w w' : World} (h : Chg base rb bb mb qs qs' w w') {b : Nat} {C : Array Value} (hb : base ≤ b) (hr : RowAt w b 102 C) (hn : ¬ ofNames qs b) : RowAt w' b 102 C := h.row b _ C hb (by decide) (by decide) (fun _ => hn) hr

/-- The state that takes the next word. -/
def stV (rb : Nat) : St → Value
  | .beg => .func (.func 76) #[.pointer (some ⟨rb, 0, none⟩)] #[]
  | .col => .func (.func 100) #[.pointer (some ⟨rb, 0, none⟩)] #[]
  | .nam => .func (.func 108) #[.pointer (some ⟨rb, 0, none⟩)] #[]
  | .fin => .nilFunc
/-- What the reader knows of the nonterminals. -/
def Knows (p : PS) (ln : Int) (ns : List ByteArray) : Prop :=
  match p.st with
  | .col => ns = addN (ntsZ p.rs []) (bt p.left) ∧ ln = idx ns (bt p.left) ∧ memB (bt p.left) ns = true
  | .nam => p.rs ≠ [] ∧ ns = ntsZ p.rs [] ∧ ln = idx ns (bt p.left) ∧ memB (bt p.left) ns = true
  | _ => ns = ntsZ p.rs [] ∧ (p.rs ≠ [] → ln = idx ns (bt p.left) ∧ memB (bt p.left) ns = true)
/-- What a state answers. -/
def StepR (aS : Addr) (rb bb mb base : Nat) (nx : Value) (start : Nat) (qs : List Qr) (z : Except Nat PS) (w : World) (e : Ending) (w' : World) : Prop :=
  match z with
  | .error p => (∃ v, e = .panicked [{ v := v, recovered := false }] ∧ ErrAt w.heap.size aS p w' v) ∧ Below w.heap.size w w'
  | .ok p' => e = .returned (stV rb p'.st) ∧ ∃ ln' ns' qs' D' rv' nv' mv', RdN w' rb bb mb base nx start ln' ns' qs' D' rv' nv' mv' ∧ qs'.map (·.s) = p'.rs ∧ Knows p' ln' ns' ∧ Chg base rb bb mb qs qs' w w'

theorem nts_app (l : List Sd) (s : Sd) : ∀ ns, ntsZ (l ++ [s]) ns = addN (ntsZ l ns) (bt s.left) := by
  induction l with
  | nil => intro ns; rfl
  | cons x l ih => intro ns; exact ih _
theorem nts_len (l : List Sd) : ∀ ns, (ntsZ l ns).length ≤ ns.length + l.length := by
  induction l with
  | nil => intro ns; exact Nat.le_refl _
  | cons x l ih =>
    intro ns
    have h1 := ih (addN ns (bt x.left))
    have h2 : (addN ns (bt x.left)).length ≤ ns.length + 1 := by unfold addN; split <;> simp
    show (ntsZ l _).length ≤ _
    simp only [List.length_cons]
    omega

end Go.Proofs.YtgepbophnbbbpaaGreatDoor.SpecMem
