/-
  Texts that stand together: LineMath, WordsCutMath, WordsMath2, SpecLineM, SpecMadeM, SpecTextM, SpecNumM, SpecPlM, SpecMoreM, WordsMath3, SpecSpreadM.
-/
import Derived.Test.YtjblkgephboajaaGreatDoorBGramRefs
import Derived.Test.YtjblkgephboajaaGreatDoorBagWordsUnquote
import Derived.Test.YtjblkgephboajaaGreatDoorBagApartVals
import Derived.Lib.IndexLaws
namespace Go.Proofs.YtjblkgephboajaaGreatDoor.LineMath
open Go.RowKit GramMath GramRow GramOne GramCheck
set_option linter.unusedVariables false

abbrev Wd := Go.Proofs.YtjblkgephboajaaGreatDoor.WordsMath.W

/-- The name of a token, and its word. -/
def nameOf (g : G) (z : Int) : ByteArray := g.ts.getD z.toNat ByteArray.empty
def wOf (g : G) (z : Int) : Wd := ⟨(nameOf g z).data.toList, false, 0⟩
def w0 : Wd := ⟨[], false, 0⟩
/-- May a number be a token? -/
def tokB (g : G) (z : Int) : Bool := decide (0 ≤ z) && decide (z < (g.ts.length : Int))
/-- The words of tokens of which the first k were told. -/
def wsTo (g : G) (zs : List Int) (k : Nat) : List Wd := (zs.take k).map (wOf g) ++ List.replicate (zs.length - k) w0

/-- The text of tokens. -/
def textL (g : G) (zs : List Int) : List UInt8 := WordsBytes.allW (zs.map (wOf g))
/-- What writing tokens comes to: what is wrong, and the text. -/
def wrZ (g : G) (zs : List Int) : Nat × Option Nat :=
  if (checkG g).1 ≠ 0 then checkG g
  else if 65536 < zs.length then (12, none)
  else if zs.all (tokB g) = false then (1, none)
  else if 1048576 < (textL g zs).length then (12, none)
  else (0, none)
def wrT (g : G) (zs : List Int) : ByteArray := if (wrZ g zs).1 = 0 then ⟨(textL g zs).toArray⟩ else ⟨#[]⟩

theorem rulesK_le {t n : Nat} : ∀ (rs : List R) (i : Nat), (rulesK t n rs i).1 ≤ 15 := by
  intro rs
  induction rs with
  | nil => intro i; exact Nat.zero_le _
  | cons r rs ih =>
    intro i
    rw [rulesK]
    split
    · exact ih _
    · show ruleK t n r ≤ 15
      unfold ruleK
      split <;> (try split) <;> (try split) <;> omega

/-- Words that were made in a block of their own. -/
def Made (w : World) (b : Nat) (ws : List Wd) : Prop := ∃ C, w.heap[b]? = some (.cells C 102 (0, 0)) ∧ ∀ i x, ws[i]? = some x → C[i * 3]? = some (.string ⟨x.text.toArray⟩) ∧ C[i * 3 + 1]? = some (.bool x.quoted) ∧ C[i * 3 + 2]? = some (.int .i64 (x.place : Int))

end Go.Proofs.YtjblkgephboajaaGreatDoor.LineMath

namespace Go.Proofs.YtjblkgephboajaaGreatDoor.WordsCutM
open Go.RowKit WordsMath WordsOne WordsBytes

def cutGo : List UInt8 → List UInt8 → List (List UInt8)
  | cur, [] => if cur = [] then [] else [cur]
  | cur, c :: r => if c = 10 then cur :: cutGo [] r else cutGo (cur ++ [c]) r

/-- The cells of a row of texts. -/
def cellsL (ls : List (List UInt8)) : List Value := ls.map (fun l => Value.string ⟨l.toArray⟩)

end Go.Proofs.YtjblkgephboajaaGreatDoor.WordsCutM

namespace Go.Proofs.YtjblkgephboajaaGreatDoor.WordsMath

/-- The ways of a line at its first byte. -/
theorem lineL_ways (c : UInt8) (r : List UInt8) (i : Nat) (out : List W) :
    (blankN c.toNat = true ∧ lineL (c :: r) i out = lineL r (i + 1) out) ∨
    (c.toNat = 35 ∧ lineL (c :: r) i out = .ok out) ∨
    (c.toNat = 34 ∧ ∃ p, unqE r (i + 1) = .error p ∧ lineL (c :: r) i out = .error p) ∨
    (c.toNat = 34 ∧ ∃ t e, unqE r (i + 1) = .ok (t, e) ∧ lineL (c :: r) i out = lineL (r.drop (e - (i + 1))) e (out ++ [⟨t, true, i⟩])) ∨
    (plainN c.toNat = true ∧ c.toNat ≠ 35 ∧ endsL (r.drop (plainLen r)) = true ∧ lineL (c :: r) i out = lineL (r.drop (plainLen r)) (i + 1 + plainLen r) (out ++ [⟨c :: r.take (plainLen r), false, i⟩])) ∨
    (∃ k, k ≤ r.length + 1 ∧ lineL (c :: r) i out = .error (i + k)) := by
  cases hb : blankN c.toNat with
  | true => exact .inl ⟨rfl, lineL_blank hb r i out⟩
  | false =>
    by_cases h35 : c.toNat = 35
    · exact .inr (.inl ⟨h35, lineL_comment h35 r i out⟩)
    · by_cases h34 : c.toNat = 34
      · cases hu : unqE r (i + 1) with
        | error p => exact .inr (.inr (.inl ⟨h34, p, rfl, lineL_bad h34 hu out⟩))
        | ok x =>
          obtain ⟨t, e⟩ := x
          exact .inr (.inr (.inr (.inl ⟨h34, t, e, rfl, lineL_quoted h34 hu out⟩)))
      · cases hp : plainN c.toNat with
        | true =>
          cases he : endsL (r.drop (plainLen r)) with
          | true => exact .inr (.inr (.inr (.inr (.inl ⟨rfl, h35, rfl, lineL_plain hp h35 he i out⟩))))
          | false => exact .inr (.inr (.inr (.inr (.inr ⟨1 + plainLen r, by have := plainLen_le r; omega, by rw [lineL_cut hp h35 he, Nat.add_assoc]⟩))))
        | false => exact .inr (.inr (.inr (.inr (.inr ⟨0, by omega, by rw [lineL_wrong hp hb h34, Nat.add_zero]⟩))))

theorem lineL_ok (n : Nat) : ∀ (l : List UInt8) (i : Nat) (out us : List W), l.length ≤ n → lineL l i out = .ok us →
    ∃ more, us = out ++ more ∧ more.Pairwise (fun a b => a.place < b.place) ∧ ∀ x ∈ more, i ≤ x.place ∧ x.place < i + l.length := by
  induction n with
  | zero =>
    intro l i out us hl h
    obtain rfl : l = [] := List.eq_nil_of_length_eq_zero (by omega)
    rw [lineL_nil] at h
    cases h
    exact ⟨[], by simp, List.Pairwise.nil, fun x hx => by cases hx⟩
  | succ n ih =>
    intro l i out us hl h
    cases l with
    | nil =>
      rw [lineL_nil] at h
      cases h
      exact ⟨[], by simp, List.Pairwise.nil, fun x hx => by cases hx⟩
    | cons c r =>
      simp only [List.length_cons] at hl ⊢
      have step : ∀ (k e : Nat) (x : W), x.place = i → e = i + 1 + k → k ≤ r.length → lineL (r.drop k) e (out ++ [x]) = .ok us →
          ∃ more, us = out ++ more ∧ more.Pairwise (fun a b => a.place < b.place) ∧ ∀ x ∈ more, i ≤ x.place ∧ x.place < i + (r.length + 1) := by
        intro k e x hx he hk h2
        have hlen : (r.drop k).length = r.length - k := List.length_drop
        obtain ⟨more, h3, h4, h5⟩ := ih (r.drop k) e (out ++ [x]) us (by omega) h2
        refine ⟨x :: more, by rw [h3]; simp, List.pairwise_cons.2 ⟨fun y hy => ?_, h4⟩, fun y hy => ?_⟩
        · have := h5 y hy; omega
        · rcases List.mem_cons.1 hy with rfl | hy
          · omega
          · have := h5 y hy; omega
      rcases lineL_ways c r i out with ⟨_, w⟩ | ⟨_, w⟩ | ⟨_, p, _, w⟩ | ⟨_, t, e, hu, w⟩ | ⟨_, _, _, w⟩ | ⟨k, _, w⟩
      · rw [w] at h
        obtain ⟨more, h3, h4, h5⟩ := ih r (i + 1) out us (by omega) h
        exact ⟨more, h3, h4, fun x hx => by have := h5 x hx; omega⟩
      · rw [w] at h
        cases h
        exact ⟨[], by simp, List.Pairwise.nil, fun x hx => by cases hx⟩
      · rw [w] at h; cases h
      · rw [w] at h
        have hb := unqE_bound.1 _ _ hu
        exact step (e - (i + 1)) e _ rfl (by omega) (by omega) h
      · rw [w] at h
        exact step (plainLen r) _ _ rfl rfl (plainLen_le r) h
      · rw [w] at h; cases h

theorem rise_len : ∀ (ws : List W) (a b : Nat), ws.Pairwise (fun a b => a.place < b.place) → (∀ x ∈ ws, a ≤ x.place ∧ x.place < b) → ws.length ≤ b - a
  | [], _, _, _, _ => by simp
  | x :: r, a, b, h, hb => by
    obtain ⟨h1, h2⟩ := List.pairwise_cons.1 h
    have hx := hb x (by simp)
    have := rise_len r (x.place + 1) b h2 (fun y hy => ⟨h1 y hy, (hb y (by simp [hy])).2⟩)
    simp only [List.length_cons]
    omega

theorem lineL_err (n : Nat) : ∀ (l : List UInt8) (i : Nat) (out : List W) (p : Nat), l.length ≤ n → lineL l i out = .error p → i ≤ p ∧ p ≤ i + l.length := by
  induction n with
  | zero =>
    intro l i out p hl h
    obtain rfl : l = [] := List.eq_nil_of_length_eq_zero (by omega)
    rw [lineL_nil] at h
    cases h
  | succ n ih =>
    intro l i out p hl h
    cases l with
    | nil => rw [lineL_nil] at h; cases h
    | cons c r =>
      simp only [List.length_cons] at hl ⊢
      rcases lineL_ways c r i out with ⟨_, w⟩ | ⟨_, w⟩ | ⟨_, q, hu, w⟩ | ⟨_, t, e, hu, w⟩ | ⟨_, _, _, w⟩ | ⟨k, hk, w⟩
      · rw [w] at h
        have := ih r (i + 1) out p (by omega) h
        omega
      · rw [w] at h; cases h
      · rw [w] at h
        cases h
        have := unqE_bound.2 _ hu
        omega
      · rw [w] at h
        have hb := unqE_bound.1 _ _ hu
        have hlen : (r.drop (e - (i + 1))).length = r.length - (e - (i + 1)) := List.length_drop
        have := ih _ e _ p (by omega) h
        omega
      · rw [w] at h
        have hb := plainLen_le r
        have hlen : (r.drop (plainLen r)).length = r.length - plainLen r := List.length_drop
        have := ih _ _ _ p (by omega) h
        omega
      · rw [w] at h
        cases h
        omega

end Go.Proofs.YtjblkgephboajaaGreatDoor.WordsMath

namespace Go.Proofs.YtjblkgephboajaaGreatDoor.LineRead
/-- A name for the namespace, so that it may be opened where a program has no reader of lines. -/
def here : Bool := true
end Go.Proofs.YtjblkgephboajaaGreatDoor.LineRead
namespace Go.Proofs.YtjblkgephboajaaGreatDoor.SpecLn
open LineRead LineMath
set_option linter.unusedVariables false
set_option linter.unusedSimpArgs false

/-- An alternative: whose, its names, where it begins. -/
structure Sd where
  left : List UInt8
  names : List Wd
  at_ : Nat
def mk (w : Wd) (c : UInt8) : Bool := !w.quoted && (w.text == [c])
def isEnd (w : Wd) : Bool := !w.quoted && (w.text == [])
/-- May a word be a name, by its length, and as it is no colon? -/
def lenB (w : Wd) : Bool := !mk w 58 && (decide (0 < w.text.length) && decide (w.text.length ≤ 32))
def nameB (w : Wd) : Bool := !mk w 124 && lenB w
def shift (start : Nat) (s : Sd) : Sd := ⟨s.left, s.names, start + s.at_⟩
/-- A name more for the last alternative. -/
def push (start : Nat) (out : List Sd) (w : Wd) : List Sd :=
  match out.getLast? with
  | none => out
  | some s => out.dropLast ++ [⟨s.left, s.names ++ [w], if s.names = [] then start + w.place else s.at_⟩]

inductive St where
  | beg | col | nam | fin
structure PS where
  st : St
  left : List UInt8
  rs : List Sd
def opened (start : Nat) (left : List UInt8) (rs : List Sd) (w : Wd) : PS := ⟨.nam, left, rs ++ [⟨left, [], start + w.place + w.text.length⟩]⟩
/-- One word taken by a state; or the place in the line that is wrong. -/
def step (start : Nat) (p : PS) (w : Wd) : Except Nat PS :=
  match p.st with
  | .beg => if isEnd w then .ok ⟨.fin, p.left, p.rs⟩
    else if mk w 124 && !p.rs.isEmpty then .ok (opened start p.left p.rs w)
    else if mk w 124 || w.quoted then .error w.place
    else if lenB w then .ok ⟨.col, w.text, p.rs⟩ else .error w.place
  | .col => if mk w 58 then .ok (opened start p.left p.rs w) else .error w.place
  | .nam => if isEnd w then .ok ⟨.fin, p.left, p.rs⟩
    else if mk w 124 then .ok (opened start p.left p.rs w)
    else if lenB w then .ok ⟨.nam, p.left, push start p.rs w⟩ else .error w.place
  | .fin => .ok p
def run (start : Nat) : List Wd → PS → Except Nat PS
  | [], p => .ok p
  | w :: r, p => match step start p w with
    | .error e => .error e
    | .ok p' => run start r p'

/-- The document's: the rest of a line, behind its first mark. -/
def docGo (left : List UInt8) : List Wd → List Sd → Except Nat (List Sd)
  | [], out => .ok out
  | w :: r, out => if mk w 124 then docGo left r (out ++ [⟨left, [], w.place + 1⟩])
    else if nameB w then docGo left r (push 0 out w) else .error w.place
/-- The document's: a line that has words. -/
def docLine (ws : List Wd) (left : List UInt8) (stop : Nat) : Except Nat (List Sd × List UInt8) :=
  match ws with
  | [] => .ok ([], left)
  | w :: r =>
    if mk w 124 then if left = [] then .error w.place else (docGo left (w :: r) []).map (·, left)
    else if nameB w && !w.quoted then
      match r with
      | [] => .error stop
      | c :: r' => if mk c 58 then (docGo w.text r' [⟨w.text, [], c.place + 1⟩]).map (·, w.text) else .error c.place
    else .error w.place

theorem mk_len {w : Wd} {c : UInt8} (h : mk w c = true) : w.text.length = 1 ∧ w.quoted = false := by
  unfold mk at h
  simp at h
  rw [h.2]
  exact ⟨rfl, h.1⟩
theorem end_mk {w : Wd} {c : UInt8} (h : isEnd w = true) : mk w c = false := by
  unfold isEnd at h
  unfold mk
  simp at h ⊢
  intro _
  rw [h.2]
  simp
theorem push_app (start : Nat) (all out : List Sd) (w : Wd) (h : out ≠ []) : push start (all ++ out.map (shift start)) w = all ++ (push 0 out w).map (shift start) := by
  obtain ⟨l, s, rfl⟩ : ∃ l s, out = l ++ [s] := ⟨out.dropLast, out.getLast h, (List.dropLast_concat_getLast h).symm⟩
  unfold push
  rw [List.map_append, List.map_cons, List.map_nil, ← List.append_assoc, List.getLast?_append, List.getLast?_append]
  simp [shift]
  split <;> rfl
theorem push_ne (start : Nat) (out : List Sd) (w : Wd) (h : out ≠ []) : push start out w ≠ [] := by
  obtain ⟨l, s, rfl⟩ : ∃ l s, out = l ++ [s] := ⟨out.dropLast, out.getLast h, (List.dropLast_concat_getLast h).symm⟩
  unfold push
  rw [List.getLast?_append]
  simp

/-- Behind the first mark the states take just what the document takes. -/
theorem run_go (start : Nat) (left : List UInt8) (all : List Sd) (e : Wd) (he : isEnd e = true) : ∀ (ws : List Wd) (out : List Sd), out ≠ [] → (∀ w ∈ ws, isEnd w = false) →
    run start (ws ++ [e]) ⟨.nam, left, all ++ out.map (shift start)⟩ = (docGo left ws out).map (fun o => ⟨.fin, left, all ++ o.map (shift start)⟩)
  | [], out, h, _ => by
    show run start [e] _ = _
    unfold run step
    simp [he, run, docGo, Except.map]
  | w :: r, out, h, hw => by
    have hwe := hw w List.mem_cons_self
    have hr := fun x hx => hw x (List.mem_cons_of_mem w hx)
    show run start (w :: (r ++ [e])) _ = _
    unfold run step docGo
    simp only [hwe]
    by_cases hm : mk w 124 = true
    · have hl := (mk_len hm).1
      simp only [hm, if_true, Bool.false_eq_true, if_false, opened]
      have := run_go start left all e he r (out ++ [⟨left, [], w.place + 1⟩]) (by simp) hr
      rw [← this]
      rw [List.map_append, ← List.append_assoc, hl]
      rfl
    · simp only [hm, Bool.false_eq_true, if_false]
      have hn : nameB w = lenB w := by unfold nameB; simp at hm; rw [hm]; rfl
      rw [hn]
      by_cases hl : lenB w = true
      · simp only [hl, if_true]
        rw [push_app start all out w h]
        exact run_go start left all e he r (push 0 out w) (push_ne 0 out w h) hr
      · simp only [hl, Bool.false_eq_true, if_false]
        rfl

/-- THE STATES TAKE A LINE AS THE DOCUMENT DOES. -/
theorem run_line (start : Nat) (left : List UInt8) (all : List Sd) (e : Wd) (he : isEnd e = true) (ws : List Wd) (hw : ∀ w ∈ ws, isEnd w = false) (ha : all = [] ↔ left = []) :
    run start (ws ++ [e]) ⟨.beg, left, all⟩ = (docLine ws left e.place).map (fun o => ⟨.fin, o.2, all ++ o.1.map (shift start)⟩) := by
  match ws, hw with
  | [], _ =>
    show run start [e] _ = _
    unfold run step
    simp [he, run, docLine, Except.map]
  | w :: r, hw =>
    have hwe := hw w List.mem_cons_self
    have hr := fun x hx => hw x (List.mem_cons_of_mem w hx)
    show run start (w :: (r ++ [e])) _ = _
    unfold run step docLine
    simp only [hwe, Bool.false_eq_true, if_false]
    by_cases hm : mk w 124 = true
    · have hl := (mk_len hm).1
      simp only [hm, Bool.true_and, Bool.true_or, if_true]
      by_cases hz : left = []
      · have hz2 := ha.2 hz
        rw [if_pos hz, hz2]
        rfl
      · have hz2 : ¬ all = [] := fun h => hz (ha.1 h)
        rw [if_neg hz]
        have hz3 : (!all.isEmpty) = true := by cases all with
          | nil => exact absurd rfl hz2
          | cons => rfl
        simp only [hz3, if_true, opened]
        have := run_go start left all e he r [⟨left, [], w.place + 1⟩] (by simp) hr
        unfold docGo
        simp only [hm, if_true, List.nil_append]
        rw [hl]
        change run start (r ++ [e]) ⟨.nam, left, all ++ [⟨left, [], start + w.place + 1⟩]⟩ = _ at this
        rw [this]
        cases docGo left r [⟨left, [], w.place + 1⟩] <;> rfl
    · have hm' : mk w 124 = false := by simpa using hm
      simp only [hm', Bool.false_and, Bool.false_or, Bool.false_eq_true, if_false]
      have hn : nameB w = lenB w := by unfold nameB; rw [hm']; rfl
      rw [hn]
      by_cases hq : w.quoted = true
      · simp [hq, Except.map]
      · have hq' : w.quoted = false := by simpa using hq
        simp only [hq', Bool.false_eq_true, if_false, Bool.not_false, Bool.and_true]
        by_cases hl : lenB w = true
        · simp only [hl, if_true]
          match r, hr with
          | [], _ =>
            show run start [e] _ = _
            unfold run step
            simp [end_mk he, Except.map]
          | c :: r', hr =>
            have hr' := fun x hx => hr x (List.mem_cons_of_mem c hx)
            show run start (c :: (r' ++ [e])) _ = _
            unfold run step
            by_cases hc : mk c 58 = true
            · have hl1 := (mk_len hc).1
              simp only [hc, if_true, opened]
              have := run_go start w.text all e he r' [⟨w.text, [], c.place + 1⟩] (by simp) hr'
              rw [hl1]
              change run start (r' ++ [e]) ⟨.nam, w.text, all ++ [⟨w.text, [], start + c.place + 1⟩]⟩ = _ at this
              rw [this]
              cases docGo w.text r' [⟨w.text, [], c.place + 1⟩] <;> rfl
            · simp only [hc, Bool.false_eq_true, if_false]
              rfl
        · simp only [hl, Bool.false_eq_true, if_false]
          rfl

end Go.Proofs.YtjblkgephboajaaGreatDoor.SpecLn

namespace Go.Proofs.YtjblkgephboajaaGreatDoor.SpecMd
open GramMath GramOne LineRead LineMath SpecLn
set_option linter.unusedVariables false
set_option linter.unusedSimpArgs false

def bt (l : List UInt8) : ByteArray := ⟨l.toArray⟩
/-- A name's number, and the names with it. -/
def numS (ss : List ByteArray) (s : ByteArray) : Int := if memB s ss = true then idx ss s else (ss.length : Int)
def addN (ss : List ByteArray) (s : ByteArray) : List ByteArray := if memB s ss = true then ss else ss ++ [s]
theorem addN_len (ss : List ByteArray) (s : ByteArray) : ss.length ≤ (addN ss s).length := by
  unfold addN
  split <;> simp
/-- A name of an alternative: its symbol, and the terminals with it. -/
def symS (ns ts : List ByteArray) (w : Wd) : Int := if (memB (bt w.text) ns && !w.quoted) = true then -1 - idx ns (bt w.text) else numS ts (bt w.text)
def symT (ns ts : List ByteArray) (w : Wd) : List ByteArray := if (memB (bt w.text) ns && !w.quoted) = true then ts else addN ts (bt w.text)
theorem symT_len (ns ts : List ByteArray) (w : Wd) : ts.length ≤ (symT ns ts w).length := by
  unfold symT
  split
  · exact Nat.le_refl _
  · exact addN_len _ _

/-! All of it. -/
def ntsZ : List Sd → List ByteArray → List ByteArray
  | [], ns => ns
  | s :: r, ns => ntsZ r (addN ns (bt s.left))
def namesZ (ns : List ByteArray) : List Wd → List ByteArray → List Int → List ByteArray × List Int
  | [], ts, acc => (ts, acc)
  | w :: r, ts, acc => namesZ ns r (symT ns ts w) (acc ++ [symS ns ts w])
def rulesZ (ns : List ByteArray) : List Sd → List ByteArray → List R → List ByteArray × List R
  | [], ts, rs => (ts, rs)
  | s :: r, ts, rs => rulesZ ns r (namesZ ns s.names ts []).1 (rs ++ [⟨idx ns (bt s.left), (namesZ ns s.names ts []).2⟩])
def madeZ (l : List Sd) : G := ⟨(rulesZ (ntsZ l []) l [] []).1, ntsZ l [], 0, (rulesZ (ntsZ l []) l [] []).2⟩

/-! As the document makes it. -/
def ntsD : List Sd → List ByteArray → Bool × List ByteArray
  | [], ns => (false, ns)
  | s :: r, ns => if 60 < (addN ns (bt s.left)).length then (true, addN ns (bt s.left)) else ntsD r (addN ns (bt s.left))
def namesD (ns : List ByteArray) : List Wd → List ByteArray → List Int → Bool × List ByteArray × List Int
  | [], ts, acc => (false, ts, acc)
  | w :: r, ts, acc => if 60 < ts.length + ns.length then (true, ts, acc) else namesD ns r (symT ns ts w) (acc ++ [symS ns ts w])
def rulesD (ns : List ByteArray) : List Sd → List ByteArray → List R → List ByteArray × List R
  | [], ts, rs => (ts, rs)
  | s :: r, ts, rs => if 120 < rs.length then (ts, rs) else
    match namesD ns s.names ts [] with
    | (true, ts', _) => (ts', rs)
    | (false, ts', zs) => rulesD ns r ts' (rs ++ [⟨idx ns (bt s.left), zs⟩])
def madeD (l : List Sd) : G :=
  match ntsD l [] with
  | (true, ns) => ⟨[], ns, 0, []⟩
  | (false, ns) => ⟨(rulesD ns l [] []).1, ns, 0, (rulesD ns l [] []).2⟩

theorem ntsZ_len : ∀ (l : List Sd) (ns : List ByteArray), ns.length ≤ (ntsZ l ns).length
  | [], ns => Nat.le_refl _
  | s :: r, ns => Nat.le_trans (addN_len ns _) (ntsZ_len r _)
theorem nts_two : ∀ (l : List Sd) (ns : List ByteArray), ((ntsD l ns).1 = false ∧ (ntsD l ns).2 = ntsZ l ns) ∨ ((ntsD l ns).1 = true ∧ 60 < (ntsD l ns).2.length ∧ 60 < (ntsZ l ns).length)
  | [], ns => .inl ⟨rfl, rfl⟩
  | s :: r, ns => by
    unfold ntsD ntsZ
    split
    · rename_i h
      exact .inr ⟨rfl, h, Nat.lt_of_lt_of_le h (ntsZ_len r _)⟩
    · exact nts_two r _
theorem namesZ_len (ns : List ByteArray) : ∀ (l : List Wd) (ts : List ByteArray) (acc : List Int), ts.length ≤ (namesZ ns l ts acc).1.length
  | [], ts, acc => Nat.le_refl _
  | w :: r, ts, acc => Nat.le_trans (symT_len ns ts w) (namesZ_len ns r _ _)
theorem names_two (ns : List ByteArray) : ∀ (l : List Wd) (ts : List ByteArray) (acc : List Int), namesD ns l ts acc = (false, namesZ ns l ts acc) ∨ (∃ ts' z, namesD ns l ts acc = (true, ts', z) ∧ 60 < ts'.length + ns.length ∧ 60 < (namesZ ns l ts acc).1.length + ns.length)
  | [], ts, acc => .inl rfl
  | w :: r, ts, acc => by
    unfold namesD
    split
    · rename_i h
      have := namesZ_len ns (w :: r) ts acc
      exact .inr ⟨_, _, rfl, h, by omega⟩
    · exact names_two ns r _ _
theorem rulesZ_len (ns : List ByteArray) : ∀ (l : List Sd) (ts : List ByteArray) (rs : List R), ts.length ≤ (rulesZ ns l ts rs).1.length ∧ rs.length ≤ (rulesZ ns l ts rs).2.length
  | [], ts, rs => ⟨Nat.le_refl _, Nat.le_refl _⟩
  | s :: r, ts, rs => by
    unfold rulesZ
    obtain ⟨h1, h2⟩ := rulesZ_len ns r (namesZ ns s.names ts []).1 (rs ++ [⟨idx ns (bt s.left), (namesZ ns s.names ts []).2⟩])
    have h3 := namesZ_len ns s.names ts []
    rw [List.length_append] at h2
    exact ⟨by omega, by omega⟩
def Big (ns : List ByteArray) (x : List ByteArray × List R) : Prop := 60 < x.1.length + ns.length ∨ 120 < x.2.length
theorem rules_two (ns : List ByteArray) : ∀ (l : List Sd) (ts : List ByteArray) (rs : List R), rulesD ns l ts rs = rulesZ ns l ts rs ∨ (Big ns (rulesD ns l ts rs) ∧ Big ns (rulesZ ns l ts rs))
  | [], ts, rs => .inl rfl
  | s :: r, ts, rs => by
    have hl := rulesZ_len ns (s :: r) ts rs
    unfold rulesD
    split
    · rename_i h
      exact .inr ⟨.inr h, .inr (by omega)⟩
    · rcases names_two ns s.names ts [] with h | ⟨ts', z, h, h1, h2⟩
      · rw [h]
        exact rules_two ns r _ _
      · rw [h]
        refine .inr ⟨.inl h1, .inl ?_⟩
        have := (rulesZ_len ns r (namesZ ns s.names ts []).1 (rs ++ [⟨idx ns (bt s.left), (namesZ ns s.names ts []).2⟩])).1
        show 60 < (rulesZ ns r _ _).1.length + ns.length
        omega

theorem check_big {g : G} (h : 60 < g.ts.length + g.ns.length ∨ 120 < g.rs.length) : checkG g = (3, none) := by
  unfold checkG
  rw [if_pos h]

/-- THE SAME, OR BOTH TOO BIG. -/
theorem made_two (l : List Sd) : madeD l = madeZ l ∨ (checkG (madeD l) = (3, none) ∧ checkG (madeZ l) = (3, none)) := by
  unfold madeD
  rcases nts_two l [] with ⟨h1, h2⟩ | ⟨h1, h2, h3⟩
  · have e : ntsD l [] = (false, ntsZ l []) := Prod.ext h1 h2
    rw [e]
    rcases rules_two (ntsZ l []) l [] [] with h | ⟨hd, hz⟩
    · refine .inl ?_
      show G.mk (rulesD (ntsZ l []) l [] []).1 _ 0 (rulesD (ntsZ l []) l [] []).2 = _
      rw [h]
      rfl
    · exact .inr ⟨check_big hd, check_big hz⟩
  · obtain ⟨a, b⟩ : ∃ a, ntsD l [] = (true, a) := ⟨_, Prod.ext h1 rfl⟩
    rw [b] at h2 ⊢
    refine .inr ⟨check_big (.inl ?_), check_big (.inl ?_)⟩
    · show 60 < ([] : List ByteArray).length + a.length
      simpa using h2
    · show 60 < (rulesZ (ntsZ l []) l [] []).1.length + (ntsZ l []).length
      omega
theorem made_check (l : List Sd) : checkG (madeD l) = checkG (madeZ l) := by
  rcases made_two l with h | ⟨h1, h2⟩
  · rw [h]
  · rw [h1, h2]
theorem made_good (l : List Sd) (h : (checkG (madeZ l)).1 = 0) : madeD l = madeZ l := by
  rcases made_two l with h1 | ⟨_, h2⟩
  · exact h1
  · rw [h2] at h; cases h

end Go.Proofs.YtjblkgephboajaaGreatDoor.SpecMd

namespace Go.Proofs.YtjblkgephboajaaGreatDoor.SpecTx
open GramMath GramOne LineRead LineMath SpecLn SpecMd
set_option linter.unusedVariables false
set_option linter.unusedSimpArgs false

/-- The words of a line are no ends: one that is not quoted has letters. -/
theorem line_words : ∀ (n : Nat) (l : List UInt8) (i : Nat) (out ws : List Wd), l.length ≤ n → WordsMath.lineL l i out = .ok ws → (∀ w ∈ out, isEnd w = false) → ∀ w ∈ ws, isEnd w = false := by
  intro n
  induction n with
  | zero =>
    intro l i out ws hn h ho
    cases l with
    | nil => rw [WordsMath.lineL] at h; cases h; exact ho
    | cons c r => simp at hn
  | succ n ih =>
    intro l i out ws hn h ho
    cases l with
    | nil => rw [WordsMath.lineL] at h; cases h; exact ho
    | cons c r =>
      simp at hn
      rw [WordsMath.lineL] at h
      split at h
      · exact ih r (i + 1) out ws hn h ho
      · split at h
        · cases h; exact ho
        · split at h
          · cases hu : WordsMath.unqE r (i + 1) with
            | error p => rw [hu] at h; cases h
            | ok te =>
              rw [hu] at h
              refine ih _ _ _ ws (by rw [List.length_drop]; omega) h ?_
              intro w hw
              rcases List.mem_append.1 hw with hw | hw
              · exact ho w hw
              · simp at hw
                rw [hw]
                rfl
          · split at h
            · split at h
              · refine ih _ _ _ ws (by rw [List.length_drop]; omega) h ?_
                intro w hw
                rcases List.mem_append.1 hw with hw | hw
                · exact ho w hw
                · simp at hw
                  rw [hw]
                  rfl
              · cases h
            · cases h

/-- A text cut at each end of a line: one piece more than there are ends. -/
def splitGo : List UInt8 → List UInt8 → List (List UInt8)
  | cur, [] => [cur]
  | cur, c :: r => if c = 10 then cur :: splitGo [] r else splitGo (cur ++ [c]) r
/-- The word that stands for a line's end. -/
def endW (l : List UInt8) : Wd := ⟨[], false, l.length⟩

def textP : List (List UInt8) → Nat → List UInt8 → List Sd → Except Nat (List Sd)
  | [], start, left, all => .ok all
  | l :: ls, start, left, all =>
    if 1048576 < l.length then .error (start + 1048576)
    else match WordsMath.lineL l 0 [] with
      | .error p => .error (start + p)
      | .ok ws => match run start (ws ++ [endW l]) ⟨.beg, left, all⟩ with
        | .error p => .error (start + p)
        | .ok q => textP ls (start + l.length + 1) q.left q.rs
def lastL (all : List Sd) : List UInt8 := match all.getLast? with | none => [] | some s => s.left
def textD : List (List UInt8) → Nat → List Sd → Except Nat (List Sd)
  | [], start, all => .ok all
  | l :: ls, start, all =>
    if 1048576 < l.length then .error (start + 1048576)
    else match WordsMath.lineL l 0 [] with
      | .error p => .error (start + p)
      | .ok ws => match docLine ws (lastL all) l.length with
        | .error p => .error (start + p)
        | .ok o => textD ls (start + l.length + 1) (all ++ o.1.map (shift start))
/-- The alternatives of a text; or the place that is wrong. -/
def sidesZ (t : List UInt8) : Except Nat (List Sd) :=
  match textP (splitGo [] t) 0 [] [] with
  | .error p => .error p
  | .ok all => if all = [] then .error t.length else .ok all

theorem push_last (start : Nat) (out : List Sd) (w : Wd) : lastL (push start out w) = lastL out := by
  unfold lastL push
  cases h : out.getLast? with
  | none => simp only [h]
  | some s => simp
theorem go_last (left : List UInt8) : ∀ (ws : List Wd) (out o : List Sd), docGo left ws out = .ok o → out ≠ [] → lastL out = left → o ≠ [] ∧ lastL o = left
  | [], out, o, h, hn, hl => by cases h; exact ⟨hn, hl⟩
  | w :: r, out, o, h, hn, hl => by
    unfold docGo at h
    split at h
    · exact go_last left r _ o h (by simp) (by unfold lastL; simp)
    · split at h
      · exact go_last left r _ o h (push_ne 0 out w hn) (by rw [push_last]; exact hl)
      · cases h
theorem name_ne {w : Wd} (h : nameB w = true) : w.text ≠ [] := by
  unfold nameB lenB at h
  simp at h
  intro e
  have := h.2.2.1
  rw [e] at this
  exact absurd this (by simp)
theorem line_last {ws : List Wd} {left : List UInt8} {stop : Nat} {o : List Sd × List UInt8} (h : docLine ws left stop = .ok o) : (o.1 = [] ∧ o.2 = left) ∨ (o.1 ≠ [] ∧ lastL o.1 = o.2 ∧ o.2 ≠ []) := by
  cases ws with
  | nil => cases h; exact .inl ⟨rfl, rfl⟩
  | cons w r =>
    refine .inr ?_
    unfold docLine at h
    by_cases hm : mk w 124 = true
    · simp only [hm, if_true] at h
      by_cases hz : left = []
      · rw [if_pos hz] at h; cases h
      · rw [if_neg hz] at h
        cases hg : docGo left (w :: r) [] with
        | error e => rw [hg] at h; cases h
        | ok x =>
          rw [hg] at h
          cases h
          unfold docGo at hg
          simp only [hm, if_true] at hg
          obtain ⟨h1, h2⟩ := go_last left r _ x hg (by simp) (by unfold lastL; simp)
          exact ⟨h1, h2, hz⟩
    · simp only [hm, Bool.false_eq_true, if_false] at h
      by_cases hn : (nameB w && !w.quoted) = true
      · simp only [hn, if_true] at h
        have hne := name_ne (w := w) (by simp at hn; exact hn.1)
        cases r with
        | nil => cases h
        | cons c r' =>
          simp only at h
          by_cases hc : mk c 58 = true
          · simp only [hc, if_true] at h
            cases hg : docGo w.text r' [⟨w.text, [], c.place + 1⟩] with
            | error e => rw [hg] at h; cases h
            | ok x =>
              rw [hg] at h
              cases h
              obtain ⟨h1, h2⟩ := go_last w.text r' _ x hg (by simp) (by unfold lastL; simp)
              exact ⟨h1, h2, hne⟩
          · simp only [hc, Bool.false_eq_true, if_false] at h
            cases h
      · simp only [hn, Bool.false_eq_true, if_false] at h
        cases h
theorem last_app {all out : List Sd} (start : Nat) (h : out ≠ []) : lastL (all ++ out.map (shift start)) = lastL out := by
  obtain ⟨l, s, rfl⟩ : ∃ l s, out = l ++ [s] := ⟨out.dropLast, out.getLast h, (List.dropLast_concat_getLast h).symm⟩
  unfold lastL
  rw [List.map_append, List.map_cons, List.map_nil, ← List.append_assoc, List.getLast?_append, List.getLast?_append]
  simp [shift]

/-- THE STATES READ A TEXT AS THE DOCUMENT DOES. -/
theorem text_two : ∀ (ls : List (List UInt8)) (start : Nat) (left : List UInt8) (all : List Sd), (all = [] ↔ left = []) → lastL all = left → textP ls start left all = textD ls start all
  | [], _, _, _, _, _ => rfl
  | l :: ls, start, left, all, ha, hl => by
    unfold textP textD
    split
    · rfl
    · cases hw : WordsMath.lineL l 0 [] with
      | error p => rfl
      | ok ws =>
        simp only
        rw [run_line start left all (endW l) rfl ws (line_words _ l 0 [] ws (Nat.le_refl _) hw (by simp)) ha, hl]
        rw [show (endW l).place = l.length from rfl]
        cases hd : docLine ws left l.length with
        | error p => rfl
        | ok o =>
          simp only [Except.map]
          refine text_two ls _ o.2 _ ?_ ?_
          · rcases line_last hd with ⟨h1, h2⟩ | ⟨h1, h2, h3⟩
            · rw [h1, h2]
              simpa using ha
            · simp [h1, h3]
          · rcases line_last hd with ⟨h1, h2⟩ | ⟨h1, h2, h3⟩
            · rw [h1, h2]
              simpa using hl
            · rw [last_app start h1]
              exact h2
theorem sides_two (t : List UInt8) : textP (splitGo [] t) 0 [] [] = textD (splitGo [] t) 0 [] := text_two _ 0 [] [] (by simp) rfl

/-- What a text comes to: an error's place; what Check says of the grammar; or the grammar and the places. -/
inductive Sz where
  | syn (p : Nat) | chk (k : Nat × Option Nat) | ok (g : G) (ps : List Nat)
def specZ (t : List UInt8) : Sz :=
  match sidesZ t with
  | .error p => .syn p
  | .ok all => if (checkG (madeZ all)).1 = 0 then .ok (madeZ all) (all.map Sd.at_) else .chk (checkG (madeZ all))
end Go.Proofs.YtjblkgephboajaaGreatDoor.SpecTx

namespace Go.Proofs.YtjblkgephboajaaGreatDoor.SpecNm
open GramMath GramOne LineRead LineMath SpecLn SpecMd SpecTx
set_option linter.unusedVariables false
set_option linter.unusedSimpArgs false

theorem idx_in {ss : List ByteArray} {s : ByteArray} (h : memB s ss = true) : ∃ k : Nat, idx ss s = (k : Int) ∧ ss[k]? = some s ∧ (∀ j, j < k → ss[j]? ≠ some s) ∧ k < ss.length := by
  rcases idx_cases ss s with ⟨_, h2⟩ | ⟨k, h1, h2, h3, _⟩
  · rw [h] at h2; cases h2
  · exact ⟨k, h1, h2, h3, (List.getElem?_eq_some_iff.1 h2).1⟩
/-! What the document asks of a right side's symbols, and of rules, one after another. -/
/-- The terminals after a right side, if they come in order. -/
def termsGo : List Int → Nat → Option Nat
  | [], t => some t
  | x :: r, t => if (t : Int) < x then none else termsGo r (if x = (t : Int) then t + 1 else t)
/-- Nonterminals and terminals after rules, if they come in order. -/
def rulesGo : List R → Nat → Nat → Option (Nat × Nat)
  | [], n, t => some (n, t)
  | r :: l, n, t => if (n : Int) < r.left then none else match termsGo r.right t with
    | none => none
    | some t' => rulesGo l (if r.left = (n : Int) then n + 1 else n) t'
end Go.Proofs.YtjblkgephboajaaGreatDoor.SpecNm

namespace Go.Proofs.YtjblkgephboajaaGreatDoor.SpecPl
open GramMath GramOne LineRead LineMath SpecLn SpecMd SpecTx
set_option linter.unusedVariables false
set_option linter.unusedSimpArgs false

/-- Places that rise, none past m. -/
def Rise (out : List Sd) (m : Nat) : Prop := out.Pairwise (fun a b => a.at_ < b.at_) ∧ ∀ s ∈ out, s.at_ ≤ m
theorem Rise.mono {out : List Sd} {m n : Nat} (h : Rise out m) (hn : m ≤ n) : Rise out n := ⟨h.1, fun s hs => Nat.le_trans (h.2 s hs) hn⟩
theorem Rise.snoc {out : List Sd} {m : Nat} (h : Rise out m) (s : Sd) (hs : m < s.at_) : Rise (out ++ [s]) s.at_ := by
  refine ⟨List.pairwise_append.2 ⟨h.1, List.pairwise_singleton _ _, fun a ha b hb => ?_⟩, fun a ha => ?_⟩
  · simp at hb
    rw [hb]
    exact Nat.lt_of_le_of_lt (h.2 a ha) hs
  · rcases List.mem_append.1 ha with ha | ha
    · exact Nat.le_trans (h.2 a ha) (Nat.le_of_lt hs)
    · simp at ha
      rw [ha]
      exact Nat.le_refl _
theorem Rise.push {out : List Sd} {m : Nat} (h : Rise out m) (w : Wd) (hw : m ≤ w.place) : Rise (push 0 out w) w.place := by
  unfold SpecLn.push
  cases hg : out.getLast? with
  | none => exact h.mono hw
  | some s =>
    have hne : out ≠ [] := by intro e; rw [e] at hg; cases hg
    obtain ⟨l, rfl⟩ : ∃ l, out = l ++ [s] := by
      obtain ⟨l, x, rfl⟩ : ∃ l x, out = l ++ [x] := ⟨out.dropLast, out.getLast hne, (List.dropLast_concat_getLast hne).symm⟩
      rw [List.getLast?_append] at hg
      simp at hg
      exact ⟨l, by rw [hg]⟩
    rw [List.dropLast_concat]
    obtain ⟨h1, h2⟩ := h
    rw [List.pairwise_append] at h1
    have hsm := h2 s (by simp)
    refine ⟨List.pairwise_append.2 ⟨h1.1, List.pairwise_singleton _ _, fun a ha b hb => ?_⟩, fun a ha => ?_⟩
    · simp at hb
      have := h1.2.2 a ha s (by simp)
      rw [hb]
      simp only
      split <;> omega
    · rcases List.mem_append.1 ha with ha | ha
      · exact Nat.le_trans (h2 a (List.mem_append.2 (.inl ha))) hw
      · simp at ha
        rw [ha]
        simp only
        split <;> omega
theorem go_rise (left : List UInt8) (b : Nat) : ∀ (ws : List Wd) (out o : List Sd) (m : Nat), ws.Pairwise (fun a b => a.place < b.place) → (∀ w ∈ ws, m ≤ w.place ∧ w.place < b) → m ≤ b → Rise out m → docGo left ws out = .ok o → Rise o b
  | [], out, o, m, _, _, hm, h, e => by cases e; exact h.mono hm
  | w :: r, out, o, m, hp, hw, hm, h, e => by
    rw [List.pairwise_cons] at hp
    have h0 := hw w List.mem_cons_self
    have hr : ∀ x ∈ r, w.place + 1 ≤ x.place ∧ x.place < b := fun x hx => ⟨hp.1 x hx, (hw x (List.mem_cons_of_mem w hx)).2⟩
    unfold docGo at e
    split at e
    · exact go_rise left b r _ o (w.place + 1) hp.2 hr (by omega) (h.snoc ⟨left, [], w.place + 1⟩ (by show m < w.place + 1; omega)) e
    · split at e
      · exact go_rise left b r _ o (w.place + 1) hp.2 hr (by omega) ((h.push w h0.1).mono (by omega)) e
      · cases e
theorem go_err (left : List UInt8) : ∀ (ws : List Wd) (out : List Sd) (p : Nat), docGo left ws out = .error p → ∃ w ∈ ws, p = w.place
  | [], out, p, e => by cases e
  | w :: r, out, p, e => by
    unfold docGo at e
    split at e
    · obtain ⟨x, hx, h⟩ := go_err left r _ p e
      exact ⟨x, List.mem_cons_of_mem w hx, h⟩
    · split at e
      · obtain ⟨x, hx, h⟩ := go_err left r _ p e
        exact ⟨x, List.mem_cons_of_mem w hx, h⟩
      · cases e
        exact ⟨w, List.mem_cons_self, rfl⟩
theorem line_rise {ws : List Wd} {left : List UInt8} {b : Nat} (hp : ws.Pairwise (fun a b => a.place < b.place)) (hw : ∀ w ∈ ws, w.place < b) : (∀ o, docLine ws left b = .ok o → Rise o.1 b) ∧ (∀ p, docLine ws left b = .error p → p ≤ b) := by
  have nil : ∀ m, Rise [] m := fun m => ⟨List.Pairwise.nil, fun s hs => by cases hs⟩
  cases ws with
  | nil => exact ⟨fun o h => (by cases h; exact nil b), fun p h => (by cases h)⟩
  | cons w r =>
    have hp2 := List.pairwise_cons.1 hp
    have hwb := hw w List.mem_cons_self
    have hrb := fun x hx => hw x (List.mem_cons_of_mem w hx)
    unfold docLine
    by_cases hm : mk w 124 = true
    · simp only [hm, if_true]
      by_cases hz : left = []
      · rw [if_pos hz]
        exact ⟨fun o h => (by cases h), fun p h => (by cases h; omega)⟩
      · rw [if_neg hz]
        cases hg : docGo left (w :: r) [] with
        | error e =>
          refine ⟨fun o h => (by cases h), fun p h => ?_⟩
          cases h
          obtain ⟨x, hx, h⟩ := go_err left _ _ _ hg
          have := hw x hx
          omega
        | ok x =>
          refine ⟨fun o h => ?_, fun p h => (by cases h)⟩
          cases h
          exact go_rise left b (w :: r) [] x 0 hp (fun y hy => ⟨Nat.zero_le _, hw y hy⟩) (Nat.zero_le _) (nil 0) hg
    · simp only [hm, Bool.false_eq_true, if_false]
      by_cases hn : (nameB w && !w.quoted) = true
      · simp only [hn, if_true]
        cases r with
        | nil => exact ⟨fun o h => (by cases h), fun p h => (by cases h; omega)⟩
        | cons c r' =>
          have hp3 := List.pairwise_cons.1 hp2.2
          have hcb := hrb c List.mem_cons_self
          simp only
          by_cases hc : mk c 58 = true
          · simp only [hc, if_true]
            cases hg : docGo w.text r' [⟨w.text, [], c.place + 1⟩] with
            | error e =>
              refine ⟨fun o h => (by cases h), fun p h => ?_⟩
              cases h
              obtain ⟨x, hx, h⟩ := go_err _ _ _ _ hg
              have := hrb x (List.mem_cons_of_mem c hx)
              omega
            | ok x =>
              refine ⟨fun o h => ?_, fun p h => (by cases h)⟩
              cases h
              exact go_rise w.text b r' _ x (c.place + 1) hp3.2 (fun y hy => ⟨hp3.1 y hy, hrb y (List.mem_cons_of_mem c hy)⟩) (by omega) ((nil (c.place)).snoc ⟨w.text, [], c.place + 1⟩ (by show c.place < c.place + 1; omega)) hg
          · simp only [hc, Bool.false_eq_true, if_false]
            exact ⟨fun o h => (by cases h), fun p h => (by cases h; omega)⟩
      · simp only [hn, Bool.false_eq_true, if_false]
        exact ⟨fun o h => (by cases h), fun p h => (by cases h; omega)⟩

/-- How long lines are, with their ends. -/
def total : List (List UInt8) → Nat
  | [] => 0
  | l :: ls => l.length + 1 + total ls
theorem total_split : ∀ (r cur : List UInt8), total (splitGo cur r) = cur.length + r.length + 1
  | [], cur => by simp [splitGo, total]
  | c :: r, cur => by
    unfold splitGo
    split
    · unfold total
      rw [total_split r []]
      simp
      omega
    · rw [total_split r (cur ++ [c])]
      simp
      omega
theorem text_rise : ∀ (ls : List (List UInt8)) (start : Nat) (all : List Sd), all.Pairwise (fun a b => a.at_ < b.at_) → (∀ s ∈ all, s.at_ < start) →
    (∀ o, textD ls start all = .ok o → o.Pairwise (fun a b => a.at_ < b.at_) ∧ ∀ s ∈ o, s.at_ < start + total ls) ∧ (∀ p, textD ls start all = .error p → p < start + total ls)
  | [], start, all, h1, h2 => ⟨fun o h => (by cases h; exact ⟨h1, h2⟩), fun p h => (by cases h)⟩
  | l :: ls, start, all, h1, h2 => by
    unfold textD total
    split
    · exact ⟨fun o h => (by cases h), fun p h => (by cases h; omega)⟩
    · cases hl : WordsMath.lineL l 0 [] with
      | error e =>
        refine ⟨fun o h => (by cases h), fun p h => ?_⟩
        cases h
        have := (WordsMath.lineL_err _ l 0 [] e (Nat.le_refl _) hl).2
        omega
      | ok ws =>
        obtain ⟨more, e, hp, hw⟩ := WordsMath.lineL_ok _ l 0 [] ws (Nat.le_refl _) hl
        rw [List.nil_append] at e
        subst e
        obtain ⟨k1, k2⟩ := line_rise (left := lastL all) (b := l.length) hp (fun w hw' => by have := (hw w hw').2; omega)
        simp only
        cases hd : docLine ws (lastL all) l.length with
        | error e =>
          refine ⟨fun o h => (by cases h), fun p h => ?_⟩
          cases h
          have := k2 e hd
          omega
        | ok o =>
          simp only
          have hR := k1 o hd
          have ih := text_rise ls (start + l.length + 1) (all ++ o.1.map (shift start)) (by
            refine List.pairwise_append.2 ⟨h1, List.pairwise_map.2 (hR.1.imp (fun {a b} h => by show start + a.at_ < start + b.at_; omega)), fun a ha b hb => ?_⟩
            obtain ⟨x, _, rfl⟩ := List.mem_map.1 hb
            have := h2 a ha
            show a.at_ < start + x.at_
            omega) (fun s hs => by
            rcases List.mem_append.1 hs with hs | hs
            · have := h2 s hs
              omega
            · obtain ⟨x, hx, rfl⟩ := List.mem_map.1 hs
              have := hR.2 x hx
              show start + x.at_ < _
              omega)
          have et : start + l.length + 1 + total ls = start + (l.length + 1 + total ls) := by omega
          rw [et] at ih
          exact ih
/-- PLACES RISE AND LIE WITHIN THE TEXT. -/
theorem sides_rise (t : List UInt8) : (∀ all, sidesZ t = .ok all → all ≠ [] ∧ all.Pairwise (fun a b => a.at_ < b.at_) ∧ ∀ s ∈ all, s.at_ ≤ t.length) ∧ (∀ p, sidesZ t = .error p → p ≤ t.length) := by
  obtain ⟨h1, h2⟩ := text_rise (splitGo [] t) 0 [] List.Pairwise.nil (fun s hs => by cases hs)
  rw [total_split, ← sides_two] at *
  unfold sidesZ
  cases hx : textP (splitGo [] t) 0 [] [] with
  | error p =>
    refine ⟨fun all h => (by cases h), fun q h => ?_⟩
    cases h
    have := h2 p hx
    simp at this
    omega
  | ok o =>
    obtain ⟨a, b⟩ := h1 o hx
    by_cases ho : o = []
    · simp only [if_pos ho]
      exact ⟨fun all h => (by cases h), fun q h => (by cases h; exact Nat.le_refl _)⟩
    · simp only [if_neg ho]
      refine ⟨fun all h => ?_, fun q h => (by cases h)⟩
      cases h
      exact ⟨ho, a, fun s hs => by have := b s hs; simp at this; omega⟩

end Go.Proofs.YtjblkgephboajaaGreatDoor.SpecPl

namespace Go.Proofs.YtjblkgephboajaaGreatDoor.SpecMo
open GramMath GramOne LineRead LineMath SpecLn SpecMd SpecTx SpecPl
set_option linter.unusedVariables false
set_option linter.unusedSimpArgs false

end Go.Proofs.YtjblkgephboajaaGreatDoor.SpecMo

namespace Go.Proofs.YtjblkgephboajaaGreatDoor.WordsMath
open WordsBytes

def nq (x : W) : List UInt8 × Bool := (x.text, x.quoted || !plainW x.text)

end Go.Proofs.YtjblkgephboajaaGreatDoor.WordsMath

namespace Go.Proofs.YtjblkgephboajaaGreatDoor.SpecSp
open GramMath GramOne LineRead LineMath SpecLn SpecMd SpecTx SpecPl WordsMath
set_option linter.unusedVariables false
set_option linter.unusedSimpArgs false

/-- A byte by its two digits. -/
def hexE (c : UInt8) : List UInt8 := [92, 120, hexB (c.toNat / 16), hexB (c.toNat % 16)]
def qL (t : List UInt8) : List UInt8 := 34 :: (t.flatMap hexE ++ [34])
def prW (w : Wd) : List UInt8 × Bool := (w.text, w.quoted)
def tailL : List UInt8 := [32, 35, 32, 34, 32, 124]
def spW (w : Wd) : List UInt8 := 9 :: 32 :: (if w.quoted then qL w.text else w.text)
def spread (ws : List Wd) : List UInt8 := ws.flatMap spW ++ tailL

end Go.Proofs.YtjblkgephboajaaGreatDoor.SpecSp
