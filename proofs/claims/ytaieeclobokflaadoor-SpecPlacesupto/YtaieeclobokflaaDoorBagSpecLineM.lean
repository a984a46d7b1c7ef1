/-
  Texts that stand together: SpecLineM, SpecMadeM, SpecTextM, SpecNumM.
-/
import Derived.Test.YtaieeclobokflaaDoorBagGramRefs
namespace Go.Proofs.YtaieeclobokflaaDoor.LineRead
/-- A name for the namespace, so that it may be opened where a program has no reader of lines. -/
def here : Bool := true
end Go.Proofs.YtaieeclobokflaaDoor.LineRead
namespace Go.Proofs.YtaieeclobokflaaDoor.SpecLn
open Go.Proofs.YtaieeclobokflaaDoor.LineRead Go.Proofs.YtaieeclobokflaaDoor.LineMath
set_option linter.unusedVariables false
set_option linter.unusedSimpArgs false

/-- An alternative: whose, its names, where it begins. -/
structure Sd where
  left : List UInt8
  names : List Wd
  at_ : Nat
def mk (w : Wd) (c : UInt8) : Bool := !w.quoted && (w.text == [c])
def isEnd (w : Wd) : Bool := !w.quoted && (w.text == [])
/-- May a word be a name, by its length, and as it is no colon? -/
def lenB (w : Wd) : Bool := !mk w 58 && (decide (0 < w.text.length) && decide (w.text.length ≤ 32))
def nameB (w : Wd) : Bool := !mk w 124 && lenB w
def shift (start : Nat) (s : Sd) : Sd := ⟨s.left, s.names, start + s.at_⟩
/-- A name more for the last alternative. -/
def push (start : Nat) (out : List Sd) (w : Wd) : List Sd :=
  match out.getLast? with
  | none => out
  | some s => out.dropLast ++ [⟨s.left, s.names ++ [w], if s.names = [] then start + w.place else s.at_⟩]

inductive St where
  | beg | col | nam | fin
structure PS where
  st : St
  left : List UInt8
  rs : List Sd
def opened (start : Nat) (left : List UInt8) (rs : List Sd) (w : Wd) : PS := ⟨.nam, left, rs ++ [⟨left, [], start + w.place + w.text.length⟩]⟩
/-- One word taken by a state; or the place in the line that is wrong. -/
def step (start : Nat) (p : PS) (w : Wd) : Except Nat PS :=
  match p.st with
  | .beg => if isEnd w then .ok ⟨.fin, p.left, p.rs⟩
    else if mk w 124 && !p.rs.isEmpty then .ok (opened start p.left p.rs w)
    else if mk w 124 || w.quoted then .error w.place
    else if lenB w then .ok ⟨.col, w.text, p.rs⟩ else .error w.place
  | .col => if mk w 58 then .ok (opened start p.left p.rs w) else .error w.place
  | .nam => if isEnd w then .ok ⟨.fin, p.left, p.rs⟩
    else if mk w 124 then .ok (opened start p.left p.rs w)
    else if lenB w then .ok ⟨.nam, p.left, push start p.rs w⟩ else .error w.place
  | .fin => .ok p
def run (start : Nat) : List Wd → PS → Except Nat PS
  | [], p => .ok p
  | w :: r, p => match step start p w with
    | .error e => .error e
    | .ok p' => run start r p'

/-- The document's: the rest of a line, behind its first mark. -/
def docGo (left : List UInt8) : List Wd → List Sd → Except Nat (List Sd)
  | [], out => .ok out
  | w :: r, out => if mk w 124 then docGo left r (out ++ [⟨left, [], w.place + 1⟩])
    else if nameB w then docGo left r (push 0 out w) else .error w.place
/-- The document's: a line that has words. -/
def docLine (ws : List Wd) (left : List UInt8) (stop : Nat) : Except Nat (List Sd × List UInt8) :=
  match ws with
  | [] => .ok ([], left)
  | w :: r =>
    if mk w 124 then if left = [] then .error w.place else (docGo left (w :: r) []).map (·, left)
    else if nameB w && !w.quoted then
      match r with
      | [] => .error stop
      | c :: r' => if mk c 58 then (docGo w.text r' [⟨w.text, [], c.place + 1⟩]).map (·, w.text) else .error c.place
    else .error w.place

theorem mk_len {w : Wd} {c : UInt8} (h : mk w c = true) : w.text.length = 1 ∧ w.quoted = false := by
  unfold mk at h
  simp at h
  rw [h.2]
  exact ⟨rfl, h.1⟩
theorem end_mk {w : Wd} {c : UInt8} (h : isEnd w = true) : mk w c = false := by
  unfold isEnd at h
  unfold mk
  simp at h ⊢
  intro _
  rw [h.2]
  simp
theorem push_app (start : Nat) (all out : List Sd) (w : Wd) (h : out ≠ []) : push start (all ++ out.map (shift start)) w = all ++ (push 0 out w).map (shift start) := by
  obtain ⟨l, s, rfl⟩ : ∃ l s, out = l ++ [s] := ⟨out.dropLast, out.getLast h, (List.dropLast_concat_getLast h).symm⟩
  unfold push
  rw [List.map_append, List.map_cons, List.map_nil, ← List.append_assoc, List.getLast?_append, List.getLast?_append]
  simp [shift]
  split <;> rfl
theorem push_ne (start : Nat) (out : List Sd) (w : Wd) (h : out ≠ []) : push start out w ≠ [] := by
  obtain ⟨l, s, rfl⟩ : ∃ l s, out = l ++ [s] := ⟨out.dropLast, out.getLast h, (List.dropLast_concat_getLast h).symm⟩
  unfold push
  rw [List.getLast?_append]
  simp

/-- Behind the first mark the states take just what the document takes. -/
theorem run_go (start : Nat) (left : List UInt8) (all : List Sd) (e : Wd) (he : isEnd e = true) : ∀ (ws : List Wd) (out : List Sd), out ≠ [] → (∀ w ∈ ws, isEnd w = false) →
    run start (ws ++ [e]) ⟨.nam, left, all ++ out.map (shift start)⟩ = (docGo left ws out).map (fun o => ⟨.fin, left, all ++ o.map (shift start)⟩)
  | [], out, h, _ => by
    show run start [e] _ = _
    unfold run step
    simp [he, run, docGo, Except.map]
  | w :: r, out, h, hw => by
    have hwe := hw w List.mem_cons_self
    have hr := fun x hx => hw x (List.mem_cons_of_mem w hx)
    show run start (w :: (r ++ [e])) _ = _
    unfold run step docGo
    simp only [hwe]
    by_cases hm : mk w 124 = true
    · have hl := (mk_len hm).1
      simp only [hm, if_true, Bool.false_eq_true, if_false, opened]
      have := run_go start left all e he r (out ++ [⟨left, [], w.place + 1⟩]) (by simp) hr
      rw [← this]
      rw [List.map_append, ← List.append_assoc, hl]
      rfl
    · simp only [hm, Bool.false_eq_true, if_false]
      have hn : nameB w = lenB w := by unfold nameB; simp at hm; rw [hm]; rfl
      rw [hn]
      by_cases hl : lenB w = true
      · simp only [hl, if_true]
        rw [push_app start all out w h]
        exact run_go start left all e he r (push 0 out w) (push_ne 0 out w h) hr
      · simp only [hl, Bool.false_eq_true, if_false]
        rfl

/-- THE STATES TAKE A LINE AS THE DOCUMENT DOES. -/
theorem run_line (start : Nat) (left : List UInt8) (all : List Sd) (e : Wd) (he : isEnd e = true) (ws : List Wd) (hw : ∀ w ∈ ws, isEnd w = false) (ha : all = [] ↔ left = []) :
    run start (ws ++ [e]) ⟨.beg, left, all⟩ = (docLine ws left e.place).map (fun o => ⟨.fin, o.2, all ++ o.1.map (shift start)⟩) := by
  match ws, hw with
  | [], _ =>
    show run start [e] _ = _
    unfold run step
    simp [he, run, docLine, Except.map]
  | w :: r, hw =>
    have hwe := hw w List.mem_cons_self
    have hr := fun x hx => hw x (List.mem_cons_of_mem w hx)
    show run start (w :: (r ++ [e])) _ = _
    unfold run step docLine
    simp only [hwe, Bool.false_eq_true, if_false]
    by_cases hm : mk w 124 = true
    · have hl := (mk_len hm).1
      simp only [hm, Bool.true_and, Bool.true_or, if_true]
      by_cases hz : left = []
      · have hz2 := ha.2 hz
        rw [if_pos hz, hz2]
        rfl
      · have hz2 : ¬ all = [] := fun h => hz (ha.1 h)
        rw [if_neg hz]
        have hz3 : (!all.isEmpty) = true := by cases all with
          | nil => exact absurd rfl hz2
          | cons => rfl
        simp only [hz3, if_true, opened]
        have := run_go start left all e he r [⟨left, [], w.place + 1⟩] (by simp) hr
        unfold docGo
        simp only [hm, if_true, List.nil_append]
        rw [hl]
        change run start (r ++ [e]) ⟨.nam, left, all ++ [⟨left, [], start + w.place + 1⟩]⟩ = _ at this
        rw [this]
        cases docGo left r [⟨left, [], w.place + 1⟩] <;> rfl
    · have hm' : mk w 124 = false := by simpa using hm
      simp only [hm', Bool.false_and, Bool.false_or, Bool.false_eq_true, if_false]
      have hn : nameB w = lenB w := by unfold nameB; rw [hm']; rfl
      rw [hn]
      by_cases hq : w.quoted = true
      · simp [hq, Except.map]
      · have hq' : w.quoted = false := by simpa using hq
        simp only [hq', Bool.false_eq_true, if_false, Bool.not_false, Bool.and_true]
        by_cases hl : lenB w = true
        · simp only [hl, if_true]
          match r, hr with
          | [], _ =>
            show run start [e] _ = _
            unfold run step
            simp [end_mk he, Except.map]
          | c :: r', hr =>
            have hr' := fun x hx => hr x (List.mem_cons_of_mem c hx)
            show run start (c :: (r' ++ [e])) _ = _
            unfold run step
            by_cases hc : mk c 58 = true
            · have hl1 := (mk_len hc).1
              simp only [hc, if_true, opened]
              have := run_go start w.text all e he r' [⟨w.text, [], c.place + 1⟩] (by simp) hr'
              rw [hl1]
              change run start (r' ++ [e]) ⟨.nam, w.text, all ++ [⟨w.text, [], start + c.place + 1⟩]⟩ = _ at this
              rw [this]
              cases docGo w.text r' [⟨w.text, [], c.place + 1⟩] <;> rfl
            · simp only [hc, Bool.false_eq_true, if_false]
              rfl
        · simp only [hl, Bool.false_eq_true, if_false]
          rfl

end Go.Proofs.YtaieeclobokflaaDoor.SpecLn

namespace Go.Proofs.YtaieeclobokflaaDoor.SpecMd
open Go.Proofs.YtaieeclobokflaaDoor.GramMath Go.Proofs.YtaieeclobokflaaDoor.GramOne Go.Proofs.YtaieeclobokflaaDoor.LineRead Go.Proofs.YtaieeclobokflaaDoor.LineMath Go.Proofs.YtaieeclobokflaaDoor.SpecLn
set_option linter.unusedVariables false
set_option linter.unusedSimpArgs false

def bt (l : List UInt8) : ByteArray := ⟨l.toArray⟩
/-- A name's number, and the names with it. -/
def numS (ss : List ByteArray) (s : ByteArray) : Int := if memB s ss = true then idx ss s else (ss.length : Int)
def addN (ss : List ByteArray) (s : ByteArray) : List ByteArray := if memB s ss = true then ss else ss ++ [s]
/-- A name of an alternative: its symbol, and the terminals with it. -/
def symS (ns ts : List ByteArray) (w : Wd) : Int := if (memB (bt w.text) ns && !w.quoted) = true then -1 - idx ns (bt w.text) else numS ts (bt w.text)
def symT (ns ts : List ByteArray) (w : Wd) : List ByteArray := if (memB (bt w.text) ns && !w.quoted) = true then ts else addN ts (bt w.text)
/-! All of it. -/
def ntsZ : List Sd → List ByteArray → List ByteArray
  | [], ns => ns
  | s :: r, ns => ntsZ r (addN ns (bt s.left))
def namesZ (ns : List ByteArray) : List Wd → List ByteArray → List Int → List ByteArray × List Int
  | [], ts, acc => (ts, acc)
  | w :: r, ts, acc => namesZ ns r (symT ns ts w) (acc ++ [symS ns ts w])
def rulesZ (ns : List ByteArray) : List Sd → List ByteArray → List R → List ByteArray × List R
  | [], ts, rs => (ts, rs)
  | s :: r, ts, rs => rulesZ ns r (namesZ ns s.names ts []).1 (rs ++ [⟨idx ns (bt s.left), (namesZ ns s.names ts []).2⟩])
def madeZ (l : List Sd) : G := ⟨(rulesZ (ntsZ l []) l [] []).1, ntsZ l [], 0, (rulesZ (ntsZ l []) l [] []).2⟩

/-! As the document makes it. -/
def ntsD : List Sd → List ByteArray → Bool × List ByteArray
  | [], ns => (false, ns)
  | s :: r, ns => if 60 < (addN ns (bt s.left)).length then (true, addN ns (bt s.left)) else ntsD r (addN ns (bt s.left))
def namesD (ns : List ByteArray) : List Wd → List ByteArray → List Int → Bool × List ByteArray × List Int
  | [], ts, acc => (false, ts, acc)
  | w :: r, ts, acc => if 60 < ts.length + ns.length then (true, ts, acc) else namesD ns r (symT ns ts w) (acc ++ [symS ns ts w])
def rulesD (ns : List ByteArray) : List Sd → List ByteArray → List R → List ByteArray × List R
  | [], ts, rs => (ts, rs)
  | s :: r, ts, rs => if 120 < rs.length then (ts, rs) else
    match namesD ns s.names ts [] with
    | (true, ts', _) => (ts', rs)
    | (false, ts', zs) => rulesD ns r ts' (rs ++ [⟨idx ns (bt s.left), zs⟩])
def madeD (l : List Sd) : G :=
  match ntsD l [] with
  | (true, ns) => ⟨[], ns, 0, []⟩
  | (false, ns) => ⟨(rulesD ns l [] []).1, ns, 0, (rulesD ns l [] []).2⟩

def Big (ns : List ByteArray) (x : List ByteArray × List R) : Prop := 60 < x.1.length + ns.length ∨ 120 < x.2.length
end Go.Proofs.YtaieeclobokflaaDoor.SpecMd

namespace Go.Proofs.YtaieeclobokflaaDoor.SpecTx
open Go.Proofs.YtaieeclobokflaaDoor.GramMath Go.Proofs.YtaieeclobokflaaDoor.GramOne Go.Proofs.YtaieeclobokflaaDoor.LineRead Go.Proofs.YtaieeclobokflaaDoor.LineMath Go.Proofs.YtaieeclobokflaaDoor.SpecLn Go.Proofs.YtaieeclobokflaaDoor.SpecMd
set_option linter.unusedVariables false
set_option linter.unusedSimpArgs false

/-- The words of a line are no ends: one that is not quoted has letters. -/
theorem line_words : ∀ (n : Nat) (l : List UInt8) (i : Nat) (out ws : List Wd), l.length ≤ n → WordsMath.lineL l i out = .ok ws → (∀ w ∈ out, isEnd w = false) → ∀ w ∈ ws, isEnd w = false := by
  intro n
  induction n with
  | zero =>
    intro l i out ws hn h ho
    cases l with
    | nil => rw [WordsMath.lineL] at h; cases h; exact ho
    | cons c r => simp at hn
  | succ n ih =>
    intro l i out ws hn h ho
    cases l with
    | nil => rw [WordsMath.lineL] at h; cases h; exact ho
    | cons c r =>
      simp at hn
      rw [WordsMath.lineL] at h
      split at h
      · exact ih r (i + 1) out ws hn h ho
      · split at h
        · cases h; exact ho
        · split at h
          · cases hu : WordsMath.unqE r (i + 1) with
            | error p => rw [hu] at h; cases h
            | ok te =>
              rw [hu] at h
              refine ih _ _ _ ws (by rw [List.length_drop]; omega) h ?_
              intro w hw
              rcases List.mem_append.1 hw with hw | hw
              · exact ho w hw
              · simp at hw
                rw [hw]
                rfl
          · split at h
            · split at h
              · refine ih _ _ _ ws (by rw [List.length_drop]; omega) h ?_
                intro w hw
                rcases List.mem_append.1 hw with hw | hw
                · exact ho w hw
                · simp at hw
                  rw [hw]
                  rfl
              · cases h
            · cases h

/-- A text cut at each end of a line: one piece more than there are ends. -/
def splitGo : List UInt8 → List UInt8 → List (List UInt8)
  | cur, [] => [cur]
  | cur, c :: r => if c = 10 then cur :: splitGo [] r else splitGo (cur ++ [c]) r
/-- The word that stands for a line's end. -/
def endW (l : List UInt8) : Wd := ⟨[], false, l.length⟩

def textP : List (List UInt8) → Nat → List UInt8 → List Sd → Except Nat (List Sd)
  | [], start, left, all => .ok all
  | l :: ls, start, left, all =>
    if 1048576 < l.length then .error (start + 1048576)
    else match WordsMath.lineL l 0 [] with
      | .error p => .error (start + p)
      | .ok ws => match run start (ws ++ [endW l]) ⟨.beg, left, all⟩ with
        | .error p => .error (start + p)
        | .ok q => textP ls (start + l.length + 1) q.left q.rs
def lastL (all : List Sd) : List UInt8 := match all.getLast? with | none => [] | some s => s.left
def textD : List (List UInt8) → Nat → List Sd → Except Nat (List Sd)
  | [], start, all => .ok all
  | l :: ls, start, all =>
    if 1048576 < l.length then .error (start + 1048576)
    else match WordsMath.lineL l 0 [] with
      | .error p => .error (start + p)
      | .ok ws => match docLine ws (lastL all) l.length with
        | .error p => .error (start + p)
        | .ok o => textD ls (start + l.length + 1) (all ++ o.1.map (shift start))
/-- The alternatives of a text; or the place that is wrong. -/
def sidesZ (t : List UInt8) : Except Nat (List Sd) :=
  match textP (splitGo [] t) 0 [] [] with
  | .error p => .error p
  | .ok all => if all = [] then .error t.length else .ok all

theorem push_last (start : Nat) (out : List Sd) (w : Wd) : lastL (push start out w) = lastL out := by
  unfold lastL push
  cases h : out.getLast? with
  | none => simp only [h]
  | some s => simp
theorem go_last (left : List UInt8) : ∀ (ws : List Wd) (out o : List Sd), docGo left ws out = .ok o → out ≠ [] → lastL out = left → o ≠ [] ∧ lastL o = left
  | [], out, o, h, hn, hl => by cases h; exact ⟨hn, hl⟩
  | w :: r, out, o, h, hn, hl => by
    unfold docGo at h
    split at h
    · exact go_last left r _ o h (by simp) (by unfold lastL; simp)
    · split at h
      · exact go_last left r _ o h (push_ne 0 out w hn) (by rw [push_last]; exact hl)
      · cases h
theorem name_ne {w : Wd} (h : nameB w = true) : w.text ≠ [] := by
  unfold nameB lenB at h
  simp at h
  intro e
  have := h.2.2.1
  rw [e] at this
  exact absurd this (by simp)
theorem line_last {ws : List Wd} {left : List UInt8} {stop : Nat} {o : List Sd × List UInt8} (h : docLine ws left stop = .ok o) : (o.1 = [] ∧ o.2 = left) ∨ (o.1 ≠ [] ∧ lastL o.1 = o.2 ∧ o.2 ≠ []) := by
  cases ws with
  | nil => cases h; exact .inl ⟨rfl, rfl⟩
  | cons w r =>
    refine .inr ?_
    unfold docLine at h
    by_cases hm : mk w 124 = true
    · simp only [hm, if_true] at h
      by_cases hz : left = []
      · rw [if_pos hz] at h; cases h
      · rw [if_neg hz] at h
        cases hg : docGo left (w :: r) [] with
        | error e => rw [hg] at h; cases h
        | ok x =>
          rw [hg] at h
          cases h
          unfold docGo at hg
          simp only [hm, if_true] at hg
          obtain ⟨h1, h2⟩ := go_last left r _ x hg (by simp) (by unfold lastL; simp)
          exact ⟨h1, h2, hz⟩
    · simp only [hm, Bool.false_eq_true, if_false] at h
      by_cases hn : (nameB w && !w.quoted) = true
      · simp only [hn, if_true] at h
        have hne := name_ne (w := w) (by simp at hn; exact hn.1)
        cases r with
        | nil => cases h
        | cons c r' =>
          simp only at h
          by_cases hc : mk c 58 = true
          · simp only [hc, if_true] at h
            cases hg : docGo w.text r' [⟨w.text, [], c.place + 1⟩] with
            | error e => rw [hg] at h; cases h
            | ok x =>
              rw [hg] at h
              cases h
              obtain ⟨h1, h2⟩ := go_last w.text r' _ x hg (by simp) (by unfold lastL; simp)
              exact ⟨h1, h2, hne⟩
          · simp only [hc, Bool.false_eq_true, if_false] at h
            cases h
      · simp only [hn, Bool.false_eq_true, if_false] at h
        cases h
theorem last_app {all out : List Sd} (start : Nat) (h : out ≠ []) : lastL (all ++ out.map (shift start)) = lastL out := by
  obtain ⟨l, s, rfl⟩ : ∃ l s, out = l ++ [s] := ⟨out.dropLast, out.getLast h, (List.dropLast_concat_getLast h).symm⟩
  unfold lastL
  rw [List.map_append, List.map_cons, List.map_nil, ← List.append_assoc, List.getLast?_append, List.getLast?_append]
  simp [shift]

/-- THE STATES READ A TEXT AS THE DOCUMENT DOES. -/
theorem text_two : ∀ (ls : List (List UInt8)) (start : Nat) (left : List UInt8) (all : List Sd), (all = [] ↔ left = []) → lastL all = left → textP ls start left all = textD ls start all
  | [], _, _, _, _, _ => rfl
  | l :: ls, start, left, all, ha, hl => by
    unfold textP textD
    split
    · rfl
    · cases hw : WordsMath.lineL l 0 [] with
      | error p => rfl
      | ok ws =>
        simp only
        rw [run_line start left all (endW l) rfl ws (line_words _ l 0 [] ws (Nat.le_refl _) hw (by simp)) ha, hl]
        rw [show (endW l).place = l.length from rfl]
        cases hd : docLine ws left l.length with
        | error p => rfl
        | ok o =>
          simp only [Except.map]
          refine text_two ls _ o.2 _ ?_ ?_
          · rcases line_last hd with ⟨h1, h2⟩ | ⟨h1, h2, h3⟩
            · rw [h1, h2]
              simpa using ha
            · simp [h1, h3]
          · rcases line_last hd with ⟨h1, h2⟩ | ⟨h1, h2, h3⟩
            · rw [h1, h2]
              simpa using hl
            · rw [last_app start h1]
              exact h2
theorem sides_two (t : List UInt8) : textP (splitGo [] t) 0 [] [] = textD (splitGo [] t) 0 [] := text_two _ 0 [] [] (by simp) rfl

/-- What a text comes to: an error's place; what Check says of the grammar; or the grammar and the places. -/
inductive Sz where
  | syn (p : Nat) | chk (k : Nat × Option Nat) | ok (g : G) (ps : List Nat)
def specZ (t : List UInt8) : Sz :=
  match sidesZ t with
  | .error p => .syn p
  | .ok all => if (checkG (madeZ all)).1 = 0 then .ok (madeZ all) (all.map Sd.at_) else .chk (checkG (madeZ all))
end Go.Proofs.YtaieeclobokflaaDoor.SpecTx

namespace Go.Proofs.YtaieeclobokflaaDoor.SpecNm
open Go.Proofs.YtaieeclobokflaaDoor.GramMath Go.Proofs.YtaieeclobokflaaDoor.GramOne Go.Proofs.YtaieeclobokflaaDoor.LineRead Go.Proofs.YtaieeclobokflaaDoor.LineMath Go.Proofs.YtaieeclobokflaaDoor.SpecLn Go.Proofs.YtaieeclobokflaaDoor.SpecMd Go.Proofs.YtaieeclobokflaaDoor.SpecTx
set_option linter.unusedVariables false
set_option linter.unusedSimpArgs false

/-! What the document asks of a right side's symbols, and of rules, one after another. -/
/-- The terminals after a right side, if they come in order. -/
def termsGo : List Int → Nat → Option Nat
  | [], t => some t
  | x :: r, t => if (t : Int) < x then none else termsGo r (if x = (t : Int) then t + 1 else t)
/-- Nonterminals and terminals after rules, if they come in order. -/
def rulesGo : List R → Nat → Nat → Option (Nat × Nat)
  | [], n, t => some (n, t)
  | r :: l, n, t => if (n : Int) < r.left then none else match termsGo r.right t with
    | none => none
    | some t' => rulesGo l (if r.left = (n : Int) then n + 1 else n) t'
end Go.Proofs.YtaieeclobokflaaDoor.SpecNm
