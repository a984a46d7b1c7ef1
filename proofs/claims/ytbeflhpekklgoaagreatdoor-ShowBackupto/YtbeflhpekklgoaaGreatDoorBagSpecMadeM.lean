/-
  Texts that stand together: SpecMadeM, SpecTextM, SpecNumM, SpecPlM, SpecMoreM.
-/
import Derived.Test.YtbeflhpekklgoaaGreatDoorBagWordsRow
namespace Go.Proofs.YtbeflhpekklgoaaGreatDoor.SpecMd
open Go.Proofs.YtbeflhpekklgoaaGreatDoor.GramMath Go.Proofs.YtbeflhpekklgoaaGreatDoor.GramOne Go.Proofs.YtbeflhpekklgoaaGreatDoor.LineRead Go.Proofs.YtbeflhpekklgoaaGreatDoor.LineMath Go.Proofs.YtbeflhpekklgoaaGreatDoor.SpecLn
set_option linter.unusedVariables false
set_option linter.unusedSimpArgs false

def bt (l : List UInt8) : ByteArray := ⟨l.toArray⟩
/-- A name's number, and the names with it. -/
def numS (ss : List ByteArray) (s : ByteArray) : Int := if memB s ss = true then idx ss s else (ss.length : Int)
def addN (ss : List ByteArray) (s : ByteArray) : List ByteArray := if memB s ss = true then ss else ss ++ [s]
/-- A name of an alternative: its symbol, and the terminals with it. -/
def symS (ns ts : List ByteArray) (w : Wd) : Int := if (memB (bt w.text) ns && !w.quoted) = true then -1 - idx ns (bt w.text) else numS ts (bt w.text)
def symT (ns ts : List ByteArray) (w : Wd) : List ByteArray := if (memB (bt w.text) ns && !w.quoted) = true then ts else addN ts (bt w.text)
/-! All of it. -/
def ntsZ : List Sd → List ByteArray → List ByteArray
  | [], ns => ns
  | s :: r, ns => ntsZ r (addN ns (bt s.left))
def namesZ (ns : List ByteArray) : List Wd → List ByteArray → List Int → List ByteArray × List Int
  | [], ts, acc => (ts, acc)
  | w :: r, ts, acc => namesZ ns r (symT ns ts w) (acc ++ [symS ns ts w])
def rulesZ (ns : List ByteArray) : List Sd → List ByteArray → List R → List ByteArray × List R
  | [], ts, rs => (ts, rs)
  | s :: r, ts, rs => rulesZ ns r (namesZ ns s.names ts []).1 (rs ++ [⟨idx ns (bt s.left), (namesZ ns s.names ts []).2⟩])
def madeZ (l : List Sd) : G := ⟨(rulesZ (ntsZ l []) l [] []).1, ntsZ l [], 0, (rulesZ (ntsZ l []) l [] []).2⟩

/-! As the document makes it. -/
def ntsD : List Sd → List ByteArray → Bool × List ByteArray
  | [], ns => (false, ns)
  | s :: r, ns => if 60 < (addN ns (bt s.left)).length then (true, addN ns (bt s.left)) else ntsD r (addN ns (bt s.left))
def namesD (ns : List ByteArray) : List Wd → List ByteArray → List Int → Bool × List ByteArray × List Int
  | [], ts, acc => (false, ts, acc)
  | w :: r, ts, acc => if 60 < ts.length + ns.length then (true, ts, acc) else namesD ns r (symT ns ts w) (acc ++ [symS ns ts w])
def rulesD (ns : List ByteArray) : List Sd → List ByteArray → List R → List ByteArray × List R
  | [], ts, rs => (ts, rs)
  | s :: r, ts, rs => if 120 < rs.length then (ts, rs) else
    match namesD ns s.names ts [] with
    | (true, ts', _) => (ts', rs)
    | (false, ts', zs) => rulesD ns r ts' (rs ++ [⟨idx ns (bt s.left), zs⟩])
def madeD (l : List Sd) : G :=
  match ntsD l [] with
  | (true, ns) => ⟨[], ns, 0, []⟩
  | (false, ns) => ⟨(rulesD ns l [] []).1, ns, 0, (rulesD ns l [] []).2⟩

def Big (ns : List ByteArray) (x : List ByteArray × List R) : Prop := 60 < x.1.length + ns.length ∨ 120 < x.2.length
end Go.Proofs.YtbeflhpekklgoaaGreatDoor.SpecMd

namespace Go.Proofs.YtbeflhpekklgoaaGreatDoor.SpecTx
open Go.Proofs.YtbeflhpekklgoaaGreatDoor.GramMath Go.Proofs.YtbeflhpekklgoaaGreatDoor.GramOne Go.Proofs.YtbeflhpekklgoaaGreatDoor.LineRead Go.Proofs.YtbeflhpekklgoaaGreatDoor.LineMath Go.Proofs.YtbeflhpekklgoaaGreatDoor.SpecLn Go.Proofs.YtbeflhpekklgoaaGreatDoor.SpecMd
set_option linter.unusedVariables false
set_option linter.unusedSimpArgs false

/-- The words of a line are no ends: one that is not quoted has letters. -/
theorem line_words : ∀ (n : Nat) (l : List UInt8) (i : Nat) (out ws : List Wd), l.length ≤ n → WordsMath.lineL l i out = .ok ws → (∀ w ∈ out, isEnd w = false) → ∀ w ∈ ws, isEnd w = false := by
  intro n
  induction n with
  | zero =>
    intro l i out ws hn h ho
    cases l with
    | nil => rw [WordsMath.lineL] at h; cases h; exact ho
    | cons c r => simp at hn
  | succ n ih =>
    intro l i out ws hn h ho
    cases l with
    | nil => rw [WordsMath.lineL] at h; cases h; exact ho
    | cons c r =>
      simp at hn
      rw [WordsMath.lineL] at h
      split at h
      · exact ih r (i + 1) out ws hn h ho
      · split at h
        · cases h; exact ho
        · split at h
          · cases hu : WordsMath.unqE r (i + 1) with
            | error p => rw [hu] at h; cases h
            | ok te =>
              rw [hu] at h
              refine ih _ _ _ ws (by rw [List.length_drop]; omega) h ?_
              intro w hw
              rcases List.mem_append.1 hw with hw | hw
              · exact ho w hw
              · simp at hw
                rw [hw]
                rfl
          · split at h
            · split at h
              · refine ih _ _ _ ws (by rw [List.length_drop]; omega) h ?_
                intro w hw
                rcases List.mem_append.1 hw with hw | hw
                · exact ho w hw
                · simp at hw
                  rw [hw]
                  rfl
              · cases h
            · cases h

/-- A text cut at each end of a line: one piece more than there are ends. -/
def splitGo : List UInt8 → List UInt8 → List (List UInt8)
  | cur, [] => [cur]
  | cur, c :: r => if c = 10 then cur :: splitGo [] r else splitGo (cur ++ [c]) r
/-- The word that stands for a line's end. -/
def endW (l : List UInt8) : Wd := ⟨[], false, l.length⟩

def textP : List (List UInt8) → Nat → List UInt8 → List Sd → Except Nat (List Sd)
  | [], start, left, all => .ok all
  | l :: ls, start, left, all =>
    if 1048576 < l.length then .error (start + 1048576)
    else match WordsMath.lineL l 0 [] with
      | .error p => .error (start + p)
      | .ok ws => match run start (ws ++ [endW l]) ⟨.beg, left, all⟩ with
        | .error p => .error (start + p)
        | .ok q => textP ls (start + l.length + 1) q.left q.rs
def lastL (all : List Sd) : List UInt8 := match all.getLast? with | none => [] | some s => s.left
def textD : List (List UInt8) → Nat → List Sd → Except Nat (List Sd)
  | [], start, all => .ok all
  | l :: ls, start, all =>
    if 1048576 < l.length then .error (start + 1048576)
    else match WordsMath.lineL l 0 [] with
      | .error p => .error (start + p)
      | .ok ws => match docLine ws (lastL all) l.length with
        | .error p => .error (start + p)
        | .ok o => textD ls (start + l.length + 1) (all ++ o.1.map (shift start))
/-- The alternatives of a text; or the place that is wrong. -/
def sidesZ (t : List UInt8) : Except Nat (List Sd) :=
  match textP (splitGo [] t) 0 [] [] with
  | .error p => .error p
  | .ok all => if all = [] then .error t.length else .ok all

theorem push_last (start : Nat) (out : List Sd) (w : Wd) : lastL (push start out w) = lastL out := by
  unfold lastL push
  cases h : out.getLast? with
  | none => simp only [h]
  | some s => simp
theorem go_last (left : List UInt8) : ∀ (ws : List Wd) (out o : List Sd), docGo left ws out = .ok o → out ≠ [] → lastL out = left → o ≠ [] ∧ lastL o = left
  | [], out, o, h, hn, hl => by cases h; exact ⟨hn, hl⟩
  | w :: r, out, o, h, hn, hl => by
    unfold docGo at h
    split at h
    · exact go_last left r _ o h (by simp) (by unfold lastL; simp)
    · split at h
      · exact go_last left r _ o h (push_ne 0 out w hn) (by rw [push_last]; exact hl)
      · cases h
theorem name_ne {w : Wd} (h : nameB w = true) : w.text ≠ [] := by
  unfold nameB lenB at h
  simp at h
  intro e
  have := h.2.2.1
  rw [e] at this
  exact absurd this (by simp)
theorem line_last {ws : List Wd} {left : List UInt8} {stop : Nat} {o : List Sd × List UInt8} (h : docLine ws left stop = .ok o) : (o.1 = [] ∧ o.2 = left) ∨ (o.1 ≠ [] ∧ lastL o.1 = o.2 ∧ o.2 ≠ []) := by
  cases ws with
  | nil => cases h; exact .inl ⟨rfl, rfl⟩
  | cons w r =>
    refine .inr ?_
    unfold docLine at h
    by_cases hm : mk w 124 = true
    · simp only [hm, if_true] at h
      by_cases hz : left = []
      · rw [if_pos hz] at h; cases h
      · rw [if_neg hz] at h
        cases hg : docGo left (w :: r) [] with
        | error e => rw [hg] at h; cases h
        | ok x =>
          rw [hg] at h
          cases h
          unfold docGo at hg
          simp only [hm, if_true] at hg
          obtain ⟨h1, h2⟩ := go_last left r _ x hg (by simp) (by unfold lastL; simp)
          exact ⟨h1, h2, hz⟩
    · simp only [hm, Bool.false_eq_true, if_false] at h
      by_cases hn : (nameB w && !w.quoted) = true
      · simp only [hn, if_true] at h
        have hne := name_ne (w := w) (by simp at hn; exact hn.1)
        cases r with
        | nil => cases h
        | cons c r' =>
          simp only at h
          by_cases hc : mk c 58 = true
          · simp only [hc, if_true] at h
            cases hg : docGo w.text r' [⟨w.text, [], c.place + 1⟩] with
            | error e => rw [hg] at h; cases h
            | ok x =>
              rw [hg] at h
              cases h
              obtain ⟨h1, h2⟩ := go_last w.text r' _ x hg (by simp) (by unfold lastL; simp)
              exact ⟨h1, h2, hne⟩
          · simp only [hc, Bool.false_eq_true, if_false] at h
            cases h
      · simp only [hn, Bool.false_eq_true, if_false] at h
        cases h
theorem last_app {all out : List Sd} (start : Nat) (h : out ≠ []) : lastL (all ++ out.map (shift start)) = lastL out := by
  obtain ⟨l, s, rfl⟩ : ∃ l s, out = l ++ [s] := ⟨out.dropLast, out.getLast h, (List.dropLast_concat_getLast h).symm⟩
  unfold lastL
  rw [List.map_append, List.map_cons, List.map_nil, ← List.append_assoc, List.getLast?_append, List.getLast?_append]
  simp [shift]

/-- THE STATES READ A TEXT AS THE DOCUMENT DOES. -/
theorem text_two : ∀ (ls : List (List UInt8)) (start : Nat) (left : List UInt8) (all : List Sd), (all = [] ↔ left = []) → lastL all = left → textP ls start left all = textD ls start all
  | [], _, _, _, _, _ => rfl
  | l :: ls, start, left, all, ha, hl => by
    unfold textP textD
    split
    · rfl
    · cases hw : WordsMath.lineL l 0 [] with
      | error p => rfl
      | ok ws =>
        simp only
        rw [run_line start left all (endW l) rfl ws (line_words _ l 0 [] ws (Nat.le_refl _) hw (by simp)) ha, hl]
        rw [show (endW l).place = l.length from rfl]
        cases hd : docLine ws left l.length with
        | error p => rfl
        | ok o =>
          simp only [Except.map]
          refine text_two ls _ o.2 _ ?_ ?_
          · rcases line_last hd with ⟨h1, h2⟩ | ⟨h1, h2, h3⟩
            · rw [h1, h2]
              simpa using ha
            · simp [h1, h3]
          · rcases line_last hd with ⟨h1, h2⟩ | ⟨h1, h2, h3⟩
            · rw [h1, h2]
              simpa using hl
            · rw [last_app start h1]
              exact h2
theorem sides_two (t : List UInt8) : textP (splitGo [] t) 0 [] [] = textD (splitGo [] t) 0 [] := text_two _ 0 [] [] (by simp) rfl

/-- What a text comes to: an error's place; what Check says of the grammar; or the grammar and the places. -/
inductive Sz where
  | syn (p : Nat) | chk (k : Nat × Option Nat) | ok (g : G) (ps : List Nat)
def specZ (t : List UInt8) : Sz :=
  match sidesZ t with
  | .error p => .syn p
  | .ok all => if (checkG (madeZ all)).1 = 0 then .ok (madeZ all) (all.map Sd.at_) else .chk (checkG (madeZ all))
end Go.Proofs.YtbeflhpekklgoaaGreatDoor.SpecTx

namespace Go.Proofs.YtbeflhpekklgoaaGreatDoor.SpecNm
open Go.Proofs.YtbeflhpekklgoaaGreatDoor.GramMath Go.Proofs.YtbeflhpekklgoaaGreatDoor.GramOne Go.Proofs.YtbeflhpekklgoaaGreatDoor.LineRead Go.Proofs.YtbeflhpekklgoaaGreatDoor.LineMath Go.Proofs.YtbeflhpekklgoaaGreatDoor.SpecLn Go.Proofs.YtbeflhpekklgoaaGreatDoor.SpecMd Go.Proofs.YtbeflhpekklgoaaGreatDoor.SpecTx
set_option linter.unusedVariables false
set_option linter.unusedSimpArgs false

theorem memB_no {s : ByteArray} {ss : List ByteArray} (h : memB s ss = false) : s ∉ ss := fun hm => by
  rw [(memB_iff s ss).2 hm] at h
  cases h
theorem idx_in {ss : List ByteArray} {s : ByteArray} (h : memB s ss = true) : ∃ k : Nat, idx ss s = (k : Int) ∧ ss[k]? = some s ∧ (∀ j, j < k → ss[j]? ≠ some s) ∧ k < ss.length := by
  rcases idx_cases ss s with ⟨_, h2⟩ | ⟨k, h1, h2, h3, _⟩
  · rw [h] at h2; cases h2
  · exact ⟨k, h1, h2, h3, (List.getElem?_eq_some_iff.1 h2).1⟩
/-- A name's number stays, whatever comes behind. -/
theorem idx_pre {ss : List ByteArray} {s : ByteArray} (h : memB s ss = true) (tt : List ByteArray) : idx (ss ++ tt) s = idx ss s := by
  obtain ⟨k, h1, h2, h3, h4⟩ := idx_in h
  rw [h1]
  refine idx_hit ?_ (fun j hj => ?_)
  · rw [List.getElem?_append_left h4]; exact h2
  · rw [List.getElem?_append_left (by omega)]; exact h3 j hj
theorem idx_new {ss : List ByteArray} {s : ByteArray} (h : memB s ss = false) (tt : List ByteArray) : idx (ss ++ s :: tt) s = (ss.length : Int) := by
  have hn := memB_no h
  refine idx_hit ?_ (fun j hj => ?_)
  · rw [List.getElem?_append_right (Nat.le_refl _), Nat.sub_self]; rfl
  · rw [List.getElem?_append_left hj]
    exact fun e => hn (List.mem_of_getElem? e)
theorem addN_pre (ss : List ByteArray) (s : ByteArray) : ∃ tt, addN ss s = ss ++ tt := by
  unfold addN
  split
  · exact ⟨[], by simp⟩
  · exact ⟨[s], rfl⟩
theorem ntsZ_pre : ∀ (l : List Sd) (ns : List ByteArray), ∃ tt, ntsZ l ns = ns ++ tt
  | [], ns => ⟨[], by simp [ntsZ]⟩
  | s :: r, ns => by
    obtain ⟨t1, h1⟩ := addN_pre ns (bt s.left)
    obtain ⟨t2, h2⟩ := ntsZ_pre r (addN ns (bt s.left))
    exact ⟨t1 ++ t2, by unfold ntsZ; rw [h2, h1, List.append_assoc]⟩
theorem ntsZ_app : ∀ (l r : List Sd) (ns : List ByteArray), ntsZ (l ++ r) ns = ntsZ r (ntsZ l ns)
  | [], r, ns => rfl
  | s :: l, r, ns => ntsZ_app l r (addN ns (bt s.left))
/-- A left side's number: that of a name that came before, or how many came. -/
theorem left_num (pre : List Sd) (s : Sd) (r : List Sd) : ∃ k : Nat, idx (ntsZ (pre ++ s :: r) []) (bt s.left) = (k : Int) ∧ ((k < (ntsZ pre []).length ∧ ntsZ (pre ++ [s]) [] = ntsZ pre []) ∨ (k = (ntsZ pre []).length ∧ (ntsZ (pre ++ [s]) []).length = (ntsZ pre []).length + 1)) := by
  rw [ntsZ_app, ntsZ_app]
  generalize ntsZ pre [] = ns
  show ∃ k : Nat, idx (ntsZ r (addN ns (bt s.left))) (bt s.left) = (k : Int) ∧ ((k < ns.length ∧ addN ns (bt s.left) = ns) ∨ (k = ns.length ∧ (addN ns (bt s.left)).length = ns.length + 1))
  obtain ⟨tt, ht⟩ := ntsZ_pre r (addN ns (bt s.left))
  rw [ht]
  cases hm : memB (bt s.left) ns with
  | true =>
    have ha : addN ns (bt s.left) = ns := by unfold addN; rw [if_pos hm]
    obtain ⟨k, h1, _, _, h4⟩ := idx_in hm
    exact ⟨k, by rw [ha, idx_pre hm]; exact h1, .inl ⟨h4, ha⟩⟩
  | false =>
    have ha : addN ns (bt s.left) = ns ++ [bt s.left] := by unfold addN; rw [if_neg (by rw [hm]; decide)]
    exact ⟨ns.length, by rw [ha, List.append_assoc]; exact idx_new hm tt, .inr ⟨rfl, by rw [ha]; simp⟩⟩
/-- A name's symbol: a nonterminal; or a terminal that came before; or the next one. -/
theorem sym_num (ns ts : List ByteArray) (w : Wd) : (symS ns ts w < 0 ∧ symT ns ts w = ts ∧ -(ns.length : Int) ≤ symS ns ts w) ∨ (∃ k : Nat, symS ns ts w = (k : Int) ∧ ((k < ts.length ∧ symT ns ts w = ts) ∨ (k = ts.length ∧ (symT ns ts w).length = ts.length + 1))) := by
  unfold symS symT
  by_cases h : (memB (bt w.text) ns && !w.quoted) = true
  · rw [if_pos h, if_pos h]
    obtain ⟨k, h1, _, _, h4⟩ := idx_in (ss := ns) (s := bt w.text) (by simp at h; exact h.1)
    exact .inl ⟨by rw [h1]; omega, rfl, by rw [h1]; omega⟩
  · rw [if_neg h, if_neg h]
    unfold numS addN
    cases hm : memB (bt w.text) ts with
    | true =>
      obtain ⟨k, h1, _, _, h4⟩ := idx_in hm
      exact .inr ⟨k, by rw [if_pos rfl]; exact h1, .inl ⟨h4, by rw [if_pos rfl]⟩⟩
    | false => exact .inr ⟨ts.length, by rw [if_neg (by decide)], .inr ⟨rfl, by rw [if_neg (by decide)]; simp⟩⟩

/-! What the document asks of a right side's symbols, and of rules, one after another. -/
/-- The terminals after a right side, if they come in order. -/
def termsGo : List Int → Nat → Option Nat
  | [], t => some t
  | x :: r, t => if (t : Int) < x then none else termsGo r (if x = (t : Int) then t + 1 else t)
theorem names_go (ns : List ByteArray) : ∀ (l : List Wd) (ts : List ByteArray) (acc : List Int) , ∃ zs, (namesZ ns l ts acc).2 = acc ++ zs ∧ zs.length = l.length ∧ termsGo zs ts.length = some (namesZ ns l ts acc).1.length
  | [], ts, acc => ⟨[], by simp [namesZ], rfl, rfl⟩
  | w :: r, ts, acc => by
    obtain ⟨zs, h1, h2, h3⟩ := names_go ns r (symT ns ts w) (acc ++ [symS ns ts w])
    refine ⟨symS ns ts w :: zs, by unfold namesZ; rw [h1]; simp, by simp [h2], ?_⟩
    unfold namesZ termsGo
    rcases sym_num ns ts w with ⟨e1, e2, _⟩ | ⟨k, e1, ⟨e2, e3⟩ | ⟨e2, e3⟩⟩
    · rw [if_neg (by omega), if_neg (by omega)]
      rw [e2] at h3 ⊢
      exact h3
    · rw [e1] at h3 ⊢
      rw [if_neg (by omega), if_neg (by omega)]
      rw [e3] at h3 ⊢
      exact h3
    · rw [e1] at h3 ⊢
      rw [if_neg (by omega), if_pos (by omega)]
      rw [e3] at h3
      exact h3
/-- Nonterminals and terminals after rules, if they come in order. -/
def rulesGo : List R → Nat → Nat → Option (Nat × Nat)
  | [], n, t => some (n, t)
  | r :: l, n, t => if (n : Int) < r.left then none else match termsGo r.right t with
    | none => none
    | some t' => rulesGo l (if r.left = (n : Int) then n + 1 else n) t'
theorem rulesZ_acc (ns : List ByteArray) : ∀ (l : List Sd) (ts : List ByteArray) (rs : List R), rulesZ ns l ts rs = ((rulesZ ns l ts []).1, rs ++ (rulesZ ns l ts []).2)
  | [], ts, rs => by simp [rulesZ]
  | s :: r, ts, rs => by
    unfold rulesZ
    rw [rulesZ_acc ns r _ (rs ++ _), rulesZ_acc ns r _ ([] ++ _)]
    simp
theorem rules_go (all : List Sd) : ∀ (r pre : List Sd) (ts : List ByteArray), all = pre ++ r → rulesGo (rulesZ (ntsZ all []) r ts []).2 (ntsZ pre []).length ts.length = some ((ntsZ all []).length, (rulesZ (ntsZ all []) r ts []).1.length)
  | [], pre, ts, h => by
    rw [List.append_nil] at h
    rw [← h]
    rfl
  | s :: r, pre, ts, h => by
    obtain ⟨k, h1, h2⟩ := left_num pre s r
    rw [← h] at h1
    obtain ⟨zs, e1, _, e3⟩ := names_go (ntsZ all []) s.names ts []
    rw [List.nil_append] at e1
    have ih := rules_go all r (pre ++ [s]) (namesZ (ntsZ all []) s.names ts []).1 (by rw [h]; simp)
    unfold rulesZ
    rw [rulesZ_acc, List.nil_append, List.singleton_append]
    unfold rulesGo
    simp only [h1, e1, e3]
    rcases h2 with ⟨h2, h3⟩ | ⟨h2, h3⟩
    · rw [if_neg (by omega), if_neg (by omega)]
      rw [h3] at ih
      exact ih
    · rw [if_neg (by omega), if_pos (by omega)]
      rw [h3] at ih
      exact ih
/-- NUMBERS AS THEY FIRST COME. -/
theorem made_go (all : List Sd) : rulesGo (madeZ all).rs 0 0 = some ((madeZ all).ns.length, (madeZ all).ts.length) := rules_go all all [] [] rfl

end Go.Proofs.YtbeflhpekklgoaaGreatDoor.SpecNm

namespace Go.Proofs.YtbeflhpekklgoaaGreatDoor.SpecPl
open Go.Proofs.YtbeflhpekklgoaaGreatDoor.GramMath Go.Proofs.YtbeflhpekklgoaaGreatDoor.GramOne Go.Proofs.YtbeflhpekklgoaaGreatDoor.LineRead Go.Proofs.YtbeflhpekklgoaaGreatDoor.LineMath Go.Proofs.YtbeflhpekklgoaaGreatDoor.SpecLn Go.Proofs.YtbeflhpekklgoaaGreatDoor.SpecMd Go.Proofs.YtbeflhpekklgoaaGreatDoor.SpecTx
set_option linter.unusedVariables false
set_option linter.unusedSimpArgs false

/-- Places that rise, none past m. -/
def Rise (out : List Sd) (m : Nat) : Prop := out.Pairwise (fun a b => a.at_ < b.at_) ∧ ∀ s ∈ out, s.at_ ≤ m
theorem Rise.mono {out : List Sd} {m n : Nat} (h : Rise out m) (hn : m ≤ n) : Rise out n := ⟨h.1, fun s hs => Nat.le_trans (h.2 s hs) hn⟩
theorem Rise.snoc {out : List Sd} {m : Nat} (h : Rise out m) (s : Sd) (hs : m < s.at_) : Rise (out ++ [s]) s.at_ := by
  refine ⟨List.pairwise_append.2 ⟨h.1, List.pairwise_singleton _ _, fun a ha b hb => ?_⟩, fun a ha => ?_⟩
  · simp at hb
    rw [hb]
    exact Nat.lt_of_le_of_lt (h.2 a ha) hs
  · rcases List.mem_append.1 ha with ha | ha
    · exact Nat.le_trans (h.2 a ha) (Nat.le_of_lt hs)
    · simp at ha
      rw [ha]
      exact Nat.le_refl _
theorem Rise.push {out : List Sd} {m : Nat} (h : Rise out m) (w : Wd) (hw : m ≤ w.place) : Rise (push 0 out w) w.place := by
  unfold SpecLn.push
  cases hg : out.getLast? with
  | none => exact h.mono hw
  | some s =>
    have hne : out ≠ [] := by intro e; rw [e] at hg; cases hg
    obtain ⟨l, rfl⟩ : ∃ l, out = l ++ [s] := by
      obtain ⟨l, x, rfl⟩ : ∃ l x, out = l ++ [x] := ⟨out.dropLast, out.getLast hne, (List.dropLast_concat_getLast hne).symm⟩
      rw [List.getLast?_append] at hg
      simp at hg
      exact ⟨l, by rw [hg]⟩
    rw [List.dropLast_concat]
    obtain ⟨h1, h2⟩ := h
    rw [List.pairwise_append] at h1
    have hsm := h2 s (by simp)
    refine ⟨List.pairwise_append.2 ⟨h1.1, List.pairwise_singleton _ _, fun a ha b hb => ?_⟩, fun a ha => ?_⟩
    · simp at hb
      have := h1.2.2 a ha s (by simp)
      rw [hb]
      simp only
      split <;> omega
    · rcases List.mem_append.1 ha with ha | ha
      · exact Nat.le_trans (h2 a (List.mem_append.2 (.inl ha))) hw
      · simp at ha
        rw [ha]
        simp only
        split <;> omega
theorem go_rise (left : List UInt8) (b : Nat) : ∀ (ws : List Wd) (out o : List Sd) (m : Nat), ws.Pairwise (fun a b => a.place < b.place) → (∀ w ∈ ws, m ≤ w.place ∧ w.place < b) → m ≤ b → Rise out m → docGo left ws out = .ok o → Rise o b
  | [], out, o, m, _, _, hm, h, e => by cases e; exact h.mono hm
  | w :: r, out, o, m, hp, hw, hm, h, e => by
    rw [List.pairwise_cons] at hp
    have h0 := hw w List.mem_cons_self
    have hr : ∀ x ∈ r, w.place + 1 ≤ x.place ∧ x.place < b := fun x hx => ⟨hp.1 x hx, (hw x (List.mem_cons_of_mem w hx)).2⟩
    unfold docGo at e
    split at e
    · exact go_rise left b r _ o (w.place + 1) hp.2 hr (by omega) (h.snoc ⟨left, [], w.place + 1⟩ (by show m < w.place + 1; omega)) e
    · split at e
      · exact go_rise left b r _ o (w.place + 1) hp.2 hr (by omega) ((h.push w h0.1).mono (by omega)) e
      · cases e
theorem go_err (left : List UInt8) : ∀ (ws : List Wd) (out : List Sd) (p : Nat), docGo left ws out = .error p → ∃ w ∈ ws, p = w.place
  | [], out, p, e => by cases e
  | w :: r, out, p, e => by
    unfold docGo at e
    split at e
    · obtain ⟨x, hx, h⟩ := go_err left r _ p e
      exact ⟨x, List.mem_cons_of_mem w hx, h⟩
    · split at e
      · obtain ⟨x, hx, h⟩ := go_err left r _ p e
        exact ⟨x, List.mem_cons_of_mem w hx, h⟩
      · cases e
        exact ⟨w, List.mem_cons_self, rfl⟩
theorem line_rise {ws : List Wd} {left : List UInt8} {b : Nat} (hp : ws.Pairwise (fun a b => a.place < b.place)) (hw : ∀ w ∈ ws, w.place < b) : (∀ o, docLine ws left b = .ok o → Rise o.1 b) ∧ (∀ p, docLine ws left b = .error p → p ≤ b) := by
  have nil : ∀ m, Rise [] m := fun m => ⟨List.Pairwise.nil, fun s hs => by cases hs⟩
  cases ws with
  | nil => exact ⟨fun o h => (by cases h; exact nil b), fun p h => (by cases h)⟩
  | cons w r =>
    have hp2 := List.pairwise_cons.1 hp
    have hwb := hw w List.mem_cons_self
    have hrb := fun x hx => hw x (List.mem_cons_of_mem w hx)
    unfold docLine
    by_cases hm : mk w 124 = true
    · simp only [hm, if_true]
      by_cases hz : left = []
      · rw [if_pos hz]
        exact ⟨fun o h => (by cases h), fun p h => (by cases h; omega)⟩
      · rw [if_neg hz]
        cases hg : docGo left (w :: r) [] with
        | error e =>
          refine ⟨fun o h => (by cases h), fun p h => ?_⟩
          cases h
          obtain ⟨x, hx, h⟩ := go_err left _ _ _ hg
          have := hw x hx
          omega
        | ok x =>
          refine ⟨fun o h => ?_, fun p h => (by cases h)⟩
          cases h
          exact go_rise left b (w :: r) [] x 0 hp (fun y hy => ⟨Nat.zero_le _, hw y hy⟩) (Nat.zero_le _) (nil 0) hg
    · simp only [hm, Bool.false_eq_true, if_false]
      by_cases hn : (nameB w && !w.quoted) = true
      · simp only [hn, if_true]
        cases r with
        | nil => exact ⟨fun o h => (by cases h), fun p h => (by cases h; omega)⟩
        | cons c r' =>
          have hp3 := List.pairwise_cons.1 hp2.2
          have hcb := hrb c List.mem_cons_self
          simp only
          by_cases hc : mk c 58 = true
          · simp only [hc, if_true]
            cases hg : docGo w.text r' [⟨w.text, [], c.place + 1⟩] with
            | error e =>
              refine ⟨fun o h => (by cases h), fun p h => ?_⟩
              cases h
              obtain ⟨x, hx, h⟩ := go_err _ _ _ _ hg
              have := hrb x (List.mem_cons_of_mem c hx)
              omega
            | ok x =>
              refine ⟨fun o h => ?_, fun p h => (by cases h)⟩
              cases h
              exact go_rise w.text b r' _ x (c.place + 1) hp3.2 (fun y hy => ⟨hp3.1 y hy, hrb y (List.mem_cons_of_mem c hy)⟩) (by omega) ((nil (c.place)).snoc ⟨w.text, [], c.place + 1⟩ (by show c.place < c.place + 1; omega)) hg
          · simp only [hc, Bool.false_eq_true, if_false]
            exact ⟨fun o h => (by cases h), fun p h => (by cases h; omega)⟩
      · simp only [hn, Bool.false_eq_true, if_false]
        exact ⟨fun o h => (by cases h), fun p h => (by cases h; omega)⟩

/-- How long lines are, with their ends. -/
def total : List (List UInt8) → Nat
  | [] => 0
  | l :: ls => l.length + 1 + total ls
theorem total_split : ∀ (r cur : List UInt8), total (splitGo cur r) = cur.length + r.length + 1
  | [], cur => by simp [splitGo, total]
  | c :: r, cur => by
    unfold splitGo
    split
    · unfold total
      rw [total_split r []]
      simp
      omega
    · rw [total_split r (cur ++ [c])]
      simp
      omega
theorem text_rise : ∀ (ls : List (List UInt8)) (start : Nat) (all : List Sd), all.Pairwise (fun a b => a.at_ < b.at_) → (∀ s ∈ all, s.at_ < start) →
    (∀ o, textD ls start all = .ok o → o.Pairwise (fun a b => a.at_ < b.at_) ∧ ∀ s ∈ o, s.at_ < start + total ls) ∧ (∀ p, textD ls start all = .error p → p < start + total ls)
  | [], start, all, h1, h2 => ⟨fun o h => (by cases h; exact ⟨h1, h2⟩), fun p h => (by cases h)⟩
  | l :: ls, start, all, h1, h2 => by
    unfold textD total
    split
    · exact ⟨fun o h => (by cases h), fun p h => (by cases h; omega)⟩
    · cases hl : WordsMath.lineL l 0 [] with
      | error e =>
        refine ⟨fun o h => (by cases h), fun p h => ?_⟩
        cases h
        have := (WordsMath.lineL_err _ l 0 [] e (Nat.le_refl _) hl).2
        omega
      | ok ws =>
        obtain ⟨more, e, hp, hw⟩ := WordsMath.lineL_ok _ l 0 [] ws (Nat.le_refl _) hl
        rw [List.nil_append] at e
        subst e
        obtain ⟨k1, k2⟩ := line_rise (left := lastL all) (b := l.length) hp (fun w hw' => by have := (hw w hw').2; omega)
        simp only
        cases hd : docLine ws (lastL all) l.length with
        | error e =>
          refine ⟨fun o h => (by cases h), fun p h => ?_⟩
          cases h
          have := k2 e hd
          omega
        | ok o =>
          simp only
          have hR := k1 o hd
          have ih := text_rise ls (start + l.length + 1) (all ++ o.1.map (shift start)) (by
            refine List.pairwise_append.2 ⟨h1, List.pairwise_map.2 (hR.1.imp (fun {a b} h => by show start + a.at_ < start + b.at_; omega)), fun a ha b hb => ?_⟩
            obtain ⟨x, _, rfl⟩ := List.mem_map.1 hb
            have := h2 a ha
            show a.at_ < start + x.at_
            omega) (fun s hs => by
            rcases List.mem_append.1 hs with hs | hs
            · have := h2 s hs
              omega
            · obtain ⟨x, hx, rfl⟩ := List.mem_map.1 hs
              have := hR.2 x hx
              show start + x.at_ < _
              omega)
          have et : start + l.length + 1 + total ls = start + (l.length + 1 + total ls) := by omega
          rw [et] at ih
          exact ih
/-- PLACES RISE AND LIE WITHIN THE TEXT. -/
theorem sides_rise (t : List UInt8) : (∀ all, sidesZ t = .ok all → all ≠ [] ∧ all.Pairwise (fun a b => a.at_ < b.at_) ∧ ∀ s ∈ all, s.at_ ≤ t.length) ∧ (∀ p, sidesZ t = .error p → p ≤ t.length) := by
  obtain ⟨h1, h2⟩ := text_rise (splitGo [] t) 0 [] List.Pairwise.nil (fun s hs => by cases hs)
  rw [total_split, ← sides_two] at *
  unfold sidesZ
  cases hx : textP (splitGo [] t) 0 [] [] with
  | error p =>
    refine ⟨fun all h => (by cases h), fun q h => ?_⟩
    cases h
    have := h2 p hx
    simp at this
    omega
  | ok o =>
    obtain ⟨a, b⟩ := h1 o hx
    by_cases ho : o = []
    · simp only [if_pos ho]
      exact ⟨fun all h => (by cases h), fun q h => (by cases h; exact Nat.le_refl _)⟩
    · simp only [if_neg ho]
      refine ⟨fun all h => ?_, fun q h => (by cases h)⟩
      cases h
      exact ⟨ho, a, fun s hs => by have := b s hs; simp at this; omega⟩

end Go.Proofs.YtbeflhpekklgoaaGreatDoor.SpecPl

namespace Go.Proofs.YtbeflhpekklgoaaGreatDoor.SpecMo
open Go.Proofs.YtbeflhpekklgoaaGreatDoor.GramMath Go.Proofs.YtbeflhpekklgoaaGreatDoor.GramOne Go.Proofs.YtbeflhpekklgoaaGreatDoor.LineRead Go.Proofs.YtbeflhpekklgoaaGreatDoor.LineMath Go.Proofs.YtbeflhpekklgoaaGreatDoor.SpecLn Go.Proofs.YtbeflhpekklgoaaGreatDoor.SpecMd Go.Proofs.YtbeflhpekklgoaaGreatDoor.SpecTx Go.Proofs.YtbeflhpekklgoaaGreatDoor.SpecPl
set_option linter.unusedVariables false
set_option linter.unusedSimpArgs false

end Go.Proofs.YtbeflhpekklgoaaGreatDoor.SpecMo
