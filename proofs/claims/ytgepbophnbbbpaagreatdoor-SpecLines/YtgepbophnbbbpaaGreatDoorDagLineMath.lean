/-
  Texts that stand together: LineMath, WordsCutMath, WordsMath2, SpecLineM, SpecMadeM.
-/
import Derived.Test.YtgepbophnbbbpaaGreatDoorDGramRefs
import Derived.Test.YtgepbophnbbbpaaGreatDoorDagWordsRow
import Derived.Test.YtgepbophnbbbpaaGreatDoorDagWordsMath
import Derived.Lib.IndexLaws
namespace Go.Proofs.YtgepbophnbbbpaaGreatDoor.LineMath
open Go.RowKit Go.Proofs.YtgepbophnbbbpaaGreatDoor.GramMath Go.Proofs.YtgepbophnbbbpaaGreatDoor.GramRow Go.Proofs.YtgepbophnbbbpaaGreatDoor.GramOne Go.Proofs.YtgepbophnbbbpaaGreatDoor.GramCheck
set_option linter.unusedVariables false

abbrev Wd := Go.Proofs.YtgepbophnbbbpaaGreatDoor.WordsMath.W

/-- The name of a token, and its word. -/
def nameOf (g : G) (z : Int) : ByteArray := g.ts.getD z.toNat ByteArray.empty
def wOf (g : G) (z : Int) : Wd := ⟨(nameOf g z).data.toList, false, 0⟩
def w0 : Wd := ⟨[], false, 0⟩
/-- May a number be a token? -/
def tokB (g : G) (z : Int) : Bool := decide (0 ≤ z) && decide (z < (g.ts.length : Int))
/-- The words of tokens of which the first k were told. -/
def wsTo (g : G) (zs : List Int) (k : Nat) : List Wd := (zs.take k).map (wOf g) ++ List.replicate (zs.length - k) w0

/-- The text of tokens. -/
def textL (g : G) (zs : List Int) : List UInt8 := WordsBytes.allW (zs.map (wOf g))
/-- What writing tokens comes to: what is wrong, and the text. -/
def wrZ (g : G) (zs : List Int) : Nat × Option Nat :=
  if (checkG g).1 ≠ 0 then checkG g
  else if 65536 < zs.length then (12, none)
  else if zs.all (tokB g) = false then (1, none)
  else if 1048576 < (textL g zs).length then (12, none)
  else (0, none)
def wrT (g : G) (zs : List Int) : ByteArray := if (wrZ g zs).1 = 0 then ⟨(textL g zs).toArray⟩ else ⟨#[]⟩

theorem rulesK_le {t n : Nat} : ∀ (rs : List R) (i : Nat), (rulesK t n rs i).1 ≤ 15 := by
  intro rs
  induction rs with
  | nil => intro i; exact Nat.zero_le _
  | cons r rs ih =>
    intro i
    rw [rulesK]
    split
    · exact ih _
    · show ruleK t n r ≤ 15
      unfold ruleK
      split <;> (try split) <;> (try split) <;> omega

/-- Words that were made in a block of their own. -/
def Made (w : World) (b : Nat) (ws : List Wd) : Prop := ∃ C, w.heap[b]? = some (.cells C 102 (0, 0)) ∧ ∀ i x, ws[i]? = some x → C[i * 3]? = some (.string ⟨x.text.toArray⟩) ∧ C[i * 3 + 1]? = some (.bool x.quoted) ∧ C[i * 3 + 2]? = some (.int .i64 (x.place : Int))

theorem Made.row {w : World} {b : Nat} {ws : List Wd} (h : Made w b ws) : WordsBytes.WRow w (some ⟨b, 0, none⟩) ws := fun i x hx => by
  obtain ⟨C, hC, hc⟩ := h
  obtain ⟨c1, c2, c3⟩ := hc i x hx
  have f : ∀ j, w.cell? ⟨b, j, none⟩ = C[j]? := fun j => by (unfold World.cell?; rw [hC]; rfl)
  exact ⟨b, 0, rfl, by rw [f, Nat.zero_add]; exact c1, by rw [f, Nat.zero_add]; exact c2, by rw [f, Nat.zero_add]; exact c3⟩
theorem Made.lt {w : World} {b : Nat} {ws : List Wd} (h : Made w b ws) : b < w.heap.size := by
  obtain ⟨C, hC, _⟩ := h
  exact (Array.getElem?_eq_some_iff.1 hC).1
theorem Made.cell {w : World} {b k : Nat} {ws : List Wd} (h : Made w b ws) (hk : k < ws.length) : ∃ v, w.cell? ⟨b, k * 3, none⟩ = some v := by
  obtain ⟨C, hC, hc⟩ := h
  exact ⟨_, by unfold World.cell?; rw [hC]; exact (hc k _ (List.getElem?_eq_getElem hk)).1⟩
theorem Made.frozen {w : World} {b : Nat} {ws : List Wd} (h : Made w b ws) (q : Nat) : w.frozen? ⟨b, q, none⟩ = false := by
  obtain ⟨C, hC, _⟩ := h
  simp [World.frozen?, hC]
theorem Made.below {w w' : World} {b B : Nat} {ws : List Wd} (h : Made w b ws) (hb : Below B w w') (hB : b < B) : Made w' b ws := by
  obtain ⟨C, hC, hc⟩ := h
  exact ⟨C, (hb.block b hB).trans hC, hc⟩
theorem Made.set {w : World} {b k : Nat} {ws : List Wd} {x : Wd} (h : Made w b ws) (hx : ws[k]? = some x) (t : ByteArray) : Made (w.setCell ⟨b, k * 3, none⟩ (.string t)) b (ws.set k { x with text := t.data.toList }) := by
  obtain ⟨C, hC, hc⟩ := h
  refine ⟨C.setIfInBounds (k * 3) (.string t), ?_, ?_⟩
  · simp only [World.setCell, Array.getElem?_modify]
    simp [hC]
  · intro i y hy
    have hlt : k * 3 < C.size := (Array.getElem?_eq_some_iff.1 (hc k x hx).1).1
    by_cases e : i = k
    · subst e
      have hl := (List.getElem?_eq_some_iff.1 hx).1
      rw [List.getElem?_set_self hl] at hy
      cases hy
      obtain ⟨c1, c2, c3⟩ := hc i x hx
      refine ⟨?_, ?_, ?_⟩
      · rw [Array.getElem?_setIfInBounds_self_of_lt hlt]
      · rw [Array.getElem?_setIfInBounds_ne (by omega)]; exact c2
      · rw [Array.getElem?_setIfInBounds_ne (by omega)]; exact c3
    · rw [List.getElem?_set_ne (fun q => e q.symm)] at hy
      obtain ⟨c1, c2, c3⟩ := hc i y hy
      refine ⟨?_, ?_, ?_⟩
      · rw [Array.getElem?_setIfInBounds_ne (by omega)]; exact c1
      · rw [Array.getElem?_setIfInBounds_ne (by omega)]; exact c2
      · rw [Array.getElem?_setIfInBounds_ne (by omega)]; exact c3
theorem Made.new (w : World) (n : Nat) : Made (w.alloc (.cells (madeCells #[.string ⟨#[]⟩, .bool false, .int .i64 0] (n * 3)) 102)) w.heap.size (List.replicate n w0) := by
  refine ⟨_, heap_alloc_new w _, fun i x hx => ?_⟩
  rw [List.getElem?_replicate] at hx
  by_cases hi : i < n
  · rw [if_pos hi] at hx
    cases hx
    refine ⟨?_, ?_, ?_⟩
    · rw [Array.getElem?_eq_getElem (by rw [size_madeCells]; omega)]
      simp [madeCells, w0]
    · rw [Array.getElem?_eq_getElem (by rw [size_madeCells]; omega)]
      simp [madeCells, w0]
    · rw [Array.getElem?_eq_getElem (by rw [size_madeCells]; omega)]
      simp [madeCells, w0]
  · rw [if_neg hi] at hx; cases hx

end Go.Proofs.YtgepbophnbbbpaaGreatDoor.LineMath

namespace Go.Proofs.YtgepbophnbbbpaaGreatDoor.WordsCutM
open Go.RowKit Go.Proofs.YtgepbophnbbbpaaGreatDoor.WordsMath Go.Proofs.YtgepbophnbbbpaaGreatDoor.WordsOne Go.Proofs.YtgepbophnbbbpaaGreatDoor.WordsBytes

def cutGo : List UInt8 → List UInt8 → List (List UInt8)
  | cur, [] => if cur = [] then [] else [cur]
  | cur, c :: r => if c = 10 then cur :: cutGo [] r else cutGo (cur ++ [c]) r

/-- The cells of a row of texts. -/
def cellsL (ls : List (List UInt8)) : List Value := ls.map (fun l => Value.string ⟨l.toArray⟩)

end Go.Proofs.YtgepbophnbbbpaaGreatDoor.WordsCutM

namespace Go.Proofs.YtgepbophnbbbpaaGreatDoor.WordsMath

/-- The ways of a line at its first byte. -/
theorem lineL_ways (c : UInt8) (r : List UInt8) (i : Nat) (out : List W) :
    (blankN c.toNat = true ∧ lineL (c :: r) i out = lineL r (i + 1) out) ∨
    (c.toNat = 35 ∧ lineL (c :: r) i out = .ok out) ∨
    (c.toNat = 34 ∧ ∃ p, unqE r (i + 1) = .error p ∧ lineL (c :: r) i out = .error p) ∨
    (c.toNat = 34 ∧ ∃ t e, unqE r (i + 1) = .ok (t, e) ∧ lineL (c :: r) i out = lineL (r.drop (e - (i + 1))) e (out ++ [⟨t, true, i⟩])) ∨
    (plainN c.toNat = true ∧ c.toNat ≠ 35 ∧ endsL (r.drop (plainLen r)) = true ∧ lineL (c :: r) i out = lineL (r.drop (plainLen r)) (i + 1 + plainLen r) (out ++ [⟨c :: r.take (plainLen r), false, i⟩])) ∨
    (∃ k, k ≤ r.length + 1 ∧ lineL (c :: r) i out = .error (i + k)) := by
  cases hb : blankN c.toNat with
  | true => exact .inl ⟨rfl, lineL_blank hb r i out⟩
  | false =>
    by_cases h35 : c.toNat = 35
    · exact .inr (.inl ⟨h35, lineL_comment h35 r i out⟩)
    · by_cases h34 : c.toNat = 34
      · cases hu : unqE r (i + 1) with
        | error p => exact .inr (.inr (.inl ⟨h34, p, rfl, lineL_bad h34 hu out⟩))
        | ok x =>
          obtain ⟨t, e⟩ := x
          exact .inr (.inr (.inr (.inl ⟨h34, t, e, rfl, lineL_quoted h34 hu out⟩)))
      · cases hp : plainN c.toNat with
        | true =>
          cases he : endsL (r.drop (plainLen r)) with
          | true => exact .inr (.inr (.inr (.inr (.inl ⟨rfl, h35, rfl, lineL_plain hp h35 he i out⟩))))
          | false => exact .inr (.inr (.inr (.inr (.inr ⟨1 + plainLen r, by have := plainLen_le r; omega, by rw [lineL_cut hp h35 he, Nat.add_assoc]⟩))))
        | false => exact .inr (.inr (.inr (.inr (.inr ⟨0, by omega, by rw [lineL_wrong hp hb h34, Nat.add_zero]⟩))))

theorem lineL_ok (n : Nat) : ∀ (l : List UInt8) (i : Nat) (out us : List W), l.length ≤ n → lineL l i out = .ok us →
    ∃ more, us = out ++ more ∧ more.Pairwise (fun a b => a.place < b.place) ∧ ∀ x ∈ more, i ≤ x.place ∧ x.place < i + l.length := by
  induction n with
  | zero =>
    intro l i out us hl h
    obtain rfl : l = [] := List.eq_nil_of_length_eq_zero (by omega)
    rw [lineL_nil] at h
    cases h
    exact ⟨[], by simp, List.Pairwise.nil, fun x hx => by cases hx⟩
  | succ n ih =>
    intro l i out us hl h
    cases l with
    | nil =>
      rw [lineL_nil] at h
      cases h
      exact ⟨[], by simp, List.Pairwise.nil, fun x hx => by cases hx⟩
    | cons c r =>
      simp only [List.length_cons] at hl ⊢
      have step : ∀ (k e : Nat) (x : W), x.place = i → e = i + 1 + k → k ≤ r.length → lineL (r.drop k) e (out ++ [x]) = .ok us →
          ∃ more, us = out ++ more ∧ more.Pairwise (fun a b => a.place < b.place) ∧ ∀ x ∈ more, i ≤ x.place ∧ x.place < i + (r.length + 1) := by
        intro k e x hx he hk h2
        have hlen : (r.drop k).length = r.length - k := List.length_drop
        obtain ⟨more, h3, h4, h5⟩ := ih (r.drop k) e (out ++ [x]) us (by omega) h2
        refine ⟨x :: more, by rw [h3]; simp, List.pairwise_cons.2 ⟨fun y hy => ?_, h4⟩, fun y hy => ?_⟩
        · have := h5 y hy; omega
        · rcases List.mem_cons.1 hy with rfl | hy
          · omega
          · have := h5 y hy; omega
      rcases lineL_ways c r i out with ⟨_, w⟩ | ⟨_, w⟩ | ⟨_, p, _, w⟩ | ⟨_, t, e, hu, w⟩ | ⟨_, _, _, w⟩ | ⟨k, _, w⟩
      · rw [w] at h
        obtain ⟨more, h3, h4, h5⟩ := ih r (i + 1) out us (by omega) h
        exact ⟨more, h3, h4, fun x hx => by have := h5 x hx; omega⟩
      · rw [w] at h
        cases h
        exact ⟨[], by simp, List.Pairwise.nil, fun x hx => by cases hx⟩
      · rw [w] at h; cases h
      · rw [w] at h
        have hb := unqE_bound.1 _ _ hu
        exact step (e - (i + 1)) e _ rfl (by omega) (by omega) h
      · rw [w] at h
        exact step (plainLen r) _ _ rfl rfl (plainLen_le r) h
      · rw [w] at h; cases h

theorem rise_len : ∀ (ws : List W) (a b : Nat), ws.Pairwise (fun a b => a.place < b.place) → (∀ x ∈ ws, a ≤ x.place ∧ x.place < b) → ws.length ≤ b - a
  | [], _, _, _, _ => by simp
  | x :: r, a, b, h, hb => by
    obtain ⟨h1, h2⟩ := List.pairwise_cons.1 h
    have hx := hb x (by simp)
    have := rise_len r (x.place + 1) b h2 (fun y hy => ⟨h1 y hy, (hb y (by simp [hy])).2⟩)
    simp only [List.length_cons]
    omega

theorem lineL_err (n : Nat) : ∀ (l : List UInt8) (i : Nat) (out : List W) (p : Nat), l.length ≤ n → lineL l i out = .error p → i ≤ p ∧ p ≤ i + l.length := by
  induction n with
  | zero =>
    intro l i out p hl h
    obtain rfl : l = [] := List.eq_nil_of_length_eq_zero (by omega)
    rw [lineL_nil] at h
    cases h
  | succ n ih =>
    intro l i out p hl h
    cases l with
    | nil => rw [lineL_nil] at h; cases h
    | cons c r =>
      simp only [List.length_cons] at hl ⊢
      rcases lineL_ways c r i out with ⟨_, w⟩ | ⟨_, w⟩ | ⟨_, q, hu, w⟩ | ⟨_, t, e, hu, w⟩ | ⟨_, _, _, w⟩ | ⟨k, hk, w⟩
      · rw [w] at h
        have := ih r (i + 1) out p (by omega) h
        omega
      · rw [w] at h; cases h
      · rw [w] at h
        cases h
        have := unqE_bound.2 _ hu
        omega
      · rw [w] at h
        have hb := unqE_bound.1 _ _ hu
        have hlen : (r.drop (e - (i + 1))).length = r.length - (e - (i + 1)) := List.length_drop
        have := ih _ e _ p (by omega) h
        omega
      · rw [w] at h
        have hb := plainLen_le r
        have hlen : (r.drop (plainLen r)).length = r.length - plainLen r := List.length_drop
        have := ih _ _ _ p (by omega) h
        omega
      · rw [w] at h
        cases h
        omega

end Go.Proofs.YtgepbophnbbbpaaGreatDoor.WordsMath

namespace Go.Proofs.YtgepbophnbbbpaaGreatDoor.LineRead
/-- A name for the namespace, so that it may be opened where a program has no reader of lines. -/
def here : Bool := true
end Go.Proofs.YtgepbophnbbbpaaGreatDoor.LineRead
namespace Go.Proofs.YtgepbophnbbbpaaGreatDoor.SpecLn
open Go.Proofs.YtgepbophnbbbpaaGreatDoor.LineRead Go.Proofs.YtgepbophnbbbpaaGreatDoor.LineMath
set_option linter.unusedVariables false
set_option linter.unusedSimpArgs false

/-- An alternative: whose, its names, where it begins. -/
structure Sd where
  left : List UInt8
  names : List Wd
  at_ : Nat
def mk (w : Wd) (c : UInt8) : Bool := !w.quoted && (w.text == [c])
def isEnd (w : Wd) : Bool := !w.quoted && (w.text == [])
/-- May a word be a name, by its length, and as it is no colon? -/
def lenB (w : Wd) : Bool := !mk w 58 && (decide (0 < w.text.length) && decide (w.text.length ≤ 32))
def nameB (w : Wd) : Bool := !mk w 124 && lenB w
def shift (start : Nat) (s : Sd) : Sd := ⟨s.left, s.names, start + s.at_⟩
/-- A name more for the last alternative. -/
def push (start : Nat) (out : List Sd) (w : Wd) : List Sd :=
  match out.getLast? with
  | none => out
  | some s => out.dropLast ++ [⟨s.left, s.names ++ [w], if s.names = [] then start + w.place else s.at_⟩]

inductive St where
  | beg | col | nam | fin
structure PS where
  st : St
  left : List UInt8
  rs : List Sd
def opened (start : Nat) (left : List UInt8) (rs : List Sd) (w : Wd) : PS := ⟨.nam, left, rs ++ [⟨left, [], start + w.place + w.text.length⟩]⟩
/-- One word taken by a state; or the place in the line that is wrong. -/
def step (start : Nat) (p : PS) (w : Wd) : Except Nat PS :=
  match p.st with
  | .beg => if isEnd w then .ok ⟨.fin, p.left, p.rs⟩
    else if mk w 124 && !p.rs.isEmpty then .ok (opened start p.left p.rs w)
    else if mk w 124 || w.quoted then .error w.place
    else if lenB w then .ok ⟨.col, w.text, p.rs⟩ else .error w.place
  | .col => if mk w 58 then .ok (opened start p.left p.rs w) else .error w.place
  | .nam => if isEnd w then .ok ⟨.fin, p.left, p.rs⟩
    else if mk w 124 then .ok (opened start p.left p.rs w)
    else if lenB w then .ok ⟨.nam, p.left, push start p.rs w⟩ else .error w.place
  | .fin => .ok p
def run (start : Nat) : List Wd → PS → Except Nat PS
  | [], p => .ok p
  | w :: r, p => match step start p w with
    | .error e => .error e
    | .ok p' => run start r p'

/-- The document's: the rest of a line, behind its first mark. -/
def docGo (left : List UInt8) : List Wd → List Sd → Except Nat (List Sd)
  | [], out => .ok out
  | w :: r, out => if mk w 124 then docGo left r (out ++ [⟨left, [], w.place + 1⟩])
    else if nameB w then docGo left r (push 0 out w) else .error w.place
/-- The document's: a line that has words. -/
def docLine (ws : List Wd) (left : List UInt8) (stop : Nat) : Except Nat (List Sd × List UInt8) :=
  match ws with
  | [] => .ok ([], left)
  | w :: r =>
    if mk w 124 then if left = [] then .error w.place else (docGo left (w :: r) []).map (·, left)
    else if nameB w && !w.quoted then
      match r with
      | [] => .error stop
      | c :: r' => if mk c 58 then (docGo w.text r' [⟨w.text, [], c.place + 1⟩]).map (·, w.text) else .error c.place
    else .error w.place

theorem mk_len {w : Wd} {c : UInt8} (h : mk w c = true) : w.text.length = 1 ∧ w.quoted = false := by
  unfold mk at h
  simp at h
  rw [h.2]
  exact ⟨rfl, h.1⟩
theorem end_mk {w : Wd} {c : UInt8} (h : isEnd w = true) : mk w c = false := by
  unfold isEnd at h
  unfold mk
  simp at h ⊢
  intro _
  rw [h.2]
  simp
theorem push_app (start : Nat) (all out : List Sd) (w : Wd) (h : out ≠ []) : push start (all ++ out.map (shift start)) w = all ++ (push 0 out w).map (shift start) := by
  obtain ⟨l, s, rfl⟩ : ∃ l s, out = l ++ [s] := ⟨out.dropLast, out.getLast h, (List.dropLast_concat_getLast h).symm⟩
  unfold push
  rw [List.map_append, List.map_cons, List.map_nil, ← List.append_assoc, List.getLast?_append, List.getLast?_append]
  simp [shift]
  split <;> rfl
theorem push_ne (start : Nat) (out : List Sd) (w : Wd) (h : out ≠ []) : push start out w ≠ [] := by
  obtain ⟨l, s, rfl⟩ : ∃ l s, out = l ++ [s] := ⟨out.dropLast, out.getLast h, (List.dropLast_concat_getLast h).symm⟩
  unfold push
  rw [List.getLast?_append]
  simp

/-- Behind the first mark the states take just what the document takes. -/
theorem run_go (start : Nat) (left : List UInt8) (all : List Sd) (e : Wd) (he : isEnd e = true) : ∀ (ws : List Wd) (out : List Sd), out ≠ [] → (∀ w ∈ ws, isEnd w = false) →
    run start (ws ++ [e]) ⟨.nam, left, all ++ out.map (shift start)⟩ = (docGo left ws out).map (fun o => ⟨.fin, left, all ++ o.map (shift start)⟩)
  | [], out, h, _ => by
    show run start [e] _ = _
    unfold run step
    simp [he, run, docGo, Except.map]
  | w :: r, out, h, hw => by
    have hwe := hw w List.mem_cons_self
    have hr := fun x hx => hw x (List.mem_cons_of_mem w hx)
    show run start (w :: (r ++ [e])) _ = _
    unfold run step docGo
    simp only [hwe]
    by_cases hm : mk w 124 = true
    · have hl := (mk_len hm).1
      simp only [hm, if_true, Bool.false_eq_true, if_false, opened]
      have := run_go start left all e he r (out ++ [⟨left, [], w.place + 1⟩]) (by simp) hr
      rw [← this]
      rw [List.map_append, ← List.append_assoc, hl]
      rfl
    · simp only [hm, Bool.false_eq_true, if_false]
      have hn : nameB w = lenB w := by unfold nameB; simp at hm; rw [hm]; rfl
      rw [hn]
      by_cases hl : lenB w = true
      · simp only [hl, if_true]
        rw [push_app start all out w h]
        exact run_go start left all e he r (push 0 out w) (push_ne 0 out w h) hr
      · simp only [hl, Bool.false_eq_true, if_false]
        rfl

/-- THE STATES TAKE A LINE AS THE DOCUMENT DOES. -/
theorem run_line (start : Nat) (left : List UInt8) (all : List Sd) (e : Wd) (he : isEnd e = true) (ws : List Wd) (hw : ∀ w ∈ ws, isEnd w = false) (ha : all = [] ↔ left = []) :
    run start (ws ++ [e]) ⟨.beg, left, all⟩ = (docLine ws left e.place).map (fun o => ⟨.fin, o.2, all ++ o.1.map (shift start)⟩) := by
  match ws, hw with
  | [], _ =>
    show run start [e] _ = _
    unfold run step
    simp [he, run, docLine, Except.map]
  | w :: r, hw =>
    have hwe := hw w List.mem_cons_self
    have hr := fun x hx => hw x (List.mem_cons_of_mem w hx)
    show run start (w :: (r ++ [e])) _ = _
    unfold run step docLine
    simp only [hwe, Bool.false_eq_true, if_false]
    by_cases hm : mk w 124 = true
    · have hl := (mk_len hm).1
      simp only [hm, Bool.true_and, Bool.true_or, if_true]
      by_cases hz : left = []
      · have hz2 := ha.2 hz
        rw [if_pos hz, hz2]
        rfl
      · have hz2 : ¬ all = [] := fun h => hz (ha.1 h)
        rw [if_neg hz]
        have hz3 : (!all.isEmpty) = true := by cases all with
          | nil => exact absurd rfl hz2
          | cons => rfl
        simp only [hz3, if_true, opened]
        have := run_go start left all e he r [⟨left, [], w.place + 1⟩] (by simp) hr
        unfold docGo
        simp only [hm, if_true, List.nil_append]
        rw [hl]
        change run start (r ++ [e]) ⟨.nam, left, all ++ [⟨left, [], start + w.place + 1⟩]⟩ = _ at this
        rw [this]
        cases docGo left r [⟨left, [], w.place + 1⟩] <;> rfl
    · have hm' : mk w 124 = false := by simpa using hm
      simp only [hm', Bool.false_and, Bool.false_or, Bool.false_eq_true, if_false]
      have hn : nameB w = lenB w := by unfold nameB; rw [hm']; rfl
      rw [hn]
      by_cases hq : w.quoted = true
      · simp [hq, Except.map]
      · have hq' : w.quoted = false := by simpa using hq
        simp only [hq', Bool.false_eq_true, if_false, Bool.not_false, Bool.and_true]
        by_cases hl : lenB w = true
        · simp only [hl, if_true]
          match r, hr with
          | [], _ =>
            show run start [e] _ = _
            unfold run step
            simp [end_mk he, Except.map]
          | c :: r', hr =>
            have hr' := fun x hx => hr x (List.mem_cons_of_mem c hx)
            show run start (c :: (r' ++ [e])) _ = _
            unfold run step
            by_cases hc : mk c 58 = true
            · have hl1 := (mk_len hc).1
              simp only [hc, if_true, opened]
              have := run_go start w.text all e he r' [⟨w.text, [], c.place + 1⟩] (by simp) hr'
              rw [hl1]
              change run start (r' ++ [e]) ⟨.nam, w.text, all ++ [⟨w.text, [], start + c.place + 1⟩]⟩ = _ at this
              rw [this]
              cases docGo w.text r' [⟨w.text, [], c.place + 1⟩] <;> rfl
            · simp only [hc, Bool.false_eq_true, if_false]
              rfl
        · simp only [hl, Bool.false_eq_true, if_false]
          rfl

end Go.Proofs.YtgepbophnbbbpaaGreatDoor.SpecLn

namespace Go.Proofs.YtgepbophnbbbpaaGreatDoor.SpecMd
open Go.Proofs.YtgepbophnbbbpaaGreatDoor.GramMath Go.Proofs.YtgepbophnbbbpaaGreatDoor.GramOne Go.Proofs.YtgepbophnbbbpaaGreatDoor.LineRead Go.Proofs.YtgepbophnbbbpaaGreatDoor.LineMath Go.Proofs.YtgepbophnbbbpaaGreatDoor.SpecLn
set_option linter.unusedVariables false
set_option linter.unusedSimpArgs false

def bt (l : List UInt8) : ByteArray := ⟨l.toArray⟩
/-- A name's number, and the names with it. -/
def numS (ss : List ByteArray) (s : ByteArray) : Int := if memB s ss = true then idx ss s else (ss.length : Int)
def addN (ss : List ByteArray) (s : ByteArray) : List ByteArray := if memB s ss = true then ss else ss ++ [s]
/-- A name of an alternative: its symbol, and the terminals with it. -/
def symS (ns ts : List ByteArray) (w : Wd) : Int := if (memB (bt w.text) ns && !w.quoted) = true then -1 - idx ns (bt w.text) else numS ts (bt w.text)
def symT (ns ts : List ByteArray) (w : Wd) : List ByteArray := if (memB (bt w.text) ns && !w.quoted) = true then ts else addN ts (bt w.text)
/-! All of it. -/
def ntsZ : List Sd → List ByteArray → List ByteArray
  | [], ns => ns
  | s :: r, ns => ntsZ r (addN ns (bt s.left))
def namesZ (ns : List ByteArray) : List Wd → List ByteArray → List Int → List ByteArray × List Int
  | [], ts, acc => (ts, acc)
  | w :: r, ts, acc => namesZ ns r (symT ns ts w) (acc ++ [symS ns ts w])
def rulesZ (ns : List ByteArray) : List Sd → List ByteArray → List R → List ByteArray × List R
  | [], ts, rs => (ts, rs)
  | s :: r, ts, rs => rulesZ ns r (namesZ ns s.names ts []).1 (rs ++ [⟨idx ns (bt s.left), (namesZ ns s.names ts []).2⟩])
def madeZ (l : List Sd) : G := ⟨(rulesZ (ntsZ l []) l [] []).1, ntsZ l [], 0, (rulesZ (ntsZ l []) l [] []).2⟩

/-! As the document makes it. -/
def ntsD : List Sd → List ByteArray → Bool × List ByteArray
  | [], ns => (false, ns)
  | s :: r, ns => if 60 < (addN ns (bt s.left)).length then (true, addN ns (bt s.left)) else ntsD r (addN ns (bt s.left))
def namesD (ns : List ByteArray) : List Wd → List ByteArray → List Int → Bool × List ByteArray × List Int
  | [], ts, acc => (false, ts, acc)
  | w :: r, ts, acc => if 60 < ts.length + ns.length then (true, ts, acc) else namesD ns r (symT ns ts w) (acc ++ [symS ns ts w])
def rulesD (ns : List ByteArray) : List Sd → List ByteArray → List R → List ByteArray × List R
  | [], ts, rs => (ts, rs)
  | s :: r, ts, rs => if 120 < rs.length then (ts, rs) else
    match namesD ns s.names ts [] with
    | (true, ts', _) => (ts', rs)
    | (false, ts', zs) => rulesD ns r ts' (rs ++ [⟨idx ns (bt s.left), zs⟩])
def madeD (l : List Sd) : G :=
  match ntsD l [] with
  | (true, ns) => ⟨[], ns, 0, []⟩
  | (false, ns) => ⟨(rulesD ns l [] []).1, ns, 0, (rulesD ns l [] []).2⟩

def Big (ns : List ByteArray) (x : List ByteArray × List R) : Prop := 60 < x.1.length + ns.length ∨ 120 < x.2.length
end Go.Proofs.YtgepbophnbbbpaaGreatDoor.SpecMd
