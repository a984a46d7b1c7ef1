/-
  Texts that stand together: WordsMath3, SpecSpreadM, SpecSameM.
-/
import Derived.Test.YtbeflhpekklgoaaGreatDoorBagWordsRow
import Derived.Test.YtbeflhpekklgoaaGreatDoorBagSpecMadeM
namespace Go.Proofs.YtbeflhpekklgoaaGreatDoor.WordsMath
open Go.Proofs.YtbeflhpekklgoaaGreatDoor.WordsBytes

theorem u8_ext {a b : UInt8} (h : a.toNat = b.toNat) : a = b := UInt8.toNat_inj.1 h

theorem hexN_hexB (n : Nat) (h : n < 16) : hexN (hexB n).toNat = some n := by
  have : ∀ n : Fin 16, hexN (hexB n.1).toNat = some n.1 := by decide
  exact this ⟨n, h⟩

/-- A quoted byte is read as itself. -/
theorem unqL_byte (c : UInt8) (X : List UInt8) (j : Nat) (acc : List UInt8) : unqL (quoteB c ++ X) j acc = unqL X (j + (quoteB c).length) (acc ++ [c]) := by
  unfold quoteB
  by_cases h1 : c.toNat = 34 ∨ c.toNat = 92
  · rw [if_pos h1]
    have hp : pieceL 92 (c :: X) = some (c, 1) := by
      unfold pieceL escL
      rw [if_pos (show (92 : UInt8).toNat = 92 by decide)]
      simp [h1]
    show unqL (92 :: c :: X) j acc = _
    rw [unqL_some (by decide) hp]
    rfl
  · rw [if_neg h1]
    by_cases h2 : c.toNat = 10
    · rw [if_pos h2]
      obtain rfl : c = 10 := u8_ext h2
      have hp : pieceL 92 (110 :: X) = some (10, 1) := rfl
      show unqL (92 :: 110 :: X) j acc = _
      rw [unqL_some (by decide) hp]
      rfl
    · rw [if_neg h2]
      by_cases h3 : c.toNat < 32 ∨ 127 ≤ c.toNat
      · rw [if_pos h3]
        have hlt := c.toNat_lt
        have hv : UInt8.ofNat (16 * (c.toNat / 16) + c.toNat % 16) = c := by
          apply u8_ext
          rw [UInt8.toNat_ofNat']
          omega
        have hs : sixL (hexB (c.toNat / 16) :: hexB (c.toNat % 16) :: X) = some c := by
          unfold sixL
          dsimp only
          rw [hexN_hexB _ (by omega), hexN_hexB _ (by omega)]
          dsimp only
          rw [hv]
        have hp : pieceL 92 (120 :: hexB (c.toNat / 16) :: hexB (c.toNat % 16) :: X) = some (c, 3) := by
          unfold pieceL
          rw [if_pos (show (92 : UInt8).toNat = 92 by decide)]
          unfold escL
          dsimp only
          rw [if_neg (by decide), if_neg (by decide), if_pos (by decide), hs]
          rfl
        show unqL (92 :: 120 :: hexB (c.toNat / 16) :: hexB (c.toNat % 16) :: X) j acc = _
        rw [unqL_some (by decide) hp]
        rfl
      · rw [if_neg h3]
        have hp : pieceL c X = some (c, 0) := by
          unfold pieceL
          rw [if_neg (by omega), if_neg h2]
        show unqL (c :: X) j acc = _
        rw [unqL_some (by omega) hp]
        rfl

theorem unqL_quoted (X : List UInt8) : ∀ (t : List UInt8) (j : Nat) (acc : List UInt8), unqL (t.flatMap quoteB ++ 34 :: X) j acc = .ok (acc ++ t, j + (t.flatMap quoteB).length + 1)
  | [], j, acc => by
    rw [List.flatMap_nil, List.nil_append, unqL_end (by decide)]
    simp
  | c :: r, j, acc => by
    rw [List.flatMap_cons, List.append_assoc, unqL_byte, unqL_quoted X r, List.length_append]
    simp only [List.append_assoc, List.cons_append, List.nil_append]
    rw [Nat.add_assoc j]

theorem plainLen_all (X : List UInt8) (hX : endsL X = true) : ∀ r : List UInt8, allPlain r = true → plainLen (r ++ X) = r.length
  | [], _ => by
    rw [List.nil_append]
    cases X with
    | nil => rfl
    | cons c t =>
      have hb : blankN c.toNat = true := hX
      have hp : plainN c.toNat = false := by
        cases hp : plainN c.toNat with
        | false => rfl
        | true => rw [(plain_not hp).1] at hb; cases hb
      simp [plainLen, hp]
  | c :: r, h => by
    rw [allPlain_cons, Bool.and_eq_true] at h
    rw [List.cons_append]
    unfold plainLen
    rw [if_pos h.1, plainLen_all X hX r h.2]
    rfl

/-- A word that was written is read as it was. -/
theorem lineL_word (t : List UInt8) (q : Bool) (X : List UInt8) (hX : endsL X = true) (i : Nat) (out : List W) :
    lineL (wordL t q ++ X) i out = lineL X (i + (wordL t q).length) (out ++ [⟨t, q || !plainW t, i⟩]) := by
  unfold wordL
  by_cases hq : (q || !plainW t) = true
  · rw [if_pos hq, hq]
    unfold quoteL
    rw [List.cons_append, List.append_assoc]
    have hu : unqL (t.flatMap quoteB ++ ([34] ++ X)) (i + 1) [] = .ok (t, i + 1 + (t.flatMap quoteB).length + 1) := by
      have := unqL_quoted X t (i + 1) []
      simpa using this
    have hdrop : (t.flatMap quoteB ++ ([34] ++ X)).drop (i + 1 + (t.flatMap quoteB).length + 1 - (i + 1)) = X := by
      rw [show i + 1 + (t.flatMap quoteB).length + 1 - (i + 1) = (t.flatMap quoteB ++ [34]).length by simp; omega, ← List.append_assoc]
      exact List.drop_left
    have hE : unqE (t.flatMap quoteB ++ ([34] ++ X)) (i + 1) = .ok (t, i + 1 + (t.flatMap quoteB).length + 1) := by
      unfold unqE
      rw [hu]
      dsimp only
      rw [hdrop, if_pos hX]
    rw [lineL_quoted (by decide) hE, hdrop]
    congr 1
    simp
    omega
  · have hq' : (q || !plainW t) = false := by simpa using hq
    rw [if_neg hq, hq']
    have hp : plainW t = true := by
      cases hp : plainW t with
      | true => rfl
      | false => rw [hp] at hq'; simp at hq'
    unfold plainW at hp
    rw [Bool.and_eq_true] at hp
    cases t with
    | nil => exact absurd hp.2 (by decide)
    | cons c r =>
      rw [allPlain_cons, Bool.and_eq_true] at hp
      have h35 : c.toNat ≠ 35 := by have := hp.2; simpa [headOk] using this
      have hl := plainLen_all X hX r hp.1.2
      have hd : (r ++ X).drop (plainLen (r ++ X)) = X := by rw [hl]; exact List.drop_left
      rw [List.cons_append, lineL_plain hp.1.1 h35 (by rw [hd]; exact hX), hd, hl, List.take_left]
      congr 1
      simp
      omega

def nq (x : W) : List UInt8 × Bool := (x.text, x.quoted || !plainW x.text)

theorem lineL_rest : ∀ (xs : List W) (i : Nat) (out : List W), ∃ us, lineL ((xs.map pr).flatMap (fun x => 32 :: wordL x.1 x.2)) i out = .ok (out ++ us) ∧ us.map pr = xs.map nq
  | [], i, out => ⟨[], by rw [List.map_nil, List.flatMap_nil, lineL_nil]; simp, rfl⟩
  | x :: r, i, out => by
    have hX : endsL ((r.map pr).flatMap (fun x => 32 :: wordL x.1 x.2)) = true := by
      cases r with
      | nil => rfl
      | cons y s => rfl
    obtain ⟨us, h1, h2⟩ := lineL_rest r (i + 1 + (wordL x.text x.quoted).length) (out ++ [⟨x.text, x.quoted || !plainW x.text, i + 1⟩])
    refine ⟨⟨x.text, x.quoted || !plainW x.text, i + 1⟩ :: us, ?_, by simp [h2, pr, nq]⟩
    rw [List.map_cons, List.flatMap_cons, List.cons_append, lineL_blank (by decide)]
    show lineL (wordL x.text x.quoted ++ _) (i + 1) out = _
    rw [lineL_word _ _ _ hX, h1]
    simp

/-- What is written is read again. -/
theorem lineL_back (ws : List W) : ∃ us, lineL (allW ws) 0 [] = .ok us ∧ us.map pr = ws.map nq := by
  cases ws with
  | nil => exact ⟨[], by show lineL [] 0 [] = _; rw [lineL_nil], rfl⟩
  | cons x r =>
    have hX : endsL ((r.map pr).flatMap (fun x => 32 :: wordL x.1 x.2)) = true := by
      cases r with
      | nil => rfl
      | cons y s => rfl
    obtain ⟨us, h1, h2⟩ := lineL_rest r (0 + (wordL x.text x.quoted).length) ([] ++ [⟨x.text, x.quoted || !plainW x.text, 0⟩])
    refine ⟨⟨x.text, x.quoted || !plainW x.text, 0⟩ :: us, ?_, by simp [h2, pr, nq]⟩
    show lineL (wordL x.text x.quoted ++ _) 0 [] = _
    rw [lineL_word _ _ _ hX, h1]
    simp

theorem plain_take : ∀ r : List UInt8, allPlain (r.take (plainLen r)) = true
  | [] => rfl
  | c :: r => by
    unfold plainLen
    cases hp : plainN c.toNat with
    | false => simp [allPlain]
    | true =>
      rw [if_pos rfl, List.take_succ_cons, allPlain_cons, hp, plain_take r]
      rfl

end Go.Proofs.YtbeflhpekklgoaaGreatDoor.WordsMath

namespace Go.Proofs.YtbeflhpekklgoaaGreatDoor.SpecSp
open Go.Proofs.YtbeflhpekklgoaaGreatDoor.GramMath Go.Proofs.YtbeflhpekklgoaaGreatDoor.GramOne Go.Proofs.YtbeflhpekklgoaaGreatDoor.LineRead Go.Proofs.YtbeflhpekklgoaaGreatDoor.LineMath Go.Proofs.YtbeflhpekklgoaaGreatDoor.SpecLn Go.Proofs.YtbeflhpekklgoaaGreatDoor.SpecMd Go.Proofs.YtbeflhpekklgoaaGreatDoor.SpecTx Go.Proofs.YtbeflhpekklgoaaGreatDoor.SpecPl Go.Proofs.YtbeflhpekklgoaaGreatDoor.WordsMath
set_option linter.unusedVariables false
set_option linter.unusedSimpArgs false

/-- A byte by its two digits. -/
def hexE (c : UInt8) : List UInt8 := [92, 120, hexB (c.toNat / 16), hexB (c.toNat % 16)]
def qL (t : List UInt8) : List UInt8 := 34 :: (t.flatMap hexE ++ [34])
def prW (w : Wd) : List UInt8 × Bool := (w.text, w.quoted)
def tailL : List UInt8 := [32, 35, 32, 34, 32, 124]
def spW (w : Wd) : List UInt8 := 9 :: 32 :: (if w.quoted then qL w.text else w.text)
def spread (ws : List Wd) : List UInt8 := ws.flatMap spW ++ tailL

theorem plain_take : ∀ r : List UInt8, allPlain (r.take (plainLen r)) = true
  | [] => rfl
  | c :: r => by
    unfold plainLen
    split
    · rename_i h
      rw [List.take_succ_cons, allPlain_cons, h, plain_take r]
      rfl
    · rfl
/-- A word of a line that is not quoted may stand so. -/
theorem line_plain : ∀ (n : Nat) (l : List UInt8) (i : Nat) (out ws : List Wd), l.length ≤ n → lineL l i out = .ok ws → (∀ w ∈ out, w.quoted = false → plainW w.text = true) → ∀ w ∈ ws, w.quoted = false → plainW w.text = true := by
  intro n
  induction n with
  | zero =>
    intro l i out ws hn h ho
    cases l with
    | nil => rw [lineL] at h; cases h; exact ho
    | cons c r => simp at hn
  | succ n ih =>
    intro l i out ws hn h ho
    cases l with
    | nil => rw [lineL] at h; cases h; exact ho
    | cons c r =>
      simp at hn
      rw [lineL] at h
      split at h
      · exact ih r (i + 1) out ws hn h ho
      · split at h
        · cases h; exact ho
        · rename_i h35
          split at h
          · cases hu : unqE r (i + 1) with
            | error p => rw [hu] at h; cases h
            | ok te =>
              rw [hu] at h
              refine ih _ _ _ ws (by rw [List.length_drop]; omega) h ?_
              intro w hw hq
              rcases List.mem_append.1 hw with hw | hw
              · exact ho w hw hq
              · simp at hw
                rw [hw] at hq
                cases hq
          · split at h
            · rename_i hp
              split at h
              · refine ih _ _ _ ws (by rw [List.length_drop]; omega) h ?_
                intro w hw hq
                rcases List.mem_append.1 hw with hw | hw
                · exact ho w hw hq
                · simp at hw
                  rw [hw]
                  unfold plainW
                  rw [allPlain_cons, hp, plain_take r]
                  simpa [headOk] using h35
              · cases h
            · cases h

end Go.Proofs.YtbeflhpekklgoaaGreatDoor.SpecSp

namespace Go.Proofs.YtbeflhpekklgoaaGreatDoor.SpecSm
open Go.Proofs.YtbeflhpekklgoaaGreatDoor.GramMath Go.Proofs.YtbeflhpekklgoaaGreatDoor.GramOne Go.Proofs.YtbeflhpekklgoaaGreatDoor.LineRead Go.Proofs.YtbeflhpekklgoaaGreatDoor.LineMath Go.Proofs.YtbeflhpekklgoaaGreatDoor.SpecLn Go.Proofs.YtbeflhpekklgoaaGreatDoor.SpecMd Go.Proofs.YtbeflhpekklgoaaGreatDoor.SpecTx Go.Proofs.YtbeflhpekklgoaaGreatDoor.SpecPl Go.Proofs.YtbeflhpekklgoaaGreatDoor.SpecSp Go.Proofs.YtbeflhpekklgoaaGreatDoor.WordsMath
set_option linter.unusedVariables false
set_option linter.unusedSimpArgs false

/-- An alternative without its places. -/
def bare (s : Sd) : List UInt8 × List (List UInt8 × Bool) := (s.left, s.names.map prW)
def Same (a b : List Sd) : Prop := a.map bare = b.map bare
theorem mk_same {w u : Wd} (h : prW w = prW u) (c : UInt8) : mk w c = mk u c := by
  have ht : w.text = u.text := congrArg Prod.fst h
  have hq : w.quoted = u.quoted := congrArg Prod.snd h
  unfold mk
  rw [ht, hq]
theorem name_same {w u : Wd} (h : prW w = prW u) : nameB w = nameB u := by
  unfold nameB lenB
  rw [mk_same h, mk_same h]
  have : w.text = u.text := congrArg Prod.fst h
  rw [this]
theorem Same.nil {a : List Sd} (h : Same a []) : a = [] := by unfold Same at h; simpa using h
theorem Same.app {a b c d : List Sd} (h : Same a b) (k : Same c d) : Same (a ++ c) (b ++ d) := by
  unfold Same at h k ⊢
  rw [List.map_append, List.map_append, h, k]
theorem Same.shift {a b : List Sd} (h : Same a b) (m n : Nat) : Same (a.map (shift m)) (b.map (shift n)) := by
  unfold Same at h ⊢
  rw [List.map_map, List.map_map]
  exact h
theorem Same.last {a b : List Sd} (h : Same a b) : lastL a = lastL b := by
  unfold Same at h
  have := congrArg List.getLast? h
  rw [List.getLast?_map, List.getLast?_map] at this
  unfold lastL
  cases ha : a.getLast? <;> cases hb : b.getLast? <;> rw [ha, hb] at this <;> simp [bare] at this ⊢
  exact this.1
theorem Same.push {a b : List Sd} (h : Same a b) {w u : Wd} (hw : prW w = prW u) : Same (push 0 a w) (push 0 b u) := by
  rcases List.eq_nil_or_concat a with ha | ⟨a', x, ha⟩
  · rw [ha] at h ⊢
    have hb : b = [] := by unfold Same at h; simpa using h.symm
    rw [hb]
    exact rfl
  · rcases List.eq_nil_or_concat b with hb | ⟨b', y, hb⟩
    · rw [ha, hb] at h
      have := h.nil
      simp at this
    · rw [List.concat_eq_append] at ha hb
      rw [ha, hb] at h ⊢
      unfold Same at h
      rw [List.map_append, List.map_append, List.map_singleton, List.map_singleton] at h
      have h2 := List.append_inj' h (by simp)
      have hx : bare x = bare y := by simpa using h2.2
      unfold SpecLn.push
      rw [List.getLast?_concat, List.getLast?_concat, List.dropLast_concat, List.dropLast_concat]
      unfold Same
      simp only [List.map_append, List.map_cons, List.map_nil]
      rw [h2.1]
      congr 1
      unfold bare at hx ⊢
      rw [Prod.mk.injEq] at hx
      simp only [List.map_append, List.map_cons, List.map_nil, hx.1, hx.2, hw]
/-- Two answers: both the same but for places, or both wrong. -/
def Two {α : Type} (R : α → α → Prop) : Except Nat α → Except Nat α → Prop
  | .ok a, .ok b => R a b
  | .error _, .error _ => True
  | _, _ => False
theorem go_same (left : List UInt8) : ∀ (ws us : List Wd) (a b : List Sd), ws.map prW = us.map prW → Same a b → Two Same (docGo left ws a) (docGo left us b)
  | [], [], a, b, _, h => h
  | [], u :: us, a, b, e, h => by simp at e
  | w :: ws, [], a, b, e, h => by simp at e
  | w :: ws, u :: us, a, b, e, h => by
    rw [List.map_cons, List.map_cons, List.cons.injEq] at e
    unfold docGo
    rw [mk_same e.1, name_same e.1]
    split
    · exact go_same left ws us _ _ e.2 (h.app rfl)
    · split
      · exact go_same left ws us _ _ e.2 (h.push e.1)
      · trivial
theorem two_map {a b : Except Nat (List Sd)} (l : List UInt8) (h : Two Same a b) : Two (fun x y => Same x.1 y.1) (a.map (·, l)) (b.map (·, l)) := by
  cases a <;> cases b <;> exact h
theorem line_same {ws us : List Wd} (e : ws.map prW = us.map prW) (left : List UInt8) (m n : Nat) : Two (fun x y => Same x.1 y.1) (docLine ws left m) (docLine us left n) := by
  cases ws with
  | nil =>
    cases us with
    | nil => exact (rfl : Same [] [])
    | cons u us => simp at e
  | cons w ws =>
    cases us with
    | nil => simp at e
    | cons u us =>
      have e0 := e
      rw [List.map_cons, List.map_cons, List.cons.injEq] at e
      have ht : w.text = u.text := congrArg Prod.fst e.1
      have hq : w.quoted = u.quoted := congrArg Prod.snd e.1
      unfold docLine
      simp only
      rw [mk_same e.1, name_same e.1, hq, ht]
      split
      · split
        · trivial
        · exact two_map left (go_same left (w :: ws) (u :: us) [] [] e0 rfl)
      · split
        · have e2 := e.2
          cases ws with
          | nil =>
            cases us with
            | nil => trivial
            | cons d us => simp at e2
          | cons c ws =>
            cases us with
            | nil => simp at e2
            | cons d us =>
              rw [List.map_cons, List.map_cons, List.cons.injEq] at e2
              simp only
              rw [mk_same e2.1]
              split
              · exact two_map u.text (go_same u.text ws us _ _ e2.2 rfl)
              · trivial
        · trivial

/-! The grammar knows no places. -/
theorem sym_same {w u : Wd} (h : prW w = prW u) (ns ts : List ByteArray) : symS ns ts w = symS ns ts u ∧ symT ns ts w = symT ns ts u := by
  have ht : w.text = u.text := congrArg Prod.fst h
  have hq : w.quoted = u.quoted := congrArg Prod.snd h
  unfold symS symT
  rw [ht, hq]
  exact ⟨rfl, rfl⟩
theorem names_same (ns : List ByteArray) : ∀ (l k : List Wd) (ts : List ByteArray) (acc : List Int), l.map prW = k.map prW → namesZ ns l ts acc = namesZ ns k ts acc
  | [], [], _, _, _ => rfl
  | [], u :: k, _, _, e => by simp at e
  | w :: l, [], _, _, e => by simp at e
  | w :: l, u :: k, ts, acc, e => by
    rw [List.map_cons, List.map_cons, List.cons.injEq] at e
    unfold namesZ
    rw [(sym_same e.1 ns ts).1, (sym_same e.1 ns ts).2]
    exact names_same ns l k _ _ e.2
theorem nts_same : ∀ (a b : List Sd) (ns : List ByteArray), Same a b → ntsZ a ns = ntsZ b ns
  | [], [], _, _ => rfl
  | [], y :: b, _, e => by unfold Same at e; simp at e
  | x :: a, [], _, e => by unfold Same at e; simp at e
  | x :: a, y :: b, ns, e => by
    unfold Same at e
    rw [List.map_cons, List.map_cons, List.cons.injEq] at e
    have : x.left = y.left := congrArg Prod.fst e.1
    unfold ntsZ
    rw [this]
    exact nts_same a b _ e.2
theorem rules_same (ns : List ByteArray) : ∀ (a b : List Sd) (ts : List ByteArray) (rs : List R), Same a b → rulesZ ns a ts rs = rulesZ ns b ts rs
  | [], [], _, _, _ => rfl
  | [], y :: b, _, _, e => by unfold Same at e; simp at e
  | x :: a, [], _, _, e => by unfold Same at e; simp at e
  | x :: a, y :: b, ts, rs, e => by
    unfold Same at e
    rw [List.map_cons, List.map_cons, List.cons.injEq] at e
    have h1 : x.left = y.left := congrArg Prod.fst e.1
    have h2 : x.names.map prW = y.names.map prW := congrArg Prod.snd e.1
    unfold rulesZ
    rw [h1, names_same ns x.names y.names ts [] h2]
    exact rules_same ns a b _ _ e.2
theorem made_same {a b : List Sd} (h : Same a b) : madeZ a = madeZ b := by
  unfold madeZ
  rw [nts_same a b [] h, rules_same _ a b [] [] h]

/-! Lines of the same words, with lines without words between. -/
/-- Two lines are told apart by no word. -/
def Alike (l k : List UInt8) : Prop := l.length ≤ 1048576 ∧ k.length ≤ 1048576 ∧ ∃ ws us, lineL l 0 [] = .ok ws ∧ lineL k 0 [] = .ok us ∧ ws.map prW = us.map prW
def Blank (l : List UInt8) : Prop := l.length ≤ 1048576 ∧ lineL l 0 [] = .ok []
/-- Each line, then one without words. -/
def woven (z : List UInt8) : List (List UInt8) → List (List UInt8)
  | [] => []
  | k :: ks => k :: z :: woven z ks
end Go.Proofs.YtbeflhpekklgoaaGreatDoor.SpecSm
