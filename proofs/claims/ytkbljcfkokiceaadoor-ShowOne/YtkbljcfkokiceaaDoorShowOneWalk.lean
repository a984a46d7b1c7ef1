/-
  Of two readable grammars the texts are the same just if the grammars are; the walk of ShowOne: it answers true for every two grammars, and writes nothing that was there.
-/
import Derived.Test.YtkbljcfkokiceaaDoorShowText
import Derived.Test.YtkbljcfkokiceaaDoorShowKnown
import Derived.Test.YtkbljcfkokiceaaDoorGramLentG
import Derived.Test.YtkbljcfkokiceaaDoorGramOpenL
import Derived.Test.YtkbljcfkokiceaaDoorGramEq
namespace Go.Proofs.YtkbljcfkokiceaaDoor.ShowOneM
open Go.Proofs.YtkbljcfkokiceaaDoor.WordsMath Go.Proofs.YtkbljcfkokiceaaDoor.GramMath Go.Proofs.YtkbljcfkokiceaaDoor.ShowMath Go.Proofs.YtkbljcfkokiceaaDoor.ShowSym Go.Proofs.YtkbljcfkokiceaaDoor.ShowOrd Go.Proofs.YtkbljcfkokiceaaDoor.ShowTxt
set_option linter.unusedVariables false


theorem u8_ext {a b : UInt8} (h : a.toNat = b.toNat) : a = b := UInt8.toNat_inj.1 h

theorem hexN_hexB (n : Nat) (h : n < 16) : hexN (hexB n).toNat = some n := by
  have : ∀ n : Fin 16, hexN (hexB n.1).toNat = some n.1 := by decide
  exact this ⟨n, h⟩

/-- A quoted byte is read as itself. -/
theorem unqL_byte (c : UInt8) (X : List UInt8) (j : Nat) (acc : List UInt8) : unqL (quoteB c ++ X) j acc = unqL X (j + (quoteB c).length) (acc ++ [c]) := by
  unfold quoteB
  by_cases h1 : c.toNat = 34 ∨ c.toNat = 92
  · rw [if_pos h1]
    have hp : pieceL 92 (c :: X) = some (c, 1) := by
      unfold pieceL escL
      rw [if_pos (show (92 : UInt8).toNat = 92 by decide)]
      simp [h1]
    show unqL (92 :: c :: X) j acc = _
    rw [unqL_some (by decide) hp]
    rfl
  · rw [if_neg h1]
    by_cases h2 : c.toNat = 10
    · rw [if_pos h2]
      obtain rfl : c = 10 := u8_ext h2
      have hp : pieceL 92 (110 :: X) = some (10, 1) := rfl
      show unqL (92 :: 110 :: X) j acc = _
      rw [unqL_some (by decide) hp]
      rfl
    · rw [if_neg h2]
      by_cases h3 : c.toNat < 32 ∨ 127 ≤ c.toNat
      · rw [if_pos h3]
        have hlt := c.toNat_lt
        have hv : UInt8.ofNat (16 * (c.toNat / 16) + c.toNat % 16) = c := by
          apply u8_ext
          rw [UInt8.toNat_ofNat']
          omega
        have hs : sixL (hexB (c.toNat / 16) :: hexB (c.toNat % 16) :: X) = some c := by
          unfold sixL
          dsimp only
          rw [hexN_hexB _ (by omega), hexN_hexB _ (by omega)]
          dsimp only
          rw [hv]
        have hp : pieceL 92 (120 :: hexB (c.toNat / 16) :: hexB (c.toNat % 16) :: X) = some (c, 3) := by
          unfold pieceL
          rw [if_pos (show (92 : UInt8).toNat = 92 by decide)]
          unfold escL
          dsimp only
          rw [if_neg (by decide), if_neg (by decide), if_pos (by decide), hs]
          rfl
        show unqL (92 :: 120 :: hexB (c.toNat / 16) :: hexB (c.toNat % 16) :: X) j acc = _
        rw [unqL_some (by decide) hp]
        rfl
      · rw [if_neg h3]
        have hp : pieceL c X = some (c, 0) := by
          unfold pieceL
          rw [if_neg (by omega), if_neg h2]
        show unqL (c :: X) j acc = _
        rw [unqL_some (by omega) hp]
        rfl

theorem unqL_quoted (X : List UInt8) : ∀ (t : List UInt8) (j : Nat) (acc : List UInt8), unqL (t.flatMap quoteB ++ 34 :: X) j acc = .ok (acc ++ t, j + (t.flatMap quoteB).length + 1)
  | [], j, acc => by
    rw [List.flatMap_nil, List.nil_append, unqL_end (by decide)]
    simp
  | c :: r, j, acc => by
    rw [List.flatMap_cons, List.append_assoc, unqL_byte, unqL_quoted X r, List.length_append]
    simp only [List.append_assoc, List.cons_append, List.nil_append]
    rw [Nat.add_assoc j]

/-- A word of a text: plain, or quoted. -/
def Wd (w : List UInt8) : Prop := plainW w = true ∨ ∃ t, w = quoteL t
def Sep (X : List UInt8) : Prop := ∃ c Y, X = c :: Y ∧ (c.toNat = 32 ∨ c.toNat = 10)

theorem sep_not {c : UInt8} (h : c.toNat = 32 ∨ c.toNat = 10) : plainN c.toNat = false := by
  unfold plainN
  rcases h with h | h <;> rw [h] <;> decide

theorem plain_cut {X Y : List UInt8} (hX : Sep X) (hY : Sep Y) : ∀ w w' : List UInt8, allPlain w = true → allPlain w' = true → w ++ X = w' ++ Y → w = w' ∧ X = Y
  | [], [], _, _, h => ⟨rfl, h⟩
  | [], d :: s, _, h2, h => by
    obtain ⟨c, Z, rfl, hc⟩ := hX
    rw [List.nil_append, List.cons_append] at h
    obtain ⟨rfl, _⟩ := List.cons.inj h
    rw [allPlain_cons, Bool.and_eq_true, sep_not hc] at h2
    cases h2.1
  | c :: r, [], h1, _, h => by
    obtain ⟨d, Z, rfl, hd⟩ := hY
    rw [List.nil_append, List.cons_append] at h
    obtain ⟨rfl, _⟩ := List.cons.inj h
    rw [allPlain_cons, Bool.and_eq_true, sep_not hd] at h1
    cases h1.1
  | c :: r, d :: s, h1, h2, h => by
    rw [List.cons_append, List.cons_append] at h
    obtain ⟨rfl, h'⟩ := List.cons.inj h
    rw [allPlain_cons, Bool.and_eq_true] at h1 h2
    obtain ⟨rfl, h3⟩ := plain_cut hX hY r s h1.2 h2.2 h'
    exact ⟨rfl, h3⟩

theorem plain_head {w : List UInt8} (h : plainW w = true) : ∃ c r, w = c :: r ∧ plainN c.toNat = true ∧ allPlain w = true := by
  unfold plainW at h
  rw [Bool.and_eq_true] at h
  cases w with
  | nil => cases h.2
  | cons c r => exact ⟨c, r, rfl, (Bool.and_eq_true _ _ ▸ (allPlain_cons c r ▸ h.1)).1, h.1⟩

theorem quote_not_plain {t w : List UInt8} {X Y : List UInt8} (h : plainW w = true) (e : w ++ X = quoteL t ++ Y) : False := by
  obtain ⟨c, r, rfl, hc, _⟩ := plain_head h
  unfold quoteL at e
  rw [List.cons_append, List.cons_append] at e
  obtain ⟨rfl, _⟩ := List.cons.inj e
  revert hc
  decide

theorem word_cut {w w' X Y : List UInt8} (h : Wd w) (h' : Wd w') (hX : Sep X) (hY : Sep Y) (e : w ++ X = w' ++ Y) : w = w' ∧ X = Y := by
  rcases h with h | ⟨t, rfl⟩
  · rcases h' with h' | ⟨t', rfl⟩
    · obtain ⟨_, _, _, _, a1⟩ := plain_head h
      obtain ⟨_, _, _, _, a2⟩ := plain_head h'
      exact plain_cut hX hY w w' a1 a2 e
    · exact (quote_not_plain h e).elim
  · rcases h' with h' | ⟨t', rfl⟩
    · exact (quote_not_plain h' e.symm).elim
    · unfold quoteL at e
      rw [List.cons_append, List.cons_append] at e
      obtain ⟨_, e⟩ := List.cons.inj e
      rw [List.append_assoc, List.append_assoc, List.cons_append, List.cons_append, List.nil_append, List.nil_append] at e
      have u1 := unqL_quoted X t 0 []
      have u2 := unqL_quoted Y t' 0 []
      rw [e, u2] at u1
      have u3 := Except.ok.inj u1
      have u4 : t' = t := by simpa using (Prod.mk.inj u3).1
      subst u4
      have := List.append_cancel_left e
      exact ⟨rfl, (List.cons.inj this).2⟩

abbrev Tok := UInt8 × List UInt8
def flatT (l : List Tok) : List UInt8 := l.flatMap (fun x => x.1 :: x.2)
def GoodT (l : List Tok) : Prop := ∀ x ∈ l, (x.1.toNat = 32 ∨ x.1.toNat = 10) ∧ Wd x.2

theorem sep_flat {A : List Tok} (h : GoodT A) : Sep (flatT A ++ [10]) := by
  cases A with
  | nil => exact ⟨10, [], rfl, .inr (by decide)⟩
  | cons x r => exact ⟨x.1, _, by unfold flatT; rw [List.flatMap_cons, List.cons_append, List.cons_append], (h x List.mem_cons_self).1⟩

theorem toks_one : ∀ A B : List Tok, GoodT A → GoodT B → flatT A ++ [10] = flatT B ++ [10] → A = B
  | [], [], _, _, _ => rfl
  | [], y :: B, _, _, h => by
    have := congrArg List.length h
    unfold flatT at this
    simp at this
  | x :: A, [], _, _, h => by
    have := congrArg List.length h
    unfold flatT at this
    simp at this
  | x :: A, y :: B, hA, hB, h => by
    have hA' : GoodT A := fun z hz => hA z (List.mem_cons_of_mem _ hz)
    have hB' : GoodT B := fun z hz => hB z (List.mem_cons_of_mem _ hz)
    have e : x.1 :: (x.2 ++ (flatT A ++ [10])) = y.1 :: (y.2 ++ (flatT B ++ [10])) := by
      unfold flatT at h ⊢
      rw [List.flatMap_cons, List.flatMap_cons] at h
      simpa using h
    obtain ⟨e1, e2⟩ := List.cons.inj e
    obtain ⟨e3, e4⟩ := word_cut (hA x List.mem_cons_self).2 (hB y List.mem_cons_self).2 (sep_flat hA') (sep_flat hB') e2
    rw [toks_one A B hA' hB' e4, Prod.ext e1 e3]

/-- The words of rules, what stands ahead of each with it. -/
def nmL (g : G) (l : Int) : List UInt8 := (symS g (-1 - l)).data.toList
def hd (g : G) (prev : Option Int) (r : R) : List Tok := if prev = some r.left then [(32, [124])] else [(10, nmL g r.left), (32, [58])]
def syT (g : G) (l : List Int) : List Tok := l.map (fun x => (32, (symS g x).data.toList))
def toks (g : G) : Option Int → List R → List Tok
  | _, [] => []
  | prev, r :: rs => hd g prev r ++ (syT g r.right ++ toks g (some r.left) rs)

theorem toks_snoc (g : G) (r : R) : ∀ (l : List R) (prev : Option Int), toks g prev (l ++ [r]) = toks g prev l ++ (hd g ((l.getLast?.map (·.left)).or prev) r ++ syT g r.right)
  | [], prev => by simp [toks]
  | a :: l, prev => by
    rw [List.cons_append]
    show hd g prev a ++ (syT g a.right ++ toks g (some a.left) (l ++ [r])) = _
    rw [toks_snoc g r l (some a.left)]
    show _ = hd g prev a ++ (syT g a.right ++ toks g (some a.left) l) ++ _
    have e : ((a :: l).getLast?.map (·.left)).or prev = (l.getLast?.map (·.left)).or (some a.left) := by
      cases l with
      | nil => rfl
      | cons b l =>
        rw [List.getLast?_cons_cons]
        cases h : (b :: l).getLast? with
        | none => simp at h
        | some z => rfl
    rw [e]
    simp [List.append_assoc]

theorem left_words (g : G) (r : R) : (leftS g r).data.toList = nmL g r.left ++ [32, 58] := by
  unfold leftS nmL
  rw [ByteArray.data_append]
  simp
theorem right_words (g : G) (r : R) : (rightS g r).data.toList = flatT (syT g r.right) := by
  unfold rightS
  by_cases h : r.right.length = 0
  · rw [if_pos h, List.eq_nil_of_length_eq_zero h]
    rfl
  · rw [if_neg h, ByteArray.data_append]
    obtain ⟨x, l, e⟩ : ∃ x l, r.right = x :: l := by
      cases e : r.right with
      | nil => rw [e] at h; exact absurd rfl h
      | cons x l => exact ⟨x, l, rfl⟩
    rw [e]
    unfold symsS symsL flatT syT
    rw [List.map_cons, List.map_cons, Lib.join_cons]
    simp [Lib.joinTail, List.flatMap_def]
    rfl

theorem text_toks (g : G) : ∀ k, k ≤ g.rs.length → 0 < k → 10 :: textTo g k = flatT (toks g none (g.rs.take k))
  | 0, _, h => by omega
  | k + 1, hk, _ => by
    obtain ⟨r, hr⟩ : ∃ r, g.rs[k]? = some r := ⟨g.rs[k]'(by omega), List.getElem?_eq_getElem (by omega)⟩
    obtain ⟨hk', he⟩ := List.getElem?_eq_some_iff.1 hr
    rw [text_step hr, List.take_succ_eq_append_getElem hk', he, toks_snoc]
    have hf : ∀ A B : List Tok, flatT (A ++ B) = flatT A ++ flatT B := fun A B => by unfold flatT; rw [List.flatMap_append]
    rw [hf, hf, right_words]
    by_cases h0 : k = 0
    · subst h0
      unfold headL sameB
      simp [textTo, toks, hd, left_words, flatT]
    · have ih := text_toks g k (by omega) (by omega)
      obtain ⟨r', hr'⟩ : ∃ r', g.rs[k - 1]? = some r' := ⟨g.rs[k - 1]'(by omega), List.getElem?_eq_getElem (by omega)⟩
      have hl : (g.rs.take k).getLast? = some r' := by
        rw [List.getLast?_eq_getElem?, List.length_take, Nat.min_eq_left (by omega), List.getElem?_take, if_pos (by omega)]
        exact hr'
      rw [hl, ← ih]
      have hh : headL g k r = flatT (hd g ((some r').map (·.left) |>.or none) r) := by
        unfold headL sameB hd
        rw [hr', decide_eq_true (show 0 < k by omega), if_pos (show 0 < k by omega)]
        by_cases hs : r'.left = r.left
        · simp [hs, flatT]
        · simp [hs, flatT, left_words]
      rw [hh]
      simp

theorem split_one {α : Type} {P : α → Prop} : ∀ (A B T T' : List α), (∀ a ∈ A, P a) → (∀ b ∈ B, P b) → (∀ x y, T = x :: y → ¬ P x) → (∀ x y, T' = x :: y → ¬ P x) → A ++ T = B ++ T' → A = B ∧ T = T'
  | [], [], T, T', _, _, _, _, h => ⟨rfl, h⟩
  | [], b :: B, T, T', _, hb, hT, _, h => (hT b (B ++ T') (by rw [List.nil_append] at h; exact h) (hb b List.mem_cons_self)).elim
  | a :: A, [], T, T', ha, _, _, hT', h => (hT' a (A ++ T) (by rw [List.nil_append] at h; exact h.symm) (ha a List.mem_cons_self)).elim
  | a :: A, b :: B, T, T', ha, hb, hT, hT', h => by
    rw [List.cons_append, List.cons_append] at h
    obtain ⟨rfl, h'⟩ := List.cons.inj h
    obtain ⟨rfl, h3⟩ := split_one A B T T' (fun x hx => ha x (List.mem_cons_of_mem _ hx)) (fun x hx => hb x (List.mem_cons_of_mem _ hx)) hT hT' h'
    exact ⟨rfl, h3⟩

/-- A rule in words. -/
def nr (g : G) (r : R) : List UInt8 × List (List UInt8) := (nmL g r.left, r.right.map (fun x => (symS g x).data.toList))
def isSy (x : Tok) : Prop := x.1 = 32 ∧ x.2 ≠ [124]

theorem sy_good {g : G} {l : List Int} (h : ∀ x ∈ l, (symS g x).data.toList ≠ [124]) : ∀ a ∈ syT g l, isSy a := by
  intro a ha
  obtain ⟨x, hx, rfl⟩ := List.mem_map.1 ha
  exact ⟨rfl, h x hx⟩
theorem toks_head {g : G} {prev : Option Int} {rs : List R} : ∀ x y, toks g prev rs = x :: y → ¬ isSy x := by
  intro x y e
  cases rs with
  | nil => cases e
  | cons r rs =>
    unfold toks hd at e
    split at e
    · rw [List.cons_append] at e
      obtain ⟨rfl, _⟩ := List.cons.inj e
      exact fun h => h.2 rfl
    · rw [List.cons_append] at e
      obtain ⟨rfl, _⟩ := List.cons.inj e
      exact fun h => absurd (show (10 : UInt8) = 32 from h.1) (by decide)
theorem sy_words {g h : G} {l l' : List Int} (e : syT g l = syT h l') : l.map (fun x => (symS g x).data.toList) = l'.map (fun x => (symS h x).data.toList) := by
  have := congrArg (List.map Prod.snd) e
  unfold syT at this
  rw [List.map_map, List.map_map] at this
  exact this

theorem rules_one {g h : G} : ∀ (rs rs' : List R) (pg ph : Option Int), pg.map (nmL g) = ph.map (nmL h) → (∀ r ∈ rs, ∀ x ∈ r.right, (symS g x).data.toList ≠ [124]) → (∀ r ∈ rs', ∀ x ∈ r.right, (symS h x).data.toList ≠ [124]) → toks g pg rs = toks h ph rs' → rs.map (nr g) = rs'.map (nr h)
  | [], [], _, _, _, _, _, _ => rfl
  | [], r' :: rs', pg, ph, _, _, _, e => by
    unfold toks hd at e
    split at e <;> cases e
  | r :: rs, [], pg, ph, _, _, _, e => by
    unfold toks hd at e
    split at e <;> cases e
  | r :: rs, r' :: rs', pg, ph, hp, h1, h2, e => by
    have key : nmL g r.left = nmL h r'.left ∧ syT g r.right ++ toks g (some r.left) rs = syT h r'.right ++ toks h (some r'.left) rs' := by
      unfold toks hd at e
      by_cases c1 : pg = some r.left
      · by_cases c2 : ph = some r'.left
        · rw [if_pos c1, if_pos c2] at e
          refine ⟨?_, (List.cons.inj e).2⟩
          rw [c1, c2] at hp
          exact Option.some.inj hp
        · rw [if_pos c1, if_neg c2] at e
          have : (32 : UInt8) = 10 := congrArg Prod.fst (List.cons.inj e).1
          exact absurd this (by decide)
      · by_cases c2 : ph = some r'.left
        · rw [if_neg c1, if_pos c2] at e
          have : (10 : UInt8) = 32 := congrArg Prod.fst (List.cons.inj e).1
          exact absurd this (by decide)
        · rw [if_neg c1, if_neg c2] at e
          exact ⟨congrArg Prod.snd (List.cons.inj e).1, (List.cons.inj (List.cons.inj e).2).2⟩
    obtain ⟨k1, k2⟩ := key
    obtain ⟨k3, k4⟩ := split_one _ _ _ _ (sy_good (h1 r List.mem_cons_self)) (sy_good (h2 r' List.mem_cons_self)) toks_head toks_head k2
    have ih := rules_one rs rs' (some r.left) (some r'.left) (by rw [Option.map_some, Option.map_some, k1]) (fun x hx => h1 x (List.mem_cons_of_mem _ hx)) (fun x hx => h2 x (List.mem_cons_of_mem _ hx)) k4
    rw [List.map_cons, List.map_cons, ih]
    unfold nr
    rw [k1, sy_words k3]

end Go.Proofs.YtkbljcfkokiceaaDoor.ShowOneM

namespace Go.Proofs.YtkbljcfkokiceaaDoor.ShowOneM
open Go.Proofs.YtkbljcfkokiceaaDoor.WordsMath Go.Proofs.YtkbljcfkokiceaaDoor.GramMath Go.Proofs.YtkbljcfkokiceaaDoor.ShowMath Go.Proofs.YtkbljcfkokiceaaDoor.ShowSym Go.Proofs.YtkbljcfkokiceaaDoor.ShowOrd Go.Proofs.YtkbljcfkokiceaaDoor.ShowTxt
set_option linter.unusedVariables false

theorem ext_list {a b : ByteArray} (h : a.data.toList = b.data.toList) : a = b := by
  cases a
  cases b
  congr 1
  exact Array.toList_inj.1 h

/-- No name stands twice. -/
def Inj (ss : List ByteArray) : Prop := ∀ (i j : Nat) (x : ByteArray), ss[i]? = some x → ss[j]? = some x → i = j

theorem named_inj {ss : List ByteArray} (h : named ss = true) : Inj ss := by
  have key : ∀ (i j : Nat) (x : ByteArray), i < j → ss[i]? = some x → ss[j]? = some x → False := by
    intro i j x hij hi hj
    have hjl := (List.getElem?_eq_some_iff.1 hj).1
    unfold named namedTo at h
    rw [List.all_eq_true] at h
    have hn := h j (List.mem_range.2 hjl)
    unfold nameAt at hn
    rw [hj] at hn
    simp only [Bool.and_eq_true, Bool.not_eq_true'] at hn
    have hm : memB x (ss.take j) = true := (memB_iff x _).2 (List.mem_of_getElem? (i := i) (by rw [List.getElem?_take, if_pos hij]; exact hi))
    rw [hn.2] at hm
    cases hm
  intro i j x hi hj
  rcases Nat.lt_trichotomy i j with h1 | h1 | h1
  · exact (key i j x h1 hi hj).elim
  · exact h1
  · exact (key j i x h1 hj hi).elim

def at0 (ss : List ByteArray) (x : Int) : ByteArray := ss.getD x.toNat ⟨#[]⟩
theorem at0_get {ss : List ByteArray} {x : Int} (h : 0 ≤ x) (h2 : x < (ss.length : Int)) : ss[x.toNat]? = some (at0 ss x) := by
  unfold at0
  rw [List.getD_eq_getElem?_getD, List.getElem?_eq_getElem (by omega)]
  rfl
theorem at0_inj {ss : List ByteArray} (hi : Inj ss) {x y : Int} (h : 0 ≤ x) (h2 : x < (ss.length : Int)) (h3 : 0 ≤ y) (h4 : y < (ss.length : Int)) (e : at0 ss x = at0 ss y) : x = y := by
  have := hi _ _ _ (at0_get h h2) (by rw [e]; exact at0_get h3 h4)
  omega

/-- Each name once, as they stand first. -/
def ded (acc : List ByteArray) : List ByteArray → List ByteArray
  | [] => acc
  | x :: r => if memB x acc = true then ded acc r else ded (acc ++ [x]) r

theorem ded_rise {ss : List ByteArray} (hi : Inj ss) : ∀ (l : List Int) (next : Nat), next ≤ ss.length → riseZ l next ss.length = true → (∀ x ∈ l, 0 ≤ x ∧ x < (ss.length : Int)) → ded (ss.take next) (l.map (at0 ss)) = ss
  | [], next, hn, h, _ => by
    have : next = ss.length := of_decide_eq_true h
    show ss.take next = ss
    rw [this, List.take_length]
  | x :: l, next, hn, h, hx => by
    obtain ⟨x0, x1⟩ := hx x List.mem_cons_self
    have hl : ∀ y ∈ l, 0 ≤ y ∧ y < (ss.length : Int) := fun y hy => hx y (List.mem_cons_of_mem _ hy)
    have hg := at0_get x0 x1
    unfold riseZ at h
    show (if memB (at0 ss x) (ss.take next) = true then ded (ss.take next) (l.map (at0 ss)) else ded (ss.take next ++ [at0 ss x]) (l.map (at0 ss))) = ss
    by_cases h1 : (next : Int) < x
    · rw [if_pos h1] at h
      cases h
    · rw [if_neg h1] at h
      by_cases h2 : x = (next : Int)
      · rw [if_pos h2] at h
        have hm : ¬ memB (at0 ss x) (ss.take next) = true := by
          intro hm
          obtain ⟨i, hi2⟩ := List.getElem?_of_mem ((memB_iff _ _).1 hm)
          rw [List.getElem?_take] at hi2
          split at hi2
          · have := hi _ _ _ hi2 hg
            omega
          · cases hi2
        rw [if_neg hm]
        have hk : next < ss.length := by omega
        have e : ss.take next ++ [at0 ss x] = ss.take (next + 1) := by
          rw [List.take_succ_eq_append_getElem hk]
          have : x.toNat = next := by omega
          rw [this, List.getElem?_eq_getElem hk] at hg
          rw [Option.some.inj hg]
        rw [e]
        exact ded_rise hi l (next + 1) (by omega) h hl
      · rw [if_neg h2] at h
        have hm : memB (at0 ss x) (ss.take next) = true := (memB_iff _ _).2 (List.mem_of_getElem? (i := x.toNat) (by rw [List.getElem?_take, if_pos (by omega)]; exact hg))
        rw [if_pos hm]
        exact ded_rise hi l next hn h hl

/-- What is known of a readable grammar. -/
structure Rd (g : G) : Prop where
  good : GoodG g
  words : ∀ s ∈ g.ns, isW s = true
  ax : g.ax = 0
  lefts : riseZ (leftsL g) 0 g.ns.length = true
  terms : riseZ (termsL g.rs) 0 g.ts.length = true

theorem Rd.of {g : G} (h : (rdZ g).1 = 0) : Rd g := by
  obtain ⟨h1, h2, h3⟩ := rd_check h
  unfold orderB at h3
  simp only [Bool.and_eq_true, decide_eq_true_eq] at h3
  exact ⟨good_of h1, List.all_eq_true.1 h2, h3.1.1, h3.1.2, h3.2⟩

theorem isW_plainW {s : ByteArray} (h : isW s = true) : plainW s.data.toList = true ∧ s ≠ bar := by
  unfold isW at h
  simp only [Bool.and_eq_true, Bool.not_eq_true'] at h
  exact ⟨h.1, fun e => by rw [e, (eqB_iff bar bar).2 rfl] at h; cases h.2.2⟩

theorem sym_nt {g : G} (hg : Rd g) {x : Int} (h : x < 0) (h2 : -(g.ns.length : Int) ≤ x) : symS g x = at0 g.ns (-1 - x) ∧ isW (at0 g.ns (-1 - x)) = true := by
  have hx := at0_get (ss := g.ns) (x := -1 - x) (by omega) (by omega)
  have hw := hg.words _ (List.mem_of_getElem? hx)
  have e := symS_nat hx
  rw [Int.toNat_of_nonneg (by omega), show -1 - (-1 - x) = x by omega] at e
  rw [e]
  unfold ntS
  rw [if_pos hw]
  exact ⟨rfl, hw⟩
theorem sym_tm {g : G} {x : Int} (h : 0 ≤ x) (h2 : x < (g.ts.length : Int)) : symS g x = tmS g (at0 g.ts x) := by
  have e := symS_at (at0_get h h2)
  rw [Int.toNat_of_nonneg h] at e
  exact e
theorem tm_cases (g : G) (t : ByteArray) : (tmS g t = t ∧ memB t g.ns = false ∧ isW t = true) ∨ tmS g t = quoteS t := by
  unfold tmS
  cases h : tmB g t with
  | false => exact .inr rfl
  | true =>
    unfold tmB at h
    simp only [Bool.and_eq_true, Bool.not_eq_true'] at h
    exact .inl ⟨rfl, h.1, h.2⟩
theorem plain_ne_quote {s t : ByteArray} (h : plainW s.data.toList = true) : s ≠ quoteS t := by
  intro e
  have : s.data.toList ++ [] = quoteL t.data.toList ++ [] := by rw [e]; rfl
  exact quote_not_plain h this
theorem quote_inj {s t : ByteArray} (h : quoteS s = quoteS t) : s = t := by
  have e : quoteL s.data.toList ++ [10] = quoteL t.data.toList ++ [10] := by
    have := congrArg (fun z : ByteArray => z.data.toList ++ [10]) h
    exact this
  unfold quoteL at e
  rw [List.cons_append, List.cons_append] at e
  obtain ⟨_, e⟩ := List.cons.inj e
  rw [List.append_assoc, List.append_assoc, List.cons_append, List.nil_append] at e
  have u1 := unqL_quoted [10] s.data.toList 0 []
  have u2 := unqL_quoted [10] t.data.toList 0 []
  rw [e, u2] at u1
  have u3 := Except.ok.inj u1
  exact ext_list (by simpa using (Prod.mk.inj u3).1.symm)

theorem sym_word {g : G} (hg : Rd g) {x : Int} (h : -(g.ns.length : Int) ≤ x) (h2 : x < (g.ts.length : Int)) : Wd (symS g x).data.toList ∧ (symS g x).data.toList ≠ [124] := by
  have hb : ∀ s : ByteArray, isW s = true → s.data.toList ≠ [124] := fun s hs e => (isW_plainW hs).2 (ext_list e)
  by_cases h0 : x < 0
  · obtain ⟨e1, e2⟩ := sym_nt hg h0 h
    rw [e1]
    exact ⟨.inl (isW_plainW e2).1, hb _ e2⟩
  · rw [sym_tm (by omega) h2]
    rcases tm_cases g (at0 g.ts x) with ⟨e, _, e2⟩ | e
    · rw [e]
      exact ⟨.inl (isW_plainW e2).1, hb _ e2⟩
    · rw [e]
      refine ⟨.inr ⟨_, rfl⟩, fun e3 => ?_⟩
      have e4 : quoteL (at0 g.ts x).data.toList = [124] := e3
      unfold quoteL at e4
      have : (34 : UInt8) = 124 := (List.cons.inj e4).1
      exact absurd this (by decide)

/-- The same word in two grammars with the same nonterminals. -/
theorem sym_same {g h : G} (hg : Rd g) (hh : Rd h) (hn : g.ns = h.ns) {x y : Int} (x1 : -(g.ns.length : Int) ≤ x) (x2 : x < (g.ts.length : Int)) (y1 : -(h.ns.length : Int) ≤ y) (y2 : y < (h.ts.length : Int)) (e : symS g x = symS h y) :
    (x < 0 ∧ y = x) ∨ (0 ≤ x ∧ 0 ≤ y ∧ at0 g.ts x = at0 h.ts y) := by
  by_cases h0 : x < 0
  · obtain ⟨e1, e2⟩ := sym_nt hg h0 x1
    by_cases k0 : y < 0
    · obtain ⟨f1, f2⟩ := sym_nt hh k0 y1
      rw [e1, f1, ← hn] at e
      have hl : h.ns.length = g.ns.length := by rw [hn]
      have := at0_inj (named_inj hg.good.nn) (x := -1 - x) (y := -1 - y) (by omega) (by omega) (by omega) (by omega) e
      exact .inl ⟨h0, by omega⟩
    · rw [e1, sym_tm (by omega) y2] at e
      rcases tm_cases h (at0 h.ts y) with ⟨f, f2, _⟩ | f
      · rw [f] at e
        rw [← e, ← hn, (memB_iff _ _).2 (List.mem_of_getElem? (at0_get (by omega) (by omega)))] at f2
        cases f2
      · rw [f] at e
        exact (plain_ne_quote (isW_plainW e2).1 e).elim
  · by_cases k0 : y < 0
    · obtain ⟨f1, f2⟩ := sym_nt hh k0 y1
      rw [f1, sym_tm (by omega) x2] at e
      rcases tm_cases g (at0 g.ts x) with ⟨f, f3, _⟩ | f
      · rw [f] at e
        rw [e, hn, (memB_iff _ _).2 (List.mem_of_getElem? (at0_get (by omega) (by omega)))] at f3
        cases f3
      · rw [f] at e
        exact (plain_ne_quote (isW_plainW f2).1 e.symm).elim
    · refine .inr ⟨by omega, by omega, ?_⟩
      rw [sym_tm (by omega) x2, sym_tm (by omega) y2] at e
      rcases tm_cases g (at0 g.ts x) with ⟨f, _, f3⟩ | f <;> rcases tm_cases h (at0 h.ts y) with ⟨k, _, k3⟩ | k
      · rw [f, k] at e; exact e
      · rw [f, k] at e; exact (plain_ne_quote (isW_plainW f3).1 e).elim
      · rw [f, k] at e; exact (plain_ne_quote (isW_plainW k3).1 e.symm).elim
      · rw [f, k] at e; exact quote_inj e

/-- A list of symbols of a grammar. -/
def InG (g : G) (l : List Int) : Prop := ∀ x ∈ l, -(g.ns.length : Int) ≤ x ∧ x < (g.ts.length : Int)
theorem InG.tail {g : G} {x : Int} {l : List Int} (h : InG g (x :: l)) : InG g l := fun y hy => h y (List.mem_cons_of_mem _ hy)

theorem words_terms {g h : G} (hg : Rd g) (hh : Rd h) (hn : g.ns = h.ns) : ∀ l l' : List Int, InG g l → InG h l' → l.map (fun x => (symS g x).data.toList) = l'.map (fun x => (symS h x).data.toList) → (termsR l).map (at0 g.ts) = (termsR l').map (at0 h.ts)
  | [], [], _, _, _ => rfl
  | [], y :: l', _, _, e => by cases e
  | x :: l, [], _, _, e => by cases e
  | x :: l, y :: l', hx, hy, e => by
    rw [List.map_cons, List.map_cons] at e
    obtain ⟨e1, e2⟩ := List.cons.inj e
    have ih := words_terms hg hh hn l l' hx.tail hy.tail e2
    obtain ⟨x1, x2⟩ := hx x List.mem_cons_self
    obtain ⟨y1, y2⟩ := hy y List.mem_cons_self
    unfold termsR at ih ⊢
    rcases sym_same hg hh hn x1 x2 y1 y2 (ext_list e1) with ⟨a, b⟩ | ⟨a, b, c⟩
    · rw [List.filter_cons_of_neg (by simp; omega), List.filter_cons_of_neg (by simp; omega)]
      exact ih
    · rw [List.filter_cons_of_pos (by simp; omega), List.filter_cons_of_pos (by simp; omega), List.map_cons, List.map_cons, c, ih]

theorem words_nums {g h : G} (hg : Rd g) (hh : Rd h) (hn : g.ns = h.ns) (ht : g.ts = h.ts) : ∀ l l' : List Int, InG g l → InG h l' → l.map (fun x => (symS g x).data.toList) = l'.map (fun x => (symS h x).data.toList) → l = l'
  | [], [], _, _, _ => rfl
  | [], y :: l', _, _, e => by cases e
  | x :: l, [], _, _, e => by cases e
  | x :: l, y :: l', hx, hy, e => by
    rw [List.map_cons, List.map_cons] at e
    obtain ⟨e1, e2⟩ := List.cons.inj e
    have ih := words_nums hg hh hn ht l l' hx.tail hy.tail e2
    obtain ⟨x1, x2⟩ := hx x List.mem_cons_self
    obtain ⟨y1, y2⟩ := hy y List.mem_cons_self
    have hl : h.ts.length = g.ts.length := by rw [ht]
    rcases sym_same hg hh hn x1 x2 y1 y2 (ext_list e1) with ⟨a, b⟩ | ⟨a, b, c⟩
    · rw [b, ih]
    · rw [← ht] at c
      rw [at0_inj (named_inj hg.good.nt) a x2 b (by omega) c, ih]

theorem rule_in {g : G} (hg : Rd g) {r : R} (hr : r ∈ g.rs) : InG g r.right ∧ 0 ≤ r.left ∧ r.left < (g.ns.length : Int) := by
  obtain ⟨_, h2, h3⟩ := good_rule hg.good hr
  exact ⟨h3, h2⟩

theorem nm_at {g : G} (hg : Rd g) {l : Int} (h : 0 ≤ l) (h2 : l < (g.ns.length : Int)) : nmL g l = (at0 g.ns l).data.toList ∧ Wd (nmL g l) := by
  obtain ⟨e1, e2⟩ := sym_nt hg (x := -1 - l) (by omega) (by omega)
  rw [show -1 - (-1 - l) = l by omega] at e1 e2
  unfold nmL
  rw [e1]
  exact ⟨rfl, .inl (isW_plainW e2).1⟩

theorem toks_good {g : G} (hg : Rd g) : ∀ (rs : List R) (prev : Option Int), (∀ r ∈ rs, r ∈ g.rs) → GoodT (toks g prev rs)
  | [], _, _ => fun x hx => by cases hx
  | r :: rs, prev, h => by
    have ih := toks_good hg rs (some r.left) (fun x hx => h x (List.mem_cons_of_mem _ hx))
    obtain ⟨h1, h2, h3⟩ := rule_in hg (h r List.mem_cons_self)
    intro x hx
    unfold toks at hx
    rcases List.mem_append.1 hx with hx | hx
    · unfold hd at hx
      split at hx
      · obtain rfl := List.mem_singleton.1 hx
        exact ⟨.inl (by decide), .inl (by decide)⟩
      · rcases List.mem_cons.1 hx with rfl | hx
        · exact ⟨.inr (show (10 : UInt8).toNat = 10 by decide), (nm_at hg h2 h3).2⟩
        · obtain rfl := List.mem_singleton.1 hx
          exact ⟨.inl (by decide), .inl (by decide)⟩
    · rcases List.mem_append.1 hx with hx | hx
      · obtain ⟨z, hz, rfl⟩ := List.mem_map.1 hx
        exact ⟨.inl (show (32 : UInt8).toNat = 32 by decide), (sym_word hg (h1 z hz).1 (h1 z hz).2).1⟩
      · exact ih x hx

theorem names_eq : ∀ l l' : List ByteArray, l.map (·.data.toList) = l'.map (·.data.toList) → l = l'
  | [], [], _ => rfl
  | [], y :: l', e => by cases e
  | x :: l, [], e => by cases e
  | x :: l, y :: l', e => by
    rw [List.map_cons, List.map_cons] at e
    obtain ⟨e1, e2⟩ := List.cons.inj e
    rw [ext_list e1, names_eq l l' e2]

theorem rs_some {g : G} (hg : Rd g) : 0 < g.rs.length := by
  cases e : g.rs with
  | cons r l => simp
  | nil =>
    have h := hg.lefts
    unfold leftsL at h
    rw [e] at h
    have h1 : 0 = g.ns.length := of_decide_eq_true h
    have := hg.good.ax0
    have := hg.good.ax1
    omega

theorem full_toks {g : G} (hg : Rd g) : 10 :: textL g = flatT (toks g none g.rs) ++ [10] := by
  have := text_toks g g.rs.length (Nat.le_refl _) (rs_some hg)
  rw [List.take_length] at this
  unfold textL
  rw [← List.cons_append, this]

theorem lefts_names {g h : G} (hg : Rd g) (hh : Rd h) : ∀ rs rs' : List R, (∀ r ∈ rs, r ∈ g.rs) → (∀ r ∈ rs', r ∈ h.rs) → rs.map (nr g) = rs'.map (nr h) → (rs.map (·.left)).map (at0 g.ns) = (rs'.map (·.left)).map (at0 h.ns)
  | [], [], _, _, _ => rfl
  | [], y :: l', _, _, e => by cases e
  | x :: l, [], _, _, e => by cases e
  | x :: l, y :: l', hx, hy, e => by
    rw [List.map_cons, List.map_cons] at e
    obtain ⟨e1, e2⟩ := List.cons.inj e
    have ih := lefts_names hg hh l l' (fun z hz => hx z (List.mem_cons_of_mem _ hz)) (fun z hz => hy z (List.mem_cons_of_mem _ hz)) e2
    obtain ⟨_, a1, a2⟩ := rule_in hg (hx x List.mem_cons_self)
    obtain ⟨_, b1, b2⟩ := rule_in hh (hy y List.mem_cons_self)
    have e3 : nmL g x.left = nmL h y.left := congrArg Prod.fst e1
    rw [(nm_at hg a1 a2).1, (nm_at hh b1 b2).1] at e3
    rw [List.map_cons, List.map_cons, List.map_cons, List.map_cons, ext_list e3, ih]

theorem terms_names {g h : G} (hg : Rd g) (hh : Rd h) (hn : g.ns = h.ns) : ∀ rs rs' : List R, (∀ r ∈ rs, r ∈ g.rs) → (∀ r ∈ rs', r ∈ h.rs) → rs.map (nr g) = rs'.map (nr h) → (termsL rs).map (at0 g.ts) = (termsL rs').map (at0 h.ts)
  | [], [], _, _, _ => rfl
  | [], y :: l', _, _, e => by cases e
  | x :: l, [], _, _, e => by cases e
  | x :: l, y :: l', hx, hy, e => by
    rw [List.map_cons, List.map_cons] at e
    obtain ⟨e1, e2⟩ := List.cons.inj e
    have ih := terms_names hg hh hn l l' (fun z hz => hx z (List.mem_cons_of_mem _ hz)) (fun z hz => hy z (List.mem_cons_of_mem _ hz)) e2
    have e3 : x.right.map (fun z => (symS g z).data.toList) = y.right.map (fun z => (symS h z).data.toList) := congrArg Prod.snd e1
    have e4 := words_terms hg hh hn _ _ (rule_in hg (hx x List.mem_cons_self)).1 (rule_in hh (hy y List.mem_cons_self)).1 e3
    unfold termsL at ih ⊢
    rw [List.flatMap_cons, List.flatMap_cons, List.map_append, List.map_append, e4, ih]

theorem rules_eq {g h : G} (hg : Rd g) (hh : Rd h) (hn : g.ns = h.ns) (ht : g.ts = h.ts) : ∀ rs rs' : List R, (∀ r ∈ rs, r ∈ g.rs) → (∀ r ∈ rs', r ∈ h.rs) → rs.map (nr g) = rs'.map (nr h) → rs = rs'
  | [], [], _, _, _ => rfl
  | [], y :: l', _, _, e => by cases e
  | x :: l, [], _, _, e => by cases e
  | x :: l, y :: l', hx, hy, e => by
    rw [List.map_cons, List.map_cons] at e
    obtain ⟨e1, e2⟩ := List.cons.inj e
    have ih := rules_eq hg hh hn ht l l' (fun z hz => hx z (List.mem_cons_of_mem _ hz)) (fun z hz => hy z (List.mem_cons_of_mem _ hz)) e2
    obtain ⟨a0, a1, a2⟩ := rule_in hg (hx x List.mem_cons_self)
    obtain ⟨b0, b1, b2⟩ := rule_in hh (hy y List.mem_cons_self)
    have e3 : nmL g x.left = nmL h y.left := congrArg Prod.fst e1
    rw [(nm_at hg a1 a2).1, (nm_at hh b1 b2).1, ← hn] at e3
    have hl : h.ns.length = g.ns.length := by rw [hn]
    have e4 := at0_inj (named_inj hg.good.nn) a1 a2 b1 (by omega) (ext_list e3)
    have e5 := words_nums hg hh hn ht _ _ a0 b0 (congrArg Prod.snd e1)
    have e6 : x = y := by
      cases x
      cases y
      simp only at e4 e5
      rw [e4, e5]
    rw [e6, ih]

theorem text_one {g h : G} (hg : Rd g) (hh : Rd h) (e : textL g = textL h) : g = h := by
  have e1 : flatT (toks g none g.rs) ++ [10] = flatT (toks h none h.rs) ++ [10] := by rw [← full_toks hg, ← full_toks hh, e]
  have e2 := toks_one _ _ (toks_good hg g.rs none (fun r hr => hr)) (toks_good hh h.rs none (fun r hr => hr)) e1
  have e3 := rules_one (g := g) (h := h) g.rs h.rs none none rfl (fun r hr x hx => (sym_word hg ((rule_in hg hr).1 x hx).1 ((rule_in hg hr).1 x hx).2).2) (fun r hr x hx => (sym_word hh ((rule_in hh hr).1 x hx).1 ((rule_in hh hr).1 x hx).2).2) e2
  have e4 := lefts_names hg hh g.rs h.rs (fun r hr => hr) (fun r hr => hr) e3
  have hn : g.ns = h.ns := by
    have d1 := ded_rise (named_inj hg.good.nn) (leftsL g) 0 (Nat.zero_le _) hg.lefts (fun x hx => by
      obtain ⟨r, hr, rfl⟩ := List.mem_map.1 hx
      exact (rule_in hg hr).2)
    have d2 := ded_rise (named_inj hh.good.nn) (leftsL h) 0 (Nat.zero_le _) hh.lefts (fun x hx => by
      obtain ⟨r, hr, rfl⟩ := List.mem_map.1 hx
      exact (rule_in hh hr).2)
    unfold leftsL at d1 d2
    rw [List.take_zero] at d1 d2
    rw [← d1, ← d2, e4]
  have e5 := terms_names hg hh hn g.rs h.rs (fun r hr => hr) (fun r hr => hr) e3
  have ht : g.ts = h.ts := by
    have hin : ∀ {k : G}, Rd k → ∀ x ∈ termsL k.rs, 0 ≤ x ∧ x < (k.ts.length : Int) := fun {k} hk x hx => by
      obtain ⟨r, hr, hx2⟩ := List.mem_flatMap.1 hx
      unfold termsR at hx2
      obtain ⟨hx3, hx4⟩ := List.mem_filter.1 hx2
      exact ⟨of_decide_eq_true hx4, ((rule_in hk hr).1 x hx3).2⟩
    have d1 := ded_rise (named_inj hg.good.nt) (termsL g.rs) 0 (Nat.zero_le _) hg.terms (hin hg)
    have d2 := ded_rise (named_inj hh.good.nt) (termsL h.rs) 0 (Nat.zero_le _) hh.terms (hin hh)
    rw [List.take_zero] at d1 d2
    rw [← d1, ← d2, e5]
  have hr := rules_eq hg hh hn ht g.rs h.rs (fun r hr => hr) (fun r hr => hr) e3
  have ha : g.ax = h.ax := by rw [hg.ax, hh.ax]
  cases g
  cases h
  simp only at hn ht hr ha
  rw [hn, ht, hr, ha]

end Go.Proofs.YtkbljcfkokiceaaDoor.ShowOneM

namespace Go.Proofs.YtkbljcfkokiceaaDoor.ShowOneW
open Go.RowKit Go.Proofs.YtkbljcfkokiceaaDoor.GramMath Go.Proofs.YtkbljcfkokiceaaDoor.GramRow Go.Proofs.YtkbljcfkokiceaaDoor.GramOne Go.Proofs.YtkbljcfkokiceaaDoor.GramName Go.Proofs.YtkbljcfkokiceaaDoor.GramLent Go.Proofs.YtkbljcfkokiceaaDoor.GramErrs Go.Proofs.YtkbljcfkokiceaaDoor.GramSame Go.Proofs.YtkbljcfkokiceaaDoor.GramLess Go.Proofs.YtkbljcfkokiceaaDoor.ShowMath Go.Proofs.YtkbljcfkokiceaaDoor.ShowWord Go.Proofs.YtkbljcfkokiceaaDoor.ShowSym Go.Proofs.YtkbljcfkokiceaaDoor.ShowOrd Go.Proofs.YtkbljcfkokiceaaDoor.ShowTxt
set_option linter.unusedVariables false

set_option maxRecDepth 100000 in
set_option maxHeartbeats 4000000 in
theorem grammar_any (ta na ra tb nb rb : Option Addr) (tc nc rc td nd rd : Nat) (g h : G) (w : World) (hG : GRow w ta na ra g) (hH : GRow w tb nb rb h) (og : okG g) (oh : okG h) :
    Calls Tryd.prog 23 #[.agg #[.slice ta g.ts.length tc, .slice na g.ns.length nc, .int .i64 g.ax, .slice ra g.rs.length rc], .agg #[.slice tb h.ts.length td, .slice nb h.ns.length nd, .int .i64 h.ax, .slice rb h.rs.length rd]] w fun e w' => e = .returned (.bool (eqG g h)) ∧ Below w.heap.size w w' := by
  have hB : Below w.heap.size w ((w.alloc (.cells #[.slice ta g.ts.length tc, .slice na g.ns.length nc, .int .i64 g.ax, .slice ra g.rs.length rc] 25)).alloc (.cells #[.slice tb h.ts.length td, .slice nb h.ns.length nd, .int .i64 h.ax, .slice rb h.rs.length rd] 25)) := ((Below.refl _ _).alloc (Nat.le_refl _) _).alloc (by simp) _
  obtain ⟨G1, G2, G3⟩ := hG.below hB (Nat.le_refl _)
  obtain ⟨H1, H2, H3⟩ := hH.below hB (Nat.le_refl _)
  obtain ⟨p1, p2, p3, _, p5, _⟩ := og
  obtain ⟨q1, q2, q3, _, q5, _⟩ := oh
  have hand := eqG_and g h
  have ht := fun q => strs_any ta tb tc td g.ts h.ts (World.drewN ((w.alloc (.cells #[.slice ta g.ts.length tc, .slice na g.ns.length nc, .int .i64 g.ax, .slice ra g.rs.length rc] 25)).alloc (.cells #[.slice tb h.ts.length td, .slice nb h.ns.length nd, .int .i64 h.ax, .slice rb h.rs.length rd] 25)) q) G1 H1 p1 q1
  have hn := fun q => strs_any na nb nc nd g.ns h.ns (World.drewN ((w.alloc (.cells #[.slice ta g.ts.length tc, .slice na g.ns.length nc, .int .i64 g.ax, .slice ra g.rs.length rc] 25)).alloc (.cells #[.slice tb h.ts.length td, .slice nb h.ns.length nd, .int .i64 h.ax, .slice rb h.rs.length rd] 25)) q) G2 H2 p2 q2
  have hr := fun q => rules_any ra rb rc rd g.rs h.rs (World.drewN ((w.alloc (.cells #[.slice ta g.ts.length tc, .slice na g.ns.length nc, .int .i64 g.ax, .slice ra g.rs.length rc] 25)).alloc (.cells #[.slice tb h.ts.length td, .slice nb h.ns.length nd, .int .i64 h.ax, .slice rb h.rs.length rd] 25)) q) G3 H3 p3 q3 p5 q5
  cases ht1 : eqS g.ts h.ts with
  | false =>
    rw [ht1, Bool.false_and, Bool.false_and, Bool.false_and] at hand
    have E : Hid (eqG g h = false) := hand
    rw [ht1] at ht
    clear hand ht1
    go_enter Tryd.func23, Tryd.ntmps23
    go_wp2_with fail
    refine (ht 0).mono ?_
    rintro e w1 ⟨rfl, q, rfl⟩
    go_wp2
    go_ret
    exact ⟨ret_bool E.out.symm, hB.os, hB.tape, hB.output, hB.size, hB.block⟩
  | true =>
    rw [ht1, Bool.true_and] at hand
    rw [ht1] at ht
    cases hn1 : eqS g.ns h.ns with
    | false =>
      rw [hn1, Bool.false_and, Bool.false_and] at hand
      have E : Hid (eqG g h = false) := hand
      rw [hn1] at hn
      clear hand ht1 hn1
      go_enter Tryd.func23, Tryd.ntmps23
      go_wp2_with fail
      refine (ht 0).mono ?_
      rintro e w1 ⟨rfl, q, rfl⟩
      go_wp2_with fail
      refine (hn _).mono ?_
      rintro e w1 ⟨rfl, q2, rfl⟩
      go_wp2
      go_ret
      exact ⟨ret_bool E.out.symm, hB.os, hB.tape, hB.output, hB.size, hB.block⟩
    | true =>
      rw [hn1, Bool.true_and] at hand
      rw [hn1] at hn
      by_cases hax : g.ax = h.ax
      · have hf : (g.ax == h.ax) = true := by simpa using hax
        rw [decide_eq_true hax, Bool.true_and] at hand
        have E : Hid (eqG g h = eqRs g.rs h.rs) := hand
        clear hand hax ht1 hn1
        go_enter Tryd.func23, Tryd.ntmps23
        go_wp2_with fail
        refine (ht 0).mono ?_
        rintro e w1 ⟨rfl, q, rfl⟩
        go_wp2_with fail
        refine (hn _).mono ?_
        rintro e w1 ⟨rfl, q2, rfl⟩
        rw [World.drewN_drewN]
        go_wp2_with fail
        refine (hr _).mono ?_
        rintro e w1 ⟨rfl, q3, rfl⟩
        go_wp2
        go_ret
        exact ⟨ret_bool E.out.symm, hB.os, hB.tape, hB.output, hB.size, hB.block⟩
      · have hf : (g.ax == h.ax) = false := by simpa using hax
        rw [decide_eq_false hax, Bool.false_and] at hand
        have E : Hid (eqG g h = false) := hand
        clear hand hax ht1 hn1 hr
        go_enter Tryd.func23, Tryd.ntmps23
        go_wp2_with fail
        refine (ht 0).mono ?_
        rintro e w1 ⟨rfl, q, rfl⟩
        go_wp2_with fail
        refine (hn _).mono ?_
        rintro e w1 ⟨rfl, q2, rfl⟩
        go_wp2
        go_ret
        exact ⟨ret_bool E.out.symm, hB.os, hB.tape, hB.output, hB.size, hB.block⟩

theorem Lendable.on {w w' : World} {ta na ra : Option Addr} {tc nc : Nat} {g : G} {B : Nat} (h : Lendable w ta na ra tc nc g) (hb : Below B w w') (hB : w.heap.size ≤ B) : Lendable w' ta na ra tc nc g :=
  ⟨h.ts.below hb hB, h.ns.below hb hB, h.rs.below hb hB, h.tn, h.nn, h.tm, h.nm, h.rm, h.each⟩

theorem tx_bad {g : G} (h : (rdZ g).1 ≠ 0) : txT g = ⟨#[]⟩ := by unfold txT; rw [if_neg h]
theorem tx_eq {g h : G} (hg : (rdZ g).1 = 0) (hh : (rdZ h).1 = 0) : (txT g = txT h) ↔ g = h := by
  constructor
  · intro e
    unfold txT at e
    rw [if_pos hg, if_pos hh] at e
    refine ShowOneM.text_one (ShowOneM.Rd.of hg) (ShowOneM.Rd.of hh) ?_
    have := congrArg (fun z : ByteArray => z.data.toList) e
    exact this
  · rintro rfl
    rfl

set_option maxRecDepth 100000 in
set_option maxHeartbeats 8000000 in
theorem walk (ta na ra tb nb rb : Option Addr) (tc nc rc td nd rd : Nat) (g h : G) (p : Nat → Addr) (w : World) (hL : Lendable w ta na ra tc nc g) (ho : okG g) (kL : Lendable w tb nb rb td nd h) (ko : okG h) (hE : Errs w p) :
    Calls Tryd.prog 5 #[.agg #[.slice ta g.ts.length tc, .slice na g.ns.length nc, .int .i64 g.ax, .slice ra g.rs.length rc], .agg #[.slice tb h.ts.length td, .slice nb h.ns.length nd, .int .i64 h.ax, .slice rb h.rs.length rd]] w fun e w' => e = .returned (.bool true) ∧ Below w.heap.size w w' := by
  have hneq := neq_nil
  have hnil := eql_nil
  have hB0 : Below w.heap.size w ((w.alloc (.cells #[.slice ta g.ts.length tc, .slice na g.ns.length nc, .int .i64 g.ax, .slice ra g.rs.length rc] 25)).alloc (.cells #[.slice tb h.ts.length td, .slice nb h.ns.length nd, .int .i64 h.ax, .slice rb h.rs.length rd] 25)) := ((Below.refl _ _).alloc (Nat.le_refl _) _).alloc (by simp) _
  have hbx : GBox ((w.alloc (.cells #[.slice ta g.ts.length tc, .slice na g.ns.length nc, .int .i64 g.ax, .slice ra g.rs.length rc] 25)).alloc (.cells #[.slice tb h.ts.length td, .slice nb h.ns.length nd, .int .i64 h.ax, .slice rb h.rs.length rd] 25)) w.heap.size ta na ra tc nc rc g := (GBox.new w ta na ra tc nc rc g 25).below ((Below.refl _ _).alloc (Nat.le_refl _) _) (Nat.le_refl _)
  have hz : (w.alloc (.cells #[.slice ta g.ts.length tc, .slice na g.ns.length nc, .int .i64 g.ax, .slice ra g.rs.length rc] 25)).heap.size = w.heap.size + 1 := by simp
  have kbx := GBox.new (w.alloc (.cells #[.slice ta g.ts.length tc, .slice na g.ns.length nc, .int .i64 g.ax, .slice ra g.rs.length rc] 25)) tb nb rb td nd rd h 25
  rw [hz] at kbx
  have hkn := known_any p _ (hE.below hB0 (Nat.le_refl _))
  go_enter Tryd.func5, Tryd.ntmps5
  go_wp2_with fail
  refine hkn.mono ?_
  rintro e w1 ⟨rfl, hb1⟩
  have hB1 : Below w.heap.size w w1 := hB0.trans (hb1.mono (by simp; omega))
  replace hbx := hbx.below hb1 (Nat.le_refl _)
  replace kbx := kbx.below hb1 (Nat.le_refl _)
  have hL1 := Lendable.on hL hB1 (Nat.le_refl _)
  have hE1 := hE.below hB1 (Nat.le_refl _)
  clear hkn hB0 hb1 hz hE
  obtain ⟨c0, c1, c2, c3⟩ := id hbx
  go_wp2_with fail
  refine (lentG ta na ra tc nc rc g w1 hL1).mono ?_
  rintro e w2 ⟨⟨g1, d1, g2, d2, g3, d3, lq, rfl, hlg⟩, hb2⟩
  have hE2 := hE1.below hb2 (Nat.le_refl _)
  have hB2 := hB1.trans (hb2.mono hB1.size)
  go_wp2_with fail
  refine (text_any _ _ _ _ _ d3 g p w2 hlg.row ho (Nat.le_of_lt hlg.tc) (Nat.le_of_lt hlg.nc) hE2).mono ?_
  rintro e w3 ⟨⟨v, rfl, hv⟩, hb3⟩
  have hB3 := hB2.trans (hb3.mono hB2.size)
  replace hbx := (hbx.below hb2 (Nat.le_refl _)).below hb3 (Nat.le_refl _)
  replace kbx := (kbx.below hb2 (Nat.le_refl _)).below hb3 (Nat.le_refl _)
  have hE3 := hE2.below hb3 (Nat.le_refl _)
  have kL3 := Lendable.on kL hB3 (Nat.le_refl _)
  clear c0 c1 c2 c3 hlg hb2 hb3 hE1 hE2 hL1 hB1 hB2
  obtain ⟨c0, c1, c2, c3⟩ := id kbx
  go_wp2_with fail
  refine (lentG tb nb rb td nd rd h w3 kL3).mono ?_
  rintro e w4 ⟨⟨h1, e1, h2, e2, h3, e3, kq, rfl, klg⟩, hb4⟩
  have hE4 := hE3.below hb4 (Nat.le_refl _)
  have hB4 := hB3.trans (hb4.mono hB3.size)
  have hv4 := hv.below hb4 (Nat.le_refl _)
  go_wp2_with fail
  refine (text_any _ _ _ _ _ e3 h p w4 klg.row ko (Nat.le_of_lt klg.tc) (Nat.le_of_lt klg.nc) hE4).mono ?_
  rintro e w5 ⟨⟨u, rfl, hu⟩, hb5⟩
  have hB5 := hB4.trans (hb5.mono hB4.size)
  replace hbx := (hbx.below hb4 (Nat.le_refl _)).below hb5 (Nat.le_refl _)
  replace kbx := (kbx.below hb4 (Nat.le_refl _)).below hb5 (Nat.le_refl _)
  have hv5 := hv4.below hb5 (Nat.le_refl _)
  have hL5 := Lendable.on hL hB5 (Nat.le_refl _)
  have kL5 := Lendable.on kL hB5 (Nat.le_refl _)
  clear c0 c1 c2 c3 klg hb4 hb5 hE3 hE4 kL3 hB3 hB4 hv hv4 hL kL
  by_cases hc : (rdZ g).1 = 0
  · obtain rfl := ckv_nil hv5 hc
    by_cases kc : (rdZ h).1 = 0
    · obtain rfl := ckv_nil hu kc
      have hgr := grammar_any ta na ra tb nb rb tc nc rc td nd rd g h w5 (GramOpen.lendable_row hL5) (GramOpen.lendable_row kL5) ho ko
      have hiff := tx_eq hc kc
      obtain ⟨c0, c1, c2, c3⟩ := id hbx
      obtain ⟨k0, k1, k2, k3⟩ := id kbx
      by_cases heq : g = h
      · have ht : txT g = txT h := hiff.2 heq
        have hq : eqG g h = true := by rw [heq]; exact eqG_refl h
        rw [hq] at hgr
        rw [ht]
        have es := str_eq (txT h)
        clear hiff ht heq hc kc hv5 hu hL5 kL5 hq
        go_wp2_with fail
        refine hgr.mono ?_
        rintro e w6 ⟨rfl, hb6⟩
        go_wp2
        go_ret
        exact ⟨rfl, hB5.trans (hb6.mono hB5.size)⟩
      · have ht : txT g ≠ txT h := fun e => heq (hiff.1 e)
        have es := str_ne ht
        have hq : eqG g h = false := by unfold eqG; rw [decide_eq_false_iff_not]; exact heq
        rw [hq] at hgr
        clear hiff ht heq hc kc hv5 hu hL5 kL5 hq
        go_wp2_with fail
        refine hgr.mono ?_
        rintro e w6 ⟨rfl, hb6⟩
        go_wp2
        go_ret
        exact ⟨rfl, hB5.trans (hb6.mono hB5.size)⟩
    · obtain ⟨t, z, rfl⟩ := ckv_ne hu kc
      have k0 := tx_bad kc
      rw [k0]
      clear hc kc hv5 hu hL5 kL5 k0
      go_wp2
      go_ret
      exact ⟨rfl, hB5⟩
  · obtain ⟨t, z, rfl⟩ := ckv_ne hv5 hc
    have q0 := tx_bad hc
    rw [q0]
    by_cases kc : (rdZ h).1 = 0
    · obtain rfl := ckv_nil hu kc
      clear hc kc hv5 hu hL5 kL5 q0
      go_wp2
      go_ret
      exact ⟨rfl, hB5⟩
    · obtain ⟨t2, z2, rfl⟩ := ckv_ne hu kc
      have k0 := tx_bad kc
      rw [k0]
      clear hc kc hv5 hu hL5 kL5 q0 k0
      go_wp2
      go_ret
      exact ⟨rfl, hB5⟩

end Go.Proofs.YtkbljcfkokiceaaDoor.ShowOneW
