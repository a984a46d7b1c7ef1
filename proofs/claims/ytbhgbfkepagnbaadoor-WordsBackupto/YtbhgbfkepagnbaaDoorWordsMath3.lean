/-
  There and back in plain Lean: what is written is read again. No part of the program.
-/
import Derived.Test.YtbhgbfkepagnbaaDoorWordsMath2
import Derived.Test.YtbhgbfkepagnbaaDoorWordsRow
namespace Go.Proofs.YtbhgbfkepagnbaaDoor.WordsMath
open Go.Proofs.YtbhgbfkepagnbaaDoor.WordsBytes

theorem u8_ext {a b : UInt8} (h : a.toNat = b.toNat) : a = b := UInt8.toNat_inj.1 h

theorem hexN_hexB (n : Nat) (h : n < 16) : hexN (hexB n).toNat = some n := by
  have : ∀ n : Fin 16, hexN (hexB n.1).toNat = some n.1 := by decide
  exact this ⟨n, h⟩

/-- A quoted byte is read as itself. -/
theorem unqL_byte (c : UInt8) (X : List UInt8) (j : Nat) (acc : List UInt8) : unqL (quoteB c ++ X) j acc = unqL X (j + (quoteB c).length) (acc ++ [c]) := by
  unfold quoteB
  by_cases h1 : c.toNat = 34 ∨ c.toNat = 92
  · rw [if_pos h1]
    have hp : pieceL 92 (c :: X) = some (c, 1) := by
      unfold pieceL escL
      rw [if_pos (show (92 : UInt8).toNat = 92 by decide)]
      simp [h1]
    show unqL (92 :: c :: X) j acc = _
    rw [unqL_some (by decide) hp]
    rfl
  · rw [if_neg h1]
    by_cases h2 : c.toNat = 10
    · rw [if_pos h2]
      obtain rfl : c = 10 := u8_ext h2
      have hp : pieceL 92 (110 :: X) = some (10, 1) := rfl
      show unqL (92 :: 110 :: X) j acc = _
      rw [unqL_some (by decide) hp]
      rfl
    · rw [if_neg h2]
      by_cases h3 : c.toNat < 32 ∨ 127 ≤ c.toNat
      · rw [if_pos h3]
        have hlt := c.toNat_lt
        have hv : UInt8.ofNat (16 * (c.toNat / 16) + c.toNat % 16) = c := by
          apply u8_ext
          rw [UInt8.toNat_ofNat']
          omega
        have hs : sixL (hexB (c.toNat / 16) :: hexB (c.toNat % 16) :: X) = some c := by
          unfold sixL
          dsimp only
          rw [hexN_hexB _ (by omega), hexN_hexB _ (by omega)]
          dsimp only
          rw [hv]
        have hp : pieceL 92 (120 :: hexB (c.toNat / 16) :: hexB (c.toNat % 16) :: X) = some (c, 3) := by
          unfold pieceL
          rw [if_pos (show (92 : UInt8).toNat = 92 by decide)]
          unfold escL
          dsimp only
          rw [if_neg (by decide), if_neg (by decide), if_pos (by decide), hs]
          rfl
        show unqL (92 :: 120 :: hexB (c.toNat / 16) :: hexB (c.toNat % 16) :: X) j acc = _
        rw [unqL_some (by decide) hp]
        rfl
      · rw [if_neg h3]
        have hp : pieceL c X = some (c, 0) := by
          unfold pieceL
          rw [if_neg (by omega), if_neg h2]
        show unqL (c :: X) j acc = _
        rw [unqL_some (by omega) hp]
        rfl

theorem unqL_quoted (X : List UInt8) : ∀ (t : List UInt8) (j : Nat) (acc : List UInt8), unqL (t.flatMap quoteB ++ 34 :: X) j acc = .ok (acc ++ t, j + (t.flatMap quoteB).length + 1)
  | [], j, acc => by
    rw [List.flatMap_nil, List.nil_append, unqL_end (by decide)]
    simp
  | c :: r, j, acc => by
    rw [List.flatMap_cons, List.append_assoc, unqL_byte, unqL_quoted X r, List.length_append]
    simp only [List.append_assoc, List.cons_append, List.nil_append]
    rw [Nat.add_assoc j]

theorem plainLen_all (X : List UInt8) (hX : endsL X = true) : ∀ r : List UInt8, allPlain r = true → plainLen (r ++ X) = r.length
  | [], _ => by
    rw [List.nil_append]
    cases X with
    | nil => rfl
    | cons c t =>
      have hb : blankN c.toNat = true := hX
      have hp : plainN c.toNat = false := by
        cases hp : plainN c.toNat with
        | false => rfl
        | true => rw [(plain_not hp).1] at hb; cases hb
      simp [plainLen, hp]
  | c :: r, h => by
    rw [allPlain_cons, Bool.and_eq_true] at h
    rw [List.cons_append]
    unfold plainLen
    rw [if_pos h.1, plainLen_all X hX r h.2]
    rfl

/-- A word that was written is read as it was. -/
theorem lineL_word (t : List UInt8) (q : Bool) (X : List UInt8) (hX : endsL X = true) (i : Nat) (out : List W) :
    lineL (wordL t q ++ X) i out = lineL X (i + (wordL t q).length) (out ++ [⟨t, q || !plainW t, i⟩]) := by
  unfold wordL
  by_cases hq : (q || !plainW t) = true
  · rw [if_pos hq, hq]
    unfold quoteL
    rw [List.cons_append, List.append_assoc]
    have hu : unqL (t.flatMap quoteB ++ ([34] ++ X)) (i + 1) [] = .ok (t, i + 1 + (t.flatMap quoteB).length + 1) := by
      have := unqL_quoted X t (i + 1) []
      simpa using this
    have hdrop : (t.flatMap quoteB ++ ([34] ++ X)).drop (i + 1 + (t.flatMap quoteB).length + 1 - (i + 1)) = X := by
      rw [show i + 1 + (t.flatMap quoteB).length + 1 - (i + 1) = (t.flatMap quoteB ++ [34]).length by simp; omega, ← List.append_assoc]
      exact List.drop_left
    have hE : unqE (t.flatMap quoteB ++ ([34] ++ X)) (i + 1) = .ok (t, i + 1 + (t.flatMap quoteB).length + 1) := by
      unfold unqE
      rw [hu]
      dsimp only
      rw [hdrop, if_pos hX]
    rw [lineL_quoted (by decide) hE, hdrop]
    congr 1
    simp
    omega
  · have hq' : (q || !plainW t) = false := by simpa using hq
    rw [if_neg hq, hq']
    have hp : plainW t = true := by
      cases hp : plainW t with
      | true => rfl
      | false => rw [hp] at hq'; simp at hq'
    unfold plainW at hp
    rw [Bool.and_eq_true] at hp
    cases t with
    | nil => exact absurd hp.2 (by decide)
    | cons c r =>
      rw [allPlain_cons, Bool.and_eq_true] at hp
      have h35 : c.toNat ≠ 35 := by have := hp.2; simpa [headOk] using this
      have hl := plainLen_all X hX r hp.1.2
      have hd : (r ++ X).drop (plainLen (r ++ X)) = X := by rw [hl]; exact List.drop_left
      rw [List.cons_append, lineL_plain hp.1.1 h35 (by rw [hd]; exact hX), hd, hl, List.take_left]
      congr 1
      simp
      omega

def nq (x : W) : List UInt8 × Bool := (x.text, x.quoted || !plainW x.text)

theorem lineL_rest : ∀ (xs : List W) (i : Nat) (out : List W), ∃ us, lineL ((xs.map pr).flatMap (fun x => 32 :: wordL x.1 x.2)) i out = .ok (out ++ us) ∧ us.map pr = xs.map nq
  | [], i, out => ⟨[], by rw [List.map_nil, List.flatMap_nil, lineL_nil]; simp, rfl⟩
  | x :: r, i, out => by
    have hX : endsL ((r.map pr).flatMap (fun x => 32 :: wordL x.1 x.2)) = true := by
      cases r with
      | nil => rfl
      | cons y s => rfl
    obtain ⟨us, h1, h2⟩ := lineL_rest r (i + 1 + (wordL x.text x.quoted).length) (out ++ [⟨x.text, x.quoted || !plainW x.text, i + 1⟩])
    refine ⟨⟨x.text, x.quoted || !plainW x.text, i + 1⟩ :: us, ?_, by simp [h2, pr, nq]⟩
    rw [List.map_cons, List.flatMap_cons, List.cons_append, lineL_blank (by decide)]
    show lineL (wordL x.text x.quoted ++ _) (i + 1) out = _
    rw [lineL_word _ _ _ hX, h1]
    simp

/-- What is written is read again. -/
theorem lineL_back (ws : List W) : ∃ us, lineL (allW ws) 0 [] = .ok us ∧ us.map pr = ws.map nq := by
  cases ws with
  | nil => exact ⟨[], by show lineL [] 0 [] = _; rw [lineL_nil], rfl⟩
  | cons x r =>
    have hX : endsL ((r.map pr).flatMap (fun x => 32 :: wordL x.1 x.2)) = true := by
      cases r with
      | nil => rfl
      | cons y s => rfl
    obtain ⟨us, h1, h2⟩ := lineL_rest r (0 + (wordL x.text x.quoted).length) ([] ++ [⟨x.text, x.quoted || !plainW x.text, 0⟩])
    refine ⟨⟨x.text, x.quoted || !plainW x.text, 0⟩ :: us, ?_, by simp [h2, pr, nq]⟩
    show lineL (wordL x.text x.quoted ++ _) 0 [] = _
    rw [lineL_word _ _ _ hX, h1]
    simp

theorem unqL_text (n : Nat) : ∀ (l : List UInt8) (i : Nat) (acc t : List UInt8) (e : Nat), l.length ≤ n → unqL l i acc = .ok (t, e) → t.length ≤ acc.length + l.length := by
  induction n with
  | zero =>
    intro l i acc t e hl h
    obtain rfl : l = [] := List.eq_nil_of_length_eq_zero (by omega)
    rw [unqL_nil] at h; cases h
  | succ n ih =>
    intro l i acc t e hl h
    cases l with
    | nil => rw [unqL_nil] at h; cases h
    | cons c r =>
      by_cases h34 : c.toNat = 34
      · rw [unqL_end h34] at h; cases h; omega
      · cases hp : pieceL c r with
        | none => rw [unqL_none h34 hp] at h; cases h
        | some x =>
          obtain ⟨b, k⟩ := x
          have hk := pieceL_len hp
          rw [unqL_some h34 hp] at h
          have hlen : (r.drop k).length = r.length - k := List.length_drop
          have := ih _ _ _ _ _ (by simp only [List.length_cons] at hl; omega) h
          simp only [List.length_cons, List.length_append, List.length_nil] at this ⊢
          omega

theorem plain_take : ∀ r : List UInt8, allPlain (r.take (plainLen r)) = true
  | [] => rfl
  | c :: r => by
    unfold plainLen
    cases hp : plainN c.toNat with
    | false => simp [allPlain]
    | true =>
      rw [if_pos rfl, List.take_succ_cons, allPlain_cons, hp, plain_take r]
      rfl

/-- Words that were read: quoted or plain, and no longer than the line. -/
theorem lineL_good (N n : Nat) : ∀ (l : List UInt8) (i : Nat) (out us : List W), l.length ≤ n → n ≤ N → (∀ x ∈ out, nq x = pr x ∧ x.text.length ≤ N) → lineL l i out = .ok us → ∀ x ∈ us, nq x = pr x ∧ x.text.length ≤ N := by
  induction n with
  | zero =>
    intro l i out us hl _ ho h
    obtain rfl : l = [] := List.eq_nil_of_length_eq_zero (by omega)
    rw [lineL_nil] at h; cases h; exact ho
  | succ n ih =>
    intro l i out us hl hN ho h
    cases l with
    | nil => rw [lineL_nil] at h; cases h; exact ho
    | cons c r =>
      simp only [List.length_cons] at hl
      have more : ∀ w : W, nq w = pr w ∧ w.text.length ≤ N → ∀ x ∈ out ++ [w], nq x = pr x ∧ x.text.length ≤ N := fun w hw x hx => by
        rcases List.mem_append.1 hx with hx | hx
        · exact ho x hx
        · rw [List.mem_singleton.1 hx]; exact hw
      rcases lineL_ways c r i out with ⟨_, w⟩ | ⟨_, w⟩ | ⟨_, q, hu, w⟩ | ⟨_, t, e, hu, w⟩ | ⟨hp, h35, _, w⟩ | ⟨k, hk, w⟩
      · rw [w] at h
        exact ih r _ _ us (by omega) (by omega) ho h
      · rw [w] at h; cases h; exact ho
      · rw [w] at h; cases h
      · rw [w] at h
        have hb := unqE_bound.1 _ _ hu
        have hlen : (r.drop (e - (i + 1))).length = r.length - (e - (i + 1)) := List.length_drop
        have ht := unqL_text r.length r _ [] t e (Nat.le_refl _) (unqE_ok hu).1
        refine ih _ _ _ us (by omega) (by omega) (more _ ⟨rfl, ?_⟩) h
        simp only [List.length_nil] at ht
        show t.length ≤ N
        omega
      · rw [w] at h
        have hb := plainLen_le r
        have hlen : (r.drop (plainLen r)).length = r.length - plainLen r := List.length_drop
        refine ih _ _ _ us (by omega) (by omega) (more _ ⟨?_, ?_⟩) h
        · have hpw : plainW (c :: r.take (plainLen r)) = true := by
            unfold plainW
            rw [allPlain_cons, hp, plain_take]
            simpa [headOk] using h35
          show (_, false || !plainW _) = (_, false)
          rw [hpw]
          rfl
        · show (c :: r.take (plainLen r)).length ≤ N
          simp only [List.length_cons, List.length_take]
          omega
      · rw [w] at h; cases h

theorem back_again (us vs : List W) (h : us.map pr = vs.map pr) : allW us = allW vs := by unfold allW; rw [h]

theorem map_nq (ws : List W) (h : ∀ x ∈ ws, nq x = pr x) : ws.map nq = ws.map pr := List.map_congr_left h

theorem pr_get {us : List W} {f : W → List UInt8 × Bool} {ws : List W} (h : us.map pr = ws.map f) : us.length = ws.length ∧ ∀ (k : Nat) (x : W), ws[k]? = some x → ∃ y, us[k]? = some y ∧ y.text = (f x).1 ∧ y.quoted = (f x).2 := by
  have hl : us.length = ws.length := by have := congrArg List.length h; simpa using this
  refine ⟨hl, fun k x hx => ?_⟩
  have hk := (List.getElem?_eq_some_iff.1 hx).1
  have hy : us[k]? = some us[k] := List.getElem?_eq_getElem (by omega)
  refine ⟨us[k], hy, ?_⟩
  have h2 : (us.map pr)[k]? = (ws.map f)[k]? := by rw [h]
  rw [List.getElem?_map, List.getElem?_map, hx, hy] at h2
  have h3 : pr us[k] = f x := by simpa using h2
  rw [← h3]
  exact ⟨rfl, rfl⟩

end Go.Proofs.YtbhgbfkepagnbaaDoor.WordsMath
