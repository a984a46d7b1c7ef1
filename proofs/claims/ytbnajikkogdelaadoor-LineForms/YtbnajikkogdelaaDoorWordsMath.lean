/-
  Lines and their words in plain Lean: what a line comes to, byte by byte; how words are written; what follows of both. No part of the program.
-/
import Derived.WalkKit
namespace Go.Proofs.YtbnajikkogdelaaDoor.WordsMath

def blankN (n : Nat) : Bool := n == 32 || n == 9
def plainN (n : Nat) : Bool := decide (32 < n) && (decide (n < 127) && n != 34)
def hexN (n : Nat) : Option Nat := if 48 ≤ n ∧ n ≤ 57 then some (n - 48) else if 65 ≤ n ∧ n ≤ 70 then some (n - 55) else none
def hexB (n : Nat) : UInt8 := if n < 10 then UInt8.ofNat (48 + n) else UInt8.ofNat (55 + n)

/-- A word of a line. -/
structure W where
  text : List UInt8
  quoted : Bool
  place : Nat

def endsL : List UInt8 → Bool
  | [] => true
  | c :: _ => blankN c.toNat

/-- The byte that two digits at the beginning say. -/
def sixL : List UInt8 → Option UInt8
  | a :: b :: _ => match hexN a.toNat, hexN b.toNat with
    | some x, some y => some (UInt8.ofNat (16 * x + y))
    | _, _ => none
  | _ => none

/-- What stands behind a backslash: the byte that the escape says, and how many bytes it has there. -/
def escL : List UInt8 → Option (UInt8 × Nat)
  | [] => none
  | d :: r => if d.toNat = 34 ∨ d.toNat = 92 then some (d, 1) else if d.toNat = 110 then some (10, 1) else if d.toNat = 120 then (sixL r).map (fun b => (b, 3)) else none

/-- A piece of a quoted word that begins with c: its byte, and how many bytes more it has. -/
def pieceL (c : UInt8) (r : List UInt8) : Option (UInt8 × Nat) :=
  if c.toNat = 92 then escL r else if c.toNat = 10 then none else some (c, 0)

def unqL (l : List UInt8) (i : Nat) (acc : List UInt8) : Except Nat (List UInt8 × Nat) :=
  match l with
  | [] => .error i
  | c :: r =>
    if c.toNat = 34 then .ok (acc, i + 1)
    else match pieceL c r with
      | none => .error i
      | some (b, k) => unqL (r.drop k) (i + 1 + k) (acc ++ [b])
termination_by l.length
decreasing_by simp; omega

/-- A quoted word behind its first quote, and what may stand behind it. -/
def unqE (l : List UInt8) (i : Nat) : Except Nat (List UInt8 × Nat) :=
  match unqL l i [] with
  | .error p => .error p
  | .ok (t, e) => if endsL (l.drop (e - i)) then .ok (t, e) else .error e

def plainLen : List UInt8 → Nat
  | [] => 0
  | c :: r => if plainN c.toNat then plainLen r + 1 else 0

def lineL (l : List UInt8) (i : Nat) (out : List W) : Except Nat (List W) :=
  match l with
  | [] => .ok out
  | c :: r =>
    if blankN c.toNat then lineL r (i + 1) out
    else if c.toNat = 35 then .ok out
    else if c.toNat = 34 then
      match unqE r (i + 1) with
      | .error p => .error p
      | .ok (t, e) => lineL (r.drop (e - (i + 1))) e (out ++ [⟨t, true, i⟩])
    else if plainN c.toNat then
      if endsL (r.drop (plainLen r)) then lineL (r.drop (plainLen r)) (i + 1 + plainLen r) (out ++ [⟨c :: r.take (plainLen r), false, i⟩])
      else .error (i + 1 + plainLen r)
    else .error i
termination_by l.length
decreasing_by all_goals (simp; try omega)

theorem unqL_nil (i : Nat) (acc : List UInt8) : unqL [] i acc = .error i := by rw [unqL]
theorem unqL_end {c : UInt8} (h : c.toNat = 34) (r : List UInt8) (i : Nat) (acc : List UInt8) : unqL (c :: r) i acc = .ok (acc, i + 1) := by rw [unqL]; simp [h]
theorem unqL_none {c : UInt8} (h : c.toNat ≠ 34) {r : List UInt8} (hp : pieceL c r = none) (i : Nat) (acc : List UInt8) : unqL (c :: r) i acc = .error i := by rw [unqL]; simp [h, hp]
theorem unqL_some {c : UInt8} (h : c.toNat ≠ 34) {r : List UInt8} {b : UInt8} {k : Nat} (hp : pieceL c r = some (b, k)) (i : Nat) (acc : List UInt8) : unqL (c :: r) i acc = unqL (r.drop k) (i + 1 + k) (acc ++ [b]) := by rw [unqL]; simp [h, hp]

theorem sixL_len {l : List UInt8} {b : UInt8} (h : sixL l = some b) : 2 ≤ l.length := by
  match l with
  | [] => cases h
  | [_] => cases h
  | _ :: _ :: _ => simp

theorem escL_len {l : List UInt8} {b : UInt8} {k : Nat} (h : escL l = some (b, k)) : 1 ≤ k ∧ k ≤ l.length := by
  cases l with
  | nil => cases h
  | cons d r =>
    unfold escL at h
    dsimp only at h
    by_cases h1 : d.toNat = 34 ∨ d.toNat = 92
    · rw [if_pos h1] at h; cases h; simp
    · rw [if_neg h1] at h
      by_cases h2 : d.toNat = 110
      · rw [if_pos h2] at h; cases h; simp
      · rw [if_neg h2] at h
        by_cases h3 : d.toNat = 120
        · rw [if_pos h3] at h
          cases h4 : sixL r with
          | none => rw [h4] at h; cases h
          | some x => rw [h4] at h; cases h; have := sixL_len h4; simp; omega
        · rw [if_neg h3] at h; cases h

theorem pieceL_len {c : UInt8} {r : List UInt8} {b : UInt8} {k : Nat} (h : pieceL c r = some (b, k)) : k ≤ r.length := by
  unfold pieceL at h
  by_cases h1 : c.toNat = 92
  · rw [if_pos h1] at h; exact (escL_len h).2
  · rw [if_neg h1] at h
    by_cases h2 : c.toNat = 10
    · rw [if_pos h2] at h; cases h
    · rw [if_neg h2] at h; cases h; omega

theorem unqL_bound (n : Nat) : ∀ (l : List UInt8) (i : Nat) (acc : List UInt8), l.length ≤ n →
    (∀ t e, unqL l i acc = .ok (t, e) → i < e ∧ e ≤ i + l.length) ∧ (∀ p, unqL l i acc = .error p → i ≤ p ∧ p ≤ i + l.length) := by
  induction n with
  | zero =>
    intro l i acc hl
    have : l = [] := List.eq_nil_of_length_eq_zero (by omega)
    subst this
    rw [unqL_nil]
    exact ⟨fun t e h => (by cases h), fun p h => by cases h; simp⟩
  | succ n ih =>
    intro l i acc hl
    cases l with
    | nil => rw [unqL_nil]; exact ⟨fun t e h => (by cases h), fun p h => by cases h; simp⟩
    | cons c r =>
      by_cases h1 : c.toNat = 34
      · rw [unqL_end h1]
        exact ⟨fun t e h => (by cases h; simp), fun p h => (by cases h)⟩
      · cases hp : pieceL c r with
        | none => rw [unqL_none h1 hp]; exact ⟨fun t e h => (by cases h), fun p h => by cases h; simp⟩
        | some x =>
          obtain ⟨b, k⟩ := x
          have hk := pieceL_len hp
          rw [unqL_some h1 hp]
          have hlen : (r.drop k).length = r.length - k := List.length_drop
          simp only [List.length_cons] at hl ⊢
          obtain ⟨ih1, ih2⟩ := ih (r.drop k) (i + 1 + k) (acc ++ [b]) (by omega)
          exact ⟨fun t e h => by have := ih1 t e h; omega, fun p h => by have := ih2 p h; omega⟩

theorem unqE_ok {l : List UInt8} {i : Nat} {t : List UInt8} {e : Nat} (h : unqE l i = .ok (t, e)) : unqL l i [] = .ok (t, e) ∧ endsL (l.drop (e - i)) = true := by
  unfold unqE at h
  cases h1 : unqL l i [] with
  | error p => rw [h1] at h; cases h
  | ok x =>
    obtain ⟨t', e'⟩ := x
    rw [h1] at h
    dsimp only at h
    by_cases h2 : endsL (l.drop (e' - i)) = true
    · rw [if_pos h2] at h; cases h; exact ⟨rfl, h2⟩
    · rw [if_neg h2] at h; cases h

theorem unqE_bound {l : List UInt8} {i : Nat} : (∀ t e, unqE l i = .ok (t, e) → i < e ∧ e ≤ i + l.length) ∧ (∀ p, unqE l i = .error p → i ≤ p ∧ p ≤ i + l.length) := by
  obtain ⟨b1, b2⟩ := unqL_bound l.length l i [] (Nat.le_refl _)
  refine ⟨fun t e h => b1 t e (unqE_ok h).1, fun p h => ?_⟩
  unfold unqE at h
  cases h1 : unqL l i [] with
  | error p' => rw [h1] at h; cases h; exact b2 _ h1
  | ok x =>
    obtain ⟨t', e'⟩ := x
    rw [h1] at h
    dsimp only at h
    have := b1 _ _ h1
    by_cases h2 : endsL (l.drop (e' - i)) = true
    · rw [if_pos h2] at h; cases h
    · rw [if_neg h2] at h; cases h; omega

theorem lineL_nil (i : Nat) (out : List W) : lineL [] i out = .ok out := by rw [lineL]
theorem lineL_blank {c : UInt8} (h : blankN c.toNat = true) (r : List UInt8) (i : Nat) (out : List W) : lineL (c :: r) i out = lineL r (i + 1) out := by rw [lineL]; simp [h]
theorem lineL_comment {c : UInt8} (h : c.toNat = 35) (r : List UInt8) (i : Nat) (out : List W) : lineL (c :: r) i out = .ok out := by rw [lineL]; simp [h, blankN]
theorem lineL_bad {c : UInt8} (h : c.toNat = 34) {r : List UInt8} {i p : Nat} (hq : unqE r (i + 1) = .error p) (out : List W) : lineL (c :: r) i out = .error p := by rw [lineL]; simp [h, blankN, hq]
theorem lineL_quoted {c : UInt8} (h : c.toNat = 34) {r : List UInt8} {i e : Nat} {t : List UInt8} (hq : unqE r (i + 1) = .ok (t, e)) (out : List W) : lineL (c :: r) i out = lineL (r.drop (e - (i + 1))) e (out ++ [⟨t, true, i⟩]) := by rw [lineL]; simp [h, blankN, hq]
theorem plain_not {n : Nat} (h : plainN n = true) : blankN n = false ∧ n ≠ 34 := by
  unfold plainN at h
  simp at h
  unfold blankN
  refine ⟨?_, h.2.2⟩
  simp; omega
theorem lineL_plain {c : UInt8} (h : plainN c.toNat = true) (h2 : c.toNat ≠ 35) {r : List UInt8} (he : endsL (r.drop (plainLen r)) = true) (i : Nat) (out : List W) :
    lineL (c :: r) i out = lineL (r.drop (plainLen r)) (i + 1 + plainLen r) (out ++ [⟨c :: r.take (plainLen r), false, i⟩]) := by
  obtain ⟨h3, h4⟩ := plain_not h
  rw [lineL]; simp [h, h2, h3, h4, he]
theorem lineL_cut {c : UInt8} (h : plainN c.toNat = true) (h2 : c.toNat ≠ 35) {r : List UInt8} (he : endsL (r.drop (plainLen r)) = false) (i : Nat) (out : List W) :
    lineL (c :: r) i out = .error (i + 1 + plainLen r) := by
  obtain ⟨h3, h4⟩ := plain_not h
  rw [lineL]; simp [h, h2, h3, h4, he]
theorem lineL_wrong {c : UInt8} (h : plainN c.toNat = false) (h1 : blankN c.toNat = false) (h2 : c.toNat ≠ 34) (r : List UInt8) (i : Nat) (out : List W) : lineL (c :: r) i out = .error i := by
  have h3 : c.toNat ≠ 35 := fun e => by rw [e] at h; revert h; decide
  rw [lineL]; simp [h, h1, h2, h3]

theorem plainLen_le : ∀ l : List UInt8, plainLen l ≤ l.length
  | [] => Nat.le_refl _
  | c :: r => by
    unfold plainLen
    have := plainLen_le r
    by_cases h : plainN c.toNat = true
    · rw [if_pos h]; simp; omega
    · rw [if_neg h]; simp

/-- Plain words; how words are written. -/
def allPlain (l : List UInt8) : Bool := l.all (fun c => plainN c.toNat)
def headOk : List UInt8 → Bool
  | [] => false
  | c :: _ => c.toNat != 35
def plainW (l : List UInt8) : Bool := allPlain l && headOk l
def quoteB (c : UInt8) : List UInt8 :=
  if c.toNat = 34 ∨ c.toNat = 92 then [92, c] else if c.toNat = 10 then [92, 110] else if c.toNat < 32 ∨ 127 ≤ c.toNat then [92, 120, hexB (c.toNat / 16), hexB (c.toNat % 16)] else [c]
def quoteL (l : List UInt8) : List UInt8 := 34 :: (l.flatMap quoteB ++ [34])
def wordL (t : List UInt8) (q : Bool) : List UInt8 := if q || !plainW t then quoteL t else t
def writeL : List (List UInt8 × Bool) → List UInt8
  | [] => []
  | (t, q) :: r => wordL t q ++ r.flatMap (fun x => 32 :: wordL x.1 x.2)

theorem allPlain_cons (c : UInt8) (r : List UInt8) : allPlain (c :: r) = (plainN c.toNat && allPlain r) := rfl
theorem quoteB_len (c : UInt8) : 1 ≤ (quoteB c).length ∧ (quoteB c).length ≤ 4 := by
  unfold quoteB
  split
  · simp
  · split
    · simp
    · split <;> simp
theorem flat_len : ∀ l : List UInt8, (l.flatMap quoteB).length ≤ 4 * l.length
  | [] => by simp
  | c :: r => by
    have := quoteB_len c
    have := flat_len r
    rw [List.flatMap_cons, List.length_append, List.length_cons]
    omega
theorem quoteL_len (l : List UInt8) : (quoteL l).length ≤ 4 * l.length + 2 := by
  have := flat_len l
  unfold quoteL
  simp only [List.length_cons, List.length_append, List.length_nil]
  omega

end Go.Proofs.YtbnajikkogdelaaDoor.WordsMath
