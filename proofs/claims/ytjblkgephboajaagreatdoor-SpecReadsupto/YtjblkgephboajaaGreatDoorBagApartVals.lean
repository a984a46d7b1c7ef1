/-
  Texts that stand together: ApartVals, WordsMath, WordsOne, WordsEnds, WordsBytes, WordsEsc.
-/
import Derived.Test.YtjblkgephboajaaGreatDoorBApartRoom
import Derived.WalkKit
import Derived.Test.YtjblkgephboajaaGreatDoorProg
import Derived.WalkSpells
import Derived.Laws.AppendOwnNone
import Derived.Laws.OwnMore
import Derived.Laws.IdiomStrings
import Derived.Lib.UnsafeStr
import Derived.Lib.BufferWrite
import Derived.Deep.RegionLaw
import Derived.RangeFuncBox
import Derived.Laws.BitsLemmas
import Derived.Maps.AppendAt
import Derived.Test.YtjblkgephboajaaGreatDoorBagGramLent
import Derived.Deep.QuietTactic
import Derived.BigQuiet
namespace Go.Proofs.YtjblkgephboajaaGreatDoor.ApartRoom
open Go.RowKit GramMath GramRow GramApart
set_option linter.unusedVariables false
set_option linter.unusedSimpArgs false

def adV : Value → Option Addr
  | .slice a _ _ => a
  | _ => none
def lnV : Value → Nat
  | .slice _ n _ => n
  | _ => 0
def cpV : Value → Nat
  | .slice _ _ c => c
  | _ => 0
def gV (v : Value) : Nat := match adV v with
  | some a => a.block
  | none => 0

/-- A list that is new memory: none, or a row of its own, of so many numbers at most. -/
def ListV (w : World) (B : Nat) (v : Value) : Prop := v = .slice none 0 0 ∨ ∃ g n c xs, v = .slice (some ⟨g, 0, none⟩) n c ∧ n ≤ 600 ∧ w.ownsRow B 3 1 (.slice (some ⟨g, 0, none⟩) n c) n xs
def AptV (v u : Value) : Prop := ∀ b, v.ownBlock = some b → u.ownBlock ≠ some b

theorem apart_vals (B A cA : Nat) (VL : List Value) (curA : Array Value) (w : World) (hm : VL.length ≤ 1000) (hm0 : 0 < VL.length) (hA : RowAt w A 34 curA) (hAc : ∀ (j : Nat) v, VL[j]? = some v → curA[j]? = some v)
    (hV : ∀ v ∈ VL, ListV w B v) (hd : VL.Pairwise AptV) (hAg : ∀ v ∈ VL, v.ownBlock ≠ some A) (hBw : B ≤ w.heap.size) :
    Calls Tryz.prog 17 #[.slice (some ⟨A, 0, none⟩) VL.length cA] w fun e w' => e = .returned (.bool true) ∧ Below B w w' ∧ But (fun b => ∃ v ∈ VL, v.ownBlock = some b) w w' := by
  have hget : ∀ j, j < VL.length → ∃ v, VL[j]? = some v ∧ VL.getD j (.slice none 0 0) = v ∧ v ∈ VL := fun j hj => ⟨VL[j], List.getElem?_eq_getElem hj, by simp [List.getD, List.getElem?_eq_getElem hj], List.getElem_mem hj⟩
  have hblk : ∀ v, ListV w B v → adV v ≠ none → v.ownBlock = some (gV v) ∧ adV v = some ⟨gV v, 0, none⟩ := fun v hv hn => by
    rcases hv with rfl | ⟨g, n, c, xs, rfl, _⟩
    · exact absurd rfl hn
    · exact ⟨rfl, rfl⟩
  refine (apart_room_but B VL.length A cA (fun j => gV (VL.getD j (.slice none 0 0))) (fun j => lnV (VL.getD j (.slice none 0 0))) (fun j => cpV (VL.getD j (.slice none 0 0))) (fun j => adV (VL.getD j (.slice none 0 0))) curA w hm hm0 hA ?_ ?_ ?_ ?_ ?_ ?_ hBw).mono ?_
  · intro j hj
    obtain ⟨v, h1, h2, h3⟩ := hget j hj
    rw [hAc j v h1]
    simp only [h2]
    rcases hV v h3 with rfl | ⟨g, n, c, xs, rfl, _⟩ <;> rfl
  · intro j hj
    obtain ⟨v, h1, h2, h3⟩ := hget j hj
    simp only [h2]
    rcases hV v h3 with rfl | ⟨g, n, c, xs, rfl, _⟩
    · exact .inl ⟨rfl, rfl, rfl⟩
    · exact .inr rfl
  · intro j hj hn
    obtain ⟨v, h1, h2, h3⟩ := hget j hj
    simp only [h2] at hn ⊢
    rcases hV v h3 with rfl | ⟨g, n, c, xs, rfl, _, ho⟩
    · exact absurd rfl hn
    · exact ⟨xs, ho⟩
  · intro a ha b hb hne hna hnb
    obtain ⟨v, h1, h2, h3⟩ := hget a ha
    obtain ⟨u, g1, g2, g3⟩ := hget b hb
    simp only [h2, g2] at hna hnb ⊢
    have e1 := (hblk v (hV v h3) hna).1
    have e2 := (hblk u (hV u g3) hnb).1
    intro e
    obtain ⟨ha', ea⟩ := List.getElem?_eq_some_iff.1 h1
    obtain ⟨hb', eb⟩ := List.getElem?_eq_some_iff.1 g1
    rcases Nat.lt_or_gt_of_ne hne with h | h
    · have := List.pairwise_iff_getElem.1 hd a b ha' hb' h
      rw [ea, eb] at this
      exact this _ e1 (by rw [e2, e])
    · have := List.pairwise_iff_getElem.1 hd b a hb' ha' h
      rw [ea, eb] at this
      exact this _ e2 (by rw [e1, e])
  · intro j hj
    obtain ⟨v, h1, h2, h3⟩ := hget j hj
    simp only [h2]
    rcases hV v h3 with rfl | ⟨g, n, c, xs, rfl, h, _⟩
    · exact Nat.zero_le _
    · exact h
  · intro j hj hn
    obtain ⟨v, h1, h2, h3⟩ := hget j hj
    simp only [h2] at hn ⊢
    have e1 := (hblk v (hV v h3) hn).1
    intro e
    exact hAg v h3 (by rw [e1, ← e])
  · rintro e w' ⟨rfl, hk⟩
    refine ⟨rfl, hk.low, hk.but.mono fun b hb hs => ?_⟩
    obtain ⟨j, hj, hn, rfl⟩ := hs
    obtain ⟨v, h1, h2, h3⟩ := hget j hj
    simp only [h2] at hn ⊢
    exact ⟨v, h3, (hblk v (hV v h3) hn).1⟩

end Go.Proofs.YtjblkgephboajaaGreatDoor.ApartRoom

namespace Go.Proofs.YtjblkgephboajaaGreatDoor.WordsMath

def blankN (n : Nat) : Bool := n == 32 || n == 9
def plainN (n : Nat) : Bool := decide (32 < n) && (decide (n < 127) && n != 34)
def hexN (n : Nat) : Option Nat := if 48 ≤ n ∧ n ≤ 57 then some (n - 48) else if 65 ≤ n ∧ n ≤ 70 then some (n - 55) else none
def hexB (n : Nat) : UInt8 := if n < 10 then UInt8.ofNat (48 + n) else UInt8.ofNat (55 + n)

/-- A word of a line. -/
structure W where
  text : List UInt8
  quoted : Bool
  place : Nat

def endsL : List UInt8 → Bool
  | [] => true
  | c :: _ => blankN c.toNat

/-- The byte that two digits at the beginning say. -/
def sixL : List UInt8 → Option UInt8
  | a :: b :: _ => match hexN a.toNat, hexN b.toNat with
    | some x, some y => some (UInt8.ofNat (16 * x + y))
    | _, _ => none
  | _ => none

/-- What stands behind a backslash: the byte that the escape says, and how many bytes it has there. -/
def escL : List UInt8 → Option (UInt8 × Nat)
  | [] => none
  | d :: r => if d.toNat = 34 ∨ d.toNat = 92 then some (d, 1) else if d.toNat = 110 then some (10, 1) else if d.toNat = 120 then (sixL r).map (fun b => (b, 3)) else none

/-- A piece of a quoted word that begins with c: its byte, and how many bytes more it has. -/
def pieceL (c : UInt8) (r : List UInt8) : Option (UInt8 × Nat) :=
  if c.toNat = 92 then escL r else if c.toNat = 10 then none else some (c, 0)

def unqL (l : List UInt8) (i : Nat) (acc : List UInt8) : Except Nat (List UInt8 × Nat) :=
  match l with
  | [] => .error i
  | c :: r =>
    if c.toNat = 34 then .ok (acc, i + 1)
    else match pieceL c r with
      | none => .error i
      | some (b, k) => unqL (r.drop k) (i + 1 + k) (acc ++ [b])
termination_by l.length
decreasing_by simp; omega

/-- A quoted word behind its first quote, and what may stand behind it. -/
def unqE (l : List UInt8) (i : Nat) : Except Nat (List UInt8 × Nat) :=
  match unqL l i [] with
  | .error p => .error p
  | .ok (t, e) => if endsL (l.drop (e - i)) then .ok (t, e) else .error e

def plainLen : List UInt8 → Nat
  | [] => 0
  | c :: r => if plainN c.toNat then plainLen r + 1 else 0

def lineL (l : List UInt8) (i : Nat) (out : List W) : Except Nat (List W) :=
  match l with
  | [] => .ok out
  | c :: r =>
    if blankN c.toNat then lineL r (i + 1) out
    else if c.toNat = 35 then .ok out
    else if c.toNat = 34 then
      match unqE r (i + 1) with
      | .error p => .error p
      | .ok (t, e) => lineL (r.drop (e - (i + 1))) e (out ++ [⟨t, true, i⟩])
    else if plainN c.toNat then
      if endsL (r.drop (plainLen r)) then lineL (r.drop (plainLen r)) (i + 1 + plainLen r) (out ++ [⟨c :: r.take (plainLen r), false, i⟩])
      else .error (i + 1 + plainLen r)
    else .error i
termination_by l.length
decreasing_by all_goals (simp; try omega)

theorem unqL_nil (i : Nat) (acc : List UInt8) : unqL [] i acc = .error i := by rw [unqL]
theorem unqL_end {c : UInt8} (h : c.toNat = 34) (r : List UInt8) (i : Nat) (acc : List UInt8) : unqL (c :: r) i acc = .ok (acc, i + 1) := by rw [unqL]; simp [h]
theorem unqL_none {c : UInt8} (h : c.toNat ≠ 34) {r : List UInt8} (hp : pieceL c r = none) (i : Nat) (acc : List UInt8) : unqL (c :: r) i acc = .error i := by rw [unqL]; simp [h, hp]
theorem unqL_some {c : UInt8} (h : c.toNat ≠ 34) {r : List UInt8} {b : UInt8} {k : Nat} (hp : pieceL c r = some (b, k)) (i : Nat) (acc : List UInt8) : unqL (c :: r) i acc = unqL (r.drop k) (i + 1 + k) (acc ++ [b]) := by rw [unqL]; simp [h, hp]

theorem sixL_len {l : List UInt8} {b : UInt8} (h : sixL l = some b) : 2 ≤ l.length := by
  match l with
  | [] => cases h
  | [_] => cases h
  | _ :: _ :: _ => simp

theorem escL_len {l : List UInt8} {b : UInt8} {k : Nat} (h : escL l = some (b, k)) : 1 ≤ k ∧ k ≤ l.length := by
  cases l with
  | nil => cases h
  | cons d r =>
    unfold escL at h
    dsimp only at h
    by_cases h1 : d.toNat = 34 ∨ d.toNat = 92
    · rw [if_pos h1] at h; cases h; simp
    · rw [if_neg h1] at h
      by_cases h2 : d.toNat = 110
      · rw [if_pos h2] at h; cases h; simp
      · rw [if_neg h2] at h
        by_cases h3 : d.toNat = 120
        · rw [if_pos h3] at h
          cases h4 : sixL r with
          | none => rw [h4] at h; cases h
          | some x => rw [h4] at h; cases h; have := sixL_len h4; simp; omega
        · rw [if_neg h3] at h; cases h

theorem pieceL_len {c : UInt8} {r : List UInt8} {b : UInt8} {k : Nat} (h : pieceL c r = some (b, k)) : k ≤ r.length := by
  unfold pieceL at h
  by_cases h1 : c.toNat = 92
  · rw [if_pos h1] at h; exact (escL_len h).2
  · rw [if_neg h1] at h
    by_cases h2 : c.toNat = 10
    · rw [if_pos h2] at h; cases h
    · rw [if_neg h2] at h; cases h; omega

theorem unqL_bound (n : Nat) : ∀ (l : List UInt8) (i : Nat) (acc : List UInt8), l.length ≤ n →
    (∀ t e, unqL l i acc = .ok (t, e) → i < e ∧ e ≤ i + l.length) ∧ (∀ p, unqL l i acc = .error p → i ≤ p ∧ p ≤ i + l.length) := by
  induction n with
  | zero =>
    intro l i acc hl
    have : l = [] := List.eq_nil_of_length_eq_zero (by omega)
    subst this
    rw [unqL_nil]
    exact ⟨fun t e h => (by cases h), fun p h => by cases h; simp⟩
  | succ n ih =>
    intro l i acc hl
    cases l with
    | nil => rw [unqL_nil]; exact ⟨fun t e h => (by cases h), fun p h => by cases h; simp⟩
    | cons c r =>
      by_cases h1 : c.toNat = 34
      · rw [unqL_end h1]
        exact ⟨fun t e h => (by cases h; simp), fun p h => (by cases h)⟩
      · cases hp : pieceL c r with
        | none => rw [unqL_none h1 hp]; exact ⟨fun t e h => (by cases h), fun p h => by cases h; simp⟩
        | some x =>
          obtain ⟨b, k⟩ := x
          have hk := pieceL_len hp
          rw [unqL_some h1 hp]
          have hlen : (r.drop k).length = r.length - k := List.length_drop
          simp only [List.length_cons] at hl ⊢
          obtain ⟨ih1, ih2⟩ := ih (r.drop k) (i + 1 + k) (acc ++ [b]) (by omega)
          exact ⟨fun t e h => by have := ih1 t e h; omega, fun p h => by have := ih2 p h; omega⟩

theorem unqE_ok {l : List UInt8} {i : Nat} {t : List UInt8} {e : Nat} (h : unqE l i = .ok (t, e)) : unqL l i [] = .ok (t, e) ∧ endsL (l.drop (e - i)) = true := by
  unfold unqE at h
  cases h1 : unqL l i [] with
  | error p => rw [h1] at h; cases h
  | ok x =>
    obtain ⟨t', e'⟩ := x
    rw [h1] at h
    dsimp only at h
    by_cases h2 : endsL (l.drop (e' - i)) = true
    · rw [if_pos h2] at h; cases h; exact ⟨rfl, h2⟩
    · rw [if_neg h2] at h; cases h

theorem unqE_bound {l : List UInt8} {i : Nat} : (∀ t e, unqE l i = .ok (t, e) → i < e ∧ e ≤ i + l.length) ∧ (∀ p, unqE l i = .error p → i ≤ p ∧ p ≤ i + l.length) := by
  obtain ⟨b1, b2⟩ := unqL_bound l.length l i [] (Nat.le_refl _)
  refine ⟨fun t e h => b1 t e (unqE_ok h).1, fun p h => ?_⟩
  unfold unqE at h
  cases h1 : unqL l i [] with
  | error p' => rw [h1] at h; cases h; exact b2 _ h1
  | ok x =>
    obtain ⟨t', e'⟩ := x
    rw [h1] at h
    dsimp only at h
    have := b1 _ _ h1
    by_cases h2 : endsL (l.drop (e' - i)) = true
    · rw [if_pos h2] at h; cases h
    · rw [if_neg h2] at h; cases h; omega

theorem lineL_nil (i : Nat) (out : List W) : lineL [] i out = .ok out := by rw [lineL]
theorem lineL_blank {c : UInt8} (h : blankN c.toNat = true) (r : List UInt8) (i : Nat) (out : List W) : lineL (c :: r) i out = lineL r (i + 1) out := by rw [lineL]; simp [h]
theorem lineL_comment {c : UInt8} (h : c.toNat = 35) (r : List UInt8) (i : Nat) (out : List W) : lineL (c :: r) i out = .ok out := by rw [lineL]; simp [h, blankN]
theorem lineL_bad {c : UInt8} (h : c.toNat = 34) {r : List UInt8} {i p : Nat} (hq : unqE r (i + 1) = .error p) (out : List W) : lineL (c :: r) i out = .error p := by rw [lineL]; simp [h, blankN, hq]
theorem lineL_quoted {c : UInt8} (h : c.toNat = 34) {r : List UInt8} {i e : Nat} {t : List UInt8} (hq : unqE r (i + 1) = .ok (t, e)) (out : List W) : lineL (c :: r) i out = lineL (r.drop (e - (i + 1))) e (out ++ [⟨t, true, i⟩]) := by rw [lineL]; simp [h, blankN, hq]
theorem plain_not {n : Nat} (h : plainN n = true) : blankN n = false ∧ n ≠ 34 := by
  unfold plainN at h
  simp at h
  unfold blankN
  refine ⟨?_, h.2.2⟩
  simp; omega
theorem lineL_plain {c : UInt8} (h : plainN c.toNat = true) (h2 : c.toNat ≠ 35) {r : List UInt8} (he : endsL (r.drop (plainLen r)) = true) (i : Nat) (out : List W) :
    lineL (c :: r) i out = lineL (r.drop (plainLen r)) (i + 1 + plainLen r) (out ++ [⟨c :: r.take (plainLen r), false, i⟩]) := by
  obtain ⟨h3, h4⟩ := plain_not h
  rw [lineL]; simp [h, h2, h3, h4, he]
theorem lineL_cut {c : UInt8} (h : plainN c.toNat = true) (h2 : c.toNat ≠ 35) {r : List UInt8} (he : endsL (r.drop (plainLen r)) = false) (i : Nat) (out : List W) :
    lineL (c :: r) i out = .error (i + 1 + plainLen r) := by
  obtain ⟨h3, h4⟩ := plain_not h
  rw [lineL]; simp [h, h2, h3, h4, he]
theorem lineL_wrong {c : UInt8} (h : plainN c.toNat = false) (h1 : blankN c.toNat = false) (h2 : c.toNat ≠ 34) (r : List UInt8) (i : Nat) (out : List W) : lineL (c :: r) i out = .error i := by
  have h3 : c.toNat ≠ 35 := fun e => by rw [e] at h; revert h; decide
  rw [lineL]; simp [h, h1, h2, h3]

theorem plainLen_le : ∀ l : List UInt8, plainLen l ≤ l.length
  | [] => Nat.le_refl _
  | c :: r => by
    unfold plainLen
    have := plainLen_le r
    by_cases h : plainN c.toNat = true
    · rw [if_pos h]; simp; omega
    · rw [if_neg h]; simp

/-- Plain words; how words are written. -/
def allPlain (l : List UInt8) : Bool := l.all (fun c => plainN c.toNat)
def headOk : List UInt8 → Bool
  | [] => false
  | c :: _ => c.toNat != 35
def plainW (l : List UInt8) : Bool := allPlain l && headOk l
def quoteB (c : UInt8) : List UInt8 :=
  if c.toNat = 34 ∨ c.toNat = 92 then [92, c] else if c.toNat = 10 then [92, 110] else if c.toNat < 32 ∨ 127 ≤ c.toNat then [92, 120, hexB (c.toNat / 16), hexB (c.toNat % 16)] else [c]
def quoteL (l : List UInt8) : List UInt8 := 34 :: (l.flatMap quoteB ++ [34])
def wordL (t : List UInt8) (q : Bool) : List UInt8 := if q || !plainW t then quoteL t else t
def writeL : List (List UInt8 × Bool) → List UInt8
  | [] => []
  | (t, q) :: r => wordL t q ++ r.flatMap (fun x => 32 :: wordL x.1 x.2)

end Go.Proofs.YtjblkgephboajaaGreatDoor.WordsMath

namespace Go.Proofs.YtjblkgephboajaaGreatDoor.WordsOne
open Go.RowKit WordsMath

theorem ret_bool {a b : Bool} (h : a = b) : Ending.returned (.bool a) = .returned (.bool b) := by rw [h]

set_option maxHeartbeats 400000 in
theorem blank_any (c : Nat) (w : World) : Calls Tryz.prog 68 #[.int .u8 (c : Int)] w fun e w' => e = .returned (.bool (blankN c)) ∧ w' = w := by
  by_cases h1 : c = 32
  · subst h1
    go_enter Tryz.func68, Tryz.ntmps68
    go_wp2
    go_ret
    exact ⟨rfl, rfl⟩
  · by_cases h2 : c = 9
    · subst h2
      go_enter Tryz.func68, Tryz.ntmps68
      go_wp2
      go_ret
      exact ⟨rfl, rfl⟩
    · have E : Hid (blankN c = false) := by show blankN c = false; unfold blankN; simp; omega
      have k1 : ((c : Int) == 32) = false := by simp; omega
      have k2 : ((c : Int) == 9) = false := by simp; omega
      go_enter Tryz.func68, Tryz.ntmps68
      go_wp2
      go_ret
      exact ⟨ret_bool E.out.symm, rfl⟩

set_option maxHeartbeats 400000 in
theorem rblank_any (c : Nat) (w : World) : Calls Tryz.prog 81 #[.int .u8 (c : Int)] w fun e w' => e = .returned (.bool (blankN c)) ∧ w' = w := by
  by_cases h1 : c = 32
  · subst h1
    go_enter Tryz.func81, Tryz.ntmps81
    go_wp2
    go_ret
    exact ⟨rfl, rfl⟩
  · by_cases h2 : c = 9
    · subst h2
      go_enter Tryz.func81, Tryz.ntmps81
      go_wp2
      go_ret
      exact ⟨rfl, rfl⟩
    · have E : Hid (blankN c = false) := by show blankN c = false; unfold blankN; simp; omega
      have k1 : ((c : Int) == 32) = false := by simp; omega
      have k2 : ((c : Int) == 9) = false := by simp; omega
      go_enter Tryz.func81, Tryz.ntmps81
      go_wp2
      go_ret
      exact ⟨ret_bool E.out.symm, rfl⟩

set_option maxHeartbeats 400000 in
theorem plain_any (c : Nat) (w : World) : Calls Tryz.prog 72 #[.int .u8 (c : Int)] w fun e w' => e = .returned (.bool (plainN c)) ∧ w' = w := by
  by_cases h1 : 32 < c
  · have k1 : (32 : Int) < (c : Int) := by omega
    by_cases h2 : c < 127
    · have k2 : (c : Int) < 127 := by omega
      by_cases h3 : c = 34
      · subst h3
        go_enter Tryz.func72, Tryz.ntmps72
        go_wp2
        go_ret
        exact ⟨rfl, rfl⟩
      · have E : Hid (plainN c = true) := by show plainN c = true; unfold plainN; simp; omega
        have k3 : ((c : Int) != 34) = true := by simp; omega
        go_enter Tryz.func72, Tryz.ntmps72
        go_wp2
        go_ret
        exact ⟨ret_bool E.out.symm, rfl⟩
    · have E : Hid (plainN c = false) := by show plainN c = false; unfold plainN; simp; omega
      have k2 : ¬ (c : Int) < 127 := by omega
      go_enter Tryz.func72, Tryz.ntmps72
      go_wp2
      go_ret
      exact ⟨ret_bool E.out.symm, rfl⟩
  · have E : Hid (plainN c = false) := by show plainN c = false; unfold plainN; simp; omega
    have k1 : ¬ (32 : Int) < (c : Int) := by omega
    go_enter Tryz.func72, Tryz.ntmps72
    go_wp2
    go_ret
    exact ⟨ret_bool E.out.symm, rfl⟩

set_option maxHeartbeats 400000 in
theorem rplain_any (c : Nat) (w : World) : Calls Tryz.prog 83 #[.int .u8 (c : Int)] w fun e w' => e = .returned (.bool (plainN c)) ∧ w' = w := by
  by_cases h1 : 33 ≤ c
  · have k1 : (33 : Int) ≤ (c : Int) := by omega
    by_cases h2 : c ≤ 126
    · have k2 : (c : Int) ≤ 126 := by omega
      by_cases h3 : c = 34
      · subst h3
        go_enter Tryz.func83, Tryz.ntmps83
        go_wp2
        go_ret
        exact ⟨rfl, rfl⟩
      · have E : Hid (plainN c = true) := by show plainN c = true; unfold plainN; simp; omega
        have k3 : ((c : Int) != 34) = true := by simp; omega
        go_enter Tryz.func83, Tryz.ntmps83
        go_wp2
        go_ret
        exact ⟨ret_bool E.out.symm, rfl⟩
    · have E : Hid (plainN c = false) := by show plainN c = false; unfold plainN; simp; omega
      have k2 : ¬ (c : Int) ≤ 126 := by omega
      go_enter Tryz.func83, Tryz.ntmps83
      go_wp2
      go_ret
      exact ⟨ret_bool E.out.symm, rfl⟩
  · have E : Hid (plainN c = false) := by show plainN c = false; unfold plainN; simp; omega
    have k1 : ¬ (33 : Int) ≤ (c : Int) := by omega
    go_enter Tryz.func83, Tryz.ntmps83
    go_wp2
    go_ret
    exact ⟨ret_bool E.out.symm, rfl⟩

end Go.Proofs.YtjblkgephboajaaGreatDoor.WordsOne

namespace Go.Proofs.YtjblkgephboajaaGreatDoor.WordsOne
open Go.RowKit WordsMath

theorem list_size (s : ByteArray) : s.data.toList.length = s.size := by cases s; simp [ByteArray.size]

theorem drop_cons (s : ByteArray) {i : Nat} (hi : i < s.size) : s.data.toList.drop i = s[i] :: s.data.toList.drop (i + 1) := by
  rw [List.drop_eq_getElem_cons (by rw [list_size]; exact hi)]
  congr 1

theorem drop_end (s : ByteArray) {i : Nat} (hi : s.size ≤ i) : s.data.toList.drop i = [] := by
  rw [List.drop_eq_nil_iff, list_size]; exact hi

set_option maxHeartbeats 400000 in
theorem ends_any (s : ByteArray) (i : Nat) (w : World) (hi : i ≤ s.size) : Calls Tryz.prog 70 #[.string s, .int .i64 (i : Int)] w fun e w' => e = .returned (.bool (endsL (s.data.toList.drop i))) ∧ w' = w := by
  by_cases h : i = s.size
  · have E : Hid (endsL (s.data.toList.drop i) = true) := by show endsL _ = true; rw [drop_end s (by omega)]; rfl
    have k1 : ((i : Int) == (s.size : Int)) = true := by simp; omega
    go_enter Tryz.func70, Tryz.ntmps70
    go_wp2
    go_ret
    exact ⟨ret_bool E.out.symm, rfl⟩
  · have hlt : i < s.size := by omega
    have E : Hid (endsL (s.data.toList.drop i) = blankN s[i].toNat) := by show endsL _ = _; rw [drop_cons s hlt]; rfl
    obtain ⟨c, hc⟩ : ∃ c, s[i] = c := ⟨_, rfl⟩
    rw [hc] at E
    have k1 : ((i : Int) == (s.size : Int)) = false := by simp; omega
    go_enter Tryz.func70, Tryz.ntmps70
    go_wp2_with (go_at_call 68; refine (blank_any _ _).mono ?_; rintro e w' ⟨rfl, rfl⟩)
    go_ret
    exact ⟨ret_bool E.out.symm, rfl⟩

end Go.Proofs.YtjblkgephboajaaGreatDoor.WordsOne

namespace Go.Proofs.YtjblkgephboajaaGreatDoor.WordsBytes
open Go.RowKit WordsMath WordsOne

theorem cells_new (w : World) (C : Array Value) (t : TypeId) : ∀ j u, C.toList[j]? = some u → (w.alloc (.cells C t)).cell? ((⟨w.heap.size, 0, none⟩ : Addr).add j) = some u := by
  intro j u hj
  have h := World.cell?_alloc_mark w C t (0, 0) j
  rw [Addr.add_lit, Nat.zero_add]
  rw [show (w.alloc (.cells C t)).cell? ⟨w.heap.size, j, none⟩ = C[j]? from h]
  simpa using hj

theorem bytes_cell (l : List UInt8) (j : Nat) (hj : j < l.length) : (Lib.byteCells l)[j]? = some (.int .u8 (l[j].toNat : Int)) := by
  simp [Lib.byteCells, hj]

theorem info5 : (Tryz.prog.info? 5).map (fun i => (i.zero, i.size, i.bytes)) = some (some (.int .u8 0), 1, 1) := by kernel_rfl

theorem bytes_str {W : World} {base g c : Nat} {l : List UInt8} {xs : List Value} (h : W.ownsRow base 5 1 (.slice (some ⟨g, 0, none⟩) l.length c) l.length xs) (hx : xs = Lib.byteCells l) :
    (convert 160 9 (.slice (some ⟨g, 0, none⟩) l.length c)).run Tryz.prog W = .ok (.string ⟨l.toArray⟩) W := by
  subst hx
  exact run_convert_bytes_back (P := Tryz.prog) W 160 9 5 ⟨g, 0, none⟩ c l Tryz.underlying160 Tryz.underlying5 Tryz.underlying9 (fun j hj => by
    rw [Addr.add_lit, Nat.zero_add, h.cellAt j (by omega)]
    exact bytes_cell l j hj)

theorem Below.app {B : Nat} {w w1 w2 : World} {o : Obj} {v : Value} {e : TypeId} {n : Nat} {xs : List Value} (hb : Below B w w1) (hB : B ≤ w1.heap.size) (hrow : w1.ownsRow B e 1 v n xs) (hg : (w1.alloc o).grownBy w2 v.ownBlock) : Below B w w2 :=
  (hb.alloc hB o).grown hg (by simp; omega) (fun k hk => (hrow.lt k hk).1)

/-- What has been quoted of a text behind k bytes. -/
def accQ (s : ByteArray) (k : Nat) : List UInt8 := 34 :: (s.data.toList.take k).flatMap quoteB

theorem own_below {w w' : World} {base : Nat} {e : TypeId} {size n : Nat} {v : Value} {xs : List Value} (h : w.ownsRow base e size v n xs) (hb : Below w.heap.size w w') : w'.ownsRow base e size v n xs := by
  obtain ⟨h1, h | ⟨g, cap, cur, hv, hbb, hg, rest⟩⟩ := h
  · exact ⟨h1, .inl h⟩
  · exact ⟨h1, .inr ⟨g, cap, cur, hv, hbb, (hb.block g (Array.getElem?_eq_some_iff.1 hg).1).trans hg, rest⟩⟩

theorem bytes_str_any {W : World} {base : Nat} {v : Value} {l : List UInt8} (h : W.ownsRow base 5 1 v l.length (Lib.byteCells l)) :
    (convert 160 9 v).run Tryz.prog W = .ok (.string ⟨l.toArray⟩) W := by
  cases l with
  | nil =>
    obtain ⟨_, ⟨rfl, _⟩ | ⟨g, cap, cur, rfl, _⟩⟩ := h
    · kernel_rfl
    · exact run_convert_bytes_back (P := Tryz.prog) W 160 9 5 ⟨g, 0, none⟩ cap [] Tryz.underlying160 Tryz.underlying5 Tryz.underlying9 (fun j hj => by simp at hj)
  | cons x r =>
    obtain ⟨g, c, rfl⟩ := ownsRow_succ (k := r.length) h
    exact bytes_str (l := x :: r) h rfl

theorem row_any {W : World} {B : Nat} {v' : Value} {acc news acc' : List UInt8} {m : Nat} {xs : List Value} (h : W.ownsRow B 5 1 v' (acc.length + m) (Lib.byteCells acc ++ xs)) (hn : xs = Lib.byteCells news) (hm : m = news.length) (ha : acc' = acc ++ news) :
    W.ownsRow B 5 1 v' acc'.length (Lib.byteCells acc') := by
  subst hn hm ha
  rwa [← Lib.byteCells_append, ← List.length_append] at h

def digitsB : ByteArray := ⟨#[48, 49, 50, 51, 52, 53, 54, 55, 56, 57, 65, 66, 67, 68, 69, 70]⟩

end Go.Proofs.YtjblkgephboajaaGreatDoor.WordsBytes

namespace Go.Proofs.YtjblkgephboajaaGreatDoor.WordsBytes
open Go.RowKit WordsMath WordsOne

/-- A digit's worth; -1: it is none. -/
def hexI (n : Nat) : Int := match hexN n with | some v => (v : Int) | none => -1

theorem hexN_lt {n v : Nat} (h : hexN n = some v) : v < 16 := by
  unfold hexN at h
  by_cases h1 : 48 ≤ n ∧ n ≤ 57
  · rw [if_pos h1] at h; cases h; omega
  · rw [if_neg h1] at h
    by_cases h2 : 65 ≤ n ∧ n ≤ 70
    · rw [if_pos h2] at h; cases h; omega
    · rw [if_neg h2] at h; cases h

set_option maxRecDepth 100000 in
theorem index_hex (c : UInt8) : Lib.indexByte digitsB.data.toList ((c.toNat : Int)).toNat.toUInt8 = hexI c.toNat := by
  have h : ∀ n : Fin 256, Lib.indexByte digitsB.data.toList ((n.1 : Int)).toNat.toUInt8 = hexI n.1 := by decide +kernel
  exact h ⟨c.toNat, c.toNat_lt⟩

theorem digit_any (c : UInt8) (w : World) : Calls Tryz.prog 109 #[.string ⟨#[48, 49, 50, 51, 52, 53, 54, 55, 56, 57, 65, 66, 67, 68, 69, 70]⟩, .int .u8 (c.toNat : Int)] w fun e w' => e = .returned (.int .i64 (hexI c.toNat)) ∧ w' = w := by
  have h := Tryz.strings_IndexByte digitsB (c.toNat : Int) w
  rw [index_hex] at h
  exact h

/-- What an escape comes to as the program tells it: the byte and its length; 0, 0: there is none. -/
def sixV (l : List UInt8) : Value := match sixL l with
  | some b => .tuple #[.int .u8 (b.toNat : Int), .int .i64 4]
  | none => .tuple #[.int .u8 0, .int .i64 0]

theorem or_hex (x y : Nat) (hx : x < 16) (hy : y < 16) : bits .or .i64 ((x : Int) * 16) (y : Int) = ((16 * x + y : Nat) : Int) := by
  have h : ∀ x y : Fin 16, bits .or .i64 ((x.1 : Int) * 16) (y.1 : Int) = ((16 * x.1 + y.1 : Nat) : Int) := by decide +kernel
  exact h ⟨x, hx⟩ ⟨y, hy⟩

theorem ret_eq {a b : Value} (h : a = b) : Ending.returned a = .returned b := by rw [h]

set_option maxRecDepth 100000 in
set_option maxHeartbeats 1000000 in
theorem sixteens_any (s : ByteArray) (w : World) (hs : s.size ≤ 4611686018427387904) : Calls Tryz.prog 105 #[.string s] w fun e w' => e = .returned (sixV s.data.toList) ∧ ∃ q, w' = w.drewN q := by
  by_cases h2 : s.size < 2
  · have E : Hid (sixV s.data.toList = .tuple #[.int .u8 0, .int .i64 0]) := by
      show _ = _
      have hl := list_size s
      match hm : s.data.toList with
      | [] => rfl
      | [_] => rfl
      | _ :: _ :: _ => rw [hm] at hl; simp at hl; omega
    have k1 : (s.size : Int) < 2 := by omega
    go_enter Tryz.func105, Tryz.ntmps105
    go_wp2
    go_ret2
    exact ⟨ret_eq E.out.symm, 0, rfl⟩
  · have k1 : ¬ (s.size : Int) < 2 := by omega
    have hd : s.data.toList = s[0] :: s[1] :: s.data.toList.drop 2 := by
      have h0 := drop_cons s (i := 0) (by omega)
      have h1 := drop_cons s (i := 1) (by omega)
      rw [List.drop_zero] at h0
      rw [h1] at h0
      exact h0
    obtain ⟨a, ha⟩ : ∃ a, s[0] = a := ⟨_, rfl⟩
    obtain ⟨b, hb⟩ : ∃ b, s[1] = b := ⟨_, rfl⟩
    rw [ha, hb] at hd
    have E : Hid (_) := hd
    clear hd
    have i0 : (0 : Int) < (s.size : Int) := by omega
    have i1 : (1 : Int) < (s.size : Int) := by omega
    cases hA : hexN a.toNat with
    | none =>
      have e1 : hexI a.toNat = -1 := by unfold hexI; rw [hA]
      have F : Hid (sixV s.data.toList = .tuple #[.int .u8 0, .int .i64 0]) := by show _ = _; unfold sixV; rw [E.out]; simp [sixL, hA]
      go_enter Tryz.func105, Tryz.ntmps105
      go_wp2
      go_quiet ((go_at_call 109; refine Calls.quiet_of_same (digit_any _ _)))
      rw [e1]
      go_wp2
      go_ret2
      exact ⟨ret_eq F.out.symm, _, rfl⟩
    | some x =>
      have hx := hexN_lt hA
      have e1 : hexI a.toNat = (x : Int) := by unfold hexI; rw [hA]
      have n1 : ¬ (x : Int) < 0 := by omega
      cases hB : hexN b.toNat with
      | none =>
        have e2 : hexI b.toNat = -1 := by unfold hexI; rw [hB]
        have F : Hid (sixV s.data.toList = .tuple #[.int .u8 0, .int .i64 0]) := by show _ = _; unfold sixV; rw [E.out]; simp [sixL, hA, hB]
        go_enter Tryz.func105, Tryz.ntmps105
        go_wp2
        go_quiet ((go_at_call 109; refine Calls.quiet_of_same (digit_any _ _)))
        rw [e1, e2]
        go_wp2
        go_ret2
        exact ⟨ret_eq F.out.symm, _, rfl⟩
      | some y =>
        have hy := hexN_lt hB
        have e2 : hexI b.toNat = (y : Int) := by unfold hexI; rw [hB]
        have n2 : ¬ (y : Int) < 0 := by omega
        have e3 := or_hex x y hx hy
        have F : Hid (sixV s.data.toList = .tuple #[.int .u8 (16 * (x : Int) + (y : Int)), .int .i64 4]) := by
          show _ = _
          have e5 : ((UInt8.ofNat (16 * x + y)).toNat : Int) = 16 * (x : Int) + (y : Int) := by rw [UInt8.toNat_ofNat']; omega
          rw [← e5]
          unfold sixV
          rw [E.out]
          simp [sixL, hA, hB]
        go_enter Tryz.func105, Tryz.ntmps105
        go_wp2
        go_quiet ((go_at_call 109; refine Calls.quiet_of_same (digit_any _ _)))
        rw [e1, e2]
        go_wp2
        go_ret2
        exact ⟨ret_eq F.out.symm, _, rfl⟩

theorem ext_list (s : ByteArray) (i : Nat) : (s.extract i s.size).data.toList = s.data.toList.drop i := by
  rw [Lib.extract_data]
  exact List.take_of_length_le (by rw [List.length_drop, list_size]; omega)

/-- What the escape behind a backslash comes to as the program tells it. -/
def escV (r : List UInt8) : Value := match escL r with
  | some (b, k) => .tuple #[.int .u8 (b.toNat : Int), .int .i64 ((k : Int) + 1)]
  | none => .tuple #[.int .u8 0, .int .i64 0]

theorem escV_six {d : UInt8} {r : List UInt8} (h : d.toNat = 120) : escV (d :: r) = sixV r := by
  unfold escV sixV escL
  simp only [h]
  cases sixL r <;> rfl

theorem sixV_shape (l : List UInt8) : ∃ a b : Int, sixV l = .tuple #[.int .u8 a, .int .i64 b] := by
  unfold sixV
  cases sixL l
  · exact ⟨_, _, rfl⟩
  · exact ⟨_, _, rfl⟩

set_option maxRecDepth 100000 in
set_option maxHeartbeats 1000000 in
theorem escaped_any (s : ByteArray) (r : List UInt8) (w : World) (hs : s.size ≤ 4611686018427387904) (hr : Hid (s.data.toList.drop 1 = r)) : Calls Tryz.prog 90 #[.string s] w fun e w' => e = .returned (escV r) ∧ ∃ q, w' = w.drewN q := by
  by_cases h2 : s.size < 2
  · have E : Hid (escV r = .tuple #[.int .u8 0, .int .i64 0]) := by
      show _ = _
      rw [← hr.out, drop_end s (by omega)]
      rfl
    have k1 : (s.size : Int) < 2 := by omega
    go_enter Tryz.func90, Tryz.ntmps90
    go_wp2
    go_ret2
    exact ⟨ret_eq E.out.symm, 0, rfl⟩
  · have k1 : ¬ (s.size : Int) < 2 := by omega
    have hd := drop_cons s (i := 1) (by omega)
    obtain ⟨d, hd1⟩ : ∃ d, s[1] = d := ⟨_, rfl⟩
    rw [hd1] at hd
    have i1 : (1 : Int) < (s.size : Int) := by omega
    have i2 : (2 : Int) ≤ (s.size : Int) := by omega
    have D : Hid (_) := hd
    clear hd
    by_cases h1 : d.toNat = 34 ∨ d.toNat = 92
    · have E : Hid (escV r = .tuple #[.int .u8 (d.toNat : Int), .int .i64 2]) := by
        show _ = _
        rw [← hr.out, D.out]
        unfold escV escL
        simp [h1]
      rcases h1 with h1 | h1
      · have k2 : ((d.toNat : Int) == 34) = true := by simp; omega
        clear h1
        go_enter Tryz.func90, Tryz.ntmps90
        go_wp2
        go_ret2
        exact ⟨ret_eq E.out.symm, 0, rfl⟩
      · have k2 : ((d.toNat : Int) == 34) = false := by simp; omega
        have k3 : ((d.toNat : Int) == 92) = true := by simp; omega
        clear h1
        go_enter Tryz.func90, Tryz.ntmps90
        go_wp2
        go_ret2
        exact ⟨ret_eq E.out.symm, 0, rfl⟩
    · have k2 : ((d.toNat : Int) == 34) = false := by simp; omega
      have k3 : ((d.toNat : Int) == 92) = false := by simp; omega
      by_cases h3 : d.toNat = 110
      · have E : Hid (escV r = .tuple #[.int .u8 10, .int .i64 2]) := by
          show _ = _
          rw [← hr.out, D.out]
          unfold escV escL
          simp [h3]
        have k4 : ((d.toNat : Int) == 110) = true := by simp; omega
        clear h1 h3
        go_enter Tryz.func90, Tryz.ntmps90
        go_wp2
        go_ret2
        exact ⟨ret_eq E.out.symm, 0, rfl⟩
      · have k4 : ((d.toNat : Int) == 110) = false := by simp; omega
        by_cases h4 : d.toNat = 120
        · have E : Hid (escV r = sixV (s.data.toList.drop 2)) := by
            show _ = _
            rw [← hr.out, D.out, escV_six h4]
          have k5 : ((d.toNat : Int) == 120) = true := by simp; omega
          have hc := sixteens_any (s.extract 2 s.size) w (by rw [ByteArray.size_extract]; omega)
          rw [ext_list] at hc
          obtain ⟨x, y, hxy⟩ := sixV_shape (s.data.toList.drop 2)
          rw [hxy] at E hc
          clear h1 h3 h4 hxy
          go_enter Tryz.func90, Tryz.ntmps90
          go_wp2_with fail
          refine hc.mono ?_
          rintro e w1 ⟨rfl, q, hw1⟩
          obtain rfl := hw1.symm
          go_wp2
          go_ret2
          exact ⟨ret_eq E.out.symm, q, rfl⟩
        · have E : Hid (escV r = .tuple #[.int .u8 0, .int .i64 0]) := by
            show _ = _
            rw [← hr.out, D.out]
            unfold escV escL
            simp [h1, h3, h4]
          have k5 : ((d.toNat : Int) == 120) = false := by simp; omega
          clear h1 h3 h4
          go_enter Tryz.func90, Tryz.ntmps90
          go_wp2
          go_ret2
          exact ⟨ret_eq E.out.symm, 0, rfl⟩

end Go.Proofs.YtjblkgephboajaaGreatDoor.WordsBytes
