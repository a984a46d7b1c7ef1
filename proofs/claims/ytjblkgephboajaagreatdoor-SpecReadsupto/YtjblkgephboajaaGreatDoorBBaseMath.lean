/-
  Texts that stand together: BaseMath.
-/
import Derived.WalkKit
import Derived.Laws.BitsAllLaws
import Derived.Lib.TrailingZeros
namespace Go.Proofs.YtjblkgephboajaaGreatDoor
theorem zA {α : Type} {xs : List α} {i : Nat} (h : i < xs.toArray.size) : xs.toArray[i] = xs[i]'(by simpa using h) := List.getElem_toArray h
theorem zB {α : Type} {a : α} {as : List α} (h : 0 < (a :: as).length) : (a :: as)[0] = a := List.getElem_cons_zero _ _ _
theorem zC {α : Type} {a : α} {as : List α} {i : Nat} (h : i + 1 < (a :: as).length) : (a :: as)[i + 1] = as[i]'(Nat.lt_of_succ_lt_succ h) := List.getElem_cons_succ _ _ _ _
theorem zD {α : Type} {l : List α} {i : Nat} {a : α} : l.toArray.setIfInBounds i a = (l.set i a).toArray := List.setIfInBounds_toArray _ _ _
theorem zE {α : Type} {x : α} {xs : List α} {a : α} : (x :: xs).set 0 a = a :: xs := List.set_cons_zero
theorem zF {α : Type} {x : α} {xs : List α} {n : Nat} {a : α} : (x :: xs).set (n + 1) a = x :: xs.set n a := List.set_cons_succ
end Go.Proofs.YtjblkgephboajaaGreatDoor
namespace Go.Proofs.YtjblkgephboajaaGreatDoor.GramMath

def eqB (a b : ByteArray) : Bool := a.data.toList == b.data.toList

theorem eqB_iff (a b : ByteArray) : eqB a b = true ↔ a = b := by
  unfold eqB
  rw [beq_iff_eq]
  constructor
  · intro e
    cases a
    cases b
    congr 1
    exact Array.toList_inj.1 e
  · rintro rfl
    rfl

def memB (s : ByteArray) (ss : List ByteArray) : Bool := ss.any (fun x => eqB x s)

theorem memB_iff (s : ByteArray) (ss : List ByteArray) : memB s ss = true ↔ s ∈ ss := by
  unfold memB
  rw [List.any_eq_true]
  constructor
  · rintro ⟨x, hx, he⟩
    rw [eqB_iff] at he
    exact he ▸ hx
  · intro h
    exact ⟨s, h, (eqB_iff _ _).2 rfl⟩

structure R where
  left : Int
  right : List Int

structure G where
  ts : List ByteArray
  ns : List ByteArray
  ax : Int
  rs : List R

/-- A number of 64 bits with a sign. -/
def I64 (x : Int) : Prop := -9223372036854775808 ≤ x ∧ x < 9223372036854775808

def okR (r : R) : Prop := I64 r.left ∧ (∀ x ∈ r.right, I64 x) ∧ r.right.length ≤ 1125899906842624

/-- The sizes of what a machine holds. -/
def okG (g : G) : Prop := g.ts.length ≤ 1125899906842624 ∧ g.ns.length ≤ 1125899906842624 ∧ g.rs.length ≤ 1125899906842624 ∧ I64 g.ax ∧ (∀ r ∈ g.rs, okR r) ∧ (∀ s ∈ g.ts, s.size ≤ 281474976710656) ∧ ∀ s ∈ g.ns, s.size ≤ 281474976710656

def nameAt (ss : List ByteArray) (i : Nat) : Bool :=
  match ss[i]? with
  | none => true
  | some x => decide (0 < x.size) && decide (x.size ≤ 32) && !memB x (ss.take i)

def namedTo (ss : List ByteArray) (k : Nat) : Bool := (List.range k).all (nameAt ss)
def named (ss : List ByteArray) : Bool := namedTo ss ss.length

theorem namedTo_zero (ss : List ByteArray) : namedTo ss 0 = true := rfl
theorem namedTo_succ (ss : List ByteArray) (k : Nat) : namedTo ss (k + 1) = (namedTo ss k && nameAt ss k) := by
  simp [namedTo, List.range_succ, List.all_append]
theorem namedTo_at {ss : List ByteArray} {k i : Nat} (h : namedTo ss k = true) (hi : i < k) : nameAt ss i = true := by
  unfold namedTo at h
  rw [List.all_eq_true] at h
  exact h i (List.mem_range.2 hi)
theorem named_false {ss : List ByteArray} {k : Nat} (hk : k < ss.length) (h : nameAt ss k = false) : named ss = false := by
  cases hn : named ss with
  | false => rfl
  | true => rw [namedTo_at hn hk] at h; cases h

def symB (t n : Nat) (s : Int) : Bool := decide (-(n : Int) ≤ s) && decide (s < (t : Int))

def leftB (n : Nat) (x : Int) : Bool := decide (0 ≤ x) && decide (x < (n : Int))

/-- What is wrong with a rule: 0 nothing. -/
def ruleK (t n : Nat) (r : R) : Nat :=
  if 32 < r.right.length then 3 else if leftB n r.left = false then 1 else if r.right.all (symB t n) = true then 0 else 1

/-- What is wrong first with rules, and in which. -/
def rulesK (t n : Nat) : List R → Nat → Nat × Option Nat
  | [], _ => (0, none)
  | r :: l, i => if ruleK t n r = 0 then rulesK t n l (i + 1) else (ruleK t n r, some i)

def checkG (g : G) : Nat × Option Nat :=
  if 60 < g.ts.length + g.ns.length ∨ 120 < g.rs.length then (3, none)
  else if named g.ts = false ∨ named g.ns = false then (10, none)
  else if leftB g.ns.length g.ax = false then (1, none)
  else rulesK g.ts.length g.ns.length g.rs 0

theorem ruleK_cases (t n : Nat) (r : R) : ruleK t n r = 0 ∨ ruleK t n r = 1 ∨ ruleK t n r = 3 := by
  unfold ruleK
  split
  · simp
  · split
    · simp
    · split <;> simp

theorem rulesK_drop {t n : Nat} {rs : List R} {k : Nat} {r : R} (h : rs[k]? = some r) : rulesK t n (rs.drop k) k = if ruleK t n r = 0 then rulesK t n (rs.drop (k + 1)) (k + 1) else (ruleK t n r, some k) := by
  obtain ⟨hk, he⟩ := List.getElem?_eq_some_iff.1 h
  rw [List.drop_eq_getElem_cons hk, he]
  rfl

theorem rulesK_end {t n : Nat} {rs : List R} {k : Nat} (h : rs.length ≤ k) (i : Nat) : rulesK t n (rs.drop k) i = (0, none) := by
  rw [List.drop_of_length_le h]
  rfl

/-- What a grammar that may be is like. -/
structure GoodG (g : G) : Prop where
  few : g.ts.length + g.ns.length ≤ 60
  rules : g.rs.length ≤ 120
  nt : named g.ts = true
  nn : named g.ns = true
  ax0 : 0 ≤ g.ax
  ax1 : g.ax < g.ns.length
  each : ∀ r ∈ g.rs, ruleK g.ts.length g.ns.length r = 0

theorem symB_or (t n : Nat) (s : Int) : symB t n s = (leftB t s || leftB n (-1 - s)) := by
  rw [Bool.eq_iff_iff]
  simp only [symB, leftB, Bool.or_eq_true, Bool.and_eq_true, decide_eq_true_eq]
  omega

theorem ruleK_long {t n : Nat} {r : R} (h : 32 < r.right.length) : ruleK t n r = 3 := by unfold ruleK; rw [if_pos h]
theorem ruleK_left {t n : Nat} {r : R} (h : ¬ 32 < r.right.length) (h2 : leftB n r.left = false) : ruleK t n r = 1 := by unfold ruleK; rw [if_neg h, if_pos h2]
theorem ruleK_sym {t n : Nat} {r : R} {k : Nat} {x : Int} (h : ¬ 32 < r.right.length) (h2 : leftB n r.left = true) (hx : r.right[k]? = some x) (hb : symB t n x = false) : ruleK t n r = 1 := by
  unfold ruleK
  rw [if_neg h, if_neg (by rw [h2]; decide), if_neg]
  intro ha
  rw [List.all_eq_true] at ha
  rw [ha x (List.mem_of_getElem? hx)] at hb
  cases hb
theorem ruleK_good {t n : Nat} {r : R} (h : ¬ 32 < r.right.length) (h2 : leftB n r.left = true) (ha : (r.right.take r.right.length).all (symB t n) = true) : ruleK t n r = 0 := by
  rw [List.take_length] at ha
  unfold ruleK
  rw [if_neg h, if_neg (by rw [h2]; decide), if_pos ha]
theorem all_take_succ {l : List Int} {f : Int → Bool} {k : Nat} {x : Int} (hx : l[k]? = some x) (h : (l.take k).all f = true) (hf : f x = true) : (l.take (k + 1)).all f = true := by
  obtain ⟨hk, he⟩ := List.getElem?_eq_some_iff.1 hx
  rw [List.take_succ_eq_append_getElem hk, List.all_append, h, he]
  simp [hf]

/-- The renaming that a rule is. -/
def renB (r : R) : Bool :=
  match r.right with
  | [x] => decide (x < 0)
  | _ => false
def renN (r : R) : Int := if renB r = true then -1 - r.right.headD 0 else 0

end Go.Proofs.YtjblkgephboajaaGreatDoor.GramMath

namespace Go.Proofs.YtjblkgephboajaaGreatDoor.GramMath

def upd (V : Nat → Nat) (t x : Nat) : Nat → Nat := fun i => if i = t then x else V i

def sumV (V : Nat → Nat) : Nat → Nat
  | 0 => 0
  | n + 1 => sumV V n + V n

/-- A renaming of one to the other. -/
def Ren (g : G) (a b : Nat) : Prop := ∃ r, r ∈ g.rs ∧ renB r = true ∧ r.left = (a : Int) ∧ renN r = (b : Int)

/-- One comes to the other. -/
inductive Comes (g : G) : Nat → Nat → Prop
  | refl (a : Nat) : Comes g a a
  | step {a m b : Nat} (h : Ren g a m) (k : Comes g m b) : Comes g a b

/-- What holds of the sets all along. -/
def Inv (g : G) (V : Nat → Nat) : Prop := ∀ i, i < g.ns.length → V i < 2 ^ g.ns.length ∧ (V i).testBit i = true ∧ ∀ k, (V i).testBit k = true → Comes g k i

/-- Nothing is new by a rule. -/
def Shut (V : Nat → Nat) (r : R) : Prop := renB r = true → V (renN r).toNat ||| V r.left.toNat = V (renN r).toNat

/-- The sets that the document asks for. -/
def IsAbove (g : G) (V : Nat → Nat) : Prop := ∀ i, i < g.ns.length → V i < 2 ^ g.ns.length ∧ ∀ k, (V i).testBit k = true ↔ Comes g k i

end Go.Proofs.YtjblkgephboajaaGreatDoor.GramMath

namespace Go.Proofs.YtjblkgephboajaaGreatDoor.GramMath

open Classical in
/-- Does one come to another? -/
noncomputable def comesB (g : G) (a b : Nat) : Bool := decide (Comes g a b)

/-- What is known of those that were seen, and of the list of them. -/
structure Bfs (g : G) (a : Nat) (S : Nat → Bool) (T : List Nat) : Prop where
  start : a ∈ T
  nd : T.Nodup
  mem : ∀ x, x < g.ns.length → (S x = true ↔ x ∈ T)
  lt : ∀ x ∈ T, x < g.ns.length
  comes : ∀ x ∈ T, Comes g a x

def updB (S : Nat → Bool) (t : Nat) : Nat → Bool := fun i => if i = t then true else S i
/-- Whatever a renaming of the first k rules brings from one has been seen. -/
def Out (g : G) (S : Nat → Bool) (x k : Nat) : Prop := ∀ j r, j < k → g.rs[j]? = some r → renB r = true → r.left = (x : Int) → S (renN r).toNat = true

/-- The first i of the list have been gone through. -/
def Through (g : G) (S : Nat → Bool) (T : List Nat) (i : Nat) : Prop := ∀ j x, j < i → T[j]? = some x → Out g S x g.rs.length

/-- A set put together number by number. -/
def putN (p : Nat → Bool) : Nat → Nat
  | 0 => 0
  | f + 1 => if p f = true then putN p f ||| 2 ^ f else putN p f

end Go.Proofs.YtjblkgephboajaaGreatDoor.GramMath

namespace Go.Proofs.YtjblkgephboajaaGreatDoor.EndsMath
open GramMath
set_option linter.unusedVariables false

/-- A right side, read from the left on, or from the right on. -/
def vw (b : Bool) (l : List Int) : List Int := if b = true then l.reverse else l

/-- The symbol at a place, if there is one. -/
def lkB (b : Bool) (l : List Int) (k : Nat) : Bool := decide (k < l.length)
def lkN (b : Bool) (l : List Int) (k : Nat) : Int := (vw b l).getD k 0

/-- The terminal that a rule shows, the nonterminal to which it leads. -/
def shL : List Int → Option Nat
  | [] => none
  | [x] => if 0 ≤ x then some x.toNat else none
  | x :: y :: _ => if 0 ≤ x then some x.toNat else if 0 ≤ y then some y.toNat else none
def ldL : List Int → Option Nat
  | [] => none
  | x :: _ => if x < 0 then some (-1 - x).toNat else none
def shO (b : Bool) (r : R) : Option Nat := shL (vw b r.right)
def ldO (b : Bool) (r : R) : Option Nat := ldL (vw b r.right)

/-- A terminal in a nonterminal's set. -/
inductive Lft (b : Bool) (rs : List R) : Nat → Nat → Prop
  | shows {r : R} {t : Nat} (hr : r ∈ rs) (h : shO b r = some t) : Lft b rs r.left.toNat t
  | leads {r : R} {m t : Nat} (hr : r ∈ rs) (h : ldO b r = some m) (k : Lft b rs m t) : Lft b rs r.left.toNat t

/-- What a set is widened to by a rule. -/
def widS (b : Bool) (V : Nat → Nat) (r : R) : Nat :=
  match shO b r with
  | some t => V r.left.toNat ||| 2 ^ t
  | none => V r.left.toNat
def wid (b : Bool) (V : Nat → Nat) (r : R) : Nat :=
  match ldO b r with
  | some m => widS b V r ||| V m
  | none => widS b V r

def InvE (b : Bool) (g : G) (V : Nat → Nat) : Prop := ∀ i, i < g.ns.length → V i < 2 ^ g.ts.length ∧ ∀ t, (V i).testBit t = true → Lft b g.rs i t
def ShutE (b : Bool) (V : Nat → Nat) (r : R) : Prop := wid b V r = V r.left.toNat
def IsEnds (b : Bool) (g : G) (V : Nat → Nat) : Prop := ∀ i, i < g.ns.length → V i < 2 ^ g.ts.length ∧ ∀ t, (V i).testBit t = true ↔ Lft b g.rs i t

/-- A way: rules, and the nonterminal to which the last one leads. -/
structure Wy where
  rules : List Int
  to : Nat
structure St where
  nx : List Wy
  S : Nat → Bool

def hitR (b : Bool) (t : Nat) (l : List Int) (m : Nat) : Nat → List R → Option (List Int)
  | _, [] => none
  | k, r :: rest => if r.left = (m : Int) ∧ shO b r = some t then some (l ++ [(k : Int)]) else hitR b t l m (k + 1) rest
def hitW (b : Bool) (t : Nat) (rs : List R) : List Wy → Option (List Int)
  | [] => none
  | y :: ys => match hitR b t y.rules y.to 0 rs with
    | some c => some c
    | none => hitW b t rs ys
def one (b : Bool) (l : List Int) (m k : Nat) (r : R) (s : St) : St :=
  if r.left = (m : Int) then
    match ldO b r with
    | some to => if s.S to = true then s else ⟨s.nx ++ [⟨l ++ [(k : Int)], to⟩], updB s.S to⟩
    | none => s
  else s
def goR (b : Bool) (l : List Int) (m : Nat) : Nat → List R → St → St
  | _, [], s => s
  | k, r :: rest, s => goR b l m (k + 1) rest (one b l m k r s)
def goW (b : Bool) (rs : List R) : List Wy → St → St
  | [], s => s
  | y :: ys, s => goW b rs ys (goR b y.rules y.to 0 rs s)

/-- What is found, ring by ring. -/
inductive Search (b : Bool) (t : Nat) (rs : List R) : List Wy → (Nat → Bool) → Option (List Int) → Prop
  | none (S : Nat → Bool) : Search b t rs [] S none
  | hit {ring : List Wy} {S : Nat → Bool} {c : List Int} (h : hitW b t rs ring = some c) : Search b t rs ring S (some c)
  | step {ring : List Wy} {S : Nat → Bool} {o : Option (List Int)} (hne : ring ≠ []) (h : hitW b t rs ring = none) (k : Search b t rs (goW b rs ring ⟨[], S⟩).nx (goW b rs ring ⟨[], S⟩).S o) : Search b t rs ring S o

/-- What was found for a nonterminal and a terminal. -/
def startW (n : Nat) : List Wy := [⟨[], n⟩]
def startS (n : Nat) : Nat → Bool := updB (fun _ => false) n
def FoundE (b : Bool) (rs : List R) (n t : Nat) (o : Option (List Int)) : Prop := Search b t rs (startW n) (startS n) o
/-- How many numbers below n are marked. -/
def cnt (n : Nat) (S : Nat → Bool) : Nat := ((List.range n).filter S).length
/-- What is known while sets are widened by the first k rules. -/
structure Wd (b : Bool) (g : G) (V : Nat → Nat) (k : Nat) (q : Bool) (U : Nat → Nat) : Prop where
  inv : InvE b g U
  up : q = true → sumV V g.ns.length < sumV U g.ns.length
  le : sumV V g.ns.length ≤ sumV U g.ns.length
  shut : q = false → ∀ j r, j < k → g.rs[j]? = some r → ShutE b U r

end Go.Proofs.YtjblkgephboajaaGreatDoor.EndsMath

namespace Go.Proofs.YtjblkgephboajaaGreatDoor.SetsMath

/-- 2^64, behind a name. -/
def top : Int := 18446744073709551616
def IsSet (s : Int) : Prop := 0 ≤ s ∧ s < top

def oneN (k : Int) : Nat := if 0 ≤ k ∧ k < 64 then 2 ^ k.toNat else 0
def oneI (k : Int) : Int := (oneN k : Int)
def hasB (s k : Int) : Bool := decide (0 ≤ k) && decide (k < 64) && s.toNat.testBit k.toNat
def withI (s k : Int) : Int := ((s.toNat ||| oneN k : Nat) : Int)
def withoutI (s k : Int) : Int := ((s.toNat &&& (18446744073709551615 - oneN k) : Nat) : Int)
def fullI (n : Int) : Int := if n < 1 then 0 else if 64 ≤ n then 18446744073709551615 else ((2 ^ n.toNat - 1 : Nat) : Int)
def ofI (l : List Int) : Int := l.foldl withI 0

end Go.Proofs.YtjblkgephboajaaGreatDoor.SetsMath

namespace Go.Proofs.YtjblkgephboajaaGreatDoor.SetsMath

def numsN (x k : Nat) : List Nat := (List.range k).filter (fun i => x.testBit i)
def numsI (s : Int) (k : Nat) : List Int := (numsN s.toNat k).map (fun (n : Nat) => (n : Int))
def orI (s t : Int) : Int := ((s.toNat ||| t.toNat : Nat) : Int)
def meetI (s t : Int) : Int := ((s.toNat &&& t.toNat : Nat) : Int)
def minusI (s t : Int) : Int := ((s.toNat &&& (18446744073709551615 - t.toNat) : Nat) : Int)
def maskI (x : Int) (k : Nat) : Int := ((x.toNat % 2 ^ k : Nat) : Int)
def lowI (s : Int) : Int := (Lib.ctz 64 s.toNat : Nat)

/-- The union of a list of sets. -/
def allI (l : List Int) : Int := l.foldl orI 0

end Go.Proofs.YtjblkgephboajaaGreatDoor.SetsMath

namespace Go.Proofs.YtjblkgephboajaaGreatDoor.SetsMath

theorem range_add (a b : Nat) : List.range (a + b) = List.range a ++ (List.range b).map (a + ·) := by
  induction b with
  | zero => simp
  | succ b ih => rw [← Nat.add_assoc, List.range_succ, ih, List.range_succ]; simp

theorem numsN_add (x a b : Nat) : numsN x (a + b) = numsN x a ++ (numsN (x / 2 ^ a) b).map (a + ·) := by
  unfold numsN
  rw [range_add, List.filter_append, List.filter_map]
  congr 2
  apply List.filter_congr
  intro i _
  show x.testBit (a + i) = (x / 2 ^ a).testBit i
  rw [Nat.testBit_div_two_pow, Nat.add_comm]

theorem numsN_mod (x a : Nat) : numsN (x % 2 ^ a) a = numsN x a := by
  unfold numsN
  apply List.filter_congr
  intro i hi
  have := List.mem_range.1 hi
  rw [Nat.testBit_mod_two_pow]
  simp [this]

def cnt (x k : Nat) : Nat := (numsN x k).length

theorem cnt_byte (x k : Nat) : cnt x (8 + k) = cnt (x % 256) 8 + cnt (x / 256) k := by
  unfold cnt
  rw [numsN_add, List.length_append, List.length_map]
  have := numsN_mod x 8
  simp only [Nat.reducePow] at this ⊢
  rw [this]

/-- Bytes, the lowest first, as one number. -/
def val : List Nat → Nat
  | [] => 0
  | c :: r => c + 256 * val r

theorem cnt_val : ∀ (cs : List Nat), (∀ c ∈ cs, c < 256) → cnt (val cs) (8 * cs.length) = (cs.map (fun c => cnt c 8)).sum
  | [], _ => by simp [cnt, numsN, val]
  | c :: r, h => by
    have hc : c < 256 := h c List.mem_cons_self
    have ih := cnt_val r (fun y hy => h y (List.mem_cons_of_mem _ hy))
    have e : 8 * (c :: r).length = 8 + 8 * r.length := by simp; omega
    have e1 : val (c :: r) % 256 = c := by simp only [val]; omega
    have e2 : val (c :: r) / 256 = val r := by simp only [val]; omega
    rw [e, cnt_byte, e1, e2, ih]
    simp

theorem and_split (a b : Nat) : a &&& b = (a % 256 &&& b % 256) + 256 * (a / 256 &&& b / 256) := by
  have h1 : (a &&& b) % 2 ^ 8 = a % 2 ^ 8 &&& b % 2 ^ 8 := Nat.and_mod_two_pow
  have h2 : (a &&& b) / 2 ^ 8 = a / 2 ^ 8 &&& b / 2 ^ 8 := Nat.and_div_two_pow
  simp only [Nat.reducePow] at h1 h2
  rw [← h1, ← h2]
  omega

def g1 (c : Nat) : Nat := (c / 2 &&& 85) + (c &&& 85)
def g2 (c : Nat) : Nat := (c / 4 &&& 51) + (c &&& 51)
def g3 (c : Nat) : Nat := (c / 16 + c) % 16

theorem tab1 : ∀ c, c < 256 → ∀ b, b < 2 → (c / 2 + 128 * b) &&& 85 = c / 2 &&& 85 := by decide +kernel
theorem tab2 : ∀ c, c < 256 → ∀ b, b < 4 → (c / 4 + 64 * b) &&& 51 = c / 4 &&& 51 := by decide +kernel
theorem tab3 : ∀ c, c < 256 → g1 c < 256 ∧ g2 (g1 c) / 16 ≤ 4 ∧ g2 (g1 c) % 16 ≤ 4 ∧ g2 (g1 c) < 256 ∧ g3 (g2 (g1 c)) = cnt c 8 ∧ cnt c 8 ≤ 8 := by decide +kernel

def m1 (n : Nat) : Nat := val (List.replicate n 85)
def m2 (n : Nat) : Nat := val (List.replicate n 51)
def m3 (n : Nat) : Nat := val (List.replicate n 15)

theorem stage1 : ∀ (cs : List Nat), (∀ c ∈ cs, c < 256) → (val cs / 2 &&& m1 cs.length) + (val cs &&& m1 cs.length) = val (cs.map g1)
  | [], _ => by simp [val]
  | c :: r, h => by
    have hc : c < 256 := h c List.mem_cons_self
    have ih := stage1 r (fun y hy => h y (List.mem_cons_of_mem _ hy))
    have em : m1 (c :: r).length = 85 + 256 * m1 r.length := by simp [m1, val, List.replicate_succ]
    have ev : val (c :: r) = c + 256 * val r := rfl
    rw [em, ev, and_split ((c + 256 * val r) / 2), and_split (c + 256 * val r)]
    have e1 : (c + 256 * val r) / 2 % 256 = c / 2 + 128 * (val r % 2) := by omega
    have e2 : (c + 256 * val r) / 2 / 256 = val r / 2 := by omega
    have e3 : (85 + 256 * m1 r.length) % 256 = 85 := by omega
    have e4 : (85 + 256 * m1 r.length) / 256 = m1 r.length := by omega
    have e5 : (c + 256 * val r) % 256 = c := by omega
    have e6 : (c + 256 * val r) / 256 = val r := by omega
    rw [e1, e2, e3, e4, e5, e6, tab1 c hc _ (Nat.mod_lt _ (by omega))]
    show _ = g1 c + 256 * val (r.map g1)
    rw [← ih]
    unfold g1
    omega

theorem stage2 : ∀ (cs : List Nat), (∀ c ∈ cs, c < 256) → (val cs / 4 &&& m2 cs.length) + (val cs &&& m2 cs.length) = val (cs.map g2)
  | [], _ => by simp [val]
  | c :: r, h => by
    have hc : c < 256 := h c List.mem_cons_self
    have ih := stage2 r (fun y hy => h y (List.mem_cons_of_mem _ hy))
    have em : m2 (c :: r).length = 51 + 256 * m2 r.length := by simp [m2, val, List.replicate_succ]
    have ev : val (c :: r) = c + 256 * val r := rfl
    rw [em, ev, and_split ((c + 256 * val r) / 4), and_split (c + 256 * val r)]
    have e1 : (c + 256 * val r) / 4 % 256 = c / 4 + 64 * (val r % 4) := by omega
    have e2 : (c + 256 * val r) / 4 / 256 = val r / 4 := by omega
    have e3 : (51 + 256 * m2 r.length) % 256 = 51 := by omega
    have e4 : (51 + 256 * m2 r.length) / 256 = m2 r.length := by omega
    have e5 : (c + 256 * val r) % 256 = c := by omega
    have e6 : (c + 256 * val r) / 256 = val r := by omega
    rw [e1, e2, e3, e4, e5, e6, tab2 c hc _ (Nat.mod_lt _ (by omega))]
    show _ = g2 c + 256 * val (r.map g2)
    rw [← ih]
    unfold g2
    omega

theorem val_low : ∀ (cs : List Nat), (∀ c ∈ cs, c % 16 ≤ 4) → val cs % 16 ≤ 4
  | [], _ => by simp [val]
  | c :: r, h => by
    have := h c List.mem_cons_self
    simp only [val]
    omega

theorem stage3 : ∀ (cs : List Nat), (∀ c ∈ cs, c < 256 ∧ c / 16 ≤ 4 ∧ c % 16 ≤ 4) → (val cs / 16 + val cs) &&& m3 cs.length = val (cs.map g3)
  | [], _ => by simp [val, m3]
  | c :: r, h => by
    have hc := h c List.mem_cons_self
    have hr : ∀ y ∈ r, y < 256 ∧ y / 16 ≤ 4 ∧ y % 16 ≤ 4 := fun y hy => h y (List.mem_cons_of_mem _ hy)
    have ih := stage3 r hr
    have hv := val_low r (fun y hy => (hr y hy).2.2)
    have em : m3 (c :: r).length = 15 + 256 * m3 r.length := by simp [m3, val, List.replicate_succ]
    have ev : val (c :: r) = c + 256 * val r := rfl
    rw [em, ev, and_split]
    have e1 : ((c + 256 * val r) / 16 + (c + 256 * val r)) % 256 = c / 16 + c + 16 * (val r % 16) := by omega
    have e2 : ((c + 256 * val r) / 16 + (c + 256 * val r)) / 256 = val r / 16 + val r := by omega
    have e3 : (15 + 256 * m3 r.length) % 256 = 15 := by omega
    have e4 : (15 + 256 * m3 r.length) / 256 = m3 r.length := by omega
    have e5 : (c / 16 + c + 16 * (val r % 16)) &&& 15 = g3 c := by
      rw [nat_mask4]
      unfold g3
      omega
    rw [e1, e2, e3, e4, e5, ih]
    rfl

theorem val_lt : ∀ (cs : List Nat) (B : Nat), (∀ c ∈ cs, c ≤ B) → 255 * val cs + B ≤ B * 256 ^ cs.length
  | [], B, _ => by simp [val]
  | c :: r, B, h => by
    have hc := h c List.mem_cons_self
    have ih := val_lt r B (fun y hy => h y (List.mem_cons_of_mem _ hy))
    have e : B * 256 ^ (c :: r).length = 256 * (B * 256 ^ r.length) := by
      rw [List.length_cons, Nat.pow_succ, ← Nat.mul_assoc, Nat.mul_comm]
    rw [e]
    simp only [val]
    omega

theorem bytes_of (x : Nat) (hx : x < 18446744073709551616) : ∃ c0 c1 c2 c3 c4 c5 c6 c7, x = val [c0, c1, c2, c3, c4, c5, c6, c7] ∧ ∀ c ∈ [c0, c1, c2, c3, c4, c5, c6, c7], c < 256 := by
  refine ⟨x % 256, x / 256 % 256, x / 65536 % 256, x / 16777216 % 256, x / 4294967296 % 256, x / 1099511627776 % 256, x / 281474976710656 % 256, x / 72057594037927936, ?_, ?_⟩
  · simp only [val]; omega
  · intro c hc
    simp only [List.mem_cons, List.not_mem_nil, or_false] at hc
    rcases hc with h | h | h | h | h | h | h | h <;> omega

theorem mask1 : m1 8 = 6148914691236517205 := by decide
theorem mask2 : m2 8 = 3689348814741910323 := by decide
theorem mask3 : m3 8 = 1085102592571150095 := by decide

set_option maxHeartbeats 2000000 in
/-- The library's sum of bits. -/
theorem ones (x : Nat) (hx : x < 18446744073709551616) :
    let a := (x / 2 &&& 6148914691236517205) + (x &&& 6148914691236517205)
    let b := (a / 4 &&& 3689348814741910323) + (a &&& 3689348814741910323)
    let c := (b / 16 + b) &&& 1085102592571150095
    let d := c + c / 256
    let e := d + d / 65536
    let f := e + e / 4294967296
    f % 128 = cnt x 64 ∧ a < 18446744073709551616 ∧ b < 18446744073709551616 ∧ b / 16 + b < 18446744073709551616 ∧ d < 18446744073709551616 ∧ e < 18446744073709551616 ∧ f < 9223372036854775808 := by
  obtain ⟨c0, c1, c2, c3, c4, c5, c6, c7, rfl, hc⟩ := bytes_of x hx
  generalize hcs : [c0, c1, c2, c3, c4, c5, c6, c7] = cs at hc
  have hlen : cs.length = 8 := by rw [← hcs]; rfl
  have s1 := stage1 cs hc
  have hg1 : ∀ c ∈ cs.map g1, c < 256 := by
    intro c h
    obtain ⟨y, hy, rfl⟩ := List.mem_map.1 h
    exact (tab3 y (hc y hy)).1
  have s2 := stage2 (cs.map g1) hg1
  have hg2 : ∀ c ∈ (cs.map g1).map g2, c < 256 ∧ c / 16 ≤ 4 ∧ c % 16 ≤ 4 := by
    intro c h
    obtain ⟨y, hy, rfl⟩ := List.mem_map.1 h
    obtain ⟨z, hz, rfl⟩ := List.mem_map.1 hy
    have := tab3 z (hc z hz)
    exact ⟨this.2.2.2.1, this.2.1, this.2.2.1⟩
  have s3 := stage3 ((cs.map g1).map g2) hg2
  have v1 := val_lt (cs.map g1) 255 (fun c h => by have := hg1 c h; omega)
  have v2 := val_lt ((cs.map g1).map g2) 68 (fun c h => by have := hg2 c h; omega)
  simp only [List.length_map, hlen, Nat.reducePow, Nat.reduceMul] at v1 v2
  have hcnt := cnt_val cs hc
  simp only [List.length_map, hlen, mask1, mask2, mask3] at s1 s2 s3 hcnt
  intro a b c d e f
  have ea : a = val (cs.map g1) := s1
  have eb : b = val ((cs.map g1).map g2) := by show (a / 4 &&& _) + (a &&& _) = _; rw [ea]; exact s2
  rw [← ea] at v1
  rw [← eb] at v2
  have ec : c = val (((cs.map g1).map g2).map g3) := by show (b / 16 + b) &&& _ = _; rw [eb]; exact s3
  subst hcs
  have t0 := tab3 c0 (hc _ (by simp)); have t1 := tab3 c1 (hc _ (by simp)); have t2 := tab3 c2 (hc _ (by simp)); have t3 := tab3 c3 (hc _ (by simp))
  have t4 := tab3 c4 (hc _ (by simp)); have t5 := tab3 c5 (hc _ (by simp)); have t6 := tab3 c6 (hc _ (by simp)); have t7 := tab3 c7 (hc _ (by simp))
  simp only [List.map_cons, List.map_nil, val] at ea eb ec
  simp only [List.map_cons, List.map_nil, List.sum_cons, List.sum_nil] at hcnt
  rw [t0.2.2.2.2.1, t1.2.2.2.2.1, t2.2.2.2.2.1, t3.2.2.2.2.1, t4.2.2.2.2.1, t5.2.2.2.2.1, t6.2.2.2.2.1, t7.2.2.2.2.1] at ec
  have ed : d = c + c / 256 := rfl
  have ee : e = d + d / 65536 := rfl
  have ef : f = e + e / 4294967296 := rfl
  have hcnt' : cnt (val [c0, c1, c2, c3, c4, c5, c6, c7]) 64 = _ := hcnt
  rw [hcnt']
  clear_value a b c d e f
  generalize cnt c0 8 = p0 at *; generalize cnt c1 8 = p1 at *; generalize cnt c2 8 = p2 at *; generalize cnt c3 8 = p3 at *
  generalize cnt c4 8 = p4 at *; generalize cnt c5 8 = p5 at *; generalize cnt c6 8 = p6 at *; generalize cnt c7 8 = p7 at *
  have q0 : c / 256 = p1 + 256 * (p2 + 256 * (p3 + 256 * (p4 + 256 * (p5 + 256 * (p6 + 256 * p7))))) := by omega
  have q1 : d = (p0 + p1) + 256 * ((p1 + p2) + 256 * ((p2 + p3) + 256 * ((p3 + p4) + 256 * ((p4 + p5) + 256 * ((p5 + p6) + 256 * ((p6 + p7) + 256 * p7)))))) := by omega
  have q2 : d / 65536 = (p2 + p3) + 256 * ((p3 + p4) + 256 * ((p4 + p5) + 256 * ((p5 + p6) + 256 * ((p6 + p7) + 256 * p7)))) := by
    clear ea eb ec ed ee ef q0; omega
  have q3 : e = (p0 + p1 + p2 + p3) + 256 * ((p1 + p2 + p3 + p4) + 256 * ((p2 + p3 + p4 + p5) + 256 * ((p3 + p4 + p5 + p6) + 256 * ((p4 + p5 + p6 + p7) + 256 * ((p5 + p6 + p7) + 256 * ((p6 + p7) + 256 * p7)))))) := by
    rw [ee, q2, q1]; clear ea eb ec ed ee ef q0 q1 q2; omega
  have q4 : e / 4294967296 = (p4 + p5 + p6 + p7) + 256 * ((p5 + p6 + p7) + 256 * ((p6 + p7) + 256 * p7)) := by
    clear ea eb ec ed ee ef q0 q1 q2; omega
  have q5 : f = (p0 + p1 + p2 + p3 + p4 + p5 + p6 + p7) + 256 * ((p1 + p2 + p3 + p4 + p5 + p6 + p7) + 256 * ((p2 + p3 + p4 + p5 + p6 + p7) + 256 * ((p3 + p4 + p5 + p6 + p7) + 256 * ((p4 + p5 + p6 + p7) + 256 * ((p5 + p6 + p7) + 256 * ((p6 + p7) + 256 * p7)))))) := by
    rw [ef, q4, q3]; clear ea eb ec ed ee ef q0 q1 q2 q3 q4; omega
  refine ⟨?_, ?_, ?_, ?_, ?_, ?_, ?_⟩
  · clear ea eb ec ed ee ef q0 q1 q2 q3 q4 s1 s2 s3; omega
  · clear ea eb ec ed ee ef q0 q1 q2 q3 q4 q5 s1 s2 s3 t0 t1 t2 t3 t4 t5 t6 t7; omega
  · clear ea eb ec ed ee ef q0 q1 q2 q3 q4 q5 s1 s2 s3 t0 t1 t2 t3 t4 t5 t6 t7; omega
  · clear ea eb ec ed ee ef q0 q1 q2 q3 q4 q5 s1 s2 s3 t0 t1 t2 t3 t4 t5 t6 t7; omega
  · clear ea eb ec ed ee ef q0 q2 q3 q4 q5 s1 s2 s3; omega
  · clear ea eb ec ed ee ef q0 q1 q2 q4 q5 s1 s2 s3; omega
  · clear ea eb ec ed ee ef q0 q1 q2 q3 q4 s1 s2 s3; omega

end Go.Proofs.YtjblkgephboajaaGreatDoor.SetsMath

namespace Go.Proofs.YtjblkgephboajaaGreatDoor.UsefulMath
open GramMath SetsMath

/-- A nonterminal that derives some row of tokens. -/
inductive Prod (rs : List R) : Int → Prop
  | mk (r : R) (hr : r ∈ rs) (h : ∀ x ∈ r.right, x < 0 → Prod rs (-1 - x)) : Prod rs r.left

/-- A nonterminal that rules lead to. -/
inductive Reach (rs : List R) (F : Int → Prop) : Int → Prop
  | base {k : Int} (h : F k) : Reach rs F k
  | step (r : R) (hr : r ∈ rs) (h : Reach rs F r.left) (x : Int) (hx : x ∈ r.right) (h0 : x < 0) : Reach rs F (-1 - x)

/-- Rules that keep to n nonterminals and t terminals. -/
def OkRs (t n : Nat) (rs : List R) : Prop := n ≤ 60 ∧ ∀ r ∈ rs, ruleK t n r = 0

/-- The nonterminals of a right side. -/
def ntI (r : R) : Int := ofI (r.right.map (fun x => -1 - x))

/-- Are all nonterminals of a rule's right side in a set? -/
def nin (s : Int) (r : R) : Bool := minusI (ntI r) s == 0

/-- What a rule adds to the productive ones, and to the reached ones. -/
def addP (s : Int) (r : R) : Int := if nin s r = true then ofI [r.left] else 0
def addR (s : Int) (r : R) : Int := if hasB s r.left = true then ntI r else 0

/-- What a set grows to. -/
structure Grown (f : Int → R → Int) (rs : List R) (s0 S : Int) : Prop where
  isSet : IsSet S
  closed : ∀ r ∈ rs, orI S (f S r) = S
  least : ∀ P : Int → Prop, P s0 → (∀ s, ∀ r ∈ rs, IsSet s → P s → P (orI s (f s r))) → P S

open Classical in
/-- The set of the numbers below 64 that are so. -/
noncomputable def setI (P : Int → Prop) : Int := ofI (((List.range 64).map (fun n : Nat => (n : Int))).filter (fun k => decide (P k)))

/-- The sets of a grammar. -/
noncomputable def prodI (g : G) : Int := setI (Prod g.rs)
noncomputable def reachI (g : G) : Int := setI (Reach g.rs (fun k => k = g.ax))
/-- Has a rule no nonterminals, left or right, but those of a set? -/
def rin (s : Int) (r : R) : Bool := minusI (withI (ntI r) r.left) s == 0
noncomputable def usefulI (g : G) : Int := setI (fun k => Prod g.rs k ∧ Reach (g.rs.filter (nin (prodI g))) (fun k => k = g.ax) k)

end Go.Proofs.YtjblkgephboajaaGreatDoor.UsefulMath

namespace Go.Proofs.YtjblkgephboajaaGreatDoor.MatrixMath
open GramMath EndsMath SetsMath UsefulMath
set_option linter.unusedVariables false

/-- Where a relation is found. -/
structure Pl where
  rule : Int
  at_ : Int
  non : Int
/-- A relation that was found. -/
structure Fnd where
  rel : Int
  a : Int
  b : Int
  p : Pl

def yieldF (s t : Int) (p : Pl) : List Fnd := (numsI s 64).map (fun b => ⟨1, t, b, p⟩)
def takeF (s t : Int) (p : Pl) : List Fnd := (numsI s 64).map (fun a => ⟨3, a, t, p⟩)

def ntAt (l : List Int) (k : Nat) : Int := -1 - l.getD k 0
/-- The nonterminal ahead of a place. -/
def aheadF (VR : Nat → Nat) (n : Int) (l : List Int) (k : Nat) : List Fnd :=
  if 0 < k ∧ l.getD (k - 1) 0 < 0 then takeF (VR (ntAt l (k - 1)).toNat) (l.getD k 0) ⟨n, k, ntAt l (k - 1)⟩ else []
def behB (l : List Int) (k : Nat) : Prop := k + 1 < l.length ∧ l.getD (k + 1) 0 < 0
instance (l : List Int) (k : Nat) : Decidable (behB l k) := by unfold behB; exact inferInstance
def behF (VL : Nat → Nat) (n : Int) (l : List Int) (k : Nat) : List Fnd :=
  if behB l k then yieldF (VL (ntAt l (k + 1)).toNat) (l.getD k 0) ⟨n, k, ntAt l (k + 1)⟩ else []
def eqK (l : List Int) (k : Nat) : Nat := if behB l k then k + 2 else k + 1
def eqF (n : Int) (l : List Int) (k : Nat) : List Fnd :=
  if eqK l k < l.length ∧ 0 ≤ l.getD (eqK l k) 0 then [⟨2, l.getD k 0, l.getD (eqK l k) 0, ⟨n, k, 0⟩⟩] else []
def aroundF (VL VR : Nat → Nat) (n : Int) (l : List Int) (k : Nat) : List Fnd := aheadF VR n l k ++ behF VL n l k ++ eqF n l k
def atF (VL VR : Nat → Nat) (n : Int) (l : List Int) (k : Nat) : List Fnd := if 0 ≤ l.getD k 0 then aroundF VL VR n l k else []
def sideF (VL VR : Nat → Nat) (n : Int) (l : List Int) : Nat → List Fnd
  | 0 => []
  | k + 1 => sideF VL VR n l k ++ atF VL VR n l k
def rightOf (rs : List R) (i : Nat) : List Int := (rs.getD i ⟨0, []⟩).right
def rulesF (VL VR : Nat → Nat) (rs : List R) : Nat → List Fnd
  | 0 => []
  | i + 1 => rulesF VL VR rs i ++ sideF VL VR i (rightOf rs i) (rightOf rs i).length
def endF (VL VR : Nat → Nat) (t : Nat) (ax : Int) : List Fnd := yieldF (VL ax.toNat) t ⟨-1, 0, ax⟩ ++ takeF (VR ax.toNat) t ⟨-1, 0, ax⟩
def findsF (VL VR : Nat → Nat) (g : G) : List Fnd := endF VL VR g.ts.length g.ax ++ rulesF VL VR g.rs g.rs.length

/-- What is found keeps to the terminals and the end. -/
structure OkFnd (t : Nat) (f : Fnd) : Prop where
  rel : 1 ≤ f.rel ∧ f.rel ≤ 3
  a : 0 ≤ f.a ∧ f.a ≤ t
  b : 0 ≤ f.b ∧ f.b ≤ t

/-- A relation by a rule's right side, at a place. -/
inductive RelAt (g : G) (l : List Int) (k : Nat) : Int → Int → Int → Prop
  | yields {n : Nat} {b : Int} (h0 : 0 ≤ l.getD k 0) (hk : k + 1 < l.length) (hn : l.getD (k + 1) 0 = -1 - (n : Int)) (hb0 : 0 ≤ b) (hb : Lft false g.rs n b.toNat) : RelAt g l k 1 (l.getD k 0) b
  | equal {b : Int} (h0 : 0 ≤ l.getD k 0) (hk : eqK l k < l.length) (hb0 : 0 ≤ l.getD (eqK l k) 0) (hb : b = l.getD (eqK l k) 0) : RelAt g l k 2 (l.getD k 0) b
  | takes {n : Nat} {a : Int} (h0 : 0 ≤ l.getD k 0) (hk : 0 < k) (hn : l.getD (k - 1) 0 = -1 - (n : Int)) (ha0 : 0 ≤ a) (ha : Lft true g.rs n a.toNat) : RelAt g l k 3 a (l.getD k 0)

/-- A relation that holds of two terminals, the end counted. -/
inductive Rel (g : G) : Int → Int → Int → Prop
  | rule {i k : Nat} {x a b : Int} (hi : i < g.rs.length) (hk : k < (rightOf g.rs i).length) (h : RelAt g (rightOf g.rs i) k x a b) : Rel g x a b
  | first {b : Int} (hb0 : 0 ≤ b) (hb : Lft false g.rs g.ax.toNat b.toNat) : Rel g 1 g.ts.length b
  | last {a : Int} (ha0 : 0 ≤ a) (ha : Lft true g.rs g.ax.toNat a.toNat) : Rel g 3 a g.ts.length

end Go.Proofs.YtjblkgephboajaaGreatDoor.MatrixMath
