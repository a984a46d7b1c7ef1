/-
  The plain notions: names, grammars, sets, ends, relations. No part of the program.
-/
import Derived.WalkKit
import Derived.Laws.BitsAllLaws
import Derived.Lib.TrailingZeros
namespace Go.Proofs.YtcmjneabcdpmoaaDoor.GramMath

def eqB (a b : ByteArray) : Bool := a.data.toList == b.data.toList

theorem eqB_iff (a b : ByteArray) : eqB a b = true ↔ a = b := by
  unfold eqB
  rw [beq_iff_eq]
  constructor
  · intro e
    cases a
    cases b
    congr 1
    exact Array.toList_inj.1 e
  · rintro rfl
    rfl

def memB (s : ByteArray) (ss : List ByteArray) : Bool := ss.any (fun x => eqB x s)

theorem memB_iff (s : ByteArray) (ss : List ByteArray) : memB s ss = true ↔ s ∈ ss := by
  unfold memB
  rw [List.any_eq_true]
  constructor
  · rintro ⟨x, hx, he⟩
    rw [eqB_iff] at he
    exact he ▸ hx
  · intro h
    exact ⟨s, h, (eqB_iff _ _).2 rfl⟩

structure R where
  left : Int
  right : List Int

structure G where
  ts : List ByteArray
  ns : List ByteArray
  ax : Int
  rs : List R

/-- A number of 64 bits with a sign. -/
def I64 (x : Int) : Prop := -9223372036854775808 ≤ x ∧ x < 9223372036854775808

def okR (r : R) : Prop := I64 r.left ∧ (∀ x ∈ r.right, I64 x) ∧ r.right.length ≤ 1125899906842624

/-- The sizes of what a machine holds. -/
def okG (g : G) : Prop := g.ts.length ≤ 1125899906842624 ∧ g.ns.length ≤ 1125899906842624 ∧ g.rs.length ≤ 1125899906842624 ∧ I64 g.ax ∧ (∀ r ∈ g.rs, okR r) ∧ (∀ s ∈ g.ts, s.size ≤ 281474976710656) ∧ ∀ s ∈ g.ns, s.size ≤ 281474976710656

def nameAt (ss : List ByteArray) (i : Nat) : Bool :=
  match ss[i]? with
  | none => true
  | some x => decide (0 < x.size) && decide (x.size ≤ 32) && !memB x (ss.take i)

def namedTo (ss : List ByteArray) (k : Nat) : Bool := (List.range k).all (nameAt ss)
def named (ss : List ByteArray) : Bool := namedTo ss ss.length

theorem namedTo_zero (ss : List ByteArray) : namedTo ss 0 = true := rfl
theorem namedTo_succ (ss : List ByteArray) (k : Nat) : namedTo ss (k + 1) = (namedTo ss k && nameAt ss k) := by
  simp [namedTo, List.range_succ, List.all_append]
theorem namedTo_at {ss : List ByteArray} {k i : Nat} (h : namedTo ss k = true) (hi : i < k) : nameAt ss i = true := by
  unfold namedTo at h
  rw [List.all_eq_true] at h
  exact h i (List.mem_range.2 hi)
theorem named_false {ss : List ByteArray} {k : Nat} (hk : k < ss.length) (h : nameAt ss k = false) : named ss = false := by
  cases hn : named ss with
  | false => rfl
  | true => rw [namedTo_at hn hk] at h; cases h

def symB (t n : Nat) (s : Int) : Bool := decide (-(n : Int) ≤ s) && decide (s < (t : Int))

def leftB (n : Nat) (x : Int) : Bool := decide (0 ≤ x) && decide (x < (n : Int))

/-- What is wrong with a rule: 0 nothing. -/
def ruleK (t n : Nat) (r : R) : Nat :=
  if 32 < r.right.length then 3 else if leftB n r.left = false then 1 else if r.right.all (symB t n) = true then 0 else 1

/-- What is wrong first with rules, and in which. -/
def rulesK (t n : Nat) : List R → Nat → Nat × Option Nat
  | [], _ => (0, none)
  | r :: l, i => if ruleK t n r = 0 then rulesK t n l (i + 1) else (ruleK t n r, some i)

def checkG (g : G) : Nat × Option Nat :=
  if 60 < g.ts.length + g.ns.length ∨ 120 < g.rs.length then (3, none)
  else if named g.ts = false ∨ named g.ns = false then (10, none)
  else if leftB g.ns.length g.ax = false then (1, none)
  else rulesK g.ts.length g.ns.length g.rs 0

theorem ruleK_cases (t n : Nat) (r : R) : ruleK t n r = 0 ∨ ruleK t n r = 1 ∨ ruleK t n r = 3 := by
  unfold ruleK
  split
  · simp
  · split
    · simp
    · split <;> simp

theorem rulesK_drop {t n : Nat} {rs : List R} {k : Nat} {r : R} (h : rs[k]? = some r) : rulesK t n (rs.drop k) k = if ruleK t n r = 0 then rulesK t n (rs.drop (k + 1)) (k + 1) else (ruleK t n r, some k) := by
  obtain ⟨hk, he⟩ := List.getElem?_eq_some_iff.1 h
  rw [List.drop_eq_getElem_cons hk, he]
  rfl

theorem rulesK_end {t n : Nat} {rs : List R} {k : Nat} (h : rs.length ≤ k) (i : Nat) : rulesK t n (rs.drop k) i = (0, none) := by
  rw [List.drop_of_length_le h]
  rfl

theorem rulesK_ok {t n : Nat} : ∀ {rs : List R} {i : Nat}, (rulesK t n rs i).1 = 0 → ∀ r ∈ rs, ruleK t n r = 0
  | [], _, _, r, h => by cases h
  | x :: l, i, h, r, hr => by
    unfold rulesK at h
    by_cases hx : ruleK t n x = 0
    · rw [if_pos hx] at h
      rcases List.mem_cons.1 hr with rfl | hr
      · exact hx
      · exact rulesK_ok h r hr
    · rw [if_neg hx] at h
      exact absurd h hx

theorem ruleK_ok {t n : Nat} {r : R} (h : ruleK t n r = 0) : r.right.length ≤ 32 ∧ 0 ≤ r.left ∧ r.left < n ∧ ∀ x ∈ r.right, -(n : Int) ≤ x ∧ x < (t : Int) := by
  unfold ruleK at h
  by_cases h1 : 32 < r.right.length
  · rw [if_pos h1] at h; cases h
  rw [if_neg h1] at h
  cases h2 : leftB n r.left with
  | false => rw [if_pos h2] at h; cases h
  | true =>
    rw [if_neg (by rw [h2]; decide)] at h
    by_cases h3 : r.right.all (symB t n) = true
    · rw [List.all_eq_true] at h3
      simp only [leftB, Bool.and_eq_true, decide_eq_true_eq] at h2
      refine ⟨by omega, h2.1, h2.2, fun x hx => ?_⟩
      have := h3 x hx
      simpa [symB] using this
    · rw [if_neg h3] at h; cases h

/-- What a grammar that may be is like. -/
structure GoodG (g : G) : Prop where
  few : g.ts.length + g.ns.length ≤ 60
  rules : g.rs.length ≤ 120
  nt : named g.ts = true
  nn : named g.ns = true
  ax0 : 0 ≤ g.ax
  ax1 : g.ax < g.ns.length
  each : ∀ r ∈ g.rs, ruleK g.ts.length g.ns.length r = 0

theorem good_of {g : G} (h : (checkG g).1 = 0) : GoodG g := by
  unfold checkG at h
  by_cases h1 : 60 < g.ts.length + g.ns.length ∨ 120 < g.rs.length
  · rw [if_pos h1] at h; cases h
  rw [if_neg h1] at h
  by_cases h2 : named g.ts = false ∨ named g.ns = false
  · rw [if_pos h2] at h; cases h
  rw [if_neg h2] at h
  cases h3 : leftB g.ns.length g.ax with
  | false => rw [if_pos h3] at h; cases h
  | true =>
    rw [if_neg (by rw [h3]; decide)] at h
    simp only [leftB, Bool.and_eq_true, decide_eq_true_eq] at h3
    refine ⟨by omega, by omega, ?_, ?_, h3.1, h3.2, rulesK_ok h⟩
    · cases hn : named g.ts with
      | true => rfl
      | false => exact absurd (.inl hn) h2
    · cases hn : named g.ns with
      | true => rfl
      | false => exact absurd (.inr hn) h2

theorem rulesK_none {t n : Nat} : ∀ {rs : List R} {i : Nat}, (rulesK t n rs i).1 = 0 → rulesK t n rs i = (0, none)
  | [], _, _ => rfl
  | x :: l, i, h => by
    unfold rulesK at h ⊢
    by_cases hx : ruleK t n x = 0
    · rw [if_pos hx] at h ⊢
      exact rulesK_none h
    · rw [if_neg hx] at h
      exact absurd h hx

theorem symB_or (t n : Nat) (s : Int) : symB t n s = (leftB t s || leftB n (-1 - s)) := by
  rw [Bool.eq_iff_iff]
  simp only [symB, leftB, Bool.or_eq_true, Bool.and_eq_true, decide_eq_true_eq]
  omega

theorem ruleK_long {t n : Nat} {r : R} (h : 32 < r.right.length) : ruleK t n r = 3 := by unfold ruleK; rw [if_pos h]
theorem ruleK_left {t n : Nat} {r : R} (h : ¬ 32 < r.right.length) (h2 : leftB n r.left = false) : ruleK t n r = 1 := by unfold ruleK; rw [if_neg h, if_pos h2]
theorem ruleK_sym {t n : Nat} {r : R} {k : Nat} {x : Int} (h : ¬ 32 < r.right.length) (h2 : leftB n r.left = true) (hx : r.right[k]? = some x) (hb : symB t n x = false) : ruleK t n r = 1 := by
  unfold ruleK
  rw [if_neg h, if_neg (by rw [h2]; decide), if_neg]
  intro ha
  rw [List.all_eq_true] at ha
  rw [ha x (List.mem_of_getElem? hx)] at hb
  cases hb
theorem ruleK_good {t n : Nat} {r : R} (h : ¬ 32 < r.right.length) (h2 : leftB n r.left = true) (ha : (r.right.take r.right.length).all (symB t n) = true) : ruleK t n r = 0 := by
  rw [List.take_length] at ha
  unfold ruleK
  rw [if_neg h, if_neg (by rw [h2]; decide), if_pos ha]
theorem all_take_succ {l : List Int} {f : Int → Bool} {k : Nat} {x : Int} (hx : l[k]? = some x) (h : (l.take k).all f = true) (hf : f x = true) : (l.take (k + 1)).all f = true := by
  obtain ⟨hk, he⟩ := List.getElem?_eq_some_iff.1 hx
  rw [List.take_succ_eq_append_getElem hk, List.all_append, h, he]
  simp [hf]

/-- The renaming that a rule is. -/
def renB (r : R) : Bool :=
  match r.right with
  | [x] => decide (x < 0)
  | _ => false
def renN (r : R) : Int := if renB r = true then -1 - r.right.headD 0 else 0

theorem ren_true {r : R} (h : renB r = true) : ∃ x, r.right = [x] ∧ x < 0 ∧ renN r = -1 - x := by
  unfold renN
  rw [if_pos h]
  unfold renB at h
  split at h
  · rename_i x hx
    exact ⟨x, hx, by simpa using h, by rw [hx]; rfl⟩
  · cases h

theorem ren_false {r : R} (h : renB r = false) : renN r = 0 := by
  unfold renN
  rw [h]
  rfl

end Go.Proofs.YtcmjneabcdpmoaaDoor.GramMath

namespace Go.Proofs.YtcmjneabcdpmoaaDoor.GramMath

def upd (V : Nat → Nat) (t x : Nat) : Nat → Nat := fun i => if i = t then x else V i

theorem upd_at (V : Nat → Nat) (t x : Nat) : upd V t x t = x := if_pos rfl
theorem upd_ne (V : Nat → Nat) {t i : Nat} (x : Nat) (h : i ≠ t) : upd V t x i = V i := if_neg h

def sumV (V : Nat → Nat) : Nat → Nat
  | 0 => 0
  | n + 1 => sumV V n + V n

theorem sumV_congr {V U : Nat → Nat} : ∀ {n : Nat}, (∀ i, i < n → V i = U i) → sumV V n = sumV U n
  | 0, _ => rfl
  | n + 1, h => by
    show sumV V n + V n = sumV U n + U n
    rw [sumV_congr (fun i hi => h i (by omega)), h n (by omega)]

theorem sumV_le {V U : Nat → Nat} : ∀ {n : Nat}, (∀ i, i < n → V i ≤ U i) → sumV V n ≤ sumV U n
  | 0, _ => Nat.le_refl _
  | n + 1, h => Nat.add_le_add (sumV_le fun i hi => h i (by omega)) (h n (by omega))

theorem sumV_lt {V U : Nat → Nat} : ∀ {n : Nat}, (∀ i, i < n → V i ≤ U i) → (∃ t, t < n ∧ V t < U t) → sumV V n < sumV U n
  | 0, _, ⟨t, ht, _⟩ => absurd ht (by omega)
  | n + 1, h, ⟨t, ht, hl⟩ => by
    by_cases e : t = n
    · subst e
      exact Nat.add_lt_add_of_le_of_lt (sumV_le fun i hi => h i (by omega)) hl
    · exact Nat.add_lt_add_of_lt_of_le (sumV_lt (fun i hi => h i (by omega)) ⟨t, by omega, hl⟩) (h n (by omega))

theorem sumV_bound {V : Nat → Nat} {M : Nat} : ∀ {n : Nat}, (∀ i, i < n → V i ≤ M) → sumV V n ≤ n * M
  | 0, _ => by simp [sumV]
  | n + 1, h => by
    have := sumV_bound (n := n) fun i hi => h i (by omega)
    have h2 := h n (by omega)
    show sumV V n + V n ≤ _
    rw [Nat.succ_mul]
    omega

/-- A renaming of one to the other. -/
def Ren (g : G) (a b : Nat) : Prop := ∃ r, r ∈ g.rs ∧ renB r = true ∧ r.left = (a : Int) ∧ renN r = (b : Int)

/-- One comes to the other. -/
inductive Comes (g : G) : Nat → Nat → Prop
  | refl (a : Nat) : Comes g a a
  | step {a m b : Nat} (h : Ren g a m) (k : Comes g m b) : Comes g a b

theorem Comes.trans {g : G} {a b c : Nat} (h : Comes g a b) (k : Comes g b c) : Comes g a c := by
  induction h with
  | refl _ => exact k
  | step h1 _ ih => exact .step h1 (ih k)

theorem Comes.snoc {g : G} {a b c : Nat} (h : Comes g a b) (k : Ren g b c) : Comes g a c := h.trans (.step k (.refl _))

theorem ren_lt {g : G} (hg : GoodG g) {a b : Nat} (h : Ren g a b) : a < g.ns.length ∧ b < g.ns.length := by
  obtain ⟨r, hr, hb, hl, hn⟩ := h
  obtain ⟨_, h2, h3, h4⟩ := ruleK_ok (hg.each r hr)
  obtain ⟨x, hx, hx0, hxn⟩ := ren_true hb
  have := h4 x (by rw [hx]; simp)
  omega

theorem comes_lt {g : G} (hg : GoodG g) {a b : Nat} (h : Comes g a b) (hb : b < g.ns.length) : a < g.ns.length := by
  cases h with
  | refl _ => exact hb
  | step h1 _ => exact (ren_lt hg h1).1

/-- What holds of the sets all along. -/
def Inv (g : G) (V : Nat → Nat) : Prop := ∀ i, i < g.ns.length → V i < 2 ^ g.ns.length ∧ (V i).testBit i = true ∧ ∀ k, (V i).testBit k = true → Comes g k i

/-- Nothing is new by a rule. -/
def Shut (V : Nat → Nat) (r : R) : Prop := renB r = true → V (renN r).toNat ||| V r.left.toNat = V (renN r).toNat

/-- The sets that the document asks for. -/
def IsAbove (g : G) (V : Nat → Nat) : Prop := ∀ i, i < g.ns.length → V i < 2 ^ g.ns.length ∧ ∀ k, (V i).testBit k = true ↔ Comes g k i

theorem inv_step {g : G} (hg : GoodG g) {V : Nat → Nat} (hV : Inv g V) {r : R} (hr : r ∈ g.rs) (hb : renB r = true) : Inv g (upd V (renN r).toNat (V (renN r).toNat ||| V r.left.toNat)) := by
  obtain ⟨_, h2, h3, h4⟩ := ruleK_ok (hg.each r hr)
  obtain ⟨x, hx, hx0, hxn⟩ := ren_true hb
  have h5 := h4 x (by rw [hx]; simp)
  have hren : Ren g r.left.toNat (renN r).toNat := ⟨r, hr, hb, by omega, by omega⟩
  have ht : (renN r).toNat < g.ns.length := by omega
  have hl : r.left.toNat < g.ns.length := by omega
  intro i hi
  by_cases e : i = (renN r).toNat
  · subst e
    rw [upd_at]
    refine ⟨Nat.or_lt_two_pow (hV _ ht).1 (hV _ hl).1, by rw [Nat.testBit_or, (hV _ ht).2.1]; rfl, fun k hk => ?_⟩
    rw [Nat.testBit_or, Bool.or_eq_true] at hk
    rcases hk with hk | hk
    · exact (hV _ ht).2.2 k hk
    · exact ((hV _ hl).2.2 k hk).snoc hren
  · rw [upd_ne _ _ e]
    exact hV i hi

theorem or_ge (a b : Nat) : a ≤ a ||| b := Nat.left_le_or

theorem shut_above {g : G} (hg : GoodG g) {V : Nat → Nat} (hV : Inv g V) (hs : ∀ r ∈ g.rs, Shut V r) : IsAbove g V := by
  have key : ∀ {a b : Nat}, Comes g a b → b < g.ns.length → ∀ k, (V a).testBit k = true → (V b).testBit k = true := by
    intro a b h
    induction h with
    | refl _ => intro _ k hk; exact hk
    | step h1 h2 ih =>
      intro hb k hk
      obtain ⟨r, hr, hrb, hl, hn⟩ := h1
      have := hs r hr hrb
      rw [hl, hn] at this
      simp only [Int.toNat_natCast] at this
      refine ih hb k ?_
      rw [← this, Nat.testBit_or, hk]
      simp
  intro i hi
  refine ⟨(hV i hi).1, fun k => ⟨(hV i hi).2.2 k, fun h => ?_⟩⟩
  exact key h hi k (hV k (comes_lt hg h hi)).2.1

theorem start_inv (g : G) : Inv g (fun i => 2 ^ i) := by
  intro i hi
  refine ⟨Nat.pow_lt_pow_right (by omega) hi, by simp, fun k hk => ?_⟩
  rw [Nat.testBit_two_pow] at hk
  obtain rfl : i = k := by simpa using hk
  exact .refl _

theorem inv_small {g : G} (hg : GoodG g) {V : Nat → Nat} (hV : Inv g V) {i : Nat} (hi : i < g.ns.length) : V i < 1152921504606846976 := by
  have h1 := (hV i hi).1
  have h2 : g.ns.length ≤ 60 := by have := hg.few; omega
  have h3 : 2 ^ g.ns.length ≤ 2 ^ 60 := Nat.pow_le_pow_right (by omega) h2
  have h4 : 2 ^ 60 = 1152921504606846976 := by decide
  omega

theorem above_small {g : G} (hg : GoodG g) {V : Nat → Nat} (hV : IsAbove g V) {i : Nat} (hi : i < g.ns.length) : V i < 1152921504606846976 := by
  have h1 := (hV i hi).1
  have h2 : g.ns.length ≤ 60 := by have := hg.few; omega
  have h3 : 2 ^ g.ns.length ≤ 2 ^ 60 := Nat.pow_le_pow_right (by omega) h2
  have h4 : 2 ^ 60 = 1152921504606846976 := by decide
  omega

end Go.Proofs.YtcmjneabcdpmoaaDoor.GramMath

namespace Go.Proofs.YtcmjneabcdpmoaaDoor.GramMath

open Classical in
/-- Does one come to another? -/
noncomputable def comesB (g : G) (a b : Nat) : Bool := decide (Comes g a b)

theorem comesB_iff (g : G) (a b : Nat) : comesB g a b = true ↔ Comes g a b := by
  unfold comesB
  simp

/-- What is known of those that were seen, and of the list of them. -/
structure Bfs (g : G) (a : Nat) (S : Nat → Bool) (T : List Nat) : Prop where
  start : a ∈ T
  nd : T.Nodup
  mem : ∀ x, x < g.ns.length → (S x = true ↔ x ∈ T)
  lt : ∀ x ∈ T, x < g.ns.length
  comes : ∀ x ∈ T, Comes g a x

def updB (S : Nat → Bool) (t : Nat) : Nat → Bool := fun i => if i = t then true else S i
theorem updB_at (S : Nat → Bool) (t : Nat) : updB S t t = true := if_pos rfl
theorem updB_ne (S : Nat → Bool) {t i : Nat} (h : i ≠ t) : updB S t i = S i := if_neg h
theorem updB_up (S : Nat → Bool) (t i : Nat) (h : S i = true) : updB S t i = true := by
  unfold updB
  split
  · rfl
  · exact h

theorem bfs_start {g : G} {a : Nat} (ha : a < g.ns.length) : Bfs g a (updB (fun _ => false) a) [a] :=
  ⟨by simp, by simp, fun x hx => by
    unfold updB
    by_cases e : x = a
    · simp [e]
    · simp [e], fun x hx => by simp at hx; omega, fun x hx => by
    obtain rfl : x = a := by simpa using hx
    exact .refl _⟩

theorem Bfs.add {g : G} {a t : Nat} {S : Nat → Bool} {T : List Nat} (h : Bfs g a S T) (ht : t < g.ns.length) (hn : S t = false) {x : Nat} (hx : x ∈ T) (hr : Ren g x t) : Bfs g a (updB S t) (T ++ [t]) := by
  have hnt : t ∉ T := fun e => by
    rw [(h.mem t ht).2 e] at hn
    cases hn
  refine ⟨List.mem_append_left _ h.start, ?_, fun y hy => ?_, fun y hy => ?_, fun y hy => ?_⟩
  · rw [List.nodup_append]
    refine ⟨h.nd, by simp, fun y hy z hz => ?_⟩
    obtain rfl : z = t := by simpa using hz
    rintro rfl
    exact hnt hy
  · by_cases e : y = t
    · subst e
      simp [updB_at]
    · rw [updB_ne _ e, h.mem y hy]
      simp [e]
  · rcases List.mem_append.1 hy with hy | hy
    · exact h.lt y hy
    · obtain rfl : y = t := by simpa using hy
      exact ht
  · rcases List.mem_append.1 hy with hy | hy
    · exact h.comes y hy
    · obtain rfl : y = t := by simpa using hy
      exact (h.comes x hx).snoc hr

theorem nodup_small : ∀ {n : Nat} {T : List Nat}, T.Nodup → (∀ x ∈ T, x < n) → T.length ≤ n
  | 0, T, _, hl => by
    cases T with
    | nil => simp
    | cons x l => exact absurd (hl x (by simp)) (by omega)
  | n + 1, T, hd, hl => by
    have h1 : (T.filter (fun x => decide (x ≠ n))).length ≤ n := nodup_small (hd.filter _) (fun x hx => by
      have h2 := List.mem_filter.1 hx
      have h3 := hl x h2.1
      have h4 : x ≠ n := by simpa using h2.2
      omega)
    have h5 : T.length = T.countP (fun x => decide (x ≠ n)) + T.countP (fun x => !decide (x ≠ n)) := by
      rw [List.length_eq_countP_add_countP (p := fun x => decide (x ≠ n))]
      simp
    have h6 : T.countP (fun x => !decide (x ≠ n)) ≤ 1 := by
      have : T.countP (fun x => !decide (x ≠ n)) = T.count n := by
        unfold List.count
        congr 1
        funext x
        simp [Bool.beq_eq_decide_eq]
      rw [this]
      exact List.nodup_iff_count.1 hd n
    rw [List.countP_eq_length_filter] at h5
    omega

theorem Bfs.small {g : G} {a : Nat} {S : Nat → Bool} {T : List Nat} (h : Bfs g a S T) : T.length ≤ g.ns.length := nodup_small h.nd h.lt

/-- Whatever a renaming of the first k rules brings from one has been seen. -/
def Out (g : G) (S : Nat → Bool) (x k : Nat) : Prop := ∀ j r, j < k → g.rs[j]? = some r → renB r = true → r.left = (x : Int) → S (renN r).toNat = true

theorem Out.up {g : G} {S : Nat → Bool} {x k : Nat} (h : Out g S x k) (t : Nat) : Out g (updB S t) x k := fun j r hj hr hb hl => updB_up _ _ _ (h j r hj hr hb hl)

theorem Out.zero (g : G) (S : Nat → Bool) (x : Nat) : Out g S x 0 := fun j r hj => absurd hj (by omega)

theorem Out.next {g : G} {S : Nat → Bool} {x k : Nat} {r : R} (h : Out g S x k) (hr : g.rs[k]? = some r) (hd : renB r = true → r.left = (x : Int) → S (renN r).toNat = true) : Out g S x (k + 1) := fun j r' hj hj2 hb hl => by
  by_cases e : j = k
  · subst e
    rw [hr] at hj2
    obtain rfl := Option.some.inj hj2
    exact hd hb hl
  · exact h j r' (by omega) hj2 hb hl

/-- The first i of the list have been gone through. -/
def Through (g : G) (S : Nat → Bool) (T : List Nat) (i : Nat) : Prop := ∀ j x, j < i → T[j]? = some x → Out g S x g.rs.length

theorem Through.zero (g : G) (S : Nat → Bool) (T : List Nat) : Through g S T 0 := fun j x hj => absurd hj (by omega)

theorem Through.add {g : G} {S : Nat → Bool} {T : List Nat} {i : Nat} (h : Through g S T i) (hi : i ≤ T.length) (t : Nat) : Through g (updB S t) (T ++ [t]) i := fun j x hj hx => by
  rw [List.getElem?_append_left (by omega)] at hx
  exact (h j x hj hx).up t

theorem Through.next {g : G} {S : Nat → Bool} {T : List Nat} {i x : Nat} (h : Through g S T i) (hx : T[i]? = some x) (ho : Out g S x g.rs.length) : Through g S T (i + 1) := fun j y hj hy => by
  by_cases e : j = i
  · subst e
    rw [hx] at hy
    obtain rfl := Option.some.inj hy
    exact ho
  · exact h j y (by omega) hy

theorem Bfs.done {g : G} (hg : GoodG g) {a : Nat} {S : Nat → Bool} {T : List Nat} (h : Bfs g a S T) (ht : Through g S T T.length) {b : Nat} (hb : b < g.ns.length) : S b = comesB g a b := by
  have key : ∀ {x y : Nat}, Comes g x y → x ∈ T → y ∈ T := by
    intro x y hc
    induction hc with
    | refl _ => exact fun h => h
    | step h1 _ ih =>
      intro hx
      apply ih
      have hlt := ren_lt hg h1
      obtain ⟨r, hr, hrb, hl, hn⟩ := h1
      obtain ⟨i, hi, hie⟩ := List.getElem_of_mem hx
      obtain ⟨j, hj, hje⟩ := List.getElem_of_mem hr
      have h2 := ht i _ hi (by rw [List.getElem?_eq_getElem hi, hie]) j r hj (by rw [List.getElem?_eq_getElem hj, hje]) hrb hl
      rw [hn, Int.toNat_natCast] at h2
      exact (h.mem _ hlt.2).1 h2
  rw [Bool.eq_iff_iff, comesB_iff, h.mem b hb]
  exact ⟨h.comes b, fun hc => key hc h.start⟩

/-- A set put together number by number. -/
def putN (p : Nat → Bool) : Nat → Nat
  | 0 => 0
  | f + 1 => if p f = true then putN p f ||| 2 ^ f else putN p f

theorem putN_lt (p : Nat → Bool) : ∀ f, putN p f < 2 ^ f
  | 0 => by simp [putN]
  | f + 1 => by
    have h := putN_lt p f
    have h2 : 2 ^ f < 2 ^ (f + 1) := Nat.pow_lt_pow_right (by omega) (by omega)
    show (if p f = true then _ else _) < _
    split
    · exact Nat.or_lt_two_pow (by omega) h2
    · omega

theorem putN_bit (p : Nat → Bool) (k : Nat) : ∀ f, (putN p f).testBit k = (decide (k < f) && p k)
  | 0 => by simp [putN]
  | f + 1 => by
    show (if p f = true then putN p f ||| 2 ^ f else putN p f).testBit k = _
    by_cases h : p f = true
    · rw [if_pos h, Nat.testBit_or, putN_bit p k f, Nat.testBit_two_pow]
      by_cases e : k = f
      · subst e; simp [h]
      · have e2 : ¬ f = k := fun x => e x.symm
        have e3 : decide (k < f) = decide (k < f + 1) := decide_eq_decide.2 (by omega)
        rw [e3]
        simp [e2]
    · rw [if_neg h, putN_bit p k f]
      by_cases e : k = f
      · subst e; simp [h]
      · have e3 : decide (k < f) = decide (k < f + 1) := decide_eq_decide.2 (by omega)
        rw [e3]

theorem put_above {g : G} (hg : GoodG g) : IsAbove g (fun i => putN (fun k => comesB g k i) g.ns.length) := by
  intro i hi
  refine ⟨putN_lt _ _, fun k => ?_⟩
  show (putN (fun k => comesB g k i) g.ns.length).testBit k = true ↔ _
  rw [putN_bit, Bool.and_eq_true, comesB_iff, decide_eq_true_eq]
  exact ⟨fun h => h.2, fun h => ⟨comes_lt hg h hi, h⟩⟩

end Go.Proofs.YtcmjneabcdpmoaaDoor.GramMath

namespace Go.Proofs.YtcmjneabcdpmoaaDoor.EndsMath
open Go.Proofs.YtcmjneabcdpmoaaDoor.GramMath
set_option linter.unusedVariables false

/-- A right side, read from the left on, or from the right on. -/
def vw (b : Bool) (l : List Int) : List Int := if b = true then l.reverse else l

theorem vw_len (b : Bool) (l : List Int) : (vw b l).length = l.length := by
  unfold vw
  split <;> simp
theorem vw_mem {b : Bool} {l : List Int} {x : Int} : x ∈ vw b l ↔ x ∈ l := by
  unfold vw
  split <;> simp

/-- The symbol at a place, if there is one. -/
def lkB (b : Bool) (l : List Int) (k : Nat) : Bool := decide (k < l.length)
def lkN (b : Bool) (l : List Int) (k : Nat) : Int := (vw b l).getD k 0

/-- The terminal that a rule shows, the nonterminal to which it leads. -/
def shL : List Int → Option Nat
  | [] => none
  | [x] => if 0 ≤ x then some x.toNat else none
  | x :: y :: _ => if 0 ≤ x then some x.toNat else if 0 ≤ y then some y.toNat else none
def ldL : List Int → Option Nat
  | [] => none
  | x :: _ => if x < 0 then some (-1 - x).toNat else none
def shO (b : Bool) (r : R) : Option Nat := shL (vw b r.right)
def ldO (b : Bool) (r : R) : Option Nat := ldL (vw b r.right)

theorem shL_mem {l : List Int} {t : Nat} (h : shL l = some t) : (t : Int) ∈ l := by
  match l, h with
  | [x], h =>
    simp [shL] at h
    obtain ⟨h0, rfl⟩ := h
    simp
    omega
  | x :: y :: z, h =>
    by_cases h0 : 0 ≤ x
    · simp [shL, h0] at h
      subst h
      simp
      omega
    · simp [shL, h0] at h
      obtain ⟨h1, rfl⟩ := h
      simp
      omega

theorem ldL_mem {l : List Int} {m : Nat} (h : ldL l = some m) : (-1 - (m : Int)) ∈ l := by
  match l, h with
  | x :: z, h =>
    simp [ldL] at h
    obtain ⟨h0, rfl⟩ := h
    simp
    omega

/-- A grammar's rules keep to its symbols. -/
theorem sh_lt {g : G} (hg : GoodG g) {b : Bool} {r : R} (hr : r ∈ g.rs) {t : Nat} (h : shO b r = some t) : t < g.ts.length := by
  obtain ⟨_, _, _, h4⟩ := ruleK_ok (hg.each r hr)
  have := h4 _ (vw_mem.1 (shL_mem h))
  omega
theorem ld_lt {g : G} (hg : GoodG g) {b : Bool} {r : R} (hr : r ∈ g.rs) {m : Nat} (h : ldO b r = some m) : m < g.ns.length := by
  obtain ⟨_, _, _, h4⟩ := ruleK_ok (hg.each r hr)
  have := h4 _ (vw_mem.1 (ldL_mem h))
  omega
theorem left_lt {g : G} (hg : GoodG g) {r : R} (hr : r ∈ g.rs) : 0 ≤ r.left ∧ r.left.toNat < g.ns.length := by
  obtain ⟨_, h2, h3, _⟩ := ruleK_ok (hg.each r hr)
  omega

/-- A terminal in a nonterminal's set. -/
inductive Lft (b : Bool) (rs : List R) : Nat → Nat → Prop
  | shows {r : R} {t : Nat} (hr : r ∈ rs) (h : shO b r = some t) : Lft b rs r.left.toNat t
  | leads {r : R} {m t : Nat} (hr : r ∈ rs) (h : ldO b r = some m) (k : Lft b rs m t) : Lft b rs r.left.toNat t

theorem Lft.lt {g : G} (hg : GoodG g) {b : Bool} {n t : Nat} (h : Lft b g.rs n t) : n < g.ns.length ∧ t < g.ts.length := by
  induction h with
  | shows hr h => exact ⟨(left_lt hg hr).2, sh_lt hg hr h⟩
  | leads hr h _ ih => exact ⟨(left_lt hg hr).2, ih.2⟩

theorem Lft.mono {b : Bool} {rs rs' : List R} (h : ∀ r ∈ rs, r ∈ rs') {n t : Nat} (k : Lft b rs n t) : Lft b rs' n t := by
  induction k with
  | shows hr e => exact .shows (h _ hr) e
  | leads hr e _ ih => exact .leads (h _ hr) e ih

/-- What a set is widened to by a rule. -/
def widS (b : Bool) (V : Nat → Nat) (r : R) : Nat :=
  match shO b r with
  | some t => V r.left.toNat ||| 2 ^ t
  | none => V r.left.toNat
def wid (b : Bool) (V : Nat → Nat) (r : R) : Nat :=
  match ldO b r with
  | some m => widS b V r ||| V m
  | none => widS b V r

theorem wid_ge (b : Bool) (V : Nat → Nat) (r : R) : V r.left.toNat ≤ wid b V r := by
  have h1 : V r.left.toNat ≤ widS b V r := by
    unfold widS
    split
    · exact Nat.left_le_or
    · exact Nat.le_refl _
  unfold wid
  split
  · exact Nat.le_trans h1 Nat.left_le_or
  · exact h1

def InvE (b : Bool) (g : G) (V : Nat → Nat) : Prop := ∀ i, i < g.ns.length → V i < 2 ^ g.ts.length ∧ ∀ t, (V i).testBit t = true → Lft b g.rs i t
def ShutE (b : Bool) (V : Nat → Nat) (r : R) : Prop := wid b V r = V r.left.toNat
def IsEnds (b : Bool) (g : G) (V : Nat → Nat) : Prop := ∀ i, i < g.ns.length → V i < 2 ^ g.ts.length ∧ ∀ t, (V i).testBit t = true ↔ Lft b g.rs i t

theorem wid_inv {b : Bool} {g : G} (hg : GoodG g) {V : Nat → Nat} (hV : InvE b g V) {r : R} (hr : r ∈ g.rs) : wid b V r < 2 ^ g.ts.length ∧ ∀ t, (wid b V r).testBit t = true → Lft b g.rs r.left.toNat t := by
  obtain ⟨hl0, hl⟩ := left_lt hg hr
  obtain ⟨v1, v2⟩ := hV _ hl
  have h1 : widS b V r < 2 ^ g.ts.length ∧ ∀ t, (widS b V r).testBit t = true → Lft b g.rs r.left.toNat t := by
    unfold widS
    cases hs : shO b r with
    | none => exact ⟨v1, v2⟩
    | some t =>
      have ht := sh_lt hg hr hs
      refine ⟨Nat.or_lt_two_pow v1 (Nat.pow_lt_pow_right (by omega) ht), fun u hu => ?_⟩
      rw [Nat.testBit_or, Bool.or_eq_true] at hu
      rcases hu with hu | hu
      · exact v2 u hu
      · rw [Nat.testBit_two_pow] at hu
        obtain rfl : t = u := by simpa using hu
        exact .shows hr hs
  unfold wid
  cases hs : ldO b r with
  | none => exact h1
  | some m =>
    obtain ⟨m1, m2⟩ := hV _ (ld_lt hg hr hs)
    refine ⟨Nat.or_lt_two_pow h1.1 m1, fun u hu => ?_⟩
    rw [Nat.testBit_or, Bool.or_eq_true] at hu
    rcases hu with hu | hu
    · exact h1.2 u hu
    · exact .leads hr hs (m2 u hu)

theorem InvE.step {b : Bool} {g : G} (hg : GoodG g) {V : Nat → Nat} (hV : InvE b g V) {r : R} (hr : r ∈ g.rs) : InvE b g (upd V r.left.toNat (wid b V r)) := by
  intro i hi
  by_cases e : i = r.left.toNat
  · subst e
    rw [upd_at]
    exact wid_inv hg hV hr
  · rw [upd_ne _ _ e]
    exact hV i hi

theorem InvE.zero (b : Bool) (g : G) : InvE b g (fun _ => 0) := fun i _ => ⟨Nat.pow_pos (by omega), fun t ht => by simp at ht⟩

theorem ends_of {b : Bool} {g : G} (hg : GoodG g) {V : Nat → Nat} (hV : InvE b g V) (hs : ∀ r ∈ g.rs, ShutE b V r) : IsEnds b g V := by
  have key : ∀ {n t : Nat}, Lft b g.rs n t → (V n).testBit t = true := by
    intro n t h
    induction h with
    | @shows r t hr h =>
      have := hs r hr
      unfold ShutE at this
      have h1 : (widS b V r).testBit t = true := by
        unfold widS
        rw [h]
        simp [Nat.testBit_or]
      rw [← this]
      unfold wid
      split
      · rw [Nat.testBit_or, h1]; rfl
      · exact h1
    | @leads r m t hr h _ ih =>
      have := hs r hr
      unfold ShutE at this
      rw [← this]
      unfold wid
      rw [h]
      simp [Nat.testBit_or, ih]
  exact fun i hi => ⟨(hV i hi).1, fun t => ⟨(hV i hi).2 t, key⟩⟩

theorem IsEnds.eq {b b' : Bool} {g g' : G} {V U : Nat → Nat} (h : IsEnds b g V) (k : IsEnds b' g' U) {i : Nat} (hi : i < g.ns.length) (hi' : i < g'.ns.length) (he : ∀ t, Lft b g.rs i t ↔ Lft b' g'.rs i t) : V i = U i := by
  apply Nat.eq_of_testBit_eq
  intro t
  rw [Bool.eq_iff_iff, (h i hi).2, (k i hi').2]
  exact he t

theorem ends_small {b : Bool} {g : G} (hg : GoodG g) {V : Nat → Nat} (hV : InvE b g V) {i : Nat} (hi : i < g.ns.length) : V i < 1152921504606846976 := by
  have h1 := (hV i hi).1
  have h2 : g.ts.length ≤ 60 := by have := hg.few; omega
  have h3 : 2 ^ g.ts.length ≤ 2 ^ 60 := Nat.pow_le_pow_right (by omega) h2
  have h4 : 2 ^ 60 = 1152921504606846976 := by decide
  omega
theorem IsEnds.inv {b : Bool} {g : G} {V : Nat → Nat} (h : IsEnds b g V) : InvE b g V := fun i hi => ⟨(h i hi).1, fun t => ((h i hi).2 t).1⟩

/-- A way: rules, and the nonterminal to which the last one leads. -/
structure Wy where
  rules : List Int
  to : Nat
structure St where
  nx : List Wy
  S : Nat → Bool

def hitR (b : Bool) (t : Nat) (l : List Int) (m : Nat) : Nat → List R → Option (List Int)
  | _, [] => none
  | k, r :: rest => if r.left = (m : Int) ∧ shO b r = some t then some (l ++ [(k : Int)]) else hitR b t l m (k + 1) rest
def hitW (b : Bool) (t : Nat) (rs : List R) : List Wy → Option (List Int)
  | [] => none
  | y :: ys => match hitR b t y.rules y.to 0 rs with
    | some c => some c
    | none => hitW b t rs ys
def one (b : Bool) (l : List Int) (m k : Nat) (r : R) (s : St) : St :=
  if r.left = (m : Int) then
    match ldO b r with
    | some to => if s.S to = true then s else ⟨s.nx ++ [⟨l ++ [(k : Int)], to⟩], updB s.S to⟩
    | none => s
  else s
def goR (b : Bool) (l : List Int) (m : Nat) : Nat → List R → St → St
  | _, [], s => s
  | k, r :: rest, s => goR b l m (k + 1) rest (one b l m k r s)
def goW (b : Bool) (rs : List R) : List Wy → St → St
  | [], s => s
  | y :: ys, s => goW b rs ys (goR b y.rules y.to 0 rs s)

theorem goR_snoc (b : Bool) (l : List Int) (m : Nat) (r : R) : ∀ (rs : List R) (k : Nat) (s : St), goR b l m k (rs ++ [r]) s = one b l m (k + rs.length) r (goR b l m k rs s)
  | [], k, s => rfl
  | x :: rs, k, s => by
    show goR b l m (k + 1) (rs ++ [r]) _ = one b l m (k + (rs.length + 1)) r (goR b l m (k + 1) rs _)
    rw [goR_snoc b l m r rs (k + 1), show k + 1 + rs.length = k + (rs.length + 1) by omega]
theorem goW_snoc (b : Bool) (rs : List R) (y : Wy) : ∀ (ys : List Wy) (s : St), goW b rs (ys ++ [y]) s = goR b y.rules y.to 0 rs (goW b rs ys s)
  | [], s => rfl
  | x :: ys, s => goW_snoc b rs y ys _
theorem hitR_snoc (b : Bool) (t : Nat) (l : List Int) (m : Nat) (r : R) : ∀ (rs : List R) (k : Nat), hitR b t l m k rs = none → hitR b t l m k (rs ++ [r]) = if r.left = (m : Int) ∧ shO b r = some t then some (l ++ [((k + rs.length : Nat) : Int)]) else none
  | [], k, _ => by simp [hitR]
  | x :: rs, k, h => by
    unfold hitR at h
    split at h
    · cases h
    · rename_i hx
      show hitR b t l m k (x :: (rs ++ [r])) = _
      unfold hitR
      rw [if_neg hx, hitR_snoc b t l m r rs (k + 1) h, show k + 1 + rs.length = k + (x :: rs).length by simp; omega]
theorem hitR_app (b : Bool) (t : Nat) (l : List Int) (m : Nat) (rs' : List R) {c : List Int} : ∀ (rs : List R) (k : Nat), hitR b t l m k rs = some c → hitR b t l m k (rs ++ rs') = some c
  | [], k, h => by cases h
  | x :: rs, k, h => by
    unfold hitR at h
    show hitR b t l m k (x :: (rs ++ rs')) = _
    unfold hitR
    split at h
    · rename_i hx; rw [if_pos hx]; exact h
    · rename_i hx; rw [if_neg hx]; exact hitR_app b t l m rs' rs (k + 1) h
theorem hitW_snoc (b : Bool) (t : Nat) (rs : List R) (y : Wy) : ∀ (ys : List Wy), hitW b t rs ys = none → hitW b t rs (ys ++ [y]) = hitR b t y.rules y.to 0 rs
  | [], _ => by
    unfold hitW
    simp only [List.nil_append]
    unfold hitW
    cases hitR b t y.rules y.to 0 rs <;> rfl
  | x :: ys, h => by
    unfold hitW at h
    show hitW b t rs (x :: (ys ++ [y])) = _
    unfold hitW
    cases hx : hitR b t x.rules x.to 0 rs with
    | some c => rw [hx] at h; cases h
    | none => rw [hx] at h; exact hitW_snoc b t rs y ys h
theorem hitW_app (b : Bool) (t : Nat) (rs : List R) (ys' : List Wy) {c : List Int} : ∀ (ys : List Wy), hitW b t rs ys = some c → hitW b t rs (ys ++ ys') = some c
  | [], h => by cases h
  | x :: ys, h => by
    unfold hitW at h
    show hitW b t rs (x :: (ys ++ ys')) = _
    unfold hitW
    cases hx : hitR b t x.rules x.to 0 rs with
    | some c => rw [hx] at h; exact h
    | none => rw [hx] at h; exact hitW_app b t rs ys' ys h

/-- What is found, ring by ring. -/
inductive Search (b : Bool) (t : Nat) (rs : List R) : List Wy → (Nat → Bool) → Option (List Int) → Prop
  | none (S : Nat → Bool) : Search b t rs [] S none
  | hit {ring : List Wy} {S : Nat → Bool} {c : List Int} (h : hitW b t rs ring = some c) : Search b t rs ring S (some c)
  | step {ring : List Wy} {S : Nat → Bool} {o : Option (List Int)} (hne : ring ≠ []) (h : hitW b t rs ring = none) (k : Search b t rs (goW b rs ring ⟨[], S⟩).nx (goW b rs ring ⟨[], S⟩).S o) : Search b t rs ring S o

theorem Search.det {b : Bool} {t : Nat} {rs : List R} {ring : List Wy} {S : Nat → Bool} {o o' : Option (List Int)} (h : Search b t rs ring S o) (h' : Search b t rs ring S o') : o = o' := by
  induction h with
  | none S =>
    cases h' with
    | none => rfl
    | hit h => cases h
    | step hne _ _ => exact absurd rfl hne
  | hit h =>
    cases h' with
    | none => cases h
    | hit h2 => rw [h] at h2; exact h2
    | step _ h2 _ => rw [h] at h2; cases h2
  | step hne h _ ih =>
    cases h' with
    | none => exact absurd rfl hne
    | hit h2 => rw [h] at h2; cases h2
    | step _ _ k => exact ih k

/-- What was found for a nonterminal and a terminal. -/
def startW (n : Nat) : List Wy := [⟨[], n⟩]
def startS (n : Nat) : Nat → Bool := updB (fun _ => false) n
def FoundE (b : Bool) (rs : List R) (n t : Nat) (o : Option (List Int)) : Prop := Search b t rs (startW n) (startS n) o
theorem FoundE.det {b : Bool} {rs : List R} {n t : Nat} {o o' : Option (List Int)} (h : FoundE b rs n t o) (h' : FoundE b rs n t o') : o = o' := Search.det h h'

/-- How many numbers below n are marked. -/
def cnt (n : Nat) (S : Nat → Bool) : Nat := ((List.range n).filter S).length
theorem cnt_le (n : Nat) (S : Nat → Bool) : cnt n S ≤ n := by
  unfold cnt
  exact Nat.le_trans (List.length_filter_le _ _) (by simp)
theorem cnt_succ (n : Nat) (S : Nat → Bool) : cnt (n + 1) S = cnt n S + if S n = true then 1 else 0 := by
  unfold cnt
  rw [List.range_succ, List.filter_append, List.length_append]
  cases h : S n <;> simp [h]
theorem cnt_upd : ∀ {n t : Nat} {S : Nat → Bool}, t < n → S t = false → cnt n (updB S t) = cnt n S + 1
  | 0, t, S, h, _ => absurd h (by omega)
  | n + 1, t, S, h, hS => by
    rw [cnt_succ, cnt_succ]
    by_cases e : t = n
    · subst e
      rw [updB_at, hS]
      have : ∀ m, m ≤ t → cnt m (updB S t) = cnt m S := by
        intro m
        induction m with
        | zero => intro _; rfl
        | succ m ih =>
          intro hm
          rw [cnt_succ, cnt_succ, ih (by omega), updB_ne _ (show m ≠ t by omega)]
      rw [this t (Nat.le_refl _)]
      simp
    · rw [cnt_upd (show t < n by omega) hS, updB_ne _ (show n ≠ t by omega)]
      omega

theorem one_nx (b : Bool) (l : List Int) (m k : Nat) (r : R) (s : St) : s.nx.length ≤ (one b l m k r s).nx.length := by
  unfold one
  split
  · split
    · split
      · exact Nat.le_refl _
      · simp
    · exact Nat.le_refl _
  · exact Nat.le_refl _
theorem one_cnt {b : Bool} {l : List Int} {m k n : Nat} {r : R} {s : St} (h : ∀ t, ldO b r = some t → t < n) : cnt n (one b l m k r s).S + s.nx.length = cnt n s.S + (one b l m k r s).nx.length := by
  unfold one
  split
  · split
    · rename_i to hto
      split
      · rfl
      · rename_i hS
        have hS2 : s.S to = false := by simpa using hS
        rw [cnt_upd (h _ hto) hS2]
        simp
        omega
    · rfl
  · rfl
theorem goR_cnt {b : Bool} {l : List Int} {m n : Nat} : ∀ {rs : List R} {k : Nat} {s : St}, (∀ r ∈ rs, ∀ t, ldO b r = some t → t < n) → cnt n (goR b l m k rs s).S + s.nx.length = cnt n s.S + (goR b l m k rs s).nx.length
  | [], _, _, _ => rfl
  | r :: rs, k, s, h => by
    have h1 := one_cnt (b := b) (l := l) (m := m) (k := k) (n := n) (r := r) (s := s) (h r (by simp))
    have h2 := goR_cnt (b := b) (l := l) (m := m) (n := n) (rs := rs) (k := k + 1) (s := one b l m k r s) (fun r hr => h r (List.mem_cons_of_mem _ hr))
    show cnt n (goR b l m (k + 1) rs _).S + _ = cnt n s.S + (goR b l m (k + 1) rs _).nx.length
    omega
theorem goW_cnt {b : Bool} {rs : List R} {n : Nat} (h : ∀ r ∈ rs, ∀ t, ldO b r = some t → t < n) : ∀ {ys : List Wy} {s : St}, cnt n (goW b rs ys s).S + s.nx.length = cnt n s.S + (goW b rs ys s).nx.length
  | [], _ => rfl
  | y :: ys, s => by
    have h1 := goR_cnt (b := b) (l := y.rules) (m := y.to) (n := n) (rs := rs) (k := 0) (s := s) h
    have h2 := goW_cnt h (ys := ys) (s := goR b y.rules y.to 0 rs s)
    show cnt n (goW b rs ys _).S + _ = cnt n s.S + (goW b rs ys _).nx.length
    omega

/-- What is known while sets are widened by the first k rules. -/
structure Wd (b : Bool) (g : G) (V : Nat → Nat) (k : Nat) (q : Bool) (U : Nat → Nat) : Prop where
  inv : InvE b g U
  up : q = true → sumV V g.ns.length < sumV U g.ns.length
  le : sumV V g.ns.length ≤ sumV U g.ns.length
  shut : q = false → ∀ j r, j < k → g.rs[j]? = some r → ShutE b U r

theorem Wd.start {b : Bool} {g : G} {V : Nat → Nat} (h : InvE b g V) : Wd b g V 0 false V := ⟨h, fun h => (by cases h), Nat.le_refl _, fun _ j r hj => by omega⟩

theorem Wd.next {b : Bool} {g : G} {V U : Nat → Nat} {k l : Nat} {q q2 : Bool} {r : R} (h : Wd b g V k q U) (hg : GoodG g) (hr : g.rs[k]? = some r) (hl : r.left.toNat = l) (hq2 : q2 = (q || !decide (wid b U r = U l))) : Wd b g V (k + 1) q2 (upd U l (wid b U r)) := by
  have hrm := List.mem_of_getElem? hr
  have hU2 := h.inv.step hg hrm
  have hge := wid_ge b U r
  have hln := (left_lt hg hrm).2
  have hshut : ShutE b U r ↔ wid b U r = U l := by unfold ShutE; rw [hl]
  rw [hl] at hU2 hge hln
  have hle : sumV U g.ns.length ≤ sumV (upd U l (wid b U r)) g.ns.length := sumV_le fun i _ => by
    by_cases e : i = l
    · subst e; rw [upd_at]; exact hge
    · rw [upd_ne _ _ e]; exact Nat.le_refl _
  refine ⟨hU2, fun e => ?_, Nat.le_trans h.le hle, fun e => ?_⟩
  · rw [e] at hq2
    cases q with
    | true => exact Nat.lt_of_lt_of_le (h.up rfl) hle
    | false =>
      have hne : wid b U r ≠ U l := by simpa using hq2.symm
      refine Nat.lt_of_le_of_lt h.le (sumV_lt (fun i _ => ?_) ⟨l, hln, by rw [upd_at]; omega⟩)
      by_cases e : i = l
      · subst e; rw [upd_at]; exact hge
      · rw [upd_ne _ _ e]; exact Nat.le_refl _
  · rw [e] at hq2
    have hq3 : q = false ∧ wid b U r = U l := by simpa using hq2.symm
    have hid : upd U l (wid b U r) = U := by
      funext i
      by_cases e : i = l
      · subst e; rw [upd_at]; exact hq3.2
      · rw [upd_ne _ _ e]
    rw [hid]
    intro j r' hj hj2
    by_cases e : j = k
    · subst e
      rw [hr] at hj2
      obtain rfl := Option.some.inj hj2
      exact hshut.2 hq3.2
    · exact h.shut hq3.1 j r' (by omega) hj2

theorem Wd.end {b : Bool} {g : G} {V U : Nat → Nat} {q : Bool} {k : Nat} (h : Wd b g V k q U) (hk : g.rs.length ≤ k) : q = false → ∀ r ∈ g.rs, ShutE b U r := fun hq r hr => by
  obtain ⟨j, hj, rfl⟩ := List.getElem_of_mem hr
  exact h.shut hq j _ (by omega) (List.getElem?_eq_getElem hj)

end Go.Proofs.YtcmjneabcdpmoaaDoor.EndsMath

namespace Go.Proofs.YtcmjneabcdpmoaaDoor.SetsMath

/-- 2^64, behind a name. -/
def top : Int := 18446744073709551616
def IsSet (s : Int) : Prop := 0 ≤ s ∧ s < top

def oneN (k : Int) : Nat := if 0 ≤ k ∧ k < 64 then 2 ^ k.toNat else 0
def oneI (k : Int) : Int := (oneN k : Int)
def hasB (s k : Int) : Bool := decide (0 ≤ k) && decide (k < 64) && s.toNat.testBit k.toNat
def withI (s k : Int) : Int := ((s.toNat ||| oneN k : Nat) : Int)
def withoutI (s k : Int) : Int := ((s.toNat &&& (18446744073709551615 - oneN k) : Nat) : Int)
def fullI (n : Int) : Int := if n < 1 then 0 else if 64 ≤ n then 18446744073709551615 else ((2 ^ n.toNat - 1 : Nat) : Int)
def ofI (l : List Int) : Int := l.foldl withI 0

theorem pow_lt {k : Nat} (h : k < 64) : 2 ^ k < 18446744073709551616 := by
  have := Nat.pow_lt_pow_right (a := 2) (by omega) h
  simpa using this

theorem oneN_lt (k : Int) : oneN k < 18446744073709551616 := by
  unfold oneN
  split
  · exact pow_lt (by omega)
  · omega

theorem oneI_isSet (k : Int) : IsSet (oneI k) := by
  have := oneN_lt k
  unfold IsSet oneI top
  omega

theorem toNat_lt {s : Int} (h : IsSet s) : s.toNat < 18446744073709551616 := by
  unfold IsSet top at h
  omega

theorem withI_isSet {s : Int} (k : Int) (h : IsSet s) : IsSet (withI s k) := by
  have h1 : s.toNat ||| oneN k < 2 ^ 64 := Nat.or_lt_two_pow (by have := toNat_lt h; simpa using this) (by have := oneN_lt k; simpa using this)
  unfold IsSet withI top
  simp at h1
  omega

theorem withoutI_isSet {s : Int} (k : Int) (h : IsSet s) : IsSet (withoutI s k) := by
  have h1 : s.toNat &&& (18446744073709551615 - oneN k) ≤ s.toNat := Nat.and_le_left
  have := toNat_lt h
  unfold IsSet withoutI top
  omega

theorem bits_or {s : Int} (k : Int) (h : IsSet s) : bits .or .u64 s (oneI k) = withI s k := by
  have h0 := h
  have h1 := oneI_isSet k
  unfold IsSet top at h0 h1
  rw [u64_or _ _ h0.1 h0.2 h1.1 h1.2]
  simp [withI, oneI]

theorem bits_andNot {s : Int} (k : Int) (h : IsSet s) : bits .andNot .u64 s (oneI k) = withoutI s k := by
  have h0 := h
  have h1 := oneI_isSet k
  unfold IsSet top at h0 h1
  rw [u64_andNot _ _ h0.1 h0.2 h1.1 h1.2]
  simp [withoutI, oneI]

theorem bits_and_ne {s : Int} (k : Int) (h : IsSet s) : (bits .and .u64 s (oneI k) != 0) = hasB s k := by
  have h0 := h
  have h1 := oneI_isSet k
  unfold IsSet top at h0 h1
  rw [u64_and _ _ h0.1 h0.2 h1.1 h1.2]
  unfold hasB oneI oneN
  by_cases hk : 0 ≤ k ∧ k < 64
  · obtain ⟨a, b⟩ := hk
    have e : s.toNat &&& 2 ^ k.toNat = s.toNat / 2 ^ k.toNat % 2 * 2 ^ k.toNat := nat_bit _ _
    have hp : 0 < 2 ^ k.toNat := Nat.pow_pos (by omega)
    simp only [a, b, and_self, if_true, Int.toNat_natCast, decide_true, Bool.true_and]
    rw [e, Nat.testBit_eq_decide_div_mod_eq]
    rcases Nat.mod_two_eq_zero_or_one (s.toNat / 2 ^ k.toNat) with h | h
    · simp [h]
    · rw [h]
      have : ¬ (2 : Int) ^ k.toNat = 0 := by
        have : (0 : Int) < 2 ^ k.toNat := Int.pow_pos (by decide)
        omega
      simp [this]
  · have : (decide (0 ≤ k) && decide (k < 64)) = false := by
      rw [← Bool.decide_and]; exact decide_eq_false hk
    simp [hk, this]

theorem hasB_out {s k : Int} (h : ¬ (0 ≤ k ∧ k < 64)) : hasB s k = false := by
  have : (decide (0 ≤ k) && decide (k < 64)) = false := by
    rw [← Bool.decide_and]; exact decide_eq_false h
  simp [hasB, this]

theorem hasB_in {s k : Int} (a : 0 ≤ k) (b : k < 64) : hasB s k = s.toNat.testBit k.toNat := by
  simp [hasB, a, b]

theorem hasB_div {s k : Int} (h : IsSet s) (a : 0 ≤ k) (b : k < 64) : (s / 2 ^ k.toNat % 2 == 1) = hasB s k := by
  rw [hasB_in a b, Nat.testBit_eq_decide_div_mod_eq]
  have h0 : s = (s.toNat : Int) := by unfold IsSet at h; omega
  have e : s / 2 ^ k.toNat % 2 = ((s.toNat / 2 ^ k.toNat % 2 : Nat) : Int) := by
    rw [h0]; simp
  rw [e]
  generalize s.toNat / 2 ^ k.toNat % 2 = m
  rw [Bool.eq_iff_iff, beq_iff_eq, decide_eq_true_iff]
  omega

theorem oneN_in {k : Int} (a : 0 ≤ k) (b : k < 64) : oneN k = 2 ^ k.toNat := by simp [oneN, a, b]

theorem oneI_in {k : Int} (a : 0 ≤ k) (b : k < 64) : oneI k = 2 ^ k.toNat := by simp [oneI, oneN, a, b]

theorem withI_out {s k : Int} (h : IsSet s) (hk : ¬ (0 ≤ k ∧ k < 64)) : withI s k = s := by
  unfold IsSet at h
  simp [withI, oneN, hk]
  omega

theorem withI_same {s k : Int} (h : IsSet s) (hk : hasB s k = true) : withI s k = s := by
  by_cases hin : 0 ≤ k ∧ k < 64
  · obtain ⟨a, b⟩ := hin
    rw [hasB_in a b] at hk
    have e : s.toNat ||| 2 ^ k.toNat = s.toNat := by
      apply Nat.eq_of_testBit_eq
      intro i
      rw [Nat.testBit_or, Nat.testBit_two_pow]
      by_cases hi : k.toNat = i
      · subst hi; simp [hk]
      · simp [hi]
    unfold IsSet at h
    rw [withI, oneN_in a b, e]
    omega
  · exact withI_out h hin

theorem or_add {x k : Nat} (hx : x.testBit k = false) : x ||| 2 ^ k = x + 2 ^ k := by
  induction k generalizing x with
  | zero =>
    have h1 : (x ||| 1) / 2 = x / 2 := by rw [Nat.or_div_two]; simp
    have h2 : (x ||| 1) % 2 = 1 := by simp
    simp at hx
    simp only [Nat.pow_zero]
    omega
  | succ k ih =>
    rw [Nat.testBit_succ] at hx
    have h0 := ih hx
    have e : 2 ^ (k + 1) = 2 * 2 ^ k := by rw [Nat.pow_succ]; omega
    have h1 : (x ||| 2 ^ (k + 1)) / 2 = x / 2 + 2 ^ k := by
      rw [Nat.or_div_two, e, Nat.mul_div_cancel_left _ (by omega)]; exact h0
    have h2 : (x ||| 2 ^ (k + 1)) % 2 = x % 2 := by
      have := Nat.or_mod_two_pow (a := x) (b := 2 ^ (k + 1)) (n := 1)
      simp only [Nat.pow_one] at this
      rw [this, e, Nat.mul_mod_right]
      simp
    omega

theorem withI_add {s k : Int} (h : IsSet s) (a : 0 ≤ k) (b : k < 64) (hk : hasB s k = false) : withI s k = s + oneI k := by
  rw [hasB_in a b] at hk
  unfold IsSet at h
  rw [withI, oneI, oneN_in a b, or_add hk]
  omega

theorem withoutI_same {s k : Int} (h : IsSet s) (hk : hasB s k = false) : withoutI s k = s := by
  have hs := toNat_lt h
  unfold IsSet at h
  have e : s.toNat &&& (18446744073709551615 - oneN k) = s.toNat := by
    apply Nat.eq_of_testBit_eq
    intro i
    by_cases hin : 0 ≤ k ∧ k < 64
    · obtain ⟨a, b⟩ := hin
      rw [hasB_in a b] at hk
      rw [oneN_in a b, Nat.testBit_and]
      have e2 : (18446744073709551615 - 2 ^ k.toNat).testBit i = (decide (i < 64) && !(2 ^ k.toNat).testBit i) := by
        have := Nat.testBit_two_pow_sub_succ (n := 64) (x := 2 ^ k.toNat) (pow_lt (by omega)) i
        simpa using this
      rw [e2, Nat.testBit_two_pow]
      by_cases hi : k.toNat = i
      · subst hi; simp [hk]
      · by_cases h64 : i < 64
        · simp [hi, h64]
        · have : s.toNat.testBit i = false := Nat.testBit_lt_two_pow (Nat.lt_of_lt_of_le hs (by
            have := Nat.pow_le_pow_right (n := 2) (by omega) (show 64 ≤ i by omega)
            simpa using this))
          simp [this]
    · have e2 : (18446744073709551615 : Nat).testBit i = decide (i < 64) := by
        have := Nat.testBit_two_pow_sub_one 64 i
        simpa using this
      simp only [oneN, hin, if_false, Nat.sub_zero, Nat.testBit_and, e2]
      by_cases h64 : i < 64
      · simp [h64]
      · have : s.toNat.testBit i = false := Nat.testBit_lt_two_pow (Nat.lt_of_lt_of_le hs (by
            have := Nat.pow_le_pow_right (n := 2) (by omega) (show 64 ≤ i by omega)
            simpa using this))
        simp [this]
  rw [withoutI, e]
  omega

theorem withoutI_sub {s k : Int} (h : IsSet s) (hk : hasB s k = true) : withoutI s k = s - oneI k ∧ oneI k ≤ s ∧ 0 ≤ k ∧ k < 64 := by
  by_cases hin : 0 ≤ k ∧ k < 64
  · obtain ⟨a, b⟩ := hin
    have h1 : withoutI (withoutI s k) k = withoutI s k := by
      apply withoutI_same (withoutI_isSet k h)
      rw [hasB_in a b]
      simp only [withoutI, Int.toNat_natCast, Nat.testBit_and]
      rw [oneN_in a b]
      have e2 := Nat.testBit_two_pow_sub_succ (n := 64) (x := 2 ^ k.toNat) (pow_lt (by omega)) k.toNat
      have e3 : (18446744073709551615 - 2 ^ k.toNat).testBit k.toNat = false := by
        have e4 : (2 ^ 64 - (2 ^ k.toNat + 1)) = 18446744073709551615 - 2 ^ k.toNat := by omega
        rw [e4] at e2
        rw [e2]; simp
      simp [e3]
    have h2 : withI (withoutI s k) k = s := by
      rw [hasB_in a b] at hk
      have hs := toNat_lt h
      unfold IsSet at h
      have e : (s.toNat &&& (18446744073709551615 - 2 ^ k.toNat)) ||| 2 ^ k.toNat = s.toNat := by
        apply Nat.eq_of_testBit_eq
        intro i
        have e2 := Nat.testBit_two_pow_sub_succ (n := 64) (x := 2 ^ k.toNat) (pow_lt (by omega)) i
        have e4 : (2 ^ 64 - (2 ^ k.toNat + 1)) = 18446744073709551615 - 2 ^ k.toNat := by omega
        rw [e4] at e2
        rw [Nat.testBit_or, Nat.testBit_and, e2, Nat.testBit_two_pow]
        by_cases hi : k.toNat = i
        · subst hi; simp [hk]
        · by_cases h64 : i < 64
          · simp [hi, h64]
          · have : s.toNat.testBit i = false := Nat.testBit_lt_two_pow (Nat.lt_of_lt_of_le hs (by
              have := Nat.pow_le_pow_right (n := 2) (by omega) (show 64 ≤ i by omega)
              simpa using this))
            simp [this, hi]
      rw [withI, withoutI, oneN_in a b]
      simp only [Int.toNat_natCast]
      rw [e]
      omega
    have h3 : hasB (withoutI s k) k = false := by
      cases hb : hasB (withoutI s k) k
      · rfl
      · exfalso
        have e5 := withI_same (withoutI_isSet k h) hb
        rw [h2] at e5
        rw [← e5] at h1
        have e6 : hasB (withoutI s k) k = false := by
          rw [hasB_in a b]
          simp only [withoutI, Int.toNat_natCast, Nat.testBit_and, oneN_in a b]
          have e2 := Nat.testBit_two_pow_sub_succ (n := 64) (x := 2 ^ k.toNat) (pow_lt (by omega)) k.toNat
          have e4 : (2 ^ 64 - (2 ^ k.toNat + 1)) = 18446744073709551615 - 2 ^ k.toNat := by omega
          rw [e4] at e2
          rw [e2]; simp
        rw [e6] at hb
        cases hb
    have h4 := withI_add (withoutI_isSet k h) a b h3
    have h5 := withoutI_isSet k h
    unfold IsSet at h5
    rw [h2] at h4
    omega
  · rw [hasB_out hin] at hk
    cases hk

theorem wrap_pow {k : Int} (a : 0 ≤ k) (b : k < 64) : IntKind.u64.wrap (2 ^ k.toNat) = oneI k := by
  have h := oneI_isSet k
  unfold IsSet top at h
  rw [oneI_in a b] at h
  rw [oneI_in a b, IntKind.wrap_u64, Int.emod_eq_of_lt h.1 h.2]

theorem oneI_out {k : Int} (h : ¬ (0 ≤ k ∧ k < 64)) : oneI k = 0 := by simp [oneI, oneN, h]

theorem wrap_dbl {j : Nat} (b : (j : Int) < 63) : IntKind.u64.wrap (oneI j * 2) = oneI ((j + 1 : Nat) : Int) := by
  have h := oneI_isSet ((j + 1 : Nat) : Int)
  have e : oneI ((j + 1 : Nat) : Int) = oneI j * 2 := by
    rw [oneI_in (by omega) (by omega), oneI_in (by omega) (by omega)]
    simp [Int.pow_succ]
  unfold IsSet top at h
  rw [e] at h
  rw [e, IntKind.wrap_u64, Int.emod_eq_of_lt h.1 h.2]

theorem div_isSet {s : Int} (h : IsSet s) (j : Nat) : IsSet (s / 2 ^ j) := by
  have hp : (0 : Int) < 2 ^ j := Int.pow_pos (by decide)
  have h0 : 0 ≤ s / 2 ^ j := Int.ediv_nonneg h.1 (by omega)
  have h1 : s / 2 ^ j ≤ s := Int.ediv_le_self _ h.1
  unfold IsSet at *
  omega

theorem wrap_half {s : Int} (h : IsSet s) (j : Nat) : IntKind.u64.wrap ((s / 2 ^ j).tdiv 2) = s / 2 ^ (j + 1) := by
  have h1 := div_isSet h j
  have h2 := div_isSet h (j + 1)
  rw [Int.tdiv_eq_ediv_of_nonneg h1.1, Int.ediv_ediv_of_nonneg (Int.pow_nonneg (by decide)), ← Int.pow_succ]
  unfold IsSet top at h2
  rw [IntKind.wrap_u64, Int.emod_eq_of_lt h2.1 h2.2]

theorem tmod_two {s : Int} (h : IsSet s) (j : Nat) : (s / 2 ^ j).tmod 2 = s / 2 ^ j % 2 :=
  Int.tmod_eq_emod_of_nonneg (div_isSet h j).1

theorem hasB_end {s k : Int} (h : IsSet s) (a : 0 ≤ k) (b : k < 64) {j : Nat} (hj : k = j) : ((s / 2 ^ j).tmod 2 == 1) = hasB s k := by
  subst hj
  rw [tmod_two h, ← hasB_div h a b]
  simp

theorem wrap_set {s : Int} (h : IsSet s) : IntKind.u64.wrap s = s := by
  unfold IsSet top at h
  rw [IntKind.wrap_u64, Int.emod_eq_of_lt h.1 h.2]

theorem wrap_with {s k : Int} (h : IsSet s) (a : 0 ≤ k) (b : k < 64) (hk : hasB s k = false) : IntKind.u64.wrap (s + oneI k) = withI s k := by
  rw [← withI_add h a b hk, wrap_set (withI_isSet k h)]

theorem wrap_without {s k : Int} (h : IsSet s) (hk : hasB s k = true) : IntKind.u64.wrap (s - oneI k) = withoutI s k := by
  rw [← (withoutI_sub h hk).1, wrap_set (withoutI_isSet k h)]

theorem zero_isSet : IsSet 0 := by unfold IsSet top; omega

theorem ofI_isSet (l : List Int) {s : Int} (h : IsSet s) : IsSet (l.foldl withI s) := by
  induction l generalizing s with
  | nil => exact h
  | cons x r ih => exact ih (withI_isSet x h)

theorem ofI_take {l : List Int} {k : Nat} (hk : k < l.length) : ofI (l.take (k + 1)) = withI (ofI (l.take k)) (l.getD k 0) := by
  unfold ofI
  rw [List.take_succ_eq_append_getElem hk, List.foldl_append]
  simp [List.getD_eq_getElem?_getD, hk]

theorem ofI_take_isSet (l : List Int) (k : Nat) : IsSet (ofI (l.take k)) := ofI_isSet _ zero_isSet

theorem fullI_succ {k : Nat} (h : k < 64) : withI (fullI k) k = fullI ((k + 1 : Nat) : Int) := by
  have hp : 0 < 2 ^ k := Nat.pow_pos (by omega)
  have e0 : fullI (k : Int) = ((2 ^ k - 1 : Nat) : Int) := by
    unfold fullI
    by_cases h0 : k = 0
    · subst h0; simp
    · rw [if_neg (by omega), if_neg (by omega)]; simp
  have hb : hasB (fullI k) k = false := by
    rw [hasB_in (by omega) (by omega), e0]
    simp only [Int.toNat_natCast]
    rw [Nat.testBit_two_pow_sub_one]
    simp
  have hs : IsSet (fullI k) := by
    have := pow_lt h
    rw [e0]
    unfold IsSet top
    omega
  rw [withI_add hs (by omega) (by omega) hb, oneI, oneN_in (by omega) (by omega), e0]
  have e1 : 2 ^ (k + 1) = 2 * 2 ^ k := by rw [Nat.pow_succ]; omega
  unfold fullI
  by_cases h63 : k = 63
  · subst h63; simp
  · rw [if_neg (by omega), if_neg (by omega)]
    simp only [Int.toNat_natCast, e1]
    omega

theorem fullI_isSet (n : Int) : IsSet (fullI n) := by
  unfold fullI IsSet top
  split
  · omega
  · split
    · omega
    · have : 2 ^ n.toNat < 18446744073709551616 := pow_lt (by omega)
      omega

theorem fullI_wrap {n : Int} (a : 1 ≤ n) (b : n < 64) : IntKind.u64.wrap (IntKind.u64.wrap (2 ^ n.toNat) - 1) = fullI n := by
  have h1 := fullI_isSet n
  have hp : 0 < 2 ^ n.toNat := Nat.pow_pos (by omega)
  have e : IntKind.u64.wrap (2 ^ n.toNat) - 1 = fullI n := by
    rw [wrap_pow (by omega) b, oneI, oneN_in (by omega) b]
    unfold fullI
    rw [if_neg (by omega), if_neg (by omega)]
    omega
  rw [e, wrap_set h1]

theorem fullI_end {n : Int} {k : Nat} (h1 : k ≤ 64) (h2 : k = 64 ∨ n ≤ k) (h3 : (k : Int) ≤ n ∨ k = 0) : fullI k = fullI n := by
  unfold fullI
  by_cases h0 : k = 0
  · subst h0
    rw [if_pos (by omega), if_pos (by omega)]
  · by_cases h64 : k = 64
    · subst h64
      rw [if_neg (by omega), if_pos (by omega), if_neg (by omega), if_pos (by omega)]
    · rw [show n = (k : Int) by omega]

end Go.Proofs.YtcmjneabcdpmoaaDoor.SetsMath

namespace Go.Proofs.YtcmjneabcdpmoaaDoor.SetsMath

def numsN (x k : Nat) : List Nat := (List.range k).filter (fun i => x.testBit i)
def numsI (s : Int) (k : Nat) : List Int := (numsN s.toNat k).map (fun (n : Nat) => (n : Int))
def orI (s t : Int) : Int := ((s.toNat ||| t.toNat : Nat) : Int)
def meetI (s t : Int) : Int := ((s.toNat &&& t.toNat : Nat) : Int)
def minusI (s t : Int) : Int := ((s.toNat &&& (18446744073709551615 - t.toNat) : Nat) : Int)
def maskI (x : Int) (k : Nat) : Int := ((x.toNat % 2 ^ k : Nat) : Int)
def lowI (s : Int) : Int := (Lib.ctz 64 s.toNat : Nat)

theorem two64 : (2 : Nat) ^ 64 = 18446744073709551616 := by decide

theorem testBit_big {x : Nat} (h : x < 18446744073709551616) {i : Nat} (hi : 64 ≤ i) : x.testBit i = false :=
  Nat.testBit_lt_two_pow (Nat.lt_of_lt_of_le h (by rw [← two64]; exact Nat.pow_le_pow_right (by omega) hi))

theorem testBit_not {x : Nat} (h : x < 18446744073709551616) (i : Nat) : (18446744073709551615 - x).testBit i = (decide (i < 64) && !x.testBit i) := by
  have := Nat.testBit_two_pow_sub_succ (n := 64) (x := x) (by rw [two64]; exact h) i
  rw [← this]
  congr 1
  omega

theorem orI_isSet {s t : Int} (hs : IsSet s) (ht : IsSet t) : IsSet (orI s t) := by
  have h1 : s.toNat ||| t.toNat < 2 ^ 64 := Nat.or_lt_two_pow (by rw [two64]; exact toNat_lt hs) (by rw [two64]; exact toNat_lt ht)
  rw [two64] at h1
  unfold IsSet orI top
  omega

theorem meetI_isSet {s t : Int} (hs : IsSet s) : IsSet (meetI s t) := by
  have h1 : s.toNat &&& t.toNat ≤ s.toNat := Nat.and_le_left
  have := toNat_lt hs
  unfold IsSet meetI top
  omega

theorem minusI_isSet {s t : Int} (hs : IsSet s) : IsSet (minusI s t) := by
  have h1 : s.toNat &&& (18446744073709551615 - t.toNat) ≤ s.toNat := Nat.and_le_left
  have := toNat_lt hs
  unfold IsSet minusI top
  omega

theorem maskI_isSet {s : Int} (k : Nat) (hs : IsSet s) : IsSet (maskI s k) := by
  have h1 : s.toNat % 2 ^ k ≤ s.toNat := Nat.mod_le _ _
  have := toNat_lt hs
  unfold IsSet maskI top
  omega

theorem hasB_nat (s : Int) {j : Nat} (h : j < 64) : hasB s j = s.toNat.testBit j := by
  rw [hasB_in (by omega) (by omega)]; simp

theorem ext_set {a b : Int} (ha : IsSet a) (hb : IsSet b) (h : ∀ j : Nat, j < 64 → hasB a j = hasB b j) : a = b := by
  have e : a.toNat = b.toNat := by
    apply Nat.eq_of_testBit_eq
    intro i
    by_cases hi : i < 64
    · have := h i hi
      rwa [hasB_nat _ hi, hasB_nat _ hi] at this
    · rw [testBit_big (toNat_lt ha) (by omega), testBit_big (toNat_lt hb) (by omega)]
  unfold IsSet at ha hb
  omega

theorem hasB_orI (s t : Int) {j : Nat} (h : j < 64) : hasB (orI s t) j = (hasB s j || hasB t j) := by
  rw [hasB_nat _ h, hasB_nat _ h, hasB_nat _ h]
  simp [orI]

theorem hasB_meetI (s t : Int) {j : Nat} (h : j < 64) : hasB (meetI s t) j = (hasB s j && hasB t j) := by
  rw [hasB_nat _ h, hasB_nat _ h, hasB_nat _ h]
  simp [meetI]

theorem hasB_minusI (s : Int) {t : Int} (ht : IsSet t) {j : Nat} (h : j < 64) : hasB (minusI s t) j = (hasB s j && !hasB t j) := by
  rw [hasB_nat _ h, hasB_nat _ h, hasB_nat _ h]
  simp [minusI, testBit_not (toNat_lt ht), h]

theorem hasB_maskI (s : Int) (k : Nat) {j : Nat} (h : j < 64) : hasB (maskI s k) j = (decide (j < k) && hasB s j) := by
  rw [hasB_nat _ h, hasB_nat _ h, maskI, Int.toNat_natCast, Nat.testBit_mod_two_pow]

theorem hasB_withI (s : Int) {k j : Nat} (hk : k < 64) (h : j < 64) : hasB (withI s k) j = (hasB s j || decide (k = j)) := by
  rw [hasB_nat _ h, hasB_nat _ h, withI, oneN_in (by omega) (by omega)]
  simp [Nat.testBit_two_pow]

theorem hasB_withoutI (s : Int) {k j : Nat} (hk : k < 64) (h : j < 64) : hasB (withoutI s k) j = (hasB s j && !decide (k = j)) := by
  rw [hasB_nat _ h, hasB_nat _ h, withoutI, oneN_in (by omega) (by omega)]
  simp [testBit_not (pow_lt hk), Nat.testBit_two_pow, h]

theorem maskI_zero (s : Int) : maskI s 0 = 0 := by simp [maskI, Nat.mod_one]

theorem maskI_all {s : Int} (hs : IsSet s) : maskI s 64 = s := by
  have := toNat_lt hs
  unfold IsSet at hs
  unfold maskI
  rw [two64, Nat.mod_eq_of_lt this]
  omega

theorem mask_yes {s : Int} (hs : IsSet s) {k : Nat} (hk : k < 64) (h : hasB s k = true) : withI (maskI s k) k = maskI s (k + 1) := by
  refine ext_set (withI_isSet _ (maskI_isSet k hs)) (maskI_isSet _ hs) fun j hj => ?_
  rw [hasB_withI _ hk hj, hasB_maskI _ _ hj, hasB_maskI _ _ hj]
  by_cases e : k = j
  · subst e; simp [h]
  · have : (j < k + 1) = (j < k) := by simp; omega
    simp [e, this]

theorem mask_no {s : Int} (hs : IsSet s) {k : Nat} (h : hasB s k = false) : maskI s k = maskI s (k + 1) := by
  refine ext_set (maskI_isSet _ hs) (maskI_isSet _ hs) fun j hj => ?_
  rw [hasB_maskI _ _ hj, hasB_maskI _ _ hj]
  by_cases e : k = j
  · subst e; simp [h]
  · have : (j < k + 1) = (j < k) := by simp; omega
    simp [this]

theorem numsI_zero (s : Int) : numsI s 0 = [] := rfl

theorem numsI_yes {s : Int} {k : Nat} (hk : k < 64) (h : hasB s k = true) : numsI s (k + 1) = numsI s k ++ [(k : Int)] := by
  rw [hasB_nat _ hk] at h
  simp [numsI, numsN, List.range_succ, List.filter_append, h]

theorem numsI_no {s : Int} {k : Nat} (hk : k < 64) (h : hasB s k = false) : numsI s (k + 1) = numsI s k := by
  rw [hasB_nat _ hk] at h
  simp [numsI, numsN, List.range_succ, List.filter_append, h]

theorem numsI_le (s : Int) (k : Nat) : (numsI s k).length ≤ k := by
  unfold numsI numsN
  rw [List.length_map]
  have := List.length_filter_le (fun i => s.toNat.testBit i) (List.range k)
  simpa using this

theorem numsI_bound {s : Int} {k : Nat} {z : Int} (h : z ∈ numsI s k) : 0 ≤ z ∧ z < k ∧ hasB s z = true ∨ 64 ≤ z := by
  unfold numsI numsN at h
  obtain ⟨n, hn, rfl⟩ := List.mem_map.1 h
  obtain ⟨h1, h2⟩ := List.mem_filter.1 hn
  have h1 := List.mem_range.1 h1
  by_cases h64 : n < 64
  · left
    exact ⟨by omega, by omega, by rw [hasB_nat _ h64]; exact h2⟩
  · right; omega

theorem fold_with {s t : Int} (hs : IsSet s) (ht : IsSet t) (k : Nat) (hk : k ≤ 64) : (numsI t k).foldl withI s = orI s (maskI t k) := by
  induction k with
  | zero =>
    rw [maskI_zero]
    unfold IsSet at hs
    simp [numsI_zero, orI]
    omega
  | succ k ih =>
    have ih := ih (by omega)
    have hm := maskI_isSet k ht
    cases hb : hasB t k
    · rw [numsI_no (by omega) hb, ih, ← mask_no ht hb]
    · rw [numsI_yes (by omega) hb, List.foldl_append, ih, ← mask_yes ht (by omega) hb]
      show withI (orI s (maskI t k)) k = _
      refine ext_set (withI_isSet _ (orI_isSet hs hm)) (orI_isSet hs (withI_isSet _ hm)) fun j hj => ?_
      rw [hasB_withI _ (by omega) hj, hasB_orI _ _ hj, hasB_orI _ _ hj, hasB_withI _ (by omega) hj, Bool.or_assoc]

theorem fold_all {s t : Int} (hs : IsSet s) (ht : IsSet t) : (numsI t 64).foldl withI s = orI s t := by
  rw [fold_with hs ht 64 (by omega), maskI_all ht]

theorem fold_isSet {s t : Int} (hs : IsSet s) (k : Nat) : IsSet (((numsI t 64).take k).foldl withI s) := ofI_isSet _ hs

theorem bits_or2 {s t : Int} (hs : IsSet s) (ht : IsSet t) : bits .or .u64 s t = orI s t := by
  unfold IsSet top at hs ht
  rw [u64_or _ _ hs.1 hs.2 ht.1 ht.2]; rfl

theorem bits_and2 {s t : Int} (hs : IsSet s) (ht : IsSet t) : bits .and .u64 s t = meetI s t := by
  unfold IsSet top at hs ht
  rw [u64_and _ _ hs.1 hs.2 ht.1 ht.2]; rfl

theorem bits_andNot2 {s t : Int} (hs : IsSet s) (ht : IsSet t) : bits .andNot .u64 s t = minusI s t := by
  unfold IsSet top at hs ht
  rw [u64_andNot _ _ hs.1 hs.2 ht.1 ht.2]; rfl

/-- The union of a list of sets. -/
def allI (l : List Int) : Int := l.foldl orI 0

theorem allI_isSet {l : List Int} (h : ∀ x ∈ l, IsSet x) : IsSet (allI l) := by
  unfold allI
  have : ∀ s, IsSet s → IsSet (l.foldl orI s) := by
    induction l with
    | nil => exact fun s hs => hs
    | cons x r ih => exact fun s hs => ih (fun y hy => h y (List.mem_cons_of_mem _ hy)) _ (orI_isSet hs (h x (List.mem_cons_self)))
  exact this 0 zero_isSet

theorem allI_take {l : List Int} {k : Nat} (hk : k < l.length) : allI (l.take (k + 1)) = orI (allI (l.take k)) (l.getD k 0) := by
  unfold allI
  rw [List.take_succ_eq_append_getElem hk, List.foldl_append]
  simp [List.getD_eq_getElem?_getD, hk]

end Go.Proofs.YtcmjneabcdpmoaaDoor.SetsMath

namespace Go.Proofs.YtcmjneabcdpmoaaDoor.SetsMath

theorem range_add (a b : Nat) : List.range (a + b) = List.range a ++ (List.range b).map (a + ·) := by
  induction b with
  | zero => simp
  | succ b ih => rw [← Nat.add_assoc, List.range_succ, ih, List.range_succ]; simp

theorem numsN_add (x a b : Nat) : numsN x (a + b) = numsN x a ++ (numsN (x / 2 ^ a) b).map (a + ·) := by
  unfold numsN
  rw [range_add, List.filter_append, List.filter_map]
  congr 2
  apply List.filter_congr
  intro i _
  show x.testBit (a + i) = (x / 2 ^ a).testBit i
  rw [Nat.testBit_div_two_pow, Nat.add_comm]

theorem numsN_mod (x a : Nat) : numsN (x % 2 ^ a) a = numsN x a := by
  unfold numsN
  apply List.filter_congr
  intro i hi
  have := List.mem_range.1 hi
  rw [Nat.testBit_mod_two_pow]
  simp [this]

def cnt (x k : Nat) : Nat := (numsN x k).length

theorem cnt_byte (x k : Nat) : cnt x (8 + k) = cnt (x % 256) 8 + cnt (x / 256) k := by
  unfold cnt
  rw [numsN_add, List.length_append, List.length_map]
  have := numsN_mod x 8
  simp only [Nat.reducePow] at this ⊢
  rw [this]

/-- Bytes, the lowest first, as one number. -/
def val : List Nat → Nat
  | [] => 0
  | c :: r => c + 256 * val r

theorem cnt_val : ∀ (cs : List Nat), (∀ c ∈ cs, c < 256) → cnt (val cs) (8 * cs.length) = (cs.map (fun c => cnt c 8)).sum
  | [], _ => by simp [cnt, numsN, val]
  | c :: r, h => by
    have hc : c < 256 := h c List.mem_cons_self
    have ih := cnt_val r (fun y hy => h y (List.mem_cons_of_mem _ hy))
    have e : 8 * (c :: r).length = 8 + 8 * r.length := by simp; omega
    have e1 : val (c :: r) % 256 = c := by simp only [val]; omega
    have e2 : val (c :: r) / 256 = val r := by simp only [val]; omega
    rw [e, cnt_byte, e1, e2, ih]
    simp

theorem and_split (a b : Nat) : a &&& b = (a % 256 &&& b % 256) + 256 * (a / 256 &&& b / 256) := by
  have h1 : (a &&& b) % 2 ^ 8 = a % 2 ^ 8 &&& b % 2 ^ 8 := Nat.and_mod_two_pow
  have h2 : (a &&& b) / 2 ^ 8 = a / 2 ^ 8 &&& b / 2 ^ 8 := Nat.and_div_two_pow
  simp only [Nat.reducePow] at h1 h2
  rw [← h1, ← h2]
  omega

def g1 (c : Nat) : Nat := (c / 2 &&& 85) + (c &&& 85)
def g2 (c : Nat) : Nat := (c / 4 &&& 51) + (c &&& 51)
def g3 (c : Nat) : Nat := (c / 16 + c) % 16

theorem tab1 : ∀ c, c < 256 → ∀ b, b < 2 → (c / 2 + 128 * b) &&& 85 = c / 2 &&& 85 := by decide +kernel
theorem tab2 : ∀ c, c < 256 → ∀ b, b < 4 → (c / 4 + 64 * b) &&& 51 = c / 4 &&& 51 := by decide +kernel
theorem tab3 : ∀ c, c < 256 → g1 c < 256 ∧ g2 (g1 c) / 16 ≤ 4 ∧ g2 (g1 c) % 16 ≤ 4 ∧ g2 (g1 c) < 256 ∧ g3 (g2 (g1 c)) = cnt c 8 ∧ cnt c 8 ≤ 8 := by decide +kernel

def m1 (n : Nat) : Nat := val (List.replicate n 85)
def m2 (n : Nat) : Nat := val (List.replicate n 51)
def m3 (n : Nat) : Nat := val (List.replicate n 15)

theorem stage1 : ∀ (cs : List Nat), (∀ c ∈ cs, c < 256) → (val cs / 2 &&& m1 cs.length) + (val cs &&& m1 cs.length) = val (cs.map g1)
  | [], _ => by simp [val]
  | c :: r, h => by
    have hc : c < 256 := h c List.mem_cons_self
    have ih := stage1 r (fun y hy => h y (List.mem_cons_of_mem _ hy))
    have em : m1 (c :: r).length = 85 + 256 * m1 r.length := by simp [m1, val, List.replicate_succ]
    have ev : val (c :: r) = c + 256 * val r := rfl
    rw [em, ev, and_split ((c + 256 * val r) / 2), and_split (c + 256 * val r)]
    have e1 : (c + 256 * val r) / 2 % 256 = c / 2 + 128 * (val r % 2) := by omega
    have e2 : (c + 256 * val r) / 2 / 256 = val r / 2 := by omega
    have e3 : (85 + 256 * m1 r.length) % 256 = 85 := by omega
    have e4 : (85 + 256 * m1 r.length) / 256 = m1 r.length := by omega
    have e5 : (c + 256 * val r) % 256 = c := by omega
    have e6 : (c + 256 * val r) / 256 = val r := by omega
    rw [e1, e2, e3, e4, e5, e6, tab1 c hc _ (Nat.mod_lt _ (by omega))]
    show _ = g1 c + 256 * val (r.map g1)
    rw [← ih]
    unfold g1
    omega

theorem stage2 : ∀ (cs : List Nat), (∀ c ∈ cs, c < 256) → (val cs / 4 &&& m2 cs.length) + (val cs &&& m2 cs.length) = val (cs.map g2)
  | [], _ => by simp [val]
  | c :: r, h => by
    have hc : c < 256 := h c List.mem_cons_self
    have ih := stage2 r (fun y hy => h y (List.mem_cons_of_mem _ hy))
    have em : m2 (c :: r).length = 51 + 256 * m2 r.length := by simp [m2, val, List.replicate_succ]
    have ev : val (c :: r) = c + 256 * val r := rfl
    rw [em, ev, and_split ((c + 256 * val r) / 4), and_split (c + 256 * val r)]
    have e1 : (c + 256 * val r) / 4 % 256 = c / 4 + 64 * (val r % 4) := by omega
    have e2 : (c + 256 * val r) / 4 / 256 = val r / 4 := by omega
    have e3 : (51 + 256 * m2 r.length) % 256 = 51 := by omega
    have e4 : (51 + 256 * m2 r.length) / 256 = m2 r.length := by omega
    have e5 : (c + 256 * val r) % 256 = c := by omega
    have e6 : (c + 256 * val r) / 256 = val r := by omega
    rw [e1, e2, e3, e4, e5, e6, tab2 c hc _ (Nat.mod_lt _ (by omega))]
    show _ = g2 c + 256 * val (r.map g2)
    rw [← ih]
    unfold g2
    omega

theorem val_low : ∀ (cs : List Nat), (∀ c ∈ cs, c % 16 ≤ 4) → val cs % 16 ≤ 4
  | [], _ => by simp [val]
  | c :: r, h => by
    have := h c List.mem_cons_self
    simp only [val]
    omega

theorem stage3 : ∀ (cs : List Nat), (∀ c ∈ cs, c < 256 ∧ c / 16 ≤ 4 ∧ c % 16 ≤ 4) → (val cs / 16 + val cs) &&& m3 cs.length = val (cs.map g3)
  | [], _ => by simp [val, m3]
  | c :: r, h => by
    have hc := h c List.mem_cons_self
    have hr : ∀ y ∈ r, y < 256 ∧ y / 16 ≤ 4 ∧ y % 16 ≤ 4 := fun y hy => h y (List.mem_cons_of_mem _ hy)
    have ih := stage3 r hr
    have hv := val_low r (fun y hy => (hr y hy).2.2)
    have em : m3 (c :: r).length = 15 + 256 * m3 r.length := by simp [m3, val, List.replicate_succ]
    have ev : val (c :: r) = c + 256 * val r := rfl
    rw [em, ev, and_split]
    have e1 : ((c + 256 * val r) / 16 + (c + 256 * val r)) % 256 = c / 16 + c + 16 * (val r % 16) := by omega
    have e2 : ((c + 256 * val r) / 16 + (c + 256 * val r)) / 256 = val r / 16 + val r := by omega
    have e3 : (15 + 256 * m3 r.length) % 256 = 15 := by omega
    have e4 : (15 + 256 * m3 r.length) / 256 = m3 r.length := by omega
    have e5 : (c / 16 + c + 16 * (val r % 16)) &&& 15 = g3 c := by
      rw [nat_mask4]
      unfold g3
      omega
    rw [e1, e2, e3, e4, e5, ih]
    rfl

theorem val_lt : ∀ (cs : List Nat) (B : Nat), (∀ c ∈ cs, c ≤ B) → 255 * val cs + B ≤ B * 256 ^ cs.length
  | [], B, _ => by simp [val]
  | c :: r, B, h => by
    have hc := h c List.mem_cons_self
    have ih := val_lt r B (fun y hy => h y (List.mem_cons_of_mem _ hy))
    have e : B * 256 ^ (c :: r).length = 256 * (B * 256 ^ r.length) := by
      rw [List.length_cons, Nat.pow_succ, ← Nat.mul_assoc, Nat.mul_comm]
    rw [e]
    simp only [val]
    omega

theorem bytes_of (x : Nat) (hx : x < 18446744073709551616) : ∃ c0 c1 c2 c3 c4 c5 c6 c7, x = val [c0, c1, c2, c3, c4, c5, c6, c7] ∧ ∀ c ∈ [c0, c1, c2, c3, c4, c5, c6, c7], c < 256 := by
  refine ⟨x % 256, x / 256 % 256, x / 65536 % 256, x / 16777216 % 256, x / 4294967296 % 256, x / 1099511627776 % 256, x / 281474976710656 % 256, x / 72057594037927936, ?_, ?_⟩
  · simp only [val]; omega
  · intro c hc
    simp only [List.mem_cons, List.not_mem_nil, or_false] at hc
    rcases hc with h | h | h | h | h | h | h | h <;> omega

theorem mask1 : m1 8 = 6148914691236517205 := by decide
theorem mask2 : m2 8 = 3689348814741910323 := by decide
theorem mask3 : m3 8 = 1085102592571150095 := by decide

set_option maxHeartbeats 2000000 in
/-- The library's sum of bits. -/
theorem ones (x : Nat) (hx : x < 18446744073709551616) :
    let a := (x / 2 &&& 6148914691236517205) + (x &&& 6148914691236517205)
    let b := (a / 4 &&& 3689348814741910323) + (a &&& 3689348814741910323)
    let c := (b / 16 + b) &&& 1085102592571150095
    let d := c + c / 256
    let e := d + d / 65536
    let f := e + e / 4294967296
    f % 128 = cnt x 64 ∧ a < 18446744073709551616 ∧ b < 18446744073709551616 ∧ b / 16 + b < 18446744073709551616 ∧ d < 18446744073709551616 ∧ e < 18446744073709551616 ∧ f < 9223372036854775808 := by
  obtain ⟨c0, c1, c2, c3, c4, c5, c6, c7, rfl, hc⟩ := bytes_of x hx
  generalize hcs : [c0, c1, c2, c3, c4, c5, c6, c7] = cs at hc
  have hlen : cs.length = 8 := by rw [← hcs]; rfl
  have s1 := stage1 cs hc
  have hg1 : ∀ c ∈ cs.map g1, c < 256 := by
    intro c h
    obtain ⟨y, hy, rfl⟩ := List.mem_map.1 h
    exact (tab3 y (hc y hy)).1
  have s2 := stage2 (cs.map g1) hg1
  have hg2 : ∀ c ∈ (cs.map g1).map g2, c < 256 ∧ c / 16 ≤ 4 ∧ c % 16 ≤ 4 := by
    intro c h
    obtain ⟨y, hy, rfl⟩ := List.mem_map.1 h
    obtain ⟨z, hz, rfl⟩ := List.mem_map.1 hy
    have := tab3 z (hc z hz)
    exact ⟨this.2.2.2.1, this.2.1, this.2.2.1⟩
  have s3 := stage3 ((cs.map g1).map g2) hg2
  have v1 := val_lt (cs.map g1) 255 (fun c h => by have := hg1 c h; omega)
  have v2 := val_lt ((cs.map g1).map g2) 68 (fun c h => by have := hg2 c h; omega)
  simp only [List.length_map, hlen, Nat.reducePow, Nat.reduceMul] at v1 v2
  have hcnt := cnt_val cs hc
  simp only [List.length_map, hlen, mask1, mask2, mask3] at s1 s2 s3 hcnt
  intro a b c d e f
  have ea : a = val (cs.map g1) := s1
  have eb : b = val ((cs.map g1).map g2) := by show (a / 4 &&& _) + (a &&& _) = _; rw [ea]; exact s2
  rw [← ea] at v1
  rw [← eb] at v2
  have ec : c = val (((cs.map g1).map g2).map g3) := by show (b / 16 + b) &&& _ = _; rw [eb]; exact s3
  subst hcs
  have t0 := tab3 c0 (hc _ (by simp)); have t1 := tab3 c1 (hc _ (by simp)); have t2 := tab3 c2 (hc _ (by simp)); have t3 := tab3 c3 (hc _ (by simp))
  have t4 := tab3 c4 (hc _ (by simp)); have t5 := tab3 c5 (hc _ (by simp)); have t6 := tab3 c6 (hc _ (by simp)); have t7 := tab3 c7 (hc _ (by simp))
  simp only [List.map_cons, List.map_nil, val] at ea eb ec
  simp only [List.map_cons, List.map_nil, List.sum_cons, List.sum_nil] at hcnt
  rw [t0.2.2.2.2.1, t1.2.2.2.2.1, t2.2.2.2.2.1, t3.2.2.2.2.1, t4.2.2.2.2.1, t5.2.2.2.2.1, t6.2.2.2.2.1, t7.2.2.2.2.1] at ec
  have ed : d = c + c / 256 := rfl
  have ee : e = d + d / 65536 := rfl
  have ef : f = e + e / 4294967296 := rfl
  have hcnt' : cnt (val [c0, c1, c2, c3, c4, c5, c6, c7]) 64 = _ := hcnt
  rw [hcnt']
  clear_value a b c d e f
  generalize cnt c0 8 = p0 at *; generalize cnt c1 8 = p1 at *; generalize cnt c2 8 = p2 at *; generalize cnt c3 8 = p3 at *
  generalize cnt c4 8 = p4 at *; generalize cnt c5 8 = p5 at *; generalize cnt c6 8 = p6 at *; generalize cnt c7 8 = p7 at *
  have q0 : c / 256 = p1 + 256 * (p2 + 256 * (p3 + 256 * (p4 + 256 * (p5 + 256 * (p6 + 256 * p7))))) := by omega
  have q1 : d = (p0 + p1) + 256 * ((p1 + p2) + 256 * ((p2 + p3) + 256 * ((p3 + p4) + 256 * ((p4 + p5) + 256 * ((p5 + p6) + 256 * ((p6 + p7) + 256 * p7)))))) := by omega
  have q2 : d / 65536 = (p2 + p3) + 256 * ((p3 + p4) + 256 * ((p4 + p5) + 256 * ((p5 + p6) + 256 * ((p6 + p7) + 256 * p7)))) := by
    clear ea eb ec ed ee ef q0; omega
  have q3 : e = (p0 + p1 + p2 + p3) + 256 * ((p1 + p2 + p3 + p4) + 256 * ((p2 + p3 + p4 + p5) + 256 * ((p3 + p4 + p5 + p6) + 256 * ((p4 + p5 + p6 + p7) + 256 * ((p5 + p6 + p7) + 256 * ((p6 + p7) + 256 * p7)))))) := by
    rw [ee, q2, q1]; clear ea eb ec ed ee ef q0 q1 q2; omega
  have q4 : e / 4294967296 = (p4 + p5 + p6 + p7) + 256 * ((p5 + p6 + p7) + 256 * ((p6 + p7) + 256 * p7)) := by
    clear ea eb ec ed ee ef q0 q1 q2; omega
  have q5 : f = (p0 + p1 + p2 + p3 + p4 + p5 + p6 + p7) + 256 * ((p1 + p2 + p3 + p4 + p5 + p6 + p7) + 256 * ((p2 + p3 + p4 + p5 + p6 + p7) + 256 * ((p3 + p4 + p5 + p6 + p7) + 256 * ((p4 + p5 + p6 + p7) + 256 * ((p5 + p6 + p7) + 256 * ((p6 + p7) + 256 * p7)))))) := by
    rw [ef, q4, q3]; clear ea eb ec ed ee ef q0 q1 q2 q3 q4; omega
  refine ⟨?_, ?_, ?_, ?_, ?_, ?_, ?_⟩
  · clear ea eb ec ed ee ef q0 q1 q2 q3 q4 s1 s2 s3; omega
  · clear ea eb ec ed ee ef q0 q1 q2 q3 q4 q5 s1 s2 s3 t0 t1 t2 t3 t4 t5 t6 t7; omega
  · clear ea eb ec ed ee ef q0 q1 q2 q3 q4 q5 s1 s2 s3 t0 t1 t2 t3 t4 t5 t6 t7; omega
  · clear ea eb ec ed ee ef q0 q1 q2 q3 q4 q5 s1 s2 s3 t0 t1 t2 t3 t4 t5 t6 t7; omega
  · clear ea eb ec ed ee ef q0 q2 q3 q4 q5 s1 s2 s3; omega
  · clear ea eb ec ed ee ef q0 q1 q2 q4 q5 s1 s2 s3; omega
  · clear ea eb ec ed ee ef q0 q1 q2 q3 q4 s1 s2 s3; omega

theorem ones' (x : Nat) (hx : x < 18446744073709551616) : ∃ a b c d e f : Nat,
    (x / 2 &&& 6148914691236517205) + (x &&& 6148914691236517205) = a ∧ (a / 4 &&& 3689348814741910323) + (a &&& 3689348814741910323) = b ∧ (b / 16 + b) &&& 1085102592571150095 = c ∧
    c + c / 256 = d ∧ d + d / 65536 = e ∧ e + e / 4294967296 = f ∧
    f % 128 = cnt x 64 ∧ a < 18446744073709551616 ∧ b < 18446744073709551616 ∧ b / 16 + b < 18446744073709551616 ∧ d < 18446744073709551616 ∧ e < 18446744073709551616 ∧ f < 9223372036854775808 :=
  ⟨_, _, _, _, _, _, rfl, rfl, rfl, rfl, rfl, rfl, ones x hx⟩

theorem numsN_none {x a : Nat} (h : ∀ j, j < a → x.testBit j = false) : numsN x a = [] := by
  unfold numsN
  rw [List.filter_eq_nil_iff]
  intro i hi
  rw [h i (List.mem_range.1 hi)]
  simp

theorem numsN_low (c m : Nat) : numsN (2 ^ c * m) c = [] :=
  numsN_none fun j hj => by rw [Nat.testBit_two_pow_mul]; simp; omega

theorem numsN_odd {c m : Nat} (hc : c < 64) : numsN (2 ^ c * (2 * m + 1)) 64 = c :: numsN (2 ^ c * (2 * m)) 64 := by
  have hp : 0 < 2 ^ c := Nat.pow_pos (by omega)
  have e : 64 = c + (1 + (63 - c)) := by omega
  have e1 : numsN (2 * m + 1) 1 = [0] := by simp [numsN, List.range_succ]
  have e2 : numsN (2 * m) 1 = [] := by simp [numsN, List.range_succ]
  have d1 : (2 * m + 1) / 2 ^ 1 = m := by simp; omega
  have d2 : (2 * m) / 2 ^ 1 = m := by simp
  rw [e, numsN_add, numsN_add _ c, numsN_low, numsN_low, Nat.mul_div_cancel_left _ hp, Nat.mul_div_cancel_left _ hp, numsN_add _ 1, numsN_add _ 1, e1, e2, d1, d2]
  simp

theorem low_facts {s : Int} (hs : IsSet s) (h0 : ¬ s = 0) : ∃ c : Nat, lowI s = (c : Int) ∧ c < 64 ∧ hasB s c = true ∧ numsI s 64 = (c : Int) :: numsI (withoutI s c) 64 := by
  have hlt := toNat_lt hs
  have hpos : 0 < s.toNat := by unfold IsSet at hs; omega
  obtain ⟨m, hm, hc⟩ := Lib.ctzFrom_spec 64 s.toNat hpos (by rw [two64]; exact hlt)
  have hl : lowI s = (Lib.ctzFrom 64 s.toNat : Nat) := by
    unfold lowI Lib.ctz
    rw [if_neg (by omega)]
  generalize Lib.ctzFrom 64 s.toNat = c at *
  have hb : hasB s c = true := by
    rw [hasB_nat _ hc, hm, Nat.testBit_two_pow_mul]
    simp
  refine ⟨c, hl, hc, hb, ?_⟩
  have hw := (withoutI_sub hs hb).1
  have hn : (withoutI s c).toNat = 2 ^ c * (2 * m) := by
    rw [hw, oneI_in (by omega) (by omega)]
    have e : s = (s.toNat : Int) := by unfold IsSet at hs; omega
    rw [e, hm]
    have : ((2 ^ c * (2 * m + 1) : Nat) : Int) - 2 ^ ((c : Int).toNat) = ((2 ^ c * (2 * m) : Nat) : Int) := by
      have e2 : 2 ^ c * (2 * m + 1) = 2 ^ c * (2 * m) + 2 ^ c := by rw [Nat.mul_add, Nat.mul_one]
      rw [e2]
      simp
    rw [this]
    exact Int.toNat_natCast _
  unfold numsI
  rw [hn, hm, numsN_odd hc]
  rfl

theorem numsI_empty : numsI 0 64 = [] := by
  unfold numsI
  rw [show (0 : Int).toNat = 0 from rfl, numsN_none (fun j _ => Nat.zero_testBit j)]
  rfl

theorem lenI_pos {s : Int} (hs : IsSet s) : (0 < ((numsI s 64).length : Int)) = ¬ s = 0 := by
  by_cases h : s = 0
  · subst h; rw [numsI_empty]; simp
  · obtain ⟨c, _, _, _, e⟩ := low_facts hs h
    rw [e]; simp [h]

end Go.Proofs.YtcmjneabcdpmoaaDoor.SetsMath

namespace Go.Proofs.YtcmjneabcdpmoaaDoor.UsefulMath
open Go.Proofs.YtcmjneabcdpmoaaDoor.GramMath Go.Proofs.YtcmjneabcdpmoaaDoor.SetsMath

/-- A nonterminal that derives some row of tokens. -/
inductive Prod (rs : List R) : Int → Prop
  | mk (r : R) (hr : r ∈ rs) (h : ∀ x ∈ r.right, x < 0 → Prod rs (-1 - x)) : Prod rs r.left

/-- A nonterminal that rules lead to. -/
inductive Reach (rs : List R) (F : Int → Prop) : Int → Prop
  | base {k : Int} (h : F k) : Reach rs F k
  | step (r : R) (hr : r ∈ rs) (h : Reach rs F r.left) (x : Int) (hx : x ∈ r.right) (h0 : x < 0) : Reach rs F (-1 - x)

/-- Rules that keep to n nonterminals and t terminals. -/
def OkRs (t n : Nat) (rs : List R) : Prop := n ≤ 60 ∧ ∀ r ∈ rs, ruleK t n r = 0

theorem _root_.Go.Proofs.YtcmjneabcdpmoaaDoor.GramMath.GoodG.okRs {g : G} (h : GoodG g) : OkRs g.ts.length g.ns.length g.rs := ⟨by have := h.few; omega, h.each⟩

theorem OkRs.filter {t n : Nat} {rs : List R} (h : OkRs t n rs) (p : R → Bool) : OkRs t n (rs.filter p) := ⟨h.1, fun r hr => h.2 r (List.mem_filter.1 hr).1⟩

theorem OkRs.left {t n : Nat} {rs : List R} (h : OkRs t n rs) {r : R} (hr : r ∈ rs) : 0 ≤ r.left ∧ r.left < n ∧ r.left < 64 := by
  obtain ⟨_, a, b, _⟩ := ruleK_ok (h.2 r hr)
  have := h.1
  omega

theorem OkRs.sym {t n : Nat} {rs : List R} (h : OkRs t n rs) {r : R} (hr : r ∈ rs) {x : Int} (hx : x ∈ r.right) : -1 - x < n ∧ x < t := by
  obtain ⟨_, _, _, c⟩ := ruleK_ok (h.2 r hr)
  have := c x hx
  omega

theorem Prod.lt {t n : Nat} {rs : List R} (h : OkRs t n rs) {k : Int} (hk : Prod rs k) : 0 ≤ k ∧ k < n := by
  cases hk with
  | mk r hr _ => have := h.left hr; omega

theorem Reach.lt {t n : Nat} {rs : List R} (h : OkRs t n rs) {F : Int → Prop} (hF : ∀ k, F k → 0 ≤ k ∧ k < n) {k : Int} (hk : Reach rs F k) : 0 ≤ k ∧ k < n := by
  cases hk with
  | base h => exact hF _ h
  | step r hr _ x hx h0 => have := h.sym hr hx; omega

theorem Reach.mono {rs rs' : List R} {F F' : Int → Prop} (hr : ∀ r ∈ rs, r ∈ rs') (hF : ∀ k, F k → F' k) {k : Int} (h : Reach rs F k) : Reach rs' F' k := by
  induction h with
  | base h => exact .base (hF _ h)
  | step r hr' _ x hx h0 ih => exact .step r (hr r hr') ih x hx h0

theorem Prod.mono {rs rs' : List R} (hr : ∀ r ∈ rs, r ∈ rs') {k : Int} (h : Prod rs k) : Prod rs' k := by
  induction h with
  | mk r hr' _ ih => exact .mk r (hr r hr') ih

/-- The nonterminals of a right side. -/
def ntI (r : R) : Int := ofI (r.right.map (fun x => -1 - x))

theorem ntI_isSet (r : R) : IsSet (ntI r) := ofI_isSet _ zero_isSet

theorem hasB_range {s k : Int} (h : hasB s k = true) : 0 ≤ k ∧ k < 64 := by
  by_cases hk : 0 ≤ k ∧ k < 64
  · exact hk
  · rw [hasB_out hk] at h; cases h

theorem hasB_zero (k : Int) : hasB 0 k = false := by simp [hasB]

theorem hasB_with {s k j : Int} (hs : IsSet s) : hasB (withI s k) j = true ↔ hasB s j = true ∨ (k = j ∧ 0 ≤ k ∧ k < 64) := by
  by_cases hk : 0 ≤ k ∧ k < 64
  · by_cases hj : 0 ≤ j ∧ j < 64
    · obtain ⟨a, rfl⟩ : ∃ a : Nat, k = a := ⟨k.toNat, by omega⟩
      obtain ⟨b, rfl⟩ : ∃ b : Nat, j = b := ⟨j.toNat, by omega⟩
      rw [hasB_withI s (by omega) (by omega), Bool.or_eq_true, decide_eq_true_iff]
      constructor
      · rintro (h | h)
        · exact .inl h
        · exact .inr ⟨by omega, hk⟩
      · rintro (h | h)
        · exact .inl h
        · exact .inr (by omega)
    · rw [hasB_out hj, hasB_out hj]
      constructor
      · intro h; cases h
      · rintro (h | h)
        · exact h
        · obtain ⟨rfl, h1⟩ := h
          exact absurd h1 hj
  · rw [withI_out hs hk]
    constructor
    · exact .inl
    · rintro (h | h)
      · exact h
      · exact absurd h.2 hk

theorem hasB_fold (l : List Int) : ∀ {s j : Int}, IsSet s → (hasB (l.foldl withI s) j = true ↔ hasB s j = true ∨ (j ∈ l ∧ 0 ≤ j ∧ j < 64)) := by
  induction l with
  | nil => intro s j _; simp
  | cons x l ih =>
    intro s j hs
    rw [List.foldl_cons, ih (withI_isSet x hs), hasB_with hs, List.mem_cons]
    constructor
    · rintro ((h | ⟨rfl, h⟩) | ⟨h, h2⟩)
      · exact .inl h
      · exact .inr ⟨.inl rfl, h⟩
      · exact .inr ⟨.inr h, h2⟩
    · rintro (h | ⟨rfl | h, h2⟩)
      · exact .inl (.inl h)
      · exact .inl (.inr ⟨rfl, h2⟩)
      · exact .inr ⟨h, h2⟩

theorem hasB_ofI (l : List Int) {j : Int} : hasB (ofI l) j = true ↔ j ∈ l ∧ 0 ≤ j ∧ j < 64 := by
  unfold ofI
  rw [hasB_fold l zero_isSet, hasB_zero]
  simp

theorem hasB_ntI {r : R} {j : Int} : hasB (ntI r) j = true ↔ (∃ x ∈ r.right, -1 - x = j) ∧ 0 ≤ j ∧ j < 64 := by
  unfold ntI
  rw [hasB_ofI, List.mem_map]

theorem hasB_or {s t j : Int} : hasB (orI s t) j = true ↔ hasB s j = true ∨ hasB t j = true := by
  by_cases hj : 0 ≤ j ∧ j < 64
  · obtain ⟨b, rfl⟩ : ∃ b : Nat, j = b := ⟨j.toNat, by omega⟩
    rw [hasB_orI _ _ (by omega), Bool.or_eq_true]
  · rw [hasB_out hj, hasB_out hj, hasB_out hj]
    simp

theorem hasB_meet {s t j : Int} : hasB (meetI s t) j = true ↔ hasB s j = true ∧ hasB t j = true := by
  by_cases hj : 0 ≤ j ∧ j < 64
  · obtain ⟨b, rfl⟩ : ∃ b : Nat, j = b := ⟨j.toNat, by omega⟩
    rw [hasB_meetI _ _ (by omega), Bool.and_eq_true]
  · rw [hasB_out hj, hasB_out hj, hasB_out hj]
    simp

theorem ext_of {a b : Int} (ha : IsSet a) (hb : IsSet b) (h : ∀ j : Int, hasB a j = true ↔ hasB b j = true) : a = b :=
  ext_set ha hb (fun j _ => by rw [Bool.eq_iff_iff]; exact h j)

theorem minus_zero {s t : Int} (hs : IsSet s) (ht : IsSet t) : minusI s t = 0 ↔ ∀ j : Int, hasB s j = true → hasB t j = true := by
  constructor
  · intro h j hj
    have hr := hasB_range hj
    obtain ⟨b, rfl⟩ : ∃ b : Nat, j = b := ⟨j.toNat, by omega⟩
    have h1 : hasB (minusI s t) b = false := by rw [h, hasB_zero]
    rw [hasB_minusI s ht (by omega), hj] at h1
    simpa using h1
  · intro h
    refine ext_of (minusI_isSet hs) zero_isSet (fun j => ?_)
    rw [hasB_zero]
    constructor
    · intro hj
      have hr := hasB_range hj
      obtain ⟨b, rfl⟩ : ∃ b : Nat, j = b := ⟨j.toNat, by omega⟩
      rw [hasB_minusI s ht (by omega), Bool.and_eq_true] at hj
      rw [h _ hj.1] at hj
      exact hj.2
    · intro h; cases h

/-- Are all nonterminals of a rule's right side in a set? -/
def nin (s : Int) (r : R) : Bool := minusI (ntI r) s == 0

theorem nin_iff {t n : Nat} {rs : List R} (ho : OkRs t n rs) {r : R} (hr : r ∈ rs) {s : Int} (hs : IsSet s) : nin s r = true ↔ ∀ x ∈ r.right, x < 0 → hasB s (-1 - x) = true := by
  unfold nin
  rw [beq_iff_eq, minus_zero (ntI_isSet r) hs]
  have hn := ho.1
  constructor
  · intro h x hx h0
    have := ho.sym hr hx
    exact h _ (hasB_ntI.2 ⟨⟨x, hx, rfl⟩, by omega, by omega⟩)
  · intro h j hj
    obtain ⟨⟨x, hx, rfl⟩, h1, _⟩ := hasB_ntI.1 hj
    exact h x hx (by omega)

/-- What a rule adds to the productive ones, and to the reached ones. -/
def addP (s : Int) (r : R) : Int := if nin s r = true then ofI [r.left] else 0
def addR (s : Int) (r : R) : Int := if hasB s r.left = true then ntI r else 0

theorem addP_isSet (s : Int) (r : R) : IsSet (addP s r) := by
  unfold addP
  split
  · exact ofI_isSet _ zero_isSet
  · exact zero_isSet
theorem addR_isSet (s : Int) (r : R) : IsSet (addR s r) := by
  unfold addR
  split
  · exact ntI_isSet r
  · exact zero_isSet

/-- What a set grows to. -/
structure Grown (f : Int → R → Int) (rs : List R) (s0 S : Int) : Prop where
  isSet : IsSet S
  closed : ∀ r ∈ rs, orI S (f S r) = S
  least : ∀ P : Int → Prop, P s0 → (∀ s, ∀ r ∈ rs, IsSet s → P s → P (orI s (f s r))) → P S

theorem Grown.prod {t n : Nat} {rs : List R} (ho : OkRs t n rs) {S : Int} (h : Grown addP rs 0 S) (k : Int) : hasB S k = true ↔ Prod rs k := by
  constructor
  · refine h.least (fun s => ∀ k, hasB s k = true → Prod rs k) (fun k hk => by rw [hasB_zero] at hk; cases hk) (fun s r hr hs ih k hk => ?_) k
    rcases hasB_or.1 hk with hk | hk
    · exact ih k hk
    · unfold addP at hk
      split at hk
      · rename_i hn
        obtain ⟨h1, _⟩ := (hasB_ofI _).1 hk
        obtain rfl : k = r.left := by simpa using h1
        exact .mk r hr (fun x hx h0 => ih _ ((nin_iff ho hr hs).1 hn x hx h0))
      · rw [hasB_zero] at hk; cases hk
  · intro hk
    induction hk with
    | mk r hr _ ih =>
      have hl := ho.left hr
      have hc := h.closed r hr
      rw [← hc, hasB_or]
      right
      unfold addP
      rw [if_pos ((nin_iff ho hr h.isSet).2 ih), hasB_ofI]
      exact ⟨by simp, hl.1, hl.2.2⟩

theorem Grown.reach {t n : Nat} {rs : List R} (ho : OkRs t n rs) {s0 S : Int} (h : Grown addR rs s0 S) (k : Int) : hasB S k = true ↔ Reach rs (fun k => hasB s0 k = true) k := by
  constructor
  · refine h.least (fun s => ∀ k, hasB s k = true → Reach rs (fun k => hasB s0 k = true) k) (fun k hk => .base hk) (fun s r hr hs ih k hk => ?_) k
    rcases hasB_or.1 hk with hk | hk
    · exact ih k hk
    · unfold addR at hk
      split at hk
      · rename_i hn
        obtain ⟨⟨x, hx, rfl⟩, h1, _⟩ := hasB_ntI.1 hk
        exact .step r hr (ih _ hn) x hx (by omega)
      · rw [hasB_zero] at hk; cases hk
  · intro hk
    induction hk with
    | base hb => exact h.least (fun s => ∀ k, hasB s0 k = true → hasB s k = true) (fun _ h => h) (fun s r hr hs ih k hk => hasB_or.2 (.inl (ih k hk))) _ hb
    | step r hr _ x hx h0 ih =>
      have hl := ho.sym hr hx
      have hn := ho.1
      have hc := h.closed r hr
      rw [← hc, hasB_or]
      right
      unfold addR
      rw [if_pos ih, hasB_ntI]
      exact ⟨⟨x, hx, rfl⟩, by omega, by omega⟩

theorem Grown.prodEq {t n : Nat} {rs : List R} (ho : OkRs t n rs) {S S' : Int} (h : Grown addP rs 0 S) (h' : Grown addP rs 0 S') : S = S' :=
  ext_of h.isSet h'.isSet (fun j => by rw [h.prod ho, h'.prod ho])

open Classical in
/-- The set of the numbers below 64 that are so. -/
noncomputable def setI (P : Int → Prop) : Int := ofI (((List.range 64).map (fun n : Nat => (n : Int))).filter (fun k => decide (P k)))

theorem setI_isSet (P : Int → Prop) : IsSet (setI P) := ofI_isSet _ zero_isSet

theorem hasB_setI {P : Int → Prop} (hP : ∀ k, P k → 0 ≤ k ∧ k < 64) (k : Int) : hasB (setI P) k = true ↔ P k := by
  unfold setI
  rw [hasB_ofI, List.mem_filter, List.mem_map]
  constructor
  · rintro ⟨⟨_, h⟩, _⟩
    simpa using h
  · intro h
    have := hP k h
    exact ⟨⟨⟨k.toNat, List.mem_range.2 (by omega), by omega⟩, by simpa using h⟩, this⟩

theorem setI_eq {P : Int → Prop} (hP : ∀ k, P k → 0 ≤ k ∧ k < 64) {S : Int} (hS : IsSet S) (h : ∀ k, hasB S k = true ↔ P k) : S = setI P :=
  ext_of hS (setI_isSet P) (fun j => by rw [h, hasB_setI hP])

/-- The sets of a grammar. -/
noncomputable def prodI (g : G) : Int := setI (Prod g.rs)
noncomputable def reachI (g : G) : Int := setI (Reach g.rs (fun k => k = g.ax))
/-- Has a rule no nonterminals, left or right, but those of a set? -/
def rin (s : Int) (r : R) : Bool := minusI (withI (ntI r) r.left) s == 0
noncomputable def usefulI (g : G) : Int := setI (fun k => Prod g.rs k ∧ Reach (g.rs.filter (nin (prodI g))) (fun k => k = g.ax) k)

theorem rin_iff {t n : Nat} {rs : List R} (ho : OkRs t n rs) {r : R} (hr : r ∈ rs) {s : Int} (hs : IsSet s) : rin s r = true ↔ hasB s r.left = true ∧ ∀ x ∈ r.right, x < 0 → hasB s (-1 - x) = true := by
  have hl := ho.left hr
  unfold rin
  rw [beq_iff_eq, minus_zero (withI_isSet _ (ntI_isSet r)) hs]
  have hn := ho.1
  constructor
  · intro h
    refine ⟨h _ ((hasB_with (ntI_isSet r)).2 (.inr ⟨rfl, hl.1, hl.2.2⟩)), fun x hx h0 => ?_⟩
    have := ho.sym hr hx
    exact h _ ((hasB_with (ntI_isSet r)).2 (.inl (hasB_ntI.2 ⟨⟨x, hx, rfl⟩, by omega, by omega⟩)))
  · rintro ⟨h1, h2⟩ j hj
    rcases (hasB_with (ntI_isSet r)).1 hj with hj | ⟨rfl, _⟩
    · obtain ⟨⟨x, hx, rfl⟩, h3, _⟩ := hasB_ntI.1 hj
      exact h2 x hx (by omega)
    · exact h1

theorem prod_range {g : G} (h : GoodG g) : ∀ k, Prod g.rs k → 0 ≤ k ∧ k < 64 := fun k hk => by
  have := hk.lt h.okRs
  have := h.okRs.1
  omega

theorem hasB_prodI {g : G} (h : GoodG g) (k : Int) : hasB (prodI g) k = true ↔ Prod g.rs k := hasB_setI (prod_range h) k
theorem prodI_isSet (g : G) : IsSet (prodI g) := setI_isSet _

theorem prod_grown {g : G} (h : GoodG g) {S : Int} (hS : Grown addP g.rs 0 S) : S = prodI g := setI_eq (prod_range h) hS.isSet (hS.prod h.okRs)

theorem reach_range {g : G} (h : GoodG g) {rs : List R} (ho : OkRs g.ts.length g.ns.length rs) : ∀ k, Reach rs (fun k => k = g.ax) k → 0 ≤ k ∧ k < 64 := fun k hk => by
  have := hk.lt ho (fun k hk => by have := h.ax0; have := h.ax1; omega)
  have := ho.1
  omega

theorem ofI_one {k : Int} (a : 0 ≤ k) (b : k < 64) (j : Int) : hasB (ofI [k]) j = true ↔ j = k := by
  rw [hasB_ofI]
  constructor
  · rintro ⟨h, _⟩; simpa using h
  · rintro rfl; exact ⟨by simp, a, b⟩

theorem reach_grown {g : G} (h : GoodG g) {S : Int} (hS : Grown addR g.rs (ofI [g.ax]) S) : S = reachI g := by
  have ha := h.ax0
  have hb := h.ax1
  have hn := h.okRs.1
  refine setI_eq (reach_range h h.okRs) hS.isSet (fun k => ?_)
  rw [hS.reach h.okRs]
  exact ⟨Reach.mono (fun _ h => h) (fun k hk => (ofI_one ha (by omega) k).1 hk), Reach.mono (fun _ h => h) (fun k hk => (ofI_one ha (by omega) k).2 hk)⟩

theorem useful_grown {g : G} (h : GoodG g) {S : Int} (hS : Grown addR (g.rs.filter (rin (prodI g))) (meetI (prodI g) (ofI [g.ax])) S) : S = usefulI g := by
  have ha := h.ax0
  have hb := h.ax1
  have hn := h.okRs.1
  have ho := h.okRs
  have hp := prodI_isSet g
  refine setI_eq (fun k hk => prod_range h k hk.1) hS.isSet (fun k => ?_)
  rw [hS.reach (ho.filter _)]
  constructor
  · intro hk
    induction hk with
    | base hk =>
      obtain ⟨h1, h2⟩ := hasB_meet.1 hk
      exact ⟨(hasB_prodI h _).1 h1, .base ((ofI_one ha (by omega) _).1 h2)⟩
    | step r hr _ x hx h0 ih =>
      obtain ⟨hr1, hr2⟩ := List.mem_filter.1 hr
      obtain ⟨_, h2⟩ := (rin_iff ho hr1 hp).1 hr2
      exact ⟨(hasB_prodI h _).1 (h2 x hx h0), .step r (List.mem_filter.2 ⟨hr1, (nin_iff ho hr1 hp).2 h2⟩) ih.2 x hx h0⟩
  · rintro ⟨hk1, hk2⟩
    induction hk2 with
    | base hk =>
      subst hk
      exact .base (hasB_meet.2 ⟨(hasB_prodI h _).2 hk1, (ofI_one ha (by omega) _).2 rfl⟩)
    | step r hr _ x hx h0 ih =>
      obtain ⟨hr1, hr2⟩ := List.mem_filter.1 hr
      have h2 := (nin_iff ho hr1 hp).1 hr2
      have hl : Prod g.rs r.left := .mk r hr1 (fun y hy h0 => (hasB_prodI h _).1 (h2 y hy h0))
      exact .step r (List.mem_filter.2 ⟨hr1, (rin_iff ho hr1 hp).2 ⟨(hasB_prodI h _).2 hl, h2⟩⟩) (ih hl) x hx h0

end Go.Proofs.YtcmjneabcdpmoaaDoor.UsefulMath

namespace Go.Proofs.YtcmjneabcdpmoaaDoor.MatrixMath
open Go.Proofs.YtcmjneabcdpmoaaDoor.GramMath Go.Proofs.YtcmjneabcdpmoaaDoor.EndsMath Go.Proofs.YtcmjneabcdpmoaaDoor.SetsMath Go.Proofs.YtcmjneabcdpmoaaDoor.UsefulMath
set_option linter.unusedVariables false

/-- Where a relation is found. -/
structure Pl where
  rule : Int
  at_ : Int
  non : Int
/-- A relation that was found. -/
structure Fnd where
  rel : Int
  a : Int
  b : Int
  p : Pl

def yieldF (s t : Int) (p : Pl) : List Fnd := (numsI s 64).map (fun b => ⟨1, t, b, p⟩)
def takeF (s t : Int) (p : Pl) : List Fnd := (numsI s 64).map (fun a => ⟨3, a, t, p⟩)

def ntAt (l : List Int) (k : Nat) : Int := -1 - l.getD k 0
/-- The nonterminal ahead of a place. -/
def aheadF (VR : Nat → Nat) (n : Int) (l : List Int) (k : Nat) : List Fnd :=
  if 0 < k ∧ l.getD (k - 1) 0 < 0 then takeF (VR (ntAt l (k - 1)).toNat) (l.getD k 0) ⟨n, k, ntAt l (k - 1)⟩ else []
def behB (l : List Int) (k : Nat) : Prop := k + 1 < l.length ∧ l.getD (k + 1) 0 < 0
instance (l : List Int) (k : Nat) : Decidable (behB l k) := by unfold behB; exact inferInstance
def behF (VL : Nat → Nat) (n : Int) (l : List Int) (k : Nat) : List Fnd :=
  if behB l k then yieldF (VL (ntAt l (k + 1)).toNat) (l.getD k 0) ⟨n, k, ntAt l (k + 1)⟩ else []
def eqK (l : List Int) (k : Nat) : Nat := if behB l k then k + 2 else k + 1
def eqF (n : Int) (l : List Int) (k : Nat) : List Fnd :=
  if eqK l k < l.length ∧ 0 ≤ l.getD (eqK l k) 0 then [⟨2, l.getD k 0, l.getD (eqK l k) 0, ⟨n, k, 0⟩⟩] else []
def aroundF (VL VR : Nat → Nat) (n : Int) (l : List Int) (k : Nat) : List Fnd := aheadF VR n l k ++ behF VL n l k ++ eqF n l k
def atF (VL VR : Nat → Nat) (n : Int) (l : List Int) (k : Nat) : List Fnd := if 0 ≤ l.getD k 0 then aroundF VL VR n l k else []
def sideF (VL VR : Nat → Nat) (n : Int) (l : List Int) : Nat → List Fnd
  | 0 => []
  | k + 1 => sideF VL VR n l k ++ atF VL VR n l k
def rightOf (rs : List R) (i : Nat) : List Int := (rs.getD i ⟨0, []⟩).right
def rulesF (VL VR : Nat → Nat) (rs : List R) : Nat → List Fnd
  | 0 => []
  | i + 1 => rulesF VL VR rs i ++ sideF VL VR i (rightOf rs i) (rightOf rs i).length
def endF (VL VR : Nat → Nat) (t : Nat) (ax : Int) : List Fnd := yieldF (VL ax.toNat) t ⟨-1, 0, ax⟩ ++ takeF (VR ax.toNat) t ⟨-1, 0, ax⟩
def findsF (VL VR : Nat → Nat) (g : G) : List Fnd := endF VL VR g.ts.length g.ax ++ rulesF VL VR g.rs g.rs.length

theorem mem_numsI {s z : Int} : z ∈ numsI s 64 ↔ hasB s z = true := by
  constructor
  · intro h
    rcases numsI_bound h with h2 | h2
    · exact h2.2.2
    · have h1 : z < 64 := by
        unfold numsI numsN at h
        obtain ⟨n, hn, rfl⟩ := List.mem_map.1 h
        have h1 := List.mem_range.1 (List.mem_filter.1 hn).1
        omega
      omega
  · intro h
    have hr := hasB_range h
    unfold numsI numsN
    refine List.mem_map.2 ⟨z.toNat, List.mem_filter.2 ⟨List.mem_range.2 (by omega), ?_⟩, by omega⟩
    rw [hasB_in hr.1 hr.2] at h
    exact h

theorem mem_yieldF {s t : Int} {p : Pl} {f : Fnd} : f ∈ yieldF s t p ↔ f.rel = 1 ∧ f.a = t ∧ hasB s f.b = true ∧ f.p = p := by
  unfold yieldF
  rw [List.mem_map]
  constructor
  · rintro ⟨b, hb, rfl⟩
    exact ⟨rfl, rfl, mem_numsI.1 hb, rfl⟩
  · rintro ⟨h1, h2, h3, h4⟩
    refine ⟨f.b, mem_numsI.2 h3, ?_⟩
    cases f
    simp_all
theorem mem_takeF {s t : Int} {p : Pl} {f : Fnd} : f ∈ takeF s t p ↔ f.rel = 3 ∧ f.b = t ∧ hasB s f.a = true ∧ f.p = p := by
  unfold takeF
  rw [List.mem_map]
  constructor
  · rintro ⟨b, hb, rfl⟩
    exact ⟨rfl, rfl, mem_numsI.1 hb, rfl⟩
  · rintro ⟨h1, h2, h3, h4⟩
    refine ⟨f.a, mem_numsI.2 h3, ?_⟩
    cases f
    simp_all

theorem mem_sideF {VL VR : Nat → Nat} {n : Int} {l : List Int} {f : Fnd} : ∀ {k : Nat}, f ∈ sideF VL VR n l k ↔ ∃ j, j < k ∧ f ∈ atF VL VR n l j
  | 0 => by simp [sideF]
  | k + 1 => by
    unfold sideF
    rw [List.mem_append, mem_sideF]
    constructor
    · rintro (⟨j, hj, h⟩ | h)
      · exact ⟨j, by omega, h⟩
      · exact ⟨k, by omega, h⟩
    · rintro ⟨j, hj, h⟩
      by_cases e : j = k
      · subst e; exact .inr h
      · exact .inl ⟨j, by omega, h⟩
theorem mem_rulesF {VL VR : Nat → Nat} {rs : List R} {f : Fnd} : ∀ {k : Nat}, f ∈ rulesF VL VR rs k ↔ ∃ i, i < k ∧ ∃ j, j < (rightOf rs i).length ∧ f ∈ atF VL VR i (rightOf rs i) j
  | 0 => by simp [rulesF]
  | k + 1 => by
    unfold rulesF
    rw [List.mem_append, mem_rulesF, mem_sideF]
    constructor
    · rintro (⟨i, hi, h⟩ | h)
      · exact ⟨i, by omega, h⟩
      · exact ⟨k, by omega, h⟩
    · rintro ⟨i, hi, h⟩
      by_cases e : i = k
      · subst e; exact .inr h
      · exact .inl ⟨i, by omega, h⟩

/-- What is found keeps to the terminals and the end. -/
structure OkFnd (t : Nat) (f : Fnd) : Prop where
  rel : 1 ≤ f.rel ∧ f.rel ≤ 3
  a : 0 ≤ f.a ∧ f.a ≤ t
  b : 0 ≤ f.b ∧ f.b ≤ t

theorem ends_has {bb : Bool} {g : G} (hg : GoodG g) {V : Nat → Nat} (h : IsEnds bb g V) {i : Nat} (hi : i < g.ns.length) {z : Int} : hasB (V i) z = true ↔ 0 ≤ z ∧ Lft bb g.rs i z.toNat := by
  have hfew := hg.few
  constructor
  · intro hz
    have hr := hasB_range hz
    rw [hasB_in hr.1 hr.2, Int.toNat_natCast] at hz
    exact ⟨hr.1, ((h i hi).2 _).1 hz⟩
  · rintro ⟨h0, hz⟩
    have hl := hz.lt hg
    rw [hasB_in h0 (by omega), Int.toNat_natCast]
    exact ((h i hi).2 _).2 hz

theorem rightOf_mem {rs : List R} {i : Nat} (hi : i < rs.length) : ∃ r ∈ rs, rs[i]? = some r ∧ rightOf rs i = r.right :=
  ⟨rs[i], List.getElem_mem hi, List.getElem?_eq_getElem hi, by unfold rightOf; rw [List.getD_eq_getElem?_getD, List.getElem?_eq_getElem hi]; rfl⟩
theorem getD_mem {l : List Int} {k : Nat} (hk : k < l.length) : l.getD k 0 ∈ l := by
  rw [List.getD_eq_getElem?_getD, List.getElem?_eq_getElem hk]
  exact List.getElem_mem hk

/-- A right side of a grammar that may be. -/
theorem side_sym {g : G} (hg : GoodG g) {i : Nat} (hi : i < g.rs.length) {k : Nat} (hk : k < (rightOf g.rs i).length) : -1 - (rightOf g.rs i).getD k 0 < g.ns.length ∧ (rightOf g.rs i).getD k 0 < g.ts.length := by
  obtain ⟨r, hr, _, e⟩ := rightOf_mem hi
  rw [e] at hk ⊢
  obtain ⟨_, _, _, h4⟩ := ruleK_ok (hg.each r hr)
  have := h4 _ (getD_mem hk)
  omega

/-- A relation by a rule's right side, at a place. -/
inductive RelAt (g : G) (l : List Int) (k : Nat) : Int → Int → Int → Prop
  | yields {n : Nat} {b : Int} (h0 : 0 ≤ l.getD k 0) (hk : k + 1 < l.length) (hn : l.getD (k + 1) 0 = -1 - (n : Int)) (hb0 : 0 ≤ b) (hb : Lft false g.rs n b.toNat) : RelAt g l k 1 (l.getD k 0) b
  | equal {b : Int} (h0 : 0 ≤ l.getD k 0) (hk : eqK l k < l.length) (hb0 : 0 ≤ l.getD (eqK l k) 0) (hb : b = l.getD (eqK l k) 0) : RelAt g l k 2 (l.getD k 0) b
  | takes {n : Nat} {a : Int} (h0 : 0 ≤ l.getD k 0) (hk : 0 < k) (hn : l.getD (k - 1) 0 = -1 - (n : Int)) (ha0 : 0 ≤ a) (ha : Lft true g.rs n a.toNat) : RelAt g l k 3 a (l.getD k 0)

/-- A relation that holds of two terminals, the end counted. -/
inductive Rel (g : G) : Int → Int → Int → Prop
  | rule {i k : Nat} {x a b : Int} (hi : i < g.rs.length) (hk : k < (rightOf g.rs i).length) (h : RelAt g (rightOf g.rs i) k x a b) : Rel g x a b
  | first {b : Int} (hb0 : 0 ≤ b) (hb : Lft false g.rs g.ax.toNat b.toNat) : Rel g 1 g.ts.length b
  | last {a : Int} (ha0 : 0 ≤ a) (ha : Lft true g.rs g.ax.toNat a.toNat) : Rel g 3 a g.ts.length

theorem atF_iff {g : G} (hg : GoodG g) {VL VR : Nat → Nat} (hL : IsEnds false g VL) (hR : IsEnds true g VR) {i k : Nat} (hi : i < g.rs.length) (hk : k < (rightOf g.rs i).length) {x a b : Int} :
    (∃ f ∈ atF VL VR i (rightOf g.rs i) k, f.rel = x ∧ f.a = a ∧ f.b = b) ↔ RelAt g (rightOf g.rs i) k x a b := by
  have hsym := fun {j : Nat} (hj : j < (rightOf g.rs i).length) => side_sym hg hi hj
  generalize rightOf g.rs i = l at *
  constructor
  · rintro ⟨f, hf, rfl, rfl, rfl⟩
    unfold atF at hf
    split at hf
    · rename_i h0
      unfold aroundF at hf
      rcases List.mem_append.1 hf with hf | hf
      · rcases List.mem_append.1 hf with hf | hf
        · unfold aheadF at hf
          split at hf
          · rename_i hc
            obtain ⟨h1, h2, h3, h4⟩ := mem_takeF.1 hf
            have hs := hsym (j := k - 1) (by omega)
            have hn : (ntAt l (k - 1)).toNat < g.ns.length := by unfold ntAt; omega
            obtain ⟨h5, h6⟩ := (ends_has hg hR hn).1 h3
            rw [h1, h2]
            exact .takes h0 hc.1 (by unfold ntAt; omega) h5 h6
          · cases hf
        · unfold behF at hf
          split at hf
          · rename_i hc
            obtain ⟨h1, h2, h3, h4⟩ := mem_yieldF.1 hf
            have hc1 := hc.1
            have hc2 := hc.2
            have hs := hsym hc1
            have hn : (ntAt l (k + 1)).toNat < g.ns.length := by unfold ntAt; omega
            obtain ⟨h5, h6⟩ := (ends_has hg hL hn).1 h3
            rw [h1, h2]
            exact .yields h0 hc1 (by unfold ntAt; omega) h5 h6
          · cases hf
      · unfold eqF at hf
        split at hf
        · rename_i hc
          obtain rfl := List.mem_singleton.1 hf
          exact .equal h0 hc.1 hc.2 rfl
        · cases hf
    · cases hf
  · intro h
    cases h with
    | @yields n b h0 hk1 hn hb0 hb =>
      have hc : behB l k := ⟨hk1, by omega⟩
      have hs := hsym hk1
      have e : ntAt l (k + 1) = n := by unfold ntAt; omega
      refine ⟨⟨1, l.getD k 0, b, ⟨i, k, ntAt l (k + 1)⟩⟩, ?_, rfl, rfl, rfl⟩
      unfold atF aroundF behF
      rw [if_pos h0, if_pos hc]
      refine List.mem_append.2 (.inl (List.mem_append.2 (.inr (mem_yieldF.2 ⟨rfl, rfl, ?_, rfl⟩))))
      rw [e]
      exact (ends_has hg hL (by omega)).2 ⟨hb0, hb⟩
    | @equal b h0 hk1 hb0 hb =>
      subst hb
      refine ⟨⟨2, l.getD k 0, l.getD (eqK l k) 0, ⟨i, k, 0⟩⟩, ?_, rfl, rfl, rfl⟩
      unfold atF aroundF eqF
      rw [if_pos h0, if_pos ⟨hk1, hb0⟩]
      exact List.mem_append.2 (.inr (List.mem_singleton.2 rfl))
    | @takes n a h0 hk1 hn ha0 ha =>
      have hs := hsym (j := k - 1) (by omega)
      have e : ntAt l (k - 1) = n := by unfold ntAt; omega
      refine ⟨⟨3, a, l.getD k 0, ⟨i, k, ntAt l (k - 1)⟩⟩, ?_, rfl, rfl, rfl⟩
      unfold atF aroundF aheadF
      rw [if_pos h0, if_pos ⟨hk1, by omega⟩]
      refine List.mem_append.2 (.inl (List.mem_append.2 (.inl (mem_takeF.2 ⟨rfl, rfl, ?_, rfl⟩))))
      rw [e]
      exact (ends_has hg hR (by omega)).2 ⟨ha0, ha⟩

theorem finds_iff {g : G} (hg : GoodG g) {VL VR : Nat → Nat} (hL : IsEnds false g VL) (hR : IsEnds true g VR) {x a b : Int} :
    (∃ f ∈ findsF VL VR g, f.rel = x ∧ f.a = a ∧ f.b = b) ↔ Rel g x a b := by
  have hax : g.ax.toNat < g.ns.length := by have := hg.ax0; have := hg.ax1; omega
  constructor
  · rintro ⟨f, hf, rfl, rfl, rfl⟩
    unfold findsF endF at hf
    rcases List.mem_append.1 hf with hf | hf
    · rcases List.mem_append.1 hf with hf | hf
      · obtain ⟨h1, h2, h3, h4⟩ := mem_yieldF.1 hf
        obtain ⟨h5, h6⟩ := (ends_has hg hL hax).1 h3
        rw [h1, h2]
        exact .first h5 h6
      · obtain ⟨h1, h2, h3, h4⟩ := mem_takeF.1 hf
        obtain ⟨h5, h6⟩ := (ends_has hg hR hax).1 h3
        rw [h1, h2]
        exact .last h5 h6
    · obtain ⟨i, hi, j, hj, h⟩ := mem_rulesF.1 hf
      exact .rule hi hj ((atF_iff hg hL hR hi hj).1 ⟨f, h, rfl, rfl, rfl⟩)
  · intro h
    cases h with
    | @rule i k x a b hi hk h =>
      obtain ⟨f, hf, h1⟩ := (atF_iff hg hL hR hi hk).2 h
      exact ⟨f, List.mem_append.2 (.inr (mem_rulesF.2 ⟨i, hi, k, hk, hf⟩)), h1⟩
    | @first b hb0 hb =>
      exact ⟨⟨1, g.ts.length, b, ⟨-1, 0, g.ax⟩⟩, List.mem_append.2 (.inl (List.mem_append.2 (.inl (mem_yieldF.2 ⟨rfl, rfl, (ends_has hg hL hax).2 ⟨hb0, hb⟩, rfl⟩)))), rfl, rfl, rfl⟩
    | @last a ha0 ha =>
      exact ⟨⟨3, a, g.ts.length, ⟨-1, 0, g.ax⟩⟩, List.mem_append.2 (.inl (List.mem_append.2 (.inr (mem_takeF.2 ⟨rfl, rfl, (ends_has hg hR hax).2 ⟨ha0, ha⟩, rfl⟩)))), rfl, rfl, rfl⟩

theorem Rel.ok {g : G} (hg : GoodG g) {x a b : Int} (h : Rel g x a b) : (1 ≤ x ∧ x ≤ 3) ∧ (0 ≤ a ∧ a ≤ g.ts.length) ∧ (0 ≤ b ∧ b ≤ g.ts.length) := by
  cases h with
  | @rule i k x a b hi hk h =>
    have hs := side_sym hg hi hk
    cases h with
    | @yields n b h0 hk1 hn hb0 hb =>
      have := (hb.lt hg).2
      omega
    | @equal b h0 hk1 hb0 hb =>
      have h2 := side_sym hg hi hk1
      omega
    | @takes n a h0 hk1 hn ha0 ha =>
      have := (ha.lt hg).2
      omega
  | @first b hb0 hb => have := (hb.lt hg).2; omega
  | @last a ha0 ha => have := (ha.lt hg).2; omega

theorem finds_ok {g : G} (hg : GoodG g) {VL VR : Nat → Nat} (hL : IsEnds false g VL) (hR : IsEnds true g VR) {f : Fnd} (hf : f ∈ findsF VL VR g) : OkFnd g.ts.length f := by
  obtain ⟨h1, h2, h3⟩ := ((finds_iff hg hL hR).1 ⟨f, hf, rfl, rfl, rfl⟩).ok hg
  exact ⟨h1, h2, h3⟩

end Go.Proofs.YtcmjneabcdpmoaaDoor.MatrixMath
