/-
  Grammars as plain data: which may be, what is wrong first, which name is where, which nonterminals come to which. No part of the program.
-/
namespace Go.Proofs.YtmepnjnpfmgokaaDoor.GramMath

def eqB (a b : ByteArray) : Bool := a.data.toList == b.data.toList

theorem eqB_iff (a b : ByteArray) : eqB a b = true ↔ a = b := by
  unfold eqB
  rw [beq_iff_eq]
  constructor
  · intro e
    cases a
    cases b
    congr 1
    exact Array.toList_inj.1 e
  · rintro rfl
    rfl

def memB (s : ByteArray) (ss : List ByteArray) : Bool := ss.any (fun x => eqB x s)

theorem memB_iff (s : ByteArray) (ss : List ByteArray) : memB s ss = true ↔ s ∈ ss := by
  unfold memB
  rw [List.any_eq_true]
  constructor
  · rintro ⟨x, hx, he⟩
    rw [eqB_iff] at he
    exact he ▸ hx
  · intro h
    exact ⟨s, h, (eqB_iff _ _).2 rfl⟩

structure R where
  left : Int
  right : List Int

structure G where
  ts : List ByteArray
  ns : List ByteArray
  ax : Int
  rs : List R

/-- A number of 64 bits with a sign. -/
def I64 (x : Int) : Prop := -9223372036854775808 ≤ x ∧ x < 9223372036854775808

def okR (r : R) : Prop := I64 r.left ∧ (∀ x ∈ r.right, I64 x) ∧ r.right.length ≤ 1125899906842624

/-- The sizes of what a machine holds. -/
def okG (g : G) : Prop := g.ts.length ≤ 1125899906842624 ∧ g.ns.length ≤ 1125899906842624 ∧ g.rs.length ≤ 1125899906842624 ∧ I64 g.ax ∧ (∀ r ∈ g.rs, okR r) ∧ (∀ s ∈ g.ts, s.size ≤ 281474976710656) ∧ ∀ s ∈ g.ns, s.size ≤ 281474976710656

def nameAt (ss : List ByteArray) (i : Nat) : Bool :=
  match ss[i]? with
  | none => true
  | some x => decide (0 < x.size) && decide (x.size ≤ 32) && !memB x (ss.take i)

def namedTo (ss : List ByteArray) (k : Nat) : Bool := (List.range k).all (nameAt ss)
def named (ss : List ByteArray) : Bool := namedTo ss ss.length

theorem namedTo_zero (ss : List ByteArray) : namedTo ss 0 = true := rfl
theorem namedTo_succ (ss : List ByteArray) (k : Nat) : namedTo ss (k + 1) = (namedTo ss k && nameAt ss k) := by
  simp [namedTo, List.range_succ, List.all_append]
theorem namedTo_at {ss : List ByteArray} {k i : Nat} (h : namedTo ss k = true) (hi : i < k) : nameAt ss i = true := by
  unfold namedTo at h
  rw [List.all_eq_true] at h
  exact h i (List.mem_range.2 hi)
theorem named_false {ss : List ByteArray} {k : Nat} (hk : k < ss.length) (h : nameAt ss k = false) : named ss = false := by
  cases hn : named ss with
  | false => rfl
  | true => rw [namedTo_at hn hk] at h; cases h

def symB (t n : Nat) (s : Int) : Bool := decide (-(n : Int) ≤ s) && decide (s < (t : Int))

def leftB (n : Nat) (x : Int) : Bool := decide (0 ≤ x) && decide (x < (n : Int))

/-- What is wrong with a rule: 0 nothing. -/
def ruleK (t n : Nat) (r : R) : Nat :=
  if 32 < r.right.length then 3 else if leftB n r.left = false then 1 else if r.right.all (symB t n) = true then 0 else 1

/-- What is wrong first with rules, and in which. -/
def rulesK (t n : Nat) : List R → Nat → Nat × Option Nat
  | [], _ => (0, none)
  | r :: l, i => if ruleK t n r = 0 then rulesK t n l (i + 1) else (ruleK t n r, some i)

def checkG (g : G) : Nat × Option Nat :=
  if 60 < g.ts.length + g.ns.length ∨ 120 < g.rs.length then (3, none)
  else if named g.ts = false ∨ named g.ns = false then (10, none)
  else if leftB g.ns.length g.ax = false then (1, none)
  else rulesK g.ts.length g.ns.length g.rs 0

theorem ruleK_cases (t n : Nat) (r : R) : ruleK t n r = 0 ∨ ruleK t n r = 1 ∨ ruleK t n r = 3 := by
  unfold ruleK
  split
  · simp
  · split
    · simp
    · split <;> simp

theorem rulesK_drop {t n : Nat} {rs : List R} {k : Nat} {r : R} (h : rs[k]? = some r) : rulesK t n (rs.drop k) k = if ruleK t n r = 0 then rulesK t n (rs.drop (k + 1)) (k + 1) else (ruleK t n r, some k) := by
  obtain ⟨hk, he⟩ := List.getElem?_eq_some_iff.1 h
  rw [List.drop_eq_getElem_cons hk, he]
  rfl

theorem rulesK_end {t n : Nat} {rs : List R} {k : Nat} (h : rs.length ≤ k) (i : Nat) : rulesK t n (rs.drop k) i = (0, none) := by
  rw [List.drop_of_length_le h]
  rfl

theorem rulesK_ok {t n : Nat} : ∀ {rs : List R} {i : Nat}, (rulesK t n rs i).1 = 0 → ∀ r ∈ rs, ruleK t n r = 0
  | [], _, _, r, h => by cases h
  | x :: l, i, h, r, hr => by
    unfold rulesK at h
    by_cases hx : ruleK t n x = 0
    · rw [if_pos hx] at h
      rcases List.mem_cons.1 hr with rfl | hr
      · exact hx
      · exact rulesK_ok h r hr
    · rw [if_neg hx] at h
      exact absurd h hx

theorem ruleK_ok {t n : Nat} {r : R} (h : ruleK t n r = 0) : r.right.length ≤ 32 ∧ 0 ≤ r.left ∧ r.left < n ∧ ∀ x ∈ r.right, -(n : Int) ≤ x ∧ x < (t : Int) := by
  unfold ruleK at h
  by_cases h1 : 32 < r.right.length
  · rw [if_pos h1] at h; cases h
  rw [if_neg h1] at h
  cases h2 : leftB n r.left with
  | false => rw [if_pos h2] at h; cases h
  | true =>
    rw [if_neg (by rw [h2]; decide)] at h
    by_cases h3 : r.right.all (symB t n) = true
    · rw [List.all_eq_true] at h3
      simp only [leftB, Bool.and_eq_true, decide_eq_true_eq] at h2
      refine ⟨by omega, h2.1, h2.2, fun x hx => ?_⟩
      have := h3 x hx
      simpa [symB] using this
    · rw [if_neg h3] at h; cases h

/-- What a grammar that may be is like. -/
structure GoodG (g : G) : Prop where
  few : g.ts.length + g.ns.length ≤ 60
  rules : g.rs.length ≤ 120
  nt : named g.ts = true
  nn : named g.ns = true
  ax0 : 0 ≤ g.ax
  ax1 : g.ax < g.ns.length
  each : ∀ r ∈ g.rs, ruleK g.ts.length g.ns.length r = 0

theorem good_of {g : G} (h : (checkG g).1 = 0) : GoodG g := by
  unfold checkG at h
  by_cases h1 : 60 < g.ts.length + g.ns.length ∨ 120 < g.rs.length
  · rw [if_pos h1] at h; cases h
  rw [if_neg h1] at h
  by_cases h2 : named g.ts = false ∨ named g.ns = false
  · rw [if_pos h2] at h; cases h
  rw [if_neg h2] at h
  cases h3 : leftB g.ns.length g.ax with
  | false => rw [if_pos h3] at h; cases h
  | true =>
    rw [if_neg (by rw [h3]; decide)] at h
    simp only [leftB, Bool.and_eq_true, decide_eq_true_eq] at h3
    refine ⟨by omega, by omega, ?_, ?_, h3.1, h3.2, rulesK_ok h⟩
    · cases hn : named g.ts with
      | true => rfl
      | false => exact absurd (.inl hn) h2
    · cases hn : named g.ns with
      | true => rfl
      | false => exact absurd (.inr hn) h2

theorem rulesK_none {t n : Nat} : ∀ {rs : List R} {i : Nat}, (rulesK t n rs i).1 = 0 → rulesK t n rs i = (0, none)
  | [], _, _ => rfl
  | x :: l, i, h => by
    unfold rulesK at h ⊢
    by_cases hx : ruleK t n x = 0
    · rw [if_pos hx] at h ⊢
      exact rulesK_none h
    · rw [if_neg hx] at h
      exact absurd h hx

theorem symB_or (t n : Nat) (s : Int) : symB t n s = (leftB t s || leftB n (-1 - s)) := by
  rw [Bool.eq_iff_iff]
  simp only [symB, leftB, Bool.or_eq_true, Bool.and_eq_true, decide_eq_true_eq]
  omega

theorem ruleK_long {t n : Nat} {r : R} (h : 32 < r.right.length) : ruleK t n r = 3 := by unfold ruleK; rw [if_pos h]
theorem ruleK_left {t n : Nat} {r : R} (h : ¬ 32 < r.right.length) (h2 : leftB n r.left = false) : ruleK t n r = 1 := by unfold ruleK; rw [if_neg h, if_pos h2]
theorem ruleK_sym {t n : Nat} {r : R} {k : Nat} {x : Int} (h : ¬ 32 < r.right.length) (h2 : leftB n r.left = true) (hx : r.right[k]? = some x) (hb : symB t n x = false) : ruleK t n r = 1 := by
  unfold ruleK
  rw [if_neg h, if_neg (by rw [h2]; decide), if_neg]
  intro ha
  rw [List.all_eq_true] at ha
  rw [ha x (List.mem_of_getElem? hx)] at hb
  cases hb
theorem ruleK_good {t n : Nat} {r : R} (h : ¬ 32 < r.right.length) (h2 : leftB n r.left = true) (ha : (r.right.take r.right.length).all (symB t n) = true) : ruleK t n r = 0 := by
  rw [List.take_length] at ha
  unfold ruleK
  rw [if_neg h, if_neg (by rw [h2]; decide), if_pos ha]
theorem all_take_succ {l : List Int} {f : Int → Bool} {k : Nat} {x : Int} (hx : l[k]? = some x) (h : (l.take k).all f = true) (hf : f x = true) : (l.take (k + 1)).all f = true := by
  obtain ⟨hk, he⟩ := List.getElem?_eq_some_iff.1 hx
  rw [List.take_succ_eq_append_getElem hk, List.all_append, h, he]
  simp [hf]

/-- The renaming that a rule is. -/
def renB (r : R) : Bool :=
  match r.right with
  | [x] => decide (x < 0)
  | _ => false
def renN (r : R) : Int := if renB r = true then -1 - r.right.headD 0 else 0

theorem ren_true {r : R} (h : renB r = true) : ∃ x, r.right = [x] ∧ x < 0 ∧ renN r = -1 - x := by
  unfold renN
  rw [if_pos h]
  unfold renB at h
  split at h
  · rename_i x hx
    exact ⟨x, hx, by simpa using h, by rw [hx]; rfl⟩
  · cases h

theorem ren_false {r : R} (h : renB r = false) : renN r = 0 := by
  unfold renN
  rw [h]
  rfl

end Go.Proofs.YtmepnjnpfmgokaaDoor.GramMath
