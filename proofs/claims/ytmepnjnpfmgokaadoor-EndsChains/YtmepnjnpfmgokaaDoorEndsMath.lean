/-
  With which terminals what comes of a nonterminal begins and ends, and chains of rules, as plain notions. No part of the program.
-/
import Derived.Test.YtmepnjnpfmgokaaDoorGramAboveMath
import Derived.Test.YtmepnjnpfmgokaaDoorGramComesMath
namespace Go.Proofs.YtmepnjnpfmgokaaDoor.EndsMath
open Go.Proofs.YtmepnjnpfmgokaaDoor.GramMath
set_option linter.unusedVariables false

/-- A right side, read from the left on, or from the right on. -/
def vw (b : Bool) (l : List Int) : List Int := if b = true then l.reverse else l

theorem vw_len (b : Bool) (l : List Int) : (vw b l).length = l.length := by
  unfold vw
  split <;> simp
theorem vw_mem {b : Bool} {l : List Int} {x : Int} : x ∈ vw b l ↔ x ∈ l := by
  unfold vw
  split <;> simp

/-- The symbol at a place, if there is one. -/
def lkB (b : Bool) (l : List Int) (k : Nat) : Bool := decide (k < l.length)
def lkN (b : Bool) (l : List Int) (k : Nat) : Int := (vw b l).getD k 0

/-- The terminal that a rule shows, the nonterminal to which it leads. -/
def shL : List Int → Option Nat
  | [] => none
  | [x] => if 0 ≤ x then some x.toNat else none
  | x :: y :: _ => if 0 ≤ x then some x.toNat else if 0 ≤ y then some y.toNat else none
def ldL : List Int → Option Nat
  | [] => none
  | x :: _ => if x < 0 then some (-1 - x).toNat else none
def shO (b : Bool) (r : R) : Option Nat := shL (vw b r.right)
def ldO (b : Bool) (r : R) : Option Nat := ldL (vw b r.right)

theorem shL_mem {l : List Int} {t : Nat} (h : shL l = some t) : (t : Int) ∈ l := by
  match l, h with
  | [x], h =>
    simp [shL] at h
    obtain ⟨h0, rfl⟩ := h
    simp
    omega
  | x :: y :: z, h =>
    by_cases h0 : 0 ≤ x
    · simp [shL, h0] at h
      subst h
      simp
      omega
    · simp [shL, h0] at h
      obtain ⟨h1, rfl⟩ := h
      simp
      omega

theorem ldL_mem {l : List Int} {m : Nat} (h : ldL l = some m) : (-1 - (m : Int)) ∈ l := by
  match l, h with
  | x :: z, h =>
    simp [ldL] at h
    obtain ⟨h0, rfl⟩ := h
    simp
    omega

/-- A grammar's rules keep to its symbols. -/
theorem sh_lt {g : G} (hg : GoodG g) {b : Bool} {r : R} (hr : r ∈ g.rs) {t : Nat} (h : shO b r = some t) : t < g.ts.length := by
  obtain ⟨_, _, _, h4⟩ := ruleK_ok (hg.each r hr)
  have := h4 _ (vw_mem.1 (shL_mem h))
  omega
theorem ld_lt {g : G} (hg : GoodG g) {b : Bool} {r : R} (hr : r ∈ g.rs) {m : Nat} (h : ldO b r = some m) : m < g.ns.length := by
  obtain ⟨_, _, _, h4⟩ := ruleK_ok (hg.each r hr)
  have := h4 _ (vw_mem.1 (ldL_mem h))
  omega
theorem left_lt {g : G} (hg : GoodG g) {r : R} (hr : r ∈ g.rs) : 0 ≤ r.left ∧ r.left.toNat < g.ns.length := by
  obtain ⟨_, h2, h3, _⟩ := ruleK_ok (hg.each r hr)
  omega

/-- A terminal in a nonterminal's set. -/
inductive Lft (b : Bool) (rs : List R) : Nat → Nat → Prop
  | shows {r : R} {t : Nat} (hr : r ∈ rs) (h : shO b r = some t) : Lft b rs r.left.toNat t
  | leads {r : R} {m t : Nat} (hr : r ∈ rs) (h : ldO b r = some m) (k : Lft b rs m t) : Lft b rs r.left.toNat t

theorem Lft.lt {g : G} (hg : GoodG g) {b : Bool} {n t : Nat} (h : Lft b g.rs n t) : n < g.ns.length ∧ t < g.ts.length := by
  induction h with
  | shows hr h => exact ⟨(left_lt hg hr).2, sh_lt hg hr h⟩
  | leads hr h _ ih => exact ⟨(left_lt hg hr).2, ih.2⟩

theorem Lft.mono {b : Bool} {rs rs' : List R} (h : ∀ r ∈ rs, r ∈ rs') {n t : Nat} (k : Lft b rs n t) : Lft b rs' n t := by
  induction k with
  | shows hr e => exact .shows (h _ hr) e
  | leads hr e _ ih => exact .leads (h _ hr) e ih

/-- What a set is widened to by a rule. -/
def widS (b : Bool) (V : Nat → Nat) (r : R) : Nat :=
  match shO b r with
  | some t => V r.left.toNat ||| 2 ^ t
  | none => V r.left.toNat
def wid (b : Bool) (V : Nat → Nat) (r : R) : Nat :=
  match ldO b r with
  | some m => widS b V r ||| V m
  | none => widS b V r

theorem wid_ge (b : Bool) (V : Nat → Nat) (r : R) : V r.left.toNat ≤ wid b V r := by
  have h1 : V r.left.toNat ≤ widS b V r := by
    unfold widS
    split
    · exact Nat.left_le_or
    · exact Nat.le_refl _
  unfold wid
  split
  · exact Nat.le_trans h1 Nat.left_le_or
  · exact h1

def InvE (b : Bool) (g : G) (V : Nat → Nat) : Prop := ∀ i, i < g.ns.length → V i < 2 ^ g.ts.length ∧ ∀ t, (V i).testBit t = true → Lft b g.rs i t
def ShutE (b : Bool) (V : Nat → Nat) (r : R) : Prop := wid b V r = V r.left.toNat
def IsEnds (b : Bool) (g : G) (V : Nat → Nat) : Prop := ∀ i, i < g.ns.length → V i < 2 ^ g.ts.length ∧ ∀ t, (V i).testBit t = true ↔ Lft b g.rs i t

theorem wid_inv {b : Bool} {g : G} (hg : GoodG g) {V : Nat → Nat} (hV : InvE b g V) {r : R} (hr : r ∈ g.rs) : wid b V r < 2 ^ g.ts.length ∧ ∀ t, (wid b V r).testBit t = true → Lft b g.rs r.left.toNat t := by
  obtain ⟨hl0, hl⟩ := left_lt hg hr
  obtain ⟨v1, v2⟩ := hV _ hl
  have h1 : widS b V r < 2 ^ g.ts.length ∧ ∀ t, (widS b V r).testBit t = true → Lft b g.rs r.left.toNat t := by
    unfold widS
    cases hs : shO b r with
    | none => exact ⟨v1, v2⟩
    | some t =>
      have ht := sh_lt hg hr hs
      refine ⟨Nat.or_lt_two_pow v1 (Nat.pow_lt_pow_right (by omega) ht), fun u hu => ?_⟩
      rw [Nat.testBit_or, Bool.or_eq_true] at hu
      rcases hu with hu | hu
      · exact v2 u hu
      · rw [Nat.testBit_two_pow] at hu
        obtain rfl : t = u := by simpa using hu
        exact .shows hr hs
  unfold wid
  cases hs : ldO b r with
  | none => exact h1
  | some m =>
    obtain ⟨m1, m2⟩ := hV _ (ld_lt hg hr hs)
    refine ⟨Nat.or_lt_two_pow h1.1 m1, fun u hu => ?_⟩
    rw [Nat.testBit_or, Bool.or_eq_true] at hu
    rcases hu with hu | hu
    · exact h1.2 u hu
    · exact .leads hr hs (m2 u hu)

theorem InvE.step {b : Bool} {g : G} (hg : GoodG g) {V : Nat → Nat} (hV : InvE b g V) {r : R} (hr : r ∈ g.rs) : InvE b g (upd V r.left.toNat (wid b V r)) := by
  intro i hi
  by_cases e : i = r.left.toNat
  · subst e
    rw [upd_at]
    exact wid_inv hg hV hr
  · rw [upd_ne _ _ e]
    exact hV i hi

theorem InvE.zero (b : Bool) (g : G) : InvE b g (fun _ => 0) := fun i _ => ⟨Nat.pow_pos (by omega), fun t ht => by simp at ht⟩

theorem ends_of {b : Bool} {g : G} (hg : GoodG g) {V : Nat → Nat} (hV : InvE b g V) (hs : ∀ r ∈ g.rs, ShutE b V r) : IsEnds b g V := by
  have key : ∀ {n t : Nat}, Lft b g.rs n t → (V n).testBit t = true := by
    intro n t h
    induction h with
    | @shows r t hr h =>
      have := hs r hr
      unfold ShutE at this
      have h1 : (widS b V r).testBit t = true := by
        unfold widS
        rw [h]
        simp [Nat.testBit_or]
      rw [← this]
      unfold wid
      split
      · rw [Nat.testBit_or, h1]; rfl
      · exact h1
    | @leads r m t hr h _ ih =>
      have := hs r hr
      unfold ShutE at this
      rw [← this]
      unfold wid
      rw [h]
      simp [Nat.testBit_or, ih]
  exact fun i hi => ⟨(hV i hi).1, fun t => ⟨(hV i hi).2 t, key⟩⟩

theorem IsEnds.eq {b b' : Bool} {g g' : G} {V U : Nat → Nat} (h : IsEnds b g V) (k : IsEnds b' g' U) {i : Nat} (hi : i < g.ns.length) (hi' : i < g'.ns.length) (he : ∀ t, Lft b g.rs i t ↔ Lft b' g'.rs i t) : V i = U i := by
  apply Nat.eq_of_testBit_eq
  intro t
  rw [Bool.eq_iff_iff, (h i hi).2, (k i hi').2]
  exact he t

theorem ends_small {b : Bool} {g : G} (hg : GoodG g) {V : Nat → Nat} (hV : InvE b g V) {i : Nat} (hi : i < g.ns.length) : V i < 1152921504606846976 := by
  have h1 := (hV i hi).1
  have h2 : g.ts.length ≤ 60 := by have := hg.few; omega
  have h3 : 2 ^ g.ts.length ≤ 2 ^ 60 := Nat.pow_le_pow_right (by omega) h2
  have h4 : 2 ^ 60 = 1152921504606846976 := by decide
  omega
theorem IsEnds.inv {b : Bool} {g : G} {V : Nat → Nat} (h : IsEnds b g V) : InvE b g V := fun i hi => ⟨(h i hi).1, fun t => ((h i hi).2 t).1⟩

/-- A way: rules, and the nonterminal to which the last one leads. -/
structure Wy where
  rules : List Int
  to : Nat
structure St where
  nx : List Wy
  S : Nat → Bool

def hitR (b : Bool) (t : Nat) (l : List Int) (m : Nat) : Nat → List R → Option (List Int)
  | _, [] => none
  | k, r :: rest => if r.left = (m : Int) ∧ shO b r = some t then some (l ++ [(k : Int)]) else hitR b t l m (k + 1) rest
def hitW (b : Bool) (t : Nat) (rs : List R) : List Wy → Option (List Int)
  | [] => none
  | y :: ys => match hitR b t y.rules y.to 0 rs with
    | some c => some c
    | none => hitW b t rs ys
def one (b : Bool) (l : List Int) (m k : Nat) (r : R) (s : St) : St :=
  if r.left = (m : Int) then
    match ldO b r with
    | some to => if s.S to = true then s else ⟨s.nx ++ [⟨l ++ [(k : Int)], to⟩], updB s.S to⟩
    | none => s
  else s
def goR (b : Bool) (l : List Int) (m : Nat) : Nat → List R → St → St
  | _, [], s => s
  | k, r :: rest, s => goR b l m (k + 1) rest (one b l m k r s)
def goW (b : Bool) (rs : List R) : List Wy → St → St
  | [], s => s
  | y :: ys, s => goW b rs ys (goR b y.rules y.to 0 rs s)

theorem goR_snoc (b : Bool) (l : List Int) (m : Nat) (r : R) : ∀ (rs : List R) (k : Nat) (s : St), goR b l m k (rs ++ [r]) s = one b l m (k + rs.length) r (goR b l m k rs s)
  | [], k, s => rfl
  | x :: rs, k, s => by
    show goR b l m (k + 1) (rs ++ [r]) _ = one b l m (k + (rs.length + 1)) r (goR b l m (k + 1) rs _)
    rw [goR_snoc b l m r rs (k + 1), show k + 1 + rs.length = k + (rs.length + 1) by omega]
theorem goW_snoc (b : Bool) (rs : List R) (y : Wy) : ∀ (ys : List Wy) (s : St), goW b rs (ys ++ [y]) s = goR b y.rules y.to 0 rs (goW b rs ys s)
  | [], s => rfl
  | x :: ys, s => goW_snoc b rs y ys _
theorem hitR_snoc (b : Bool) (t : Nat) (l : List Int) (m : Nat) (r : R) : ∀ (rs : List R) (k : Nat), hitR b t l m k rs = none → hitR b t l m k (rs ++ [r]) = if r.left = (m : Int) ∧ shO b r = some t then some (l ++ [((k + rs.length : Nat) : Int)]) else none
  | [], k, _ => by simp [hitR]
  | x :: rs, k, h => by
    unfold hitR at h
    split at h
    · cases h
    · rename_i hx
      show hitR b t l m k (x :: (rs ++ [r])) = _
      unfold hitR
      rw [if_neg hx, hitR_snoc b t l m r rs (k + 1) h, show k + 1 + rs.length = k + (x :: rs).length by simp; omega]
theorem hitR_app (b : Bool) (t : Nat) (l : List Int) (m : Nat) (rs' : List R) {c : List Int} : ∀ (rs : List R) (k : Nat), hitR b t l m k rs = some c → hitR b t l m k (rs ++ rs') = some c
  | [], k, h => by cases h
  | x :: rs, k, h => by
    unfold hitR at h
    show hitR b t l m k (x :: (rs ++ rs')) = _
    unfold hitR
    split at h
    · rename_i hx; rw [if_pos hx]; exact h
    · rename_i hx; rw [if_neg hx]; exact hitR_app b t l m rs' rs (k + 1) h
theorem hitW_snoc (b : Bool) (t : Nat) (rs : List R) (y : Wy) : ∀ (ys : List Wy), hitW b t rs ys = none → hitW b t rs (ys ++ [y]) = hitR b t y.rules y.to 0 rs
  | [], _ => by
    unfold hitW
    simp only [List.nil_append]
    unfold hitW
    cases hitR b t y.rules y.to 0 rs <;> rfl
  | x :: ys, h => by
    unfold hitW at h
    show hitW b t rs (x :: (ys ++ [y])) = _
    unfold hitW
    cases hx : hitR b t x.rules x.to 0 rs with
    | some c => rw [hx] at h; cases h
    | none => rw [hx] at h; exact hitW_snoc b t rs y ys h
theorem hitW_app (b : Bool) (t : Nat) (rs : List R) (ys' : List Wy) {c : List Int} : ∀ (ys : List Wy), hitW b t rs ys = some c → hitW b t rs (ys ++ ys') = some c
  | [], h => by cases h
  | x :: ys, h => by
    unfold hitW at h
    show hitW b t rs (x :: (ys ++ ys')) = _
    unfold hitW
    cases hx : hitR b t x.rules x.to 0 rs with
    | some c => rw [hx] at h; exact h
    | none => rw [hx] at h; exact hitW_app b t rs ys' ys h

/-- What is found, ring by ring. -/
inductive Search (b : Bool) (t : Nat) (rs : List R) : List Wy → (Nat → Bool) → Option (List Int) → Prop
  | none (S : Nat → Bool) : Search b t rs [] S none
  | hit {ring : List Wy} {S : Nat → Bool} {c : List Int} (h : hitW b t rs ring = some c) : Search b t rs ring S (some c)
  | step {ring : List Wy} {S : Nat → Bool} {o : Option (List Int)} (hne : ring ≠ []) (h : hitW b t rs ring = none) (k : Search b t rs (goW b rs ring ⟨[], S⟩).nx (goW b rs ring ⟨[], S⟩).S o) : Search b t rs ring S o

theorem Search.det {b : Bool} {t : Nat} {rs : List R} {ring : List Wy} {S : Nat → Bool} {o o' : Option (List Int)} (h : Search b t rs ring S o) (h' : Search b t rs ring S o') : o = o' := by
  induction h with
  | none S =>
    cases h' with
    | none => rfl
    | hit h => cases h
    | step hne _ _ => exact absurd rfl hne
  | hit h =>
    cases h' with
    | none => cases h
    | hit h2 => rw [h] at h2; exact h2
    | step _ h2 _ => rw [h] at h2; cases h2
  | step hne h _ ih =>
    cases h' with
    | none => exact absurd rfl hne
    | hit h2 => rw [h] at h2; cases h2
    | step _ _ k => exact ih k

/-- What was found for a nonterminal and a terminal. -/
def startW (n : Nat) : List Wy := [⟨[], n⟩]
def startS (n : Nat) : Nat → Bool := updB (fun _ => false) n
def FoundE (b : Bool) (rs : List R) (n t : Nat) (o : Option (List Int)) : Prop := Search b t rs (startW n) (startS n) o
theorem FoundE.det {b : Bool} {rs : List R} {n t : Nat} {o o' : Option (List Int)} (h : FoundE b rs n t o) (h' : FoundE b rs n t o') : o = o' := Search.det h h'

/-- How many numbers below n are marked. -/
def cnt (n : Nat) (S : Nat → Bool) : Nat := ((List.range n).filter S).length
theorem cnt_le (n : Nat) (S : Nat → Bool) : cnt n S ≤ n := by
  unfold cnt
  exact Nat.le_trans (List.length_filter_le _ _) (by simp)
theorem cnt_succ (n : Nat) (S : Nat → Bool) : cnt (n + 1) S = cnt n S + if S n = true then 1 else 0 := by
  unfold cnt
  rw [List.range_succ, List.filter_append, List.length_append]
  cases h : S n <;> simp [h]
theorem cnt_upd : ∀ {n t : Nat} {S : Nat → Bool}, t < n → S t = false → cnt n (updB S t) = cnt n S + 1
  | 0, t, S, h, _ => absurd h (by omega)
  | n + 1, t, S, h, hS => by
    rw [cnt_succ, cnt_succ]
    by_cases e : t = n
    · subst e
      rw [updB_at, hS]
      have : ∀ m, m ≤ t → cnt m (updB S t) = cnt m S := by
        intro m
        induction m with
        | zero => intro _; rfl
        | succ m ih =>
          intro hm
          rw [cnt_succ, cnt_succ, ih (by omega), updB_ne _ (show m ≠ t by omega)]
      rw [this t (Nat.le_refl _)]
      simp
    · rw [cnt_upd (show t < n by omega) hS, updB_ne _ (show n ≠ t by omega)]
      omega

theorem one_nx (b : Bool) (l : List Int) (m k : Nat) (r : R) (s : St) : s.nx.length ≤ (one b l m k r s).nx.length := by
  unfold one
  split
  · split
    · split
      · exact Nat.le_refl _
      · simp
    · exact Nat.le_refl _
  · exact Nat.le_refl _
theorem one_cnt {b : Bool} {l : List Int} {m k n : Nat} {r : R} {s : St} (h : ∀ t, ldO b r = some t → t < n) : cnt n (one b l m k r s).S + s.nx.length = cnt n s.S + (one b l m k r s).nx.length := by
  unfold one
  split
  · split
    · rename_i to hto
      split
      · rfl
      · rename_i hS
        have hS2 : s.S to = false := by simpa using hS
        rw [cnt_upd (h _ hto) hS2]
        simp
        omega
    · rfl
  · rfl
theorem goR_cnt {b : Bool} {l : List Int} {m n : Nat} : ∀ {rs : List R} {k : Nat} {s : St}, (∀ r ∈ rs, ∀ t, ldO b r = some t → t < n) → cnt n (goR b l m k rs s).S + s.nx.length = cnt n s.S + (goR b l m k rs s).nx.length
  | [], _, _, _ => rfl
  | r :: rs, k, s, h => by
    have h1 := one_cnt (b := b) (l := l) (m := m) (k := k) (n := n) (r := r) (s := s) (h r (by simp))
    have h2 := goR_cnt (b := b) (l := l) (m := m) (n := n) (rs := rs) (k := k + 1) (s := one b l m k r s) (fun r hr => h r (List.mem_cons_of_mem _ hr))
    show cnt n (goR b l m (k + 1) rs _).S + _ = cnt n s.S + (goR b l m (k + 1) rs _).nx.length
    omega
theorem goW_cnt {b : Bool} {rs : List R} {n : Nat} (h : ∀ r ∈ rs, ∀ t, ldO b r = some t → t < n) : ∀ {ys : List Wy} {s : St}, cnt n (goW b rs ys s).S + s.nx.length = cnt n s.S + (goW b rs ys s).nx.length
  | [], _ => rfl
  | y :: ys, s => by
    have h1 := goR_cnt (b := b) (l := y.rules) (m := y.to) (n := n) (rs := rs) (k := 0) (s := s) h
    have h2 := goW_cnt h (ys := ys) (s := goR b y.rules y.to 0 rs s)
    show cnt n (goW b rs ys _).S + _ = cnt n s.S + (goW b rs ys _).nx.length
    omega

/-- What is known while sets are widened by the first k rules. -/
structure Wd (b : Bool) (g : G) (V : Nat → Nat) (k : Nat) (q : Bool) (U : Nat → Nat) : Prop where
  inv : InvE b g U
  up : q = true → sumV V g.ns.length < sumV U g.ns.length
  le : sumV V g.ns.length ≤ sumV U g.ns.length
  shut : q = false → ∀ j r, j < k → g.rs[j]? = some r → ShutE b U r

theorem Wd.start {b : Bool} {g : G} {V : Nat → Nat} (h : InvE b g V) : Wd b g V 0 false V := ⟨h, fun h => (by cases h), Nat.le_refl _, fun _ j r hj => by omega⟩

theorem Wd.next {b : Bool} {g : G} {V U : Nat → Nat} {k l : Nat} {q q2 : Bool} {r : R} (h : Wd b g V k q U) (hg : GoodG g) (hr : g.rs[k]? = some r) (hl : r.left.toNat = l) (hq2 : q2 = (q || !decide (wid b U r = U l))) : Wd b g V (k + 1) q2 (upd U l (wid b U r)) := by
  have hrm := List.mem_of_getElem? hr
  have hU2 := h.inv.step hg hrm
  have hge := wid_ge b U r
  have hln := (left_lt hg hrm).2
  have hshut : ShutE b U r ↔ wid b U r = U l := by unfold ShutE; rw [hl]
  rw [hl] at hU2 hge hln
  have hle : sumV U g.ns.length ≤ sumV (upd U l (wid b U r)) g.ns.length := sumV_le fun i _ => by
    by_cases e : i = l
    · subst e; rw [upd_at]; exact hge
    · rw [upd_ne _ _ e]; exact Nat.le_refl _
  refine ⟨hU2, fun e => ?_, Nat.le_trans h.le hle, fun e => ?_⟩
  · rw [e] at hq2
    cases q with
    | true => exact Nat.lt_of_lt_of_le (h.up rfl) hle
    | false =>
      have hne : wid b U r ≠ U l := by simpa using hq2.symm
      refine Nat.lt_of_le_of_lt h.le (sumV_lt (fun i _ => ?_) ⟨l, hln, by rw [upd_at]; omega⟩)
      by_cases e : i = l
      · subst e; rw [upd_at]; exact hge
      · rw [upd_ne _ _ e]; exact Nat.le_refl _
  · rw [e] at hq2
    have hq3 : q = false ∧ wid b U r = U l := by simpa using hq2.symm
    have hid : upd U l (wid b U r) = U := by
      funext i
      by_cases e : i = l
      · subst e; rw [upd_at]; exact hq3.2
      · rw [upd_ne _ _ e]
    rw [hid]
    intro j r' hj hj2
    by_cases e : j = k
    · subst e
      rw [hr] at hj2
      obtain rfl := Option.some.inj hj2
      exact hshut.2 hq3.2
    · exact h.shut hq3.1 j r' (by omega) hj2

theorem Wd.end {b : Bool} {g : G} {V U : Nat → Nat} {q : Bool} {k : Nat} (h : Wd b g V k q U) (hk : g.rs.length ≤ k) : q = false → ∀ r ∈ g.rs, ShutE b U r := fun hq r hr => by
  obtain ⟨j, hj, rfl⟩ := List.getElem_of_mem hr
  exact h.shut hq j _ (by omega) (List.getElem?_eq_getElem hj)

end Go.Proofs.YtmepnjnpfmgokaaDoor.EndsMath
