/-
  Texts that stand together: UsefulDMath.
-/
import Derived.Test.YthbbipgngeflnaaGreatDoorBBaseMath
namespace Go.Proofs.YthbbipgngeflnaaGreatDoor.UsefulMath
open Go.Proofs.YthbbipgngeflnaaGreatDoor.GramMath Go.Proofs.YthbbipgngeflnaaGreatDoor.SetsMath
set_option linter.unusedVariables false

/-- A row of symbols derives a row of tokens. -/
inductive D (rs : List R) : List Int → List Int → Prop
  | nil : D rs [] []
  | term {x : Int} {l v : List Int} (h : 0 ≤ x) (hd : D rs l v) : D rs (x :: l) (x :: v)
  | rule {l u v : List Int} (r : R) (hr : r ∈ rs) (hu : D rs r.right u) (hv : D rs l v) : D rs ((-1 - r.left) :: l) (u ++ v)

theorem D.app {rs : List R} {a b u v : List Int} (h : D rs a u) (h2 : D rs b v) : D rs (a ++ b) (u ++ v) := by
  induction h with
  | nil => exact h2
  | term h _ ih => exact .term h ih
  | rule r hr hu _ _ ih => rw [List.cons_append, List.append_assoc]; exact .rule r hr hu ih

theorem D.one {rs : List R} {r : R} (hr : r ∈ rs) {u : List Int} (h : D rs r.right u) : D rs [-1 - r.left] u := by
  have := D.rule (l := []) (v := []) r hr h .nil
  simpa using this

theorem D.mono {rs rs' : List R} (hs : ∀ r ∈ rs, r ∈ rs') {l v : List Int} (h : D rs l v) : D rs' l v := by
  induction h with
  | nil => exact .nil
  | term h _ ih => exact .term h ih
  | rule r hr _ _ ih1 ih2 => exact .rule r (hs r hr) ih1 ih2

/-- Its nonterminals are productive. -/
theorem D.prod {t n : Nat} {rs : List R} (ho : OkRs t n rs) {l v : List Int} (h : D rs l v) : ∀ x ∈ l, x < 0 → Prod rs (-1 - x) := by
  induction h with
  | nil => intro x hx; cases hx
  | term h _ ih =>
    intro x hx h0
    rcases List.mem_cons.1 hx with rfl | hx
    · omega
    · exact ih x hx h0
  | rule r hr _ _ ih1 ih2 =>
    intro x hx h0
    rcases List.mem_cons.1 hx with rfl | hx
    · rw [show -1 - (-1 - r.left) = r.left by omega]
      exact .mk r hr ih1
    · exact ih2 x hx h0

theorem D.toks {t n : Nat} {rs : List R} (ho : OkRs t n rs) {l v : List Int} (h : D rs l v) : (∀ x ∈ l, x < t) → ∀ x ∈ v, 0 ≤ x ∧ x < t := by
  induction h with
  | nil => intro _ x hx; cases hx
  | term h _ ih =>
    intro hl x hx
    rcases List.mem_cons.1 hx with rfl | hx
    · exact ⟨h, hl _ (by simp)⟩
    · exact ih (fun y hy => hl y (by simp [hy])) x hx
  | rule r hr _ _ ih1 ih2 =>
    intro hl x hx
    rcases List.mem_append.1 hx with hx | hx
    · exact ih1 (fun y hy => (ho.sym hr hy).2) x hx
    · exact ih2 (fun y hy => hl y (by simp [hy])) x hx

/-- A nonterminal's derivations begin with a rule. -/
theorem D.inv {rs : List R} {k : Int} {v : List Int} (hk : 0 ≤ k) (h : D rs [-1 - k] v) : ∃ r ∈ rs, r.left = k ∧ D rs r.right v := by
  generalize hl : [-1 - k] = l at h
  cases h with
  | nil => cases hl
  | term h _ =>
    simp at hl
    omega
  | rule r hr hu hv =>
    simp only [List.cons.injEq] at hl
    obtain ⟨h1, rfl⟩ := hl
    cases hv
    exact ⟨r, hr, by omega, by simpa using hu⟩

/-- How many tokens symbols have, with nonterminals' rows of those lengths. -/
def sumL (ls : List Int) : List Int → Int
  | [] => 0
  | x :: l => (if x < 0 then ls.getD (-1 - x).toNat 0 else 1) + sumL ls l

theorem sumL_app (ls : List Int) : ∀ a b : List Int, sumL ls (a ++ b) = sumL ls a + sumL ls b
  | [], b => by simp [sumL]
  | x :: a, b => by simp only [List.cons_append, sumL, sumL_app ls a b]; omega

/-- What is known of lengths at any time. -/
def LenOk (rs : List R) (n : Nat) (ls : List Int) : Prop :=
  ls.length = n ∧ ∀ k, k < n → (¬ Prod rs k → ls.getD k 0 = -1) ∧ (Prod rs k → 0 ≤ ls.getD k 0 ∧ ls.getD k 0 ≤ 65537 ∧ (ls.getD k 0 = 65537 ∨ ∃ v, D rs [-1 - (k : Int)] v ∧ (v.length : Int) = ls.getD k 0))

/-- No rule makes a shorter row. -/
def LenEnd (rs : List R) (ls : List Int) : Prop := ∀ r ∈ rs, (∀ x ∈ r.right, x < 0 → Prod rs (-1 - x)) → ls.getD r.left.toNat 0 ≤ sumL ls r.right

theorem sum_bounds {t n : Nat} {rs : List R} (ho : OkRs t n rs) {ls : List Int} (h : LenOk rs n ls) : ∀ {l : List Int}, (∀ x ∈ l, -1 - x < n) → (∀ x ∈ l, x < 0 → Prod rs (-1 - x)) → 0 ≤ sumL ls l ∧ sumL ls l ≤ 65537 * l.length
  | [], _, _ => by simp [sumL]
  | x :: l, h1, h2 => by
    have ih := sum_bounds ho h (l := l) (fun y hy => h1 y (by simp [hy])) (fun y hy => h2 y (by simp [hy]))
    simp only [sumL, List.length_cons]
    by_cases h0 : x < 0
    · rw [if_pos h0]
      have hx := h1 x (by simp)
      have hp := h2 x (by simp) h0
      have h3 := (h.2 (-1 - x).toNat (by omega)).2 (by rw [Int.toNat_of_nonneg (by omega)]; exact hp)
      omega
    · rw [if_neg h0]
      omega

/-- Lengths that are not too long are those of rows. -/
theorem sum_row {t n : Nat} {rs : List R} (ho : OkRs t n rs) {ls : List Int} (h : LenOk rs n ls) : ∀ {l : List Int}, (∀ x ∈ l, -1 - x < n) → (∀ x ∈ l, x < 0 → Prod rs (-1 - x)) → sumL ls l < 65537 → ∃ u, D rs l u ∧ (u.length : Int) = sumL ls l
  | [], _, _, _ => ⟨[], .nil, rfl⟩
  | x :: l, h1, h2, h3 => by
    have hb := sum_bounds ho h (l := l) (fun y hy => h1 y (by simp [hy])) (fun y hy => h2 y (by simp [hy]))
    simp only [sumL] at h3 ⊢
    by_cases h0 : x < 0
    · rw [if_pos h0] at h3 ⊢
      have hx := h1 x (by simp)
      have hp := h2 x (by simp) h0
      have hk : (((-1 - x).toNat : Nat) : Int) = -1 - x := Int.toNat_of_nonneg (by omega)
      obtain ⟨h4, h5, h6⟩ := (h.2 (-1 - x).toNat (by omega)).2 (by rw [hk]; exact hp)
      obtain ⟨v, hv, hvl⟩ := sum_row ho h (l := l) (fun y hy => h1 y (by simp [hy])) (fun y hy => h2 y (by simp [hy])) (by omega)
      rcases h6 with h6 | ⟨u, hu, hul⟩
      · omega
      · rw [hk, show -1 - (-1 - x) = x by omega] at hu
        exact ⟨u ++ v, D.app hu hv, by rw [List.length_append]; omega⟩
    · rw [if_neg h0] at h3 ⊢
      obtain ⟨v, hv, hvl⟩ := sum_row ho h (l := l) (fun y hy => h1 y (by simp [hy])) (fun y hy => h2 y (by simp [hy])) (by omega)
      exact ⟨x :: v, .term (by omega) hv, by rw [List.length_cons]; omega⟩

theorem getD_set (ls : List Int) (i k : Nat) (x : Int) (hi : i < ls.length) : (ls.set i x).getD k 0 = if i = k then x else ls.getD k 0 := by
  rw [List.getD_eq_getElem?_getD, List.getD_eq_getElem?_getD, List.getElem?_set]
  by_cases e : i = k
  · subst e; simp [hi]
  · simp [e]

/-- A rule makes a shorter row. -/
theorem LenOk.lower {t n : Nat} {rs : List R} (ho : OkRs t n rs) {ls : List Int} (h : LenOk rs n ls) {r : R} (hr : r ∈ rs) (hp : ∀ x ∈ r.right, x < 0 → Prod rs (-1 - x)) (hlt : sumL ls r.right < ls.getD r.left.toNat 0) : LenOk rs n (ls.set r.left.toNat (sumL ls r.right)) := by
  have hl := ho.left hr
  have hk : ((r.left.toNat : Nat) : Int) = r.left := Int.toNat_of_nonneg hl.1
  have hpl : Prod rs r.left := .mk r hr hp
  obtain ⟨h4, h5, h6⟩ := (h.2 r.left.toNat (by omega)).2 (by rw [hk]; exact hpl)
  have hb := sum_bounds ho h (fun x hx => (ho.sym hr hx).1) hp
  refine ⟨by simpa using h.1, fun k hkn => ?_⟩
  rw [getD_set _ _ _ _ (by rw [h.1]; omega)]
  by_cases e : r.left.toNat = k
  · subst e
    rw [if_pos rfl, hk]
    refine ⟨fun hn => absurd hpl hn, fun _ => ⟨hb.1, by omega, .inr ?_⟩⟩
    obtain ⟨u, hu, hul⟩ := sum_row ho h (fun x hx => (ho.sym hr hx).1) hp (by omega)
    exact ⟨u, D.one hr hu, hul⟩
  · rw [if_neg e]
    exact h.2 k hkn

/-- At the end none is shorter. -/
theorem LenEnd.le {t n : Nat} {rs : List R} (ho : OkRs t n rs) {ls : List Int} (he : LenEnd rs ls) {l v : List Int} (h : D rs l v) : sumL ls l ≤ v.length := by
  induction h with
  | nil => simp [sumL]
  | term h _ ih =>
    simp only [sumL, List.length_cons]
    rw [if_neg (by omega)]
    omega
  | rule r hr hu hv ih1 ih2 =>
    have hl := ho.left hr
    have := he r hr (hu.prod ho)
    simp only [sumL, List.length_append]
    rw [if_pos (by omega), show -1 - (-1 - r.left) = r.left by omega]
    omega

/-- The lengths of shortest rows. -/
def Short (rs : List R) (n : Nat) (ls : List Int) : Prop := LenOk rs n ls ∧ ∀ k, k < n → ∀ v, D rs [-1 - (k : Int)] v → ls.getD k 0 ≤ v.length

theorem LenEnd.short {t n : Nat} {rs : List R} (ho : OkRs t n rs) {ls : List Int} (hk : LenOk rs n ls) (he : LenEnd rs ls) : Short rs n ls :=
  ⟨hk, fun k hkn v hv => by
    have := he.le ho hv
    simp only [sumL] at this
    rw [if_pos (by omega), show -1 - (-1 - (k : Int)) = k by omega, Int.toNat_natCast] at this
    omega⟩

theorem Short.eq {t n : Nat} {rs : List R} (ho : OkRs t n rs) {ls ls' : List Int} (h : Short rs n ls) (h' : Short rs n ls') : ls = ls' := by
  apply List.ext_getElem
  · rw [h.1.1, h'.1.1]
  intro k h1 h2
  have hk : k < n := by rw [← h.1.1]; exact h1
  have e1 : ls[k] = ls.getD k 0 := by rw [List.getD_eq_getElem?_getD, List.getElem?_eq_getElem h1]; rfl
  have e2 : ls'[k] = ls'.getD k 0 := by rw [List.getD_eq_getElem?_getD, List.getElem?_eq_getElem h2]; rfl
  rw [e1, e2]
  obtain ⟨a1, a2⟩ := h.1.2 k hk
  obtain ⟨b1, b2⟩ := h'.1.2 k hk
  by_cases hp : Prod rs k
  · obtain ⟨a3, a4, a5⟩ := a2 hp
    obtain ⟨b3, b4, b5⟩ := b2 hp
    have a6 := h.2 k hk
    have b6 := h'.2 k hk
    rcases a5 with a5 | ⟨u, hu, hul⟩
    · rcases b5 with b5 | ⟨v, hv, hvl⟩
      · omega
      · have := a6 v hv
        omega
    · have := b6 u hu
      rcases b5 with b5 | ⟨v, hv, hvl⟩
      · omega
      · have := a6 v hv
        omega
  · rw [a1 hp, b1 hp]

/-- The sum of lengths, for the end of the rounds. -/
def totL (ls : List Int) : Nat := (ls.map (fun x => x.toNat)).sum
theorem totL_set : ∀ (ls : List Int) (i : Nat) (x : Int), i < ls.length → x.toNat < (ls.getD i 0).toNat → totL (ls.set i x) < totL ls
  | [], i, x, h, _ => by simp at h
  | y :: l, 0, x, _, h => by
    simp [totL] at h ⊢
    omega
  | y :: l, i + 1, x, h, h2 => by
    have := totL_set l i x (by simpa using h) (by simpa using h2)
    simp [totL] at this ⊢
    omega

end Go.Proofs.YthbbipgngeflnaaGreatDoor.UsefulMath

namespace Go.Proofs.YthbbipgngeflnaaGreatDoor.UsefulMath
open Go.Proofs.YthbbipgngeflnaaGreatDoor.GramMath Go.Proofs.YthbbipgngeflnaaGreatDoor.SetsMath
set_option linter.unusedVariables false

/-- Which row is ahead, as a number. -/
def rk : List Int → Nat
  | [] => 0
  | x :: l => (x.toNat + 1) * 64 ^ l.length + rk l
def Tok (l : List Int) : Prop := ∀ x ∈ l, 0 ≤ x ∧ x < 64
def geo : Nat → Nat
  | 0 => 0
  | n + 1 => 64 ^ n + geo n

theorem geo_step : ∀ n, 64 * geo n + 1 = geo (n + 1)
  | 0 => rfl
  | n + 1 => by
    have ih := geo_step n
    show 64 * (64 ^ n + geo n) + 1 = 64 ^ (n + 1) + geo (n + 1)
    rw [Nat.pow_succ]
    omega
theorem geo_mono {a b : Nat} (h : a ≤ b) : geo a ≤ geo b := by
  induction b with
  | zero => rw [Nat.le_zero.1 h]; exact Nat.le_refl _
  | succ b ih =>
    by_cases e : a = b + 1
    · rw [e]; exact Nat.le_refl _
    · have := ih (by omega)
      exact Nat.le_trans this (Nat.le_add_left _ _)
theorem Tok.tail {x : Int} {l : List Int} (h : Tok (x :: l)) : Tok l := fun y hy => h y (by simp [hy])
theorem Tok.app {a b : List Int} (h : Tok a) (h2 : Tok b) : Tok (a ++ b) := fun y hy => by
  rcases List.mem_append.1 hy with hy | hy
  · exact h y hy
  · exact h2 y hy
theorem rk_bounds : ∀ {l : List Int}, Tok l → geo l.length ≤ rk l ∧ rk l ≤ 64 * geo l.length
  | [], _ => by simp [rk, geo]
  | x :: l, h => by
    obtain ⟨h1, h2⟩ := rk_bounds h.tail
    have hx := h x (by simp)
    have hp : 0 < 64 ^ l.length := Nat.pow_pos (by omega)
    show 64 ^ l.length + geo l.length ≤ (x.toNat + 1) * 64 ^ l.length + rk l ∧ (x.toNat + 1) * 64 ^ l.length + rk l ≤ 64 * (64 ^ l.length + geo l.length)
    have e1 : 1 * 64 ^ l.length ≤ (x.toNat + 1) * 64 ^ l.length := Nat.mul_le_mul_right _ (by omega)
    have e2 : (x.toNat + 1) * 64 ^ l.length ≤ 64 * 64 ^ l.length := Nat.mul_le_mul_right _ (by omega)
    omega
theorem rk_len {a b : List Int} (ha : Tok a) (hb : Tok b) (h : a.length < b.length) : rk a < rk b := by
  have h1 := (rk_bounds ha).2
  have h2 := (rk_bounds hb).1
  have h3 := geo_step a.length
  have h4 := geo_mono (show a.length + 1 ≤ b.length by omega)
  omega
theorem rk_le_len {a b : List Int} (ha : Tok a) (hb : Tok b) (h : rk a ≤ rk b) : a.length ≤ b.length := by
  rcases Nat.lt_or_ge b.length a.length with h1 | h1
  · have := rk_len hb ha h1
    omega
  · exact h1

/-- Two lists held against each other, as slices.Compare does. -/
def cmpL : List Int → List Int → Int
  | [], [] => 0
  | [], _ :: _ => -1
  | _ :: _, [] => 1
  | x :: a, y :: b => if x < y then -1 else if y < x then 1 else cmpL a b

theorem rk_head {x y : Int} {a b : List Int} (ha : Tok (x :: a)) (hb : Tok (y :: b)) (hl : a.length = b.length) (h : x < y) : rk (x :: a) < rk (y :: b) := by
  have h1 := (rk_bounds ha.tail).2
  have h2 := (rk_bounds hb.tail).1
  have hx := ha x (by simp)
  have h3 := geo_step a.length
  rw [← hl] at h2
  show (x.toNat + 1) * 64 ^ a.length + rk a < (y.toNat + 1) * 64 ^ b.length + rk b
  rw [← hl]
  have e : (x.toNat + 2) * 64 ^ a.length ≤ (y.toNat + 1) * 64 ^ a.length := Nat.mul_le_mul_right _ (by omega)
  have e2 : (x.toNat + 2) * 64 ^ a.length = (x.toNat + 1) * 64 ^ a.length + 64 ^ a.length := by rw [show x.toNat + 2 = (x.toNat + 1) + 1 by omega, Nat.add_mul]; omega
  have e3 : geo (a.length + 1) = 64 ^ a.length + geo a.length := rfl
  omega
theorem rk_cmp : ∀ {a b : List Int}, Tok a → Tok b → a.length = b.length → (cmpL a b < 0 ↔ rk a < rk b)
  | [], [], _, _, _ => by simp [cmpL]
  | [], _ :: _, _, _, h => by simp at h
  | _ :: _, [], _, _, h => by simp at h
  | x :: a, y :: b, ha, hb, h => by
    have hl : a.length = b.length := by simpa using h
    unfold cmpL
    by_cases h1 : x < y
    · rw [if_pos h1]
      exact ⟨fun _ => rk_head ha hb hl h1, fun _ => by omega⟩
    · rw [if_neg h1]
      by_cases h2 : y < x
      · rw [if_pos h2]
        have := rk_head hb ha hl.symm h2
        constructor
        · intro h; omega
        · intro h; omega
      · rw [if_neg h2, rk_cmp ha.tail hb.tail hl]
        obtain rfl : x = y := by omega
        show _ ↔ (x.toNat + 1) * 64 ^ a.length + rk a < (x.toNat + 1) * 64 ^ b.length + rk b
        rw [← hl]
        omega
theorem rk_inj : ∀ {a b : List Int}, Tok a → Tok b → rk a = rk b → a = b
  | [], [], _, _, _ => rfl
  | [], y :: b, ha, hb, h => by
    have := rk_len ha hb (by simp)
    omega
  | x :: a, [], ha, hb, h => by
    have := rk_len hb ha (by simp)
    omega
  | x :: a, y :: b, ha, hb, h => by
    have h1 := rk_le_len ha hb (by omega)
    have h2 := rk_le_len hb ha (by omega)
    have hl : a.length = b.length := by simp at h1 h2; omega
    have hxy : x = y := by
      rcases Int.lt_trichotomy x y with h3 | h3 | h3
      · have := rk_head ha hb hl h3; omega
      · exact h3
      · have := rk_head hb ha hl.symm h3; omega
    subst hxy
    have h' : (x.toNat + 1) * 64 ^ a.length + rk a = (x.toNat + 1) * 64 ^ b.length + rk b := h
    rw [← hl] at h'
    rw [rk_inj ha.tail hb.tail (by omega)]

theorem rk_app : ∀ (u v : List Int), rk (u ++ v) = rk u * 64 ^ v.length + rk v
  | [], v => by simp [rk]
  | x :: u, v => by
    show (x.toNat + 1) * 64 ^ (u ++ v).length + rk (u ++ v) = ((x.toNat + 1) * 64 ^ u.length + rk u) * 64 ^ v.length + rk v
    rw [rk_app u v, List.length_append, Nat.pow_add, Nat.add_mul _ (rk u), Nat.mul_assoc]
    omega
theorem rk_app_mono {u u' v v' : List Int} (hv : Tok v) (hv' : Tok v') (h1 : rk u ≤ rk u') (h2 : rk v ≤ rk v') : rk (u ++ v) ≤ rk (u' ++ v') := by
  rw [rk_app, rk_app]
  have hl := rk_le_len hv hv' h2
  have e : rk u * 64 ^ v.length ≤ rk u' * 64 ^ v'.length := Nat.mul_le_mul h1 (Nat.pow_le_pow_right (by omega) hl)
  omega
theorem rk_left (u v : List Int) : rk u ≤ rk (u ++ v) := by
  rw [rk_app]
  have : rk u * 1 ≤ rk u * 64 ^ v.length := Nat.mul_le_mul_left _ (Nat.pow_pos (by omega))
  omega
theorem rk_right (u v : List Int) : rk v ≤ rk (u ++ v) := by
  rw [rk_app]
  omega

/-- Is a row ahead of another one? -/
def aheadB (a b : List Int) : Bool := if a.length = b.length then decide (cmpL a b < 0) else decide (a.length < b.length)
theorem aheadB_rk {a b : List Int} (ha : Tok a) (hb : Tok b) : aheadB a b = true ↔ rk a < rk b := by
  unfold aheadB
  by_cases h : a.length = b.length
  · rw [if_pos h, decide_eq_true_iff]
    exact rk_cmp ha hb h
  · rw [if_neg h, decide_eq_true_iff]
    constructor
    · exact rk_len ha hb
    · intro h1
      have := rk_le_len ha hb (by omega)
      omega

/-- A right side with rows in the place of its nonterminals. -/
def joinR (f : Nat → List Int) : List Int → List Int
  | [] => []
  | x :: l => (if x < 0 then f (-1 - x).toNat else [x]) ++ joinR f l
theorem joinR_app (f : Nat → List Int) : ∀ a b : List Int, joinR f (a ++ b) = joinR f a ++ joinR f b
  | [], b => rfl
  | x :: a, b => by
    show (if x < 0 then _ else _) ++ joinR f (a ++ b) = ((if x < 0 then _ else _) ++ joinR f a) ++ joinR f b
    rw [joinR_app f a b, List.append_assoc]
theorem joinR_congr {f h : Nat → List Int} : ∀ {l : List Int}, (∀ x ∈ l, x < 0 → f (-1 - x).toNat = h (-1 - x).toNat) → joinR f l = joinR h l
  | [], _ => rfl
  | x :: l, hh => by
    show (if x < 0 then _ else _) ++ joinR f l = (if x < 0 then _ else _) ++ joinR h l
    rw [joinR_congr (fun y hy => hh y (by simp [hy]))]
    by_cases h0 : x < 0
    · rw [if_pos h0, if_pos h0, hh x (by simp) h0]
    · rw [if_neg h0, if_neg h0]
theorem joinR_D {rs : List R} {f : Nat → List Int} : ∀ {l : List Int}, (∀ x ∈ l, x < 0 → D rs [x] (f (-1 - x).toNat)) → D rs l (joinR f l)
  | [], _ => .nil
  | x :: l, h => by
    have ih := joinR_D (rs := rs) (f := f) (l := l) (fun y hy => h y (by simp [hy]))
    by_cases h0 : x < 0
    · have := D.app (h x (by simp) h0) ih
      show D rs (x :: l) ((if x < 0 then _ else _) ++ joinR f l)
      rw [if_pos h0]
      exact this
    · show D rs (x :: l) ((if x < 0 then _ else _) ++ joinR f l)
      rw [if_neg h0]
      exact .term (by omega) ih

/-- Rules whose right sides are as long as their Lefts' rows. -/
def LenX (ls : List Int) (rs : List R) : Prop := ∀ r ∈ rs, sumL ls r.right = ls.getD r.left.toNat 0
theorem D.len {t n : Nat} {rs : List R} (ho : OkRs t n rs) {ls : List Int} (hx : LenX ls rs) {l v : List Int} (h : D rs l v) : (v.length : Int) = sumL ls l := by
  induction h with
  | nil => rfl
  | term h _ ih =>
    simp only [sumL, List.length_cons]
    rw [if_neg (by omega)]
    omega
  | rule r hr hu hv ih1 ih2 =>
    have hl := ho.left hr
    have := hx r hr
    simp only [sumL, List.length_append]
    rw [if_pos (by omega), show -1 - (-1 - r.left) = r.left by omega]
    omega

def updR (f : Nat → List Int) (k : Nat) (v : List Int) : Nat → List Int := fun i => if i = k then v else f i
theorem updR_at (f : Nat → List Int) (k : Nat) (v : List Int) : updR f k v k = v := if_pos rfl
theorem updR_ne (f : Nat → List Int) {k i : Nat} (v : List Int) (h : i ≠ k) : updR f k v i = f i := if_neg h

/-- Rows that are settled one by one. -/
structure Dij (rs : List R) (f : Nat → List Int) (off set : Int) (rules : List R) : Prop where
  so : IsSet off
  ss : IsSet set
  der : ∀ k : Int, hasB off k = true → D rs [-1 - k] (f k.toNat)
  min : ∀ k : Int, hasB set k = true → hasB off k = true ∧ ∀ v, D rs [-1 - k] v → rk (f k.toNat) ≤ rk v
  sub : ∀ r ∈ rules, r ∈ rs
  done : ∀ r ∈ rs, r ∈ rules ∨ (nin set r = true ∧ hasB off r.left = true ∧ rk (f r.left.toNat) ≤ rk (joinR f r.right))

theorem Dij.start (rs : List R) : Dij rs (fun _ => []) 0 0 rs :=
  ⟨zero_isSet, zero_isSet, (fun k h => by rw [hasB_zero] at h; cases h), (fun k h => by rw [hasB_zero] at h; cases h), fun r h => h, fun r h => .inl h⟩

theorem Dij.toks {t n : Nat} {rs : List R} (ho : OkRs t n rs) (ht : t ≤ 64) {k : Int} (hk : 0 ≤ k) {v : List Int} (h : D rs [-1 - k] v) : Tok v := fun x hx => by
  have := h.toks ho (fun y hy => by simp at hy; omega) x hx
  omega

theorem Dij.row {t n : Nat} {rs : List R} (ho : OkRs t n rs) {f : Nat → List Int} {off set : Int} {rules : List R} (h : Dij rs f off set rules) {r : R} (hr : r ∈ rs) (hn : nin set r = true) : D rs r.right (joinR f r.right) :=
  joinR_D (fun x hx h0 => by
    have h1 := (nin_iff ho hr h.ss).1 hn x hx h0
    have := h.der _ (h.min _ h1).1
    rwa [show -1 - (-1 - x) = x by omega] at this)

/-- A rule's row is ahead: it is taken. -/
theorem Dij.take {t n : Nat} {rs : List R} (ho : OkRs t n rs) (ht : t ≤ 64) {f : Nat → List Int} {off set : Int} {r : R} {rules : List R} (h : Dij rs f off set (r :: rules)) (hn : nin set r = true) (ha : hasB off r.left = false ∨ aheadB (joinR f r.right) (f r.left.toNat) = true) :
    Dij rs (updR f r.left.toNat (joinR f r.right)) (withI off r.left) set rules := by
  have hr := h.sub r (by simp)
  have hl := ho.left hr
  have hrow := h.row ho hr hn
  have hD := D.one hr hrow
  have hns : ∀ k : Int, hasB set k = true → k.toNat ≠ r.left.toNat := fun k hk e => by
    have hkr := hasB_range hk
    obtain rfl : k = r.left := by omega
    have h1 := h.min _ hk
    rcases ha with ha | ha
    · rw [h1.1] at ha; cases ha
    · have h2 := h1.2 _ hD
      have h3 := (aheadB_rk (Dij.toks ho ht hl.1 hD) (Dij.toks ho ht hl.1 (h.der _ h1.1))).1 ha
      omega
  have hj : ∀ q ∈ rs, nin set q = true → joinR (updR f r.left.toNat (joinR f r.right)) q.right = joinR f q.right := fun q hq hqn => joinR_congr (fun x hx h0 => updR_ne _ _ (hns _ ((nin_iff ho hq h.ss).1 hqn x hx h0)))
  have hless : ∀ k : Int, hasB off k = true → rk (updR f r.left.toNat (joinR f r.right) k.toNat) ≤ rk (f k.toNat) := fun k hk => by
    by_cases e : k.toNat = r.left.toNat
    · have hkr := hasB_range hk
      obtain rfl : k = r.left := by omega
      rw [updR_at]
      rcases ha with ha | ha
      · rw [hk] at ha; cases ha
      · have h3 := (aheadB_rk (Dij.toks ho ht hl.1 hD) (Dij.toks ho ht hl.1 (h.der _ hk))).1 ha
        omega
    · rw [updR_ne _ _ e]; exact Nat.le_refl _
  refine ⟨withI_isSet _ h.so, h.ss, fun k hk => ?_, fun k hk => ?_, fun q hq => h.sub q (by simp [hq]), fun q hq => ?_⟩
  · by_cases e : k.toNat = r.left.toNat
    · have hkr := hasB_range hk
      obtain rfl : k = r.left := by omega
      rw [updR_at]
      exact hD
    · rw [updR_ne _ _ e]
      rcases (hasB_with h.so).1 hk with h1 | ⟨rfl, _⟩
      · exact h.der k h1
      · exact absurd rfl e
  · have h1 := h.min k hk
    rw [updR_ne _ _ (hns k hk)]
    exact ⟨(hasB_with h.so).2 (.inl h1.1), h1.2⟩
  · rcases h.done q hq with h1 | ⟨h1, h2, h3⟩
    · rcases List.mem_cons.1 h1 with rfl | h1
      · refine .inr ⟨hn, (hasB_with h.so).2 (.inr ⟨rfl, hl.1, hl.2.2⟩), ?_⟩
        rw [updR_at, hj q hq hn]
        exact Nat.le_refl _
      · exact .inl h1
    · refine .inr ⟨h1, (hasB_with h.so).2 (.inl h2), ?_⟩
      rw [hj q hq h1]
      exact Nat.le_trans (hless _ h2) h3
theorem Dij.skip {t n : Nat} {rs : List R} (ho : OkRs t n rs) (ht : t ≤ 64) {f : Nat → List Int} {off set : Int} {r : R} {rules : List R} (h : Dij rs f off set (r :: rules)) (hn : nin set r = true) (ha : hasB off r.left = true) (hb : aheadB (joinR f r.right) (f r.left.toNat) = false) : Dij rs f off set rules := by
  have hr := h.sub r (by simp)
  have hl := ho.left hr
  have hD := D.one hr (h.row ho hr hn)
  refine ⟨h.so, h.ss, h.der, h.min, fun q hq => h.sub q (by simp [hq]), fun q hq => ?_⟩
  rcases h.done q hq with h1 | h1
  · rcases List.mem_cons.1 h1 with rfl | h1
    · refine .inr ⟨hn, ha, ?_⟩
      rcases Nat.lt_or_ge (rk (joinR f q.right)) (rk (f q.left.toNat)) with h2 | h2
      · rw [(aheadB_rk (Dij.toks ho ht hl.1 hD) (Dij.toks ho ht hl.1 (h.der _ ha))).2 h2] at hb
        cases hb
      · exact h2
    · exact .inl h1
  · exact .inr h1

theorem Dij.perm {rs : List R} {f : Nat → List Int} {off set : Int} {l l' : List R} (h : Dij rs f off set l) (he : ∀ r, r ∈ l ↔ r ∈ l') : Dij rs f off set l' :=
  ⟨h.so, h.ss, h.der, h.min, fun r hr => h.sub r ((he r).2 hr), fun r hr => (h.done r hr).imp (he r).1 id⟩

/-- What is derived is settled, or the first of the open ones is not behind it. -/
theorem Dij.least {t n : Nat} {rs : List R} (ho : OkRs t n rs) (ht : t ≤ 64) {f : Nat → List Int} {off set : Int} {rules : List R} (h : Dij rs f off set rules) (hw : ∀ r ∈ rules, nin set r = false) {m : Nat} (hm : ∀ k : Int, hasB off k = true → hasB set k = false → m ≤ rk (f k.toNat)) {l v : List Int} (hd : D rs l v) :
    (∀ x ∈ l, x < t) → ((∀ x ∈ l, x < 0 → hasB set (-1 - x) = true) ∧ rk (joinR f l) ≤ rk v ∧ Tok (joinR f l)) ∨ m ≤ rk v := by
  induction hd with
  | nil => intro _; exact .inl ⟨(fun x hx => by cases hx), Nat.le_refl _, (fun x hx => by cases hx)⟩
  | @term x l v h0 hd ih =>
    intro hl
    rcases ih (fun y hy => hl y (by simp [hy])) with ⟨h1, h2, h3⟩ | h1
    · have hx := hl x (by simp)
      have htx : Tok [x] := fun y hy => by simp at hy; omega
      have hv : Tok v := fun y hy => by have := hd.toks ho (fun z hz => hl z (by simp [hz])) y hy; omega
      refine .inl ⟨fun y hy hy0 => ?_, ?_, ?_⟩
      · rcases List.mem_cons.1 hy with rfl | hy
        · omega
        · exact h1 y hy hy0
      · show rk ((if x < 0 then _ else _) ++ joinR f l) ≤ rk ([x] ++ v)
        rw [if_neg (by omega)]
        exact rk_app_mono h3 hv (Nat.le_refl _) h2
      · show Tok ((if x < 0 then _ else _) ++ joinR f l)
        rw [if_neg (by omega)]
        exact htx.app h3
    · exact .inr (Nat.le_trans h1 (rk_right [x] v))
  | @rule l u v r hr hu hv ih1 ih2 =>
    intro hl
    have hlr := ho.left hr
    have hut : Tok u := fun y hy => by have := hu.toks ho (fun z hz => (ho.sym hr hz).2) y hy; omega
    have hvt : Tok v := fun y hy => by have := hv.toks ho (fun z hz => hl z (by simp [hz])) y hy; omega
    rcases ih1 (fun z hz => (ho.sym hr hz).2) with ⟨h1, h2, h3⟩ | h1
    · have hn : nin set r = true := (nin_iff ho hr h.ss).2 h1
      rcases h.done r hr with h4 | ⟨_, h5, h6⟩
      · rw [hw r h4] at hn; cases hn
      · by_cases hs : hasB set r.left = true
        · rcases ih2 (fun y hy => hl y (by simp [hy])) with ⟨j1, j2, j3⟩ | j1
          · have hfl : Tok (f r.left.toNat) := Dij.toks ho ht hlr.1 (h.der _ h5)
            refine .inl ⟨fun y hy hy0 => ?_, ?_, ?_⟩
            · rcases List.mem_cons.1 hy with rfl | hy
              · rw [show -1 - (-1 - r.left) = r.left by omega]; exact hs
              · exact j1 y hy hy0
            · show rk ((if -1 - r.left < 0 then f (-1 - (-1 - r.left)).toNat else _) ++ joinR f l) ≤ rk (u ++ v)
              rw [if_pos (by omega), show -1 - (-1 - r.left) = r.left by omega]
              exact rk_app_mono j3 hvt (Nat.le_trans h6 h2) j2
            · show Tok ((if -1 - r.left < 0 then f (-1 - (-1 - r.left)).toNat else _) ++ joinR f l)
              rw [if_pos (by omega), show -1 - (-1 - r.left) = r.left by omega]
              exact hfl.app j3
          · exact .inr (Nat.le_trans j1 (rk_right u v))
        · have hs' : hasB set r.left = false := by simpa using hs
          exact .inr (Nat.le_trans (hm _ h5 hs') (Nat.le_trans h6 (Nat.le_trans h2 (rk_left u v))))
    · exact .inr (Nat.le_trans h1 (rk_left u v))

/-- The first of the open ones is settled. -/
theorem Dij.settle {t n : Nat} {rs : List R} (ho : OkRs t n rs) (ht : t ≤ 64) {f : Nat → List Int} {off set : Int} {rules : List R} (h : Dij rs f off set rules) (hw : ∀ r ∈ rules, nin set r = false) {a : Int} (ha : hasB off a = true) (hs : hasB set a = false) (hm : ∀ k : Int, hasB off k = true → hasB set k = false → rk (f a.toNat) ≤ rk (f k.toNat)) : Dij rs f off (withI set a) rules := by
  have har := hasB_range ha
  refine ⟨h.so, withI_isSet _ h.ss, h.der, fun k hk => ?_, h.sub, fun r hr => ?_⟩
  · rcases (hasB_with h.ss).1 hk with h1 | ⟨rfl, _⟩
    · exact h.min k h1
    · refine ⟨ha, fun v hv => ?_⟩
      rcases h.least ho ht hw hm hv (fun y hy => by simp at hy; omega) with ⟨h1, _⟩ | h1
      · have := h1 (-1 - a) (by simp) (by omega)
        rw [show -1 - (-1 - a) = a by omega, hs] at this
        cases this
      · exact h1
  · rcases h.done r hr with h1 | ⟨h1, h2⟩
    · exact .inl h1
    · exact .inr ⟨(nin_iff ho hr (withI_isSet _ h.ss)).2 (fun x hx h0 => (hasB_with h.ss).2 (.inl ((nin_iff ho hr h.ss).1 h1 x hx h0))), h2⟩

/-- None is open: what is derived is settled. -/
theorem Dij.all {t n : Nat} {rs : List R} (ho : OkRs t n rs) {f : Nat → List Int} {off set : Int} {rules : List R} (h : Dij rs f off set rules) (hw : ∀ r ∈ rules, nin set r = false) (hm : ∀ k : Int, hasB off k = true → hasB set k = true) {l v : List Int} (hd : D rs l v) : ∀ x ∈ l, x < 0 → hasB set (-1 - x) = true := by
  induction hd with
  | nil => intro x hx; cases hx
  | term h0 hd ih =>
    intro x hx hx0
    rcases List.mem_cons.1 hx with rfl | hx
    · omega
    · exact ih x hx hx0
  | rule r hr hu hv ih1 ih2 =>
    intro x hx hx0
    rcases List.mem_cons.1 hx with rfl | hx
    · rw [show -1 - (-1 - r.left) = r.left by omega]
      rcases h.done r hr with h1 | ⟨_, h2, _⟩
      · have := hw r h1
        rw [(nin_iff ho hr h.ss).2 ih1] at this
        cases this
      · exact hm _ h2
    · exact ih2 x hx hx0

/-- A shortest row: none is ahead of it. -/
def IsWord (rs : List R) (k : Int) (v : List Int) : Prop := D rs [-1 - k] v ∧ ∀ u, D rs [-1 - k] u → rk v ≤ rk u
theorem IsWord.eq {t n : Nat} {rs : List R} (ho : OkRs t n rs) (ht : t ≤ 64) {k : Int} (hk : 0 ≤ k) {u v : List Int} (h : IsWord rs k u) (h' : IsWord rs k v) : u = v := by
  have h1 := h.2 v h'.1
  have h2 := h'.2 u h.1
  exact rk_inj (Dij.toks ho ht hk h.1) (Dij.toks ho ht hk h'.1) (by omega)

theorem Dij.word {t n : Nat} {rs : List R} (ho : OkRs t n rs) {f : Nat → List Int} {off set : Int} {rules : List R} (h : Dij rs f off set rules) (hw : ∀ r ∈ rules, nin set r = false) (hm : ∀ k : Int, hasB off k = true → hasB set k = true) {k : Int} (hk : 0 ≤ k) {v : List Int} (hd : D rs [-1 - k] v) : IsWord rs k (f k.toNat) := by
  have h1 := h.all ho hw hm hd (-1 - k) (by simp) (by omega)
  rw [show -1 - (-1 - k) = k by omega] at h1
  have h2 := h.min k h1
  exact ⟨h.der k h2.1, h2.2⟩

end Go.Proofs.YthbbipgngeflnaaGreatDoor.UsefulMath
