/-
  Which rows of tokens are derived; how long shortest rows are. No part of the program.
-/
import Derived.Test.YtjmodcpeggafhaaDoorUsefulMath
namespace Go.Proofs.YtjmodcpeggafhaaDoor.UsefulMath
open Go.Proofs.YtjmodcpeggafhaaDoor.GramMath Go.Proofs.YtjmodcpeggafhaaDoor.SetsMath
set_option linter.unusedVariables false

/-- A row of symbols derives a row of tokens. -/
inductive D (rs : List R) : List Int → List Int → Prop
  | nil : D rs [] []
  | term {x : Int} {l v : List Int} (h : 0 ≤ x) (hd : D rs l v) : D rs (x :: l) (x :: v)
  | rule {l u v : List Int} (r : R) (hr : r ∈ rs) (hu : D rs r.right u) (hv : D rs l v) : D rs ((-1 - r.left) :: l) (u ++ v)

theorem D.app {rs : List R} {a b u v : List Int} (h : D rs a u) (h2 : D rs b v) : D rs (a ++ b) (u ++ v) := by
  induction h with
  | nil => exact h2
  | term h _ ih => exact .term h ih
  | rule r hr hu _ _ ih => rw [List.cons_append, List.append_assoc]; exact .rule r hr hu ih

theorem D.one {rs : List R} {r : R} (hr : r ∈ rs) {u : List Int} (h : D rs r.right u) : D rs [-1 - r.left] u := by
  have := D.rule (l := []) (v := []) r hr h .nil
  simpa using this

theorem D.mono {rs rs' : List R} (hs : ∀ r ∈ rs, r ∈ rs') {l v : List Int} (h : D rs l v) : D rs' l v := by
  induction h with
  | nil => exact .nil
  | term h _ ih => exact .term h ih
  | rule r hr _ _ ih1 ih2 => exact .rule r (hs r hr) ih1 ih2

/-- Its nonterminals are productive. -/
theorem D.prod {t n : Nat} {rs : List R} (ho : OkRs t n rs) {l v : List Int} (h : D rs l v) : ∀ x ∈ l, x < 0 → Prod rs (-1 - x) := by
  induction h with
  | nil => intro x hx; cases hx
  | term h _ ih =>
    intro x hx h0
    rcases List.mem_cons.1 hx with rfl | hx
    · omega
    · exact ih x hx h0
  | rule r hr _ _ ih1 ih2 =>
    intro x hx h0
    rcases List.mem_cons.1 hx with rfl | hx
    · rw [show -1 - (-1 - r.left) = r.left by omega]
      exact .mk r hr ih1
    · exact ih2 x hx h0

theorem D.toks {t n : Nat} {rs : List R} (ho : OkRs t n rs) {l v : List Int} (h : D rs l v) : (∀ x ∈ l, x < t) → ∀ x ∈ v, 0 ≤ x ∧ x < t := by
  induction h with
  | nil => intro _ x hx; cases hx
  | term h _ ih =>
    intro hl x hx
    rcases List.mem_cons.1 hx with rfl | hx
    · exact ⟨h, hl _ (by simp)⟩
    · exact ih (fun y hy => hl y (by simp [hy])) x hx
  | rule r hr _ _ ih1 ih2 =>
    intro hl x hx
    rcases List.mem_append.1 hx with hx | hx
    · exact ih1 (fun y hy => (ho.sym hr hy).2) x hx
    · exact ih2 (fun y hy => hl y (by simp [hy])) x hx

theorem prod_D {t n : Nat} {rs : List R} (ho : OkRs t n rs) {k : Int} (h : Prod rs k) : ∃ v, D rs [-1 - k] v := by
  induction h with
  | mk r hr _ ih =>
    have key : ∀ l : List Int, (∀ x ∈ l, x ∈ r.right) → ∃ v, D rs l v := by
      intro l
      induction l with
      | nil => intro _; exact ⟨[], .nil⟩
      | cons x l ihl =>
        intro hl
        obtain ⟨v, hv⟩ := ihl (fun y hy => hl y (by simp [hy]))
        by_cases h0 : x < 0
        · obtain ⟨u, hu⟩ := ih x (hl x (by simp)) h0
          rw [show -1 - (-1 - x) = x by omega] at hu
          exact ⟨u ++ v, D.app hu hv⟩
        · exact ⟨x :: v, .term (by omega) hv⟩
    obtain ⟨v, hv⟩ := key r.right (fun _ h => h)
    exact ⟨v, D.one hr hv⟩

/-- A nonterminal's derivations begin with a rule. -/
theorem D.inv {rs : List R} {k : Int} {v : List Int} (hk : 0 ≤ k) (h : D rs [-1 - k] v) : ∃ r ∈ rs, r.left = k ∧ D rs r.right v := by
  generalize hl : [-1 - k] = l at h
  cases h with
  | nil => cases hl
  | term h _ =>
    simp at hl
    omega
  | rule r hr hu hv =>
    simp only [List.cons.injEq] at hl
    obtain ⟨h1, rfl⟩ := hl
    cases hv
    exact ⟨r, hr, by omega, by simpa using hu⟩

theorem D.cons_inv {rs : List R} {x : Int} {l w : List Int} (h : D rs (x :: l) w) : ∃ u v, w = u ++ v ∧ D rs [x] u ∧ D rs l v := by
  generalize hl : x :: l = m at h
  cases h with
  | nil => cases hl
  | term h hd =>
    simp only [List.cons.injEq] at hl
    obtain ⟨rfl, rfl⟩ := hl
    exact ⟨[_], _, rfl, .term h .nil, hd⟩
  | rule r hr hu hv =>
    simp only [List.cons.injEq] at hl
    obtain ⟨rfl, rfl⟩ := hl
    exact ⟨_, _, rfl, D.one hr hu, hv⟩

/-- How many tokens symbols have, with nonterminals' rows of those lengths. -/
def sumL (ls : List Int) : List Int → Int
  | [] => 0
  | x :: l => (if x < 0 then ls.getD (-1 - x).toNat 0 else 1) + sumL ls l

theorem sumL_app (ls : List Int) : ∀ a b : List Int, sumL ls (a ++ b) = sumL ls a + sumL ls b
  | [], b => by simp [sumL]
  | x :: a, b => by simp only [List.cons_append, sumL, sumL_app ls a b]; omega

/-- What is known of lengths at any time. -/
def LenOk (rs : List R) (n : Nat) (ls : List Int) : Prop :=
  ls.length = n ∧ ∀ k, k < n → (¬ Prod rs k → ls.getD k 0 = -1) ∧ (Prod rs k → 0 ≤ ls.getD k 0 ∧ ls.getD k 0 ≤ 65537 ∧ (ls.getD k 0 = 65537 ∨ ∃ v, D rs [-1 - (k : Int)] v ∧ (v.length : Int) = ls.getD k 0))

/-- No rule makes a shorter row. -/
def LenEnd (rs : List R) (ls : List Int) : Prop := ∀ r ∈ rs, (∀ x ∈ r.right, x < 0 → Prod rs (-1 - x)) → ls.getD r.left.toNat 0 ≤ sumL ls r.right

theorem sum_bounds {t n : Nat} {rs : List R} (ho : OkRs t n rs) {ls : List Int} (h : LenOk rs n ls) : ∀ {l : List Int}, (∀ x ∈ l, -1 - x < n) → (∀ x ∈ l, x < 0 → Prod rs (-1 - x)) → 0 ≤ sumL ls l ∧ sumL ls l ≤ 65537 * l.length
  | [], _, _ => by simp [sumL]
  | x :: l, h1, h2 => by
    have ih := sum_bounds ho h (l := l) (fun y hy => h1 y (by simp [hy])) (fun y hy => h2 y (by simp [hy]))
    simp only [sumL, List.length_cons]
    by_cases h0 : x < 0
    · rw [if_pos h0]
      have hx := h1 x (by simp)
      have hp := h2 x (by simp) h0
      have h3 := (h.2 (-1 - x).toNat (by omega)).2 (by rw [Int.toNat_of_nonneg (by omega)]; exact hp)
      omega
    · rw [if_neg h0]
      omega

theorem sum_low {t n : Nat} {rs : List R} (ho : OkRs t n rs) {ls : List Int} (h : LenOk rs n ls) : ∀ {l : List Int}, (∀ x ∈ l, -1 - x < n) → -(l.length : Int) ≤ sumL ls l ∧ sumL ls l ≤ 65537 * l.length
  | [], _ => by simp [sumL]
  | x :: l, h1 => by
    have ih := sum_low ho h (l := l) (fun y hy => h1 y (by simp [hy]))
    simp only [sumL, List.length_cons]
    by_cases h0 : x < 0
    · rw [if_pos h0]
      have hx := h1 x (by simp)
      have h3 := h.2 (-1 - x).toNat (by omega)
      by_cases hp : Prod rs ((-1 - x).toNat : Nat)
      · have := h3.2 hp
        omega
      · have := h3.1 hp
        omega
    · rw [if_neg h0]
      omega

/-- Lengths that are not too long are those of rows. -/
theorem sum_row {t n : Nat} {rs : List R} (ho : OkRs t n rs) {ls : List Int} (h : LenOk rs n ls) : ∀ {l : List Int}, (∀ x ∈ l, -1 - x < n) → (∀ x ∈ l, x < 0 → Prod rs (-1 - x)) → sumL ls l < 65537 → ∃ u, D rs l u ∧ (u.length : Int) = sumL ls l
  | [], _, _, _ => ⟨[], .nil, rfl⟩
  | x :: l, h1, h2, h3 => by
    have hb := sum_bounds ho h (l := l) (fun y hy => h1 y (by simp [hy])) (fun y hy => h2 y (by simp [hy]))
    simp only [sumL] at h3 ⊢
    by_cases h0 : x < 0
    · rw [if_pos h0] at h3 ⊢
      have hx := h1 x (by simp)
      have hp := h2 x (by simp) h0
      have hk : (((-1 - x).toNat : Nat) : Int) = -1 - x := Int.toNat_of_nonneg (by omega)
      obtain ⟨h4, h5, h6⟩ := (h.2 (-1 - x).toNat (by omega)).2 (by rw [hk]; exact hp)
      obtain ⟨v, hv, hvl⟩ := sum_row ho h (l := l) (fun y hy => h1 y (by simp [hy])) (fun y hy => h2 y (by simp [hy])) (by omega)
      rcases h6 with h6 | ⟨u, hu, hul⟩
      · omega
      · rw [hk, show -1 - (-1 - x) = x by omega] at hu
        exact ⟨u ++ v, D.app hu hv, by rw [List.length_append]; omega⟩
    · rw [if_neg h0] at h3 ⊢
      obtain ⟨v, hv, hvl⟩ := sum_row ho h (l := l) (fun y hy => h1 y (by simp [hy])) (fun y hy => h2 y (by simp [hy])) (by omega)
      exact ⟨x :: v, .term (by omega) hv, by rw [List.length_cons]; omega⟩

theorem getD_set (ls : List Int) (i k : Nat) (x : Int) (hi : i < ls.length) : (ls.set i x).getD k 0 = if i = k then x else ls.getD k 0 := by
  rw [List.getD_eq_getElem?_getD, List.getD_eq_getElem?_getD, List.getElem?_set]
  by_cases e : i = k
  · subst e; simp [hi]
  · simp [e]

/-- A rule makes a shorter row. -/
theorem LenOk.lower {t n : Nat} {rs : List R} (ho : OkRs t n rs) {ls : List Int} (h : LenOk rs n ls) {r : R} (hr : r ∈ rs) (hp : ∀ x ∈ r.right, x < 0 → Prod rs (-1 - x)) (hlt : sumL ls r.right < ls.getD r.left.toNat 0) : LenOk rs n (ls.set r.left.toNat (sumL ls r.right)) := by
  have hl := ho.left hr
  have hk : ((r.left.toNat : Nat) : Int) = r.left := Int.toNat_of_nonneg hl.1
  have hpl : Prod rs r.left := .mk r hr hp
  obtain ⟨h4, h5, h6⟩ := (h.2 r.left.toNat (by omega)).2 (by rw [hk]; exact hpl)
  have hb := sum_bounds ho h (fun x hx => (ho.sym hr hx).1) hp
  refine ⟨by simpa using h.1, fun k hkn => ?_⟩
  rw [getD_set _ _ _ _ (by rw [h.1]; omega)]
  by_cases e : r.left.toNat = k
  · subst e
    rw [if_pos rfl, hk]
    refine ⟨fun hn => absurd hpl hn, fun _ => ⟨hb.1, by omega, .inr ?_⟩⟩
    obtain ⟨u, hu, hul⟩ := sum_row ho h (fun x hx => (ho.sym hr hx).1) hp (by omega)
    exact ⟨u, D.one hr hu, hul⟩
  · rw [if_neg e]
    exact h.2 k hkn

/-- At the end none is shorter. -/
theorem LenEnd.le {t n : Nat} {rs : List R} (ho : OkRs t n rs) {ls : List Int} (he : LenEnd rs ls) {l v : List Int} (h : D rs l v) : sumL ls l ≤ v.length := by
  induction h with
  | nil => simp [sumL]
  | term h _ ih =>
    simp only [sumL, List.length_cons]
    rw [if_neg (by omega)]
    omega
  | rule r hr hu hv ih1 ih2 =>
    have hl := ho.left hr
    have := he r hr (hu.prod ho)
    simp only [sumL, List.length_append]
    rw [if_pos (by omega), show -1 - (-1 - r.left) = r.left by omega]
    omega

/-- The lengths of shortest rows. -/
def Short (rs : List R) (n : Nat) (ls : List Int) : Prop := LenOk rs n ls ∧ ∀ k, k < n → ∀ v, D rs [-1 - (k : Int)] v → ls.getD k 0 ≤ v.length

theorem LenEnd.short {t n : Nat} {rs : List R} (ho : OkRs t n rs) {ls : List Int} (hk : LenOk rs n ls) (he : LenEnd rs ls) : Short rs n ls :=
  ⟨hk, fun k hkn v hv => by
    have := he.le ho hv
    simp only [sumL] at this
    rw [if_pos (by omega), show -1 - (-1 - (k : Int)) = k by omega, Int.toNat_natCast] at this
    omega⟩

theorem Short.eq {t n : Nat} {rs : List R} (ho : OkRs t n rs) {ls ls' : List Int} (h : Short rs n ls) (h' : Short rs n ls') : ls = ls' := by
  apply List.ext_getElem
  · rw [h.1.1, h'.1.1]
  intro k h1 h2
  have hk : k < n := by rw [← h.1.1]; exact h1
  have e1 : ls[k] = ls.getD k 0 := by rw [List.getD_eq_getElem?_getD, List.getElem?_eq_getElem h1]; rfl
  have e2 : ls'[k] = ls'.getD k 0 := by rw [List.getD_eq_getElem?_getD, List.getElem?_eq_getElem h2]; rfl
  rw [e1, e2]
  obtain ⟨a1, a2⟩ := h.1.2 k hk
  obtain ⟨b1, b2⟩ := h'.1.2 k hk
  by_cases hp : Prod rs k
  · obtain ⟨a3, a4, a5⟩ := a2 hp
    obtain ⟨b3, b4, b5⟩ := b2 hp
    have a6 := h.2 k hk
    have b6 := h'.2 k hk
    rcases a5 with a5 | ⟨u, hu, hul⟩
    · rcases b5 with b5 | ⟨v, hv, hvl⟩
      · omega
      · have := a6 v hv
        omega
    · have := b6 u hu
      rcases b5 with b5 | ⟨v, hv, hvl⟩
      · omega
      · have := a6 v hv
        omega
  · rw [a1 hp, b1 hp]

/-- The sum of lengths, for the end of the rounds. -/
def totL (ls : List Int) : Nat := (ls.map (fun x => x.toNat)).sum
theorem totL_set : ∀ (ls : List Int) (i : Nat) (x : Int), i < ls.length → x.toNat < (ls.getD i 0).toNat → totL (ls.set i x) < totL ls
  | [], i, x, h, _ => by simp at h
  | y :: l, 0, x, _, h => by
    simp [totL] at h ⊢
    omega
  | y :: l, i + 1, x, h, h2 => by
    have := totL_set l i x (by simpa using h) (by simpa using h2)
    simp [totL] at this ⊢
    omega

end Go.Proofs.YtjmodcpeggafhaaDoor.UsefulMath
