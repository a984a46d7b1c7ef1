/-
  Right sides turned about, rules in another order, a rule less: what becomes of the relations. No part of the program.
-/
import Derived.Test.YtffdnpjkcchmnaaDoorBaseMath
import Derived.Test.YtffdnpjkcchmnaaDoorEndsTurnMath
namespace Go.Proofs.YtffdnpjkcchmnaaDoor.MatrixTurn
open Go.Proofs.YtffdnpjkcchmnaaDoor.GramMath Go.Proofs.YtffdnpjkcchmnaaDoor.EndsMath Go.Proofs.YtffdnpjkcchmnaaDoor.GramLess Go.Proofs.YtffdnpjkcchmnaaDoor.EndsTurn Go.Proofs.YtffdnpjkcchmnaaDoor.MatrixMath
set_option linter.unusedVariables false

theorem RelAt.mono {g g' : G} (h : ∀ b n t, Lft b g.rs n t → Lft b g'.rs n t) {l : List Int} {k : Nat} {x a b : Int} (hr : RelAt g l k x a b) : RelAt g' l k x a b := by
  cases hr with
  | yields h0 hk hn hb0 hb => exact .yields h0 hk hn hb0 (h _ _ _ hb)
  | equal h0 hk hb0 hb => exact .equal h0 hk hb0 hb
  | takes h0 hk hn ha0 ha => exact .takes h0 hk hn ha0 (h _ _ _ ha)

theorem rel_cases {g : G} {x a b : Int} : Rel g x a b ↔ (∃ r ∈ g.rs, ∃ k, k < r.right.length ∧ RelAt g r.right k x a b) ∨ (x = 1 ∧ a = g.ts.length ∧ 0 ≤ b ∧ Lft false g.rs g.ax.toNat b.toNat) ∨ (x = 3 ∧ b = g.ts.length ∧ 0 ≤ a ∧ Lft true g.rs g.ax.toNat a.toNat) := by
  constructor
  · intro h
    cases h with
    | @rule i k x a b hi hk h =>
      obtain ⟨r, hr, _, e⟩ := rightOf_mem hi
      rw [e] at hk h
      exact .inl ⟨r, hr, k, hk, h⟩
    | first hb0 hb => exact .inr (.inl ⟨rfl, rfl, hb0, hb⟩)
    | last ha0 ha => exact .inr (.inr ⟨rfl, rfl, ha0, ha⟩)
  · rintro (⟨r, hr, k, hk, h⟩ | ⟨rfl, rfl, h1, h2⟩ | ⟨rfl, rfl, h1, h2⟩)
    · obtain ⟨i, hi, rfl⟩ := List.getElem_of_mem hr
      have e : rightOf g.rs i = g.rs[i].right := by unfold rightOf; rw [List.getD_eq_getElem?_getD, List.getElem?_eq_getElem hi]; rfl
      exact .rule hi (by rw [e]; exact hk) (by rw [e]; exact h)
    · exact .first h1 h2
    · exact .last h1 h2

theorem rel_less {g : G} {rs : List R} (hm : ∀ r ∈ rs, r ∈ g.rs) {x a b : Int} (h : Rel (withR g rs) x a b) : Rel g x a b := by
  have hl : ∀ b n t, Lft b (withR g rs).rs n t → Lft b g.rs n t := fun b n t h => Lft.mono hm h
  rcases rel_cases.1 h with ⟨r, hr, k, hk, h⟩ | ⟨h1, h2, h3, h4⟩ | ⟨h1, h2, h3, h4⟩
  · exact rel_cases.2 (.inl ⟨r, hm r hr, k, hk, RelAt.mono hl h⟩)
  · exact rel_cases.2 (.inr (.inl ⟨h1, h2, h3, hl _ _ _ h4⟩))
  · exact rel_cases.2 (.inr (.inr ⟨h1, h2, h3, hl _ _ _ h4⟩))
theorem rel_more {g : G} {rs : List R} (hm : ∀ r ∈ g.rs, r ∈ rs) {x a b : Int} (h : Rel g x a b) : Rel (withR g rs) x a b := by
  have hl : ∀ b n t, Lft b g.rs n t → Lft b (withR g rs).rs n t := fun b n t h => Lft.mono hm h
  rcases rel_cases.1 h with ⟨r, hr, k, hk, h⟩ | ⟨h1, h2, h3, h4⟩ | ⟨h1, h2, h3, h4⟩
  · exact rel_cases.2 (.inl ⟨r, hm r hr, k, hk, RelAt.mono hl h⟩)
  · exact rel_cases.2 (.inr (.inl ⟨h1, h2, h3, hl _ _ _ h4⟩))
  · exact rel_cases.2 (.inr (.inr ⟨h1, h2, h3, hl _ _ _ h4⟩))
theorem rel_same {g : G} {rs : List R} (hm : ∀ r, r ∈ rs ↔ r ∈ g.rs) {x a b : Int} : Rel g x a b ↔ Rel (withR g rs) x a b :=
  ⟨rel_more (fun r hr => (hm r).2 hr), rel_less (fun r hr => (hm r).1 hr)⟩

theorem getD_rev {l : List Int} {k : Nat} (hk : k < l.length) : l.reverse.getD k 0 = l.getD (l.length - 1 - k) 0 := by
  rw [List.getD_eq_getElem?_getD, List.getD_eq_getElem?_getD, List.getElem?_reverse hk]

/-- The relation turned about. -/
def flip (x : Int) : Int := 4 - x

theorem at_turn {g g' : G} (hl : ∀ b n t, Lft b g.rs n t → Lft (!b) g'.rs n t) {l : List Int} {k : Nat} {x a b : Int} (hk : k < l.length) (h : RelAt g l k x a b) : ∃ j, j < l.reverse.length ∧ RelAt g' l.reverse j (flip x) b a := by
  have hlen : l.reverse.length = l.length := List.length_reverse
  cases h with
  | @yields n b h0 hk1 hn hb0 hb =>
    have e1 : l.reverse.getD (l.length - 1 - k) 0 = l.getD k 0 := by rw [getD_rev (by omega), show l.length - 1 - (l.length - 1 - k) = k by omega]
    have e2 : l.reverse.getD (l.length - 1 - k - 1) 0 = l.getD (k + 1) 0 := by rw [getD_rev (by omega), show l.length - 1 - (l.length - 1 - k - 1) = k + 1 by omega]
    refine ⟨l.length - 1 - k, by omega, ?_⟩
    have := RelAt.takes (g := g') (l := l.reverse) (k := l.length - 1 - k) (n := n) (a := b) (by rw [e1]; exact h0) (by omega) (by rw [e2]; exact hn) hb0 (hl _ _ _ hb)
    rw [e1] at this
    exact this
  | @takes n a h0 hk1 hn ha0 ha =>
    have e1 : l.reverse.getD (l.length - 1 - k) 0 = l.getD k 0 := by rw [getD_rev (by omega), show l.length - 1 - (l.length - 1 - k) = k by omega]
    have e2 : l.reverse.getD (l.length - 1 - k + 1) 0 = l.getD (k - 1) 0 := by rw [getD_rev (by omega), show l.length - 1 - (l.length - 1 - k + 1) = k - 1 by omega]
    refine ⟨l.length - 1 - k, by omega, ?_⟩
    have := RelAt.yields (g := g') (l := l.reverse) (k := l.length - 1 - k) (n := n) (b := a) (by rw [e1]; exact h0) (by omega) (by rw [e2]; exact hn) ha0 (hl _ _ _ ha)
    rw [e1] at this
    exact this
  | @equal b h0 hk1 hb0 hb =>
    subst hb
    by_cases hB : behB l k
    · have e : eqK l k = k + 2 := by unfold eqK; rw [if_pos hB]
      rw [e] at hk1 hb0 ⊢
      have e1 : l.reverse.getD (l.length - 1 - (k + 2)) 0 = l.getD (k + 2) 0 := by rw [getD_rev (by omega), show l.length - 1 - (l.length - 1 - (k + 2)) = k + 2 by omega]
      have e2 : l.reverse.getD (l.length - 1 - (k + 2) + 1) 0 = l.getD (k + 1) 0 := by rw [getD_rev (by omega), show l.length - 1 - (l.length - 1 - (k + 2) + 1) = k + 1 by omega]
      have e3 : l.reverse.getD (l.length - 1 - (k + 2) + 2) 0 = l.getD k 0 := by rw [getD_rev (by omega), show l.length - 1 - (l.length - 1 - (k + 2) + 2) = k by omega]
      have hB2 : behB l.reverse (l.length - 1 - (k + 2)) := ⟨by omega, by rw [e2]; exact hB.2⟩
      have ek : eqK l.reverse (l.length - 1 - (k + 2)) = l.length - 1 - (k + 2) + 2 := by unfold eqK; rw [if_pos hB2]
      refine ⟨l.length - 1 - (k + 2), by omega, ?_⟩
      have := RelAt.equal (g := g') (l := l.reverse) (k := l.length - 1 - (k + 2)) (b := l.getD k 0) (by rw [e1]; exact hb0) (by rw [ek]; omega) (by rw [ek, e3]; exact h0) (by rw [ek, e3])
      rw [e1] at this
      exact this
    · have e : eqK l k = k + 1 := by unfold eqK; rw [if_neg hB]
      rw [e] at hk1 hb0 ⊢
      have e1 : l.reverse.getD (l.length - 1 - (k + 1)) 0 = l.getD (k + 1) 0 := by rw [getD_rev (by omega), show l.length - 1 - (l.length - 1 - (k + 1)) = k + 1 by omega]
      have e2 : l.reverse.getD (l.length - 1 - (k + 1) + 1) 0 = l.getD k 0 := by rw [getD_rev (by omega), show l.length - 1 - (l.length - 1 - (k + 1) + 1) = k by omega]
      have hB2 : ¬ behB l.reverse (l.length - 1 - (k + 1)) := fun h => by have := h.2; rw [e2] at this; omega
      have ek : eqK l.reverse (l.length - 1 - (k + 1)) = l.length - 1 - (k + 1) + 1 := by unfold eqK; rw [if_neg hB2]
      refine ⟨l.length - 1 - (k + 1), by omega, ?_⟩
      have := RelAt.equal (g := g') (l := l.reverse) (k := l.length - 1 - (k + 1)) (b := l.getD k 0) (by rw [e1]; exact hb0) (by rw [ek]; omega) (by rw [ek, e2]; exact h0) (by rw [ek, e2])
      rw [e1] at this
      exact this

theorem rel_turn1 {g : G} {x a b : Int} (h : Rel g x a b) : Rel (withR g (g.rs.map turn)) (flip x) b a := by
  have hl : ∀ b n t, Lft b g.rs n t → Lft (!b) (withR g (g.rs.map turn)).rs n t := fun b n t h => lft_turn h
  rcases rel_cases.1 h with ⟨r, hr, k, hk, h⟩ | ⟨rfl, h2, h3, h4⟩ | ⟨rfl, h2, h3, h4⟩
  · obtain ⟨j, hj, h5⟩ := at_turn hl hk h
    exact rel_cases.2 (.inl ⟨turn r, List.mem_map_of_mem hr, j, hj, h5⟩)
  · exact rel_cases.2 (.inr (.inr ⟨rfl, h2, h3, hl _ _ _ h4⟩))
  · exact rel_cases.2 (.inr (.inl ⟨rfl, h2, h3, hl _ _ _ h4⟩))

theorem rel_turn {g : G} {x a b : Int} : Rel g x a b ↔ Rel (withR g (g.rs.map turn)) (flip x) b a := by
  constructor
  · exact rel_turn1
  · intro h
    have h2 := rel_turn1 h
    have e : withR (withR g (g.rs.map turn)) ((withR g (g.rs.map turn)).rs.map turn) = g := by
      cases g
      simp only [withR]
      congr 1
      exact turn_turn _
    rw [e, show flip (flip x) = x by unfold flip; omega] at h2
    exact h2

end Go.Proofs.YtffdnpjkcchmnaaDoor.MatrixTurn
