/-
  Parts of a graph, by their least nodes. No part of the program.
-/
import Derived.Test.YtgllcbajgndldaaDoorGraphPts
namespace Go.Proofs.YtgllcbajgndldaaDoor.GraphNet
open Go.RowKit Go.Proofs.YtgllcbajgndldaaDoor.GramMath Go.Proofs.YtgllcbajgndldaaDoor.GraphMath Go.Proofs.YtgllcbajgndldaaDoor.GraphFn
set_option linter.unusedVariables false

/-- Nodes that hang together. -/
structure Eqv (m : Nat) (same : Nat → Nat → Bool) : Prop where
  refl : ∀ x, x < m → same x x = true
  symm : ∀ x y, x < m → y < m → same x y = true → same y x = true
  trans : ∀ x y z, x < m → y < m → z < m → same x y = true → same y z = true → same x z = true

def headB (same : Nat → Nat → Bool) (k : Nat) : Bool := (List.range k).all (fun i => !same i k)
def heads (same : Nat → Nat → Bool) (j : Nat) : List Nat := (List.range j).filter (headB same)
def cls (same : Nat → Nat → Bool) (j h : Nat) : List Nat := (List.range j).filter (same h)

theorem headB_iff {same : Nat → Nat → Bool} {k : Nat} : headB same k = true ↔ ∀ i, i < k → same i k = false := by
  unfold headB
  rw [List.all_eq_true]
  simp
theorem mem_heads {same : Nat → Nat → Bool} {j h : Nat} : h ∈ heads same j ↔ h < j ∧ ∀ i, i < h → same i h = false := by
  unfold heads
  rw [List.mem_filter, List.mem_range, headB_iff]
theorem mem_cls {same : Nat → Nat → Bool} {j h x : Nat} : x ∈ cls same j h ↔ x < j ∧ same h x = true := by
  unfold cls
  rw [List.mem_filter, List.mem_range]
theorem cls_succ (same : Nat → Nat → Bool) (j h : Nat) : cls same (j + 1) h = cls same j h ++ (if same h j = true then [j] else []) := by
  unfold cls
  rw [List.range_succ, List.filter_append]
  cases h1 : same h j <;> simp [h1]
theorem heads_succ (same : Nat → Nat → Bool) (j : Nat) : heads same (j + 1) = heads same j ++ (if headB same j = true then [j] else []) := by
  unfold heads
  rw [List.range_succ, List.filter_append]
  cases h1 : headB same j <;> simp [h1]

/-- Each node has a least one that hangs together with it. -/
theorem head_of {m : Nat} {same : Nat → Nat → Bool} (h : Eqv m same) : ∀ (n x : Nat), x < n → x < m → ∃ y, y ≤ x ∧ (∀ i, i < y → same i y = false) ∧ same y x = true
  | 0, x, hx, _ => by omega
  | n + 1, x, hx, hm => by
    by_cases hh : ∀ i, i < x → same i x = false
    · exact ⟨x, Nat.le_refl _, hh, h.refl x hm⟩
    · obtain ⟨i, hi⟩ := Classical.not_forall.1 hh
      obtain ⟨hi1, hi2⟩ := Classical.not_imp.1 hi
      have hi3 : same i x = true := by simpa using hi2
      obtain ⟨y, h1, h2, h3⟩ := head_of h n i (by omega) (by omega)
      exact ⟨y, by omega, h2, h.trans y i x (by omega) (by omega) hm h3 hi3⟩
theorem head_uniq {m : Nat} {same : Nat → Nat → Bool} (h : Eqv m same) {a b x : Nat} (ha : a < m) (hb : b < m) (hx : x < m) (ha2 : ∀ i, i < a → same i a = false) (hb2 : ∀ i, i < b → same i b = false) (h1 : same a x = true) (h2 : same b x = true) : a = b := by
  have h3 := h.trans a x b ha hx hb h1 (h.symm b x hb hx h2)
  have h4 := h.trans b x a hb hx ha h2 (h.symm a x ha hx h1)
  rcases Nat.lt_trichotomy a b with h5 | h5 | h5
  · rw [hb2 a h5] at h3; cases h3
  · exact h5
  · rw [ha2 b h5] at h4; cases h4

theorem cls_head {m j h : Nat} {same : Nat → Nat → Bool} (e : Eqv m same) (hj : j ≤ m) (hh : h ∈ heads same j) : (cls same j h).headD 0 = h := by
  obtain ⟨h1, h2⟩ := mem_heads.1 hh
  have hin : h ∈ cls same j h := mem_cls.2 ⟨h1, e.refl h (by omega)⟩
  have hsort : (cls same j h).Pairwise (· < ·) := List.Pairwise.filter _ List.pairwise_lt_range
  cases hc : cls same j h with
  | nil => rw [hc] at hin; cases hin
  | cons a l =>
    rw [hc] at hin hsort
    have ha : a ∈ cls same j h := by rw [hc]; exact List.mem_cons_self
    obtain ⟨ha1, ha2⟩ := mem_cls.1 ha
    show a = h
    rcases List.mem_cons.1 hin with e1 | e1
    · exact e1.symm
    · have h3 := (List.pairwise_cons.1 hsort).1 h e1
      have h4 := e.symm h a (by omega) (by omega) ha2
      rw [h2 a h3] at h4
      cases h4

theorem partsK_form {m : Nat} {same : Nat → Nat → Bool} (e : Eqv m same) : ∀ j, j ≤ m → partsK same j = (heads same j).map (cls same j)
  | 0, _ => rfl
  | j + 1, hj => by
    rw [partsK_succ, partsK_form e j (by omega)]
    have hjm : j < m := by omega
    by_cases hx : ∃ h ∈ heads same j, same h j = true
    · obtain ⟨h, hh, hs⟩ := hx
      obtain ⟨h1, h2⟩ := mem_heads.1 hh
      have hnb : headB same j = false := by
        rw [Bool.eq_false_iff]
        intro hc
        rw [headB_iff.1 hc h h1] at hs
        cases hs
      rw [heads_succ, hnb]
      simp only [Bool.false_eq_true, if_false, List.append_nil]
      obtain ⟨i, hi, ei⟩ := List.mem_iff_getElem.1 hh
      have hget : ((heads same j).map (cls same j))[i]? = some (cls same j h) := by rw [List.getElem?_map, List.getElem?_eq_getElem hi, ei]; rfl
      have hothers : ∀ k y, (heads same j)[k]? = some y → k ≠ i → same y j = false := fun k y hk hne => by
        rw [Bool.eq_false_iff]
        intro hc
        have hy := List.mem_of_getElem? hk
        obtain ⟨y1, y2⟩ := mem_heads.1 hy
        have := head_uniq e (by omega) (by omega) hjm y2 h2 hc hs
        subst this
        obtain ⟨hk2, ek⟩ := List.getElem?_eq_some_iff.1 hk
        have hnd : (heads same j).Nodup := (List.Pairwise.filter _ List.pairwise_lt_range : (heads same j).Pairwise (· < ·)).imp (fun h => Nat.ne_of_lt h)
        exact hne ((List.getElem_inj hnd).1 (ek.trans ei.symm))
      rw [addP_hit hget (by rw [cls_head e (by omega) hh]; exact hs) (fun k q hk hq => by
        rw [List.getElem?_map] at hq
        obtain ⟨y, hy, rfl⟩ := Option.map_eq_some_iff.1 hq
        rw [cls_head e (by omega) (List.mem_of_getElem? hy)]
        exact hothers k y hy (by omega))]
      apply List.ext_getElem?
      intro k
      by_cases ek : k = i
      · subst ek
        rw [List.getElem?_set_self (by simpa using hi), List.getElem?_map, List.getElem?_eq_getElem hi, ei]
        simp only [Option.map_some]
        rw [cls_succ, if_pos hs]
      · rw [List.getElem?_set_ne (fun h => ek h.symm), List.getElem?_map, List.getElem?_map]
        cases hk : (heads same j)[k]? with
        | none => rfl
        | some y =>
          simp only [Option.map_some]
          rw [cls_succ, hothers k y hk ek]
          simp
    · have hno : ∀ h ∈ heads same j, same h j = false := fun h hh => by
        rw [Bool.eq_false_iff]
        intro hc
        exact hx ⟨h, hh, hc⟩
      have hb : headB same j = true := by
        rw [headB_iff]
        intro i hi
        rw [Bool.eq_false_iff]
        intro hc
        obtain ⟨y, h1, h2, h3⟩ := head_of e (i + 1) i (by omega) (by omega)
        have := hno y (mem_heads.2 ⟨by omega, h2⟩)
        rw [e.trans y i j (by omega) (by omega) hjm h3 hc] at this
        cases this
      rw [addP_miss (fun k q hk hq => by
        rw [List.getElem?_map] at hq
        obtain ⟨y, hy, rfl⟩ := Option.map_eq_some_iff.1 hq
        rw [cls_head e (by omega) (List.mem_of_getElem? hy)]
        exact hno y (List.mem_of_getElem? hy))]
      rw [heads_succ, hb]
      simp only [if_true, List.map_append, List.map_cons, List.map_nil]
      congr 1
      · refine List.map_congr_left fun h hh => ?_
        rw [cls_succ, hno h hh]
        simp
      · rw [cls_succ, e.refl j hjm]
        simp only [if_true]
        have : cls same j j = [] := by
          unfold cls
          rw [List.filter_eq_nil_iff]
          intro i hi
          have hi2 := List.mem_range.1 hi
          have h1 := headB_iff.1 hb i hi2
          intro hc
          have := e.symm j i hjm (by omega) (by simpa using hc)
          rw [h1] at this
          cases this
        rw [this]
        rfl

theorem ahead_met {m : Nat} {E : List (Nat × Nat)} (hE : ∀ e ∈ E, e.1 < m ∧ e.2 < m) {a b : Nat} (ha : a < m) : ((GraphMath.tour m E [a]).ahead b != -1) = true ↔ GraphMath.Way E a b := by
  obtain ⟨hok, hmem⟩ := tour_facts hE [a] (by simpa using ha)
  rw [bne_iff_ne, ← hok.met b, hmem b]
  simp
theorem sameT_iff {m : Nat} {E : List (Nat × Nat)} (hE : ∀ e ∈ E, e.1 < m ∧ e.2 < m) {a b : Nat} (ha : a < m) (hb : b < m) : sameT m E a b = true ↔ GraphMath.Way E a b ∧ GraphMath.Way E b a := by
  unfold sameT
  rw [Bool.and_eq_true, ahead_met hE ha, ahead_met hE hb]
theorem way_trans {E : List (Nat × Nat)} {a b c : Nat} (h1 : GraphMath.Way E a b) (h2 : GraphMath.Way E b c) : GraphMath.Way E a c := by
  induction h2 with
  | none => exact h1
  | more _ he ih => exact ih.more he
theorem sameT_eqv {m : Nat} {E : List (Nat × Nat)} (hE : ∀ e ∈ E, e.1 < m ∧ e.2 < m) : Eqv m (sameT m E) :=
  ⟨fun x hx => (sameT_iff hE hx hx).2 ⟨.none x, .none x⟩, fun x y hx hy h => (sameT_iff hE hy hx).2 ((sameT_iff hE hx hy).1 h).symm, fun x y z hx hy hz h1 h2 => by
    obtain ⟨a1, a2⟩ := (sameT_iff hE hx hy).1 h1
    obtain ⟨b1, b2⟩ := (sameT_iff hE hy hz).1 h2
    exact (sameT_iff hE hx hz).2 ⟨way_trans a1 b1, way_trans b2 a2⟩⟩

end Go.Proofs.YtgllcbajgndldaaDoor.GraphNet
