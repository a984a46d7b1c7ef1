/-
  Parts of a graph: as lists, and in memory.
-/
import Derived.Test.YtgllcbajgndldaaDoorGraphRound
namespace Go.Proofs.YtgllcbajgndldaaDoor.GraphNet
open Go.RowKit Go.Sort Go.Proofs.YtgllcbajgndldaaDoor.GramMath Go.Proofs.YtgllcbajgndldaaDoor.GramRow Go.Proofs.YtgllcbajgndldaaDoor.GramApart Go.Proofs.YtgllcbajgndldaaDoor.GraphMath Go.Proofs.YtgllcbajgndldaaDoor.GraphFn Go.Proofs.YtgllcbajgndldaaDoor.GraphSort Go.Proofs.YtgllcbajgndldaaDoor.OpRow Go.Proofs.YtgllcbajgndldaaDoor.GramErrs
set_option linter.unusedVariables false
set_option linter.unusedSimpArgs false

/-- Is there a way from each to the other? -/
def sameT (m : Nat) (E : List (Nat × Nat)) (a b : Nat) : Bool := ((GraphMath.tour m E [a]).ahead b != -1) && ((GraphMath.tour m E [b]).ahead a != -1)
/-- A node put to the first part whose least node is such, or a part of its own. -/
def addP (same : Nat → Nat → Bool) (ps : List (List Nat)) (x : Nat) : List (List Nat) :=
  match ps.findIdx? (fun p => same (p.headD 0) x) with
  | some k => ps.set k ((ps.getD k []) ++ [x])
  | none => ps ++ [[x]]
def partsK (same : Nat → Nat → Bool) (k : Nat) : List (List Nat) := (List.range k).foldl (addP same) []
theorem partsK_succ (same : Nat → Nat → Bool) (k : Nat) : partsK same (k + 1) = addP same (partsK same k) k := by unfold partsK; rw [List.range_succ, List.foldl_append]; rfl

theorem addP_hit {same : Nat → Nat → Bool} {ps : List (List Nat)} {x k : Nat} {p : List Nat} (hp : ps[k]? = some p) (hs : same (p.headD 0) x = true) (hno : ∀ i q, i < k → ps[i]? = some q → same (q.headD 0) x = false) : addP same ps x = ps.set k (p ++ [x]) := by
  have hk := (List.getElem?_eq_some_iff.1 hp).1
  have h : ps.findIdx? (fun p => same (p.headD 0) x) = some k := by
    rw [List.findIdx?_eq_some_iff_getElem]
    refine ⟨hk, ?_, fun j hj => ?_⟩
    · rw [(List.getElem?_eq_some_iff.1 hp).2]; exact hs
    · have := hno j _ hj (List.getElem?_eq_getElem (by omega))
      simpa using this
  unfold addP
  rw [h]
  simp [List.getD, hp]
theorem addP_miss {same : Nat → Nat → Bool} {ps : List (List Nat)} {x : Nat} (hno : ∀ i q, i < ps.length → ps[i]? = some q → same (q.headD 0) x = false) : addP same ps x = ps ++ [[x]] := by
  have h : ps.findIdx? (fun p => same (p.headD 0) x) = none := by
    rw [List.findIdx?_eq_none_iff]
    intro q hq
    obtain ⟨i, hi, e⟩ := List.mem_iff_getElem.1 hq
    exact hno i q hi (by rw [List.getElem?_eq_getElem hi, e])
  unfold addP
  rw [h]

/-- Parts that may be. -/
structure PsOk (m k : Nat) (ps : List (List Nat)) : Prop where
  ne : ∀ p ∈ ps, p ≠ []
  lt : ∀ p ∈ ps, ∀ x ∈ p, x < k
  len : ps.length ≤ k
  each : ∀ p ∈ ps, p.length ≤ k
theorem PsOk.nil (m : Nat) : PsOk m 0 [] := ⟨by simp, by simp, by simp, by simp⟩
theorem PsOk.add {m k : Nat} {ps : List (List Nat)} {same : Nat → Nat → Bool} (h : PsOk m k ps) : PsOk m (k + 1) (addP same ps k) := by
  unfold addP
  cases hf : ps.findIdx? (fun p => same (p.headD 0) k) with
  | none =>
    dsimp only
    refine ⟨fun p hp => ?_, fun p hp x hx => ?_, by simp; exact h.len, fun p hp => ?_⟩
    · rcases List.mem_append.1 hp with h1 | h1
      · exact h.ne p h1
      · rw [List.mem_singleton.1 h1]; simp
    · rcases List.mem_append.1 hp with h1 | h1
      · have := h.lt p h1 x hx; omega
      · rw [List.mem_singleton.1 h1] at hx; have := List.mem_singleton.1 hx; omega
    · rcases List.mem_append.1 hp with h1 | h1
      · have := h.each p h1; omega
      · rw [List.mem_singleton.1 h1]; simp
  | some i =>
    dsimp only
    rw [List.findIdx?_eq_some_iff_getElem] at hf
    obtain ⟨hi, _⟩ := hf
    have e : ps.getD i [] = ps[i] := by simp [List.getD, List.getElem?_eq_getElem hi]
    have hin : ps[i] ∈ ps := List.getElem_mem hi
    rw [e]
    refine ⟨fun p hp => ?_, fun p hp x hx => ?_, by rw [List.length_set]; have := h.len; omega, fun p hp => ?_⟩
    · rcases List.mem_or_eq_of_mem_set hp with h1 | h1
      · exact h.ne p h1
      · rw [h1]; simp
    · rcases List.mem_or_eq_of_mem_set hp with h1 | h1
      · have := h.lt p h1 x hx; omega
      · rw [h1] at hx
        rcases List.mem_append.1 hx with h2 | h2
        · have := h.lt _ hin x h2; omega
        · have := List.mem_singleton.1 h2; omega
    · rcases List.mem_or_eq_of_mem_set hp with h1 | h1
      · have := h.each p h1; omega
      · rw [h1]; have := h.each _ hin; simp; omega
theorem partsK_ok (m : Nat) (same : Nat → Nat → Bool) : ∀ k, PsOk m k (partsK same k)
  | 0 => PsOk.nil m
  | k + 1 => by rw [partsK_succ]; exact (partsK_ok m same k).add

/-- Parts in memory, each in a block of its own. -/
structure Pts (w : World) (B : Nat) (pv : Value) (ps : List (List Nat)) (Vs : List Value) : Prop where
  outer : w.ownsRow B 24 1 pv ps.length Vs
  row : ∀ (i : Nat) p, ps[i]? = some p → ∃ v, Vs[i]? = some v ∧ w.ownsRow B 3 1 v p.length (iV (ints p))
  apart : ∀ (i j x : Nat) u v, Vs[i]? = some u → Vs[j]? = some v → u.ownBlock = some x → v.ownBlock = some x → i = j

theorem Pts.nil (w : World) (B : Nat) : Pts w B (.slice none 0 0) [] [] := ⟨World.ownsRow_nil .., fun i p h => by simp at h, fun i j x u v h => by simp at h⟩
theorem Pts.below {w w' : World} {B : Nat} {pv : Value} {ps : List (List Nat)} {Vs : List Value} (h : Pts w B pv ps Vs) (hb : Below w.heap.size w w') : Pts w' B pv ps Vs :=
  ⟨own_up h.outer hb, fun i p hp => by
    obtain ⟨v, h1, h2⟩ := h.row i p hp
    exact ⟨v, h1, own_up h2 hb⟩, h.apart⟩
theorem Pts.len {w : World} {B : Nat} {pv : Value} {ps : List (List Nat)} {Vs : List Value} (h : Pts w B pv ps Vs) : Vs.length = ps.length := by have := h.outer.1; omega

theorem kept_other {w w' : World} {base base' e e' : Nat} {v u : Value} {n k : Nat} {xs ys : List Value} (h : w.ownsRow base e 1 v n xs) (hu : w.ownsRow base' e' 1 u k ys) (hne : e ≠ e') (hg : w.grownBy w' u.ownBlock) : w'.ownsRow base e 1 v n xs := by
  obtain ⟨h1, h | ⟨g, cap, cur, hv, hbb, hr, rest⟩⟩ := h
  · exact ⟨h1, .inl h⟩
  · refine ⟨h1, .inr ⟨g, cap, cur, hv, hbb, ?_, rest⟩⟩
    have hrow : RowAt w g e cur := hr
    exact (hrow.grown hg (hrow.not_own hne hu))

theorem own_set1 {w : World} {base e n g c q : Nat} {x : Value} {xs : List Value} (h : w.ownsRow base e 1 (.slice (some ⟨g, 0, none⟩) n c) n xs) (hq : q < n) : (w.setCell ⟨g, q, none⟩ x).ownsRow base e 1 (.slice (some ⟨g, 0, none⟩) n c) n (xs.set q x) := by
  obtain ⟨hl, ⟨e1, _⟩ | ⟨g', cap, cur, e1, h1, h2, h3, h4, h5, h6⟩⟩ := h
  · cases e1
  · cases e1
    have hr : RowAt w g e cur := h2
    refine ⟨by rw [List.length_set]; exact hl, .inr ⟨g, c, cur.setIfInBounds q x, rfl, h1, hr.set q x, h3, h4, by simpa using h5, ?_⟩⟩
    rw [← h6, Array.toList_setIfInBounds, List.take_set]

/-- A node more in a part. -/
theorem Pts.grow {w w' : World} {B : Nat} {ps : List (List Nat)} {Vs : List Value} {pg pc k x : Nat} {p : List Nat} {v v' : Value} (h : Pts w B (.slice (some ⟨pg, 0, none⟩) ps.length pc) ps Vs) (hp : ps[k]? = some p) (hv : Vs[k]? = some v)
    (hown : w'.ownsRow B 3 1 v' (p.length + 1) (iV (ints p) ++ [.int .i64 (x : Int)])) (hg : w.grownBy w' v.ownBlock) (hat : ∀ g, v'.ownBlock = some g → v.ownBlock = some g ∨ w.heap.size ≤ g) :
    (w'.cell? ⟨pg, k, none⟩ = some v ∧ w'.frozen? ⟨pg, k, none⟩ = false) ∧ Pts (w'.setCell ⟨pg, k, none⟩ v') B (.slice (some ⟨pg, 0, none⟩) ps.length pc) (ps.set k (p ++ [x])) (Vs.set k v') := by
  have hk := (List.getElem?_eq_some_iff.1 hp).1
  obtain ⟨v0, hv0, hrow⟩ := h.row k p hp
  obtain rfl : v0 = v := by rw [hv] at hv0; exact (Option.some.inj hv0).symm
  have hout := kept_other h.outer hrow (by decide) hg
  have hout2 := own_set1 (x := v') hout hk
  have hcell : w'.cell? ⟨pg, k, none⟩ = some v0 := by rw [hout.cellAt k (by omega)]; exact hv
  have hfz : w'.frozen? ⟨pg, k, none⟩ = false := by
    obtain ⟨_, ⟨e1, _⟩ | ⟨g', cap, cur, e1, _, h2, _⟩⟩ := hout
    · cases e1
    · cases e1
      have hr : RowAt w' pg 24 cur := h2
      exact hr.frozen k
  have hfar : ∀ {u : Value} {n : Nat} {xs : List Value}, w'.ownsRow B 3 1 u n xs → (w'.setCell ⟨pg, k, none⟩ v').ownsRow B 3 1 u n xs := fun hu => by
    refine ownsRow_setCell_other hu ?_ _
    obtain ⟨_, ⟨e1, _⟩ | ⟨g', cap, cur, e1, _, h2, _⟩⟩ := hout
    · cases e1
    · cases e1
      have hr : RowAt w' pg 24 cur := h2
      exact (hr.not_own (by decide) hu).symm
  refine ⟨⟨hcell, hfz⟩, by rw [List.length_set]; exact hout2, fun i q hq => ?_, fun i j y u u' hu hu' h1 h2 => ?_⟩
  · by_cases e : i = k
    · subst e
      rw [List.getElem?_set_self hk] at hq
      obtain rfl : p ++ [x] = q := by simpa using hq
      refine ⟨v', by rw [List.getElem?_set_self (by rw [h.len]; exact hk)], hfar ?_⟩
      simpa [iV, ints] using hown
    · rw [List.getElem?_set_ne (fun h => e h.symm)] at hq
      obtain ⟨u, hu1, hu2⟩ := h.row i q hq
      refine ⟨u, by rw [List.getElem?_set_ne (fun h => e h.symm)]; exact hu1, hfar (hu2.kept hg ?_)⟩
      cases hb : u.ownBlock with
      | none => exact .inl rfl
      | some y => exact .inr (fun hc => e (h.apart i k y u v0 hu1 hv hb hc.symm))
  · have hlt : ∀ i u, i ≠ k → (Vs.set k v')[i]? = some u → Vs[i]? = some u ∧ ∀ y, u.ownBlock = some y → y < w.heap.size := fun i u hi hu => by
      rw [List.getElem?_set_ne (fun h => hi h.symm)] at hu
      have hil : i < ps.length := by rw [← h.len]; exact (List.getElem?_eq_some_iff.1 hu).1
      obtain ⟨u0, e1, e2⟩ := h.row i ps[i] (List.getElem?_eq_getElem hil)
      rw [hu] at e1
      cases e1
      exact ⟨hu, fun y hy => (e2.lt y hy).2⟩
    have hk2 : ∀ u, (Vs.set k v')[k]? = some u → u = v' := fun u hu => by
      rw [List.getElem?_set_self (by rw [h.len]; exact hk)] at hu
      exact (Option.some.inj hu).symm
    by_cases e1 : i = k
    · by_cases e2 : j = k
      · rw [e1, e2]
      · subst e1
        rw [hk2 u hu] at h1
        obtain ⟨p1, p2⟩ := hlt j u' e2 hu'
        rcases hat y h1 with h3 | h3
        · exact h.apart i j y v0 u' hv p1 h3 h2
        · have := p2 y h2; omega
    · by_cases e2 : j = k
      · subst e2
        rw [hk2 u' hu'] at h2
        obtain ⟨p1, p2⟩ := hlt i u e1 hu
        rcases hat y h2 with h3 | h3
        · exact h.apart i j y u v0 p1 hv h1 h3
        · have := p2 y h1; omega
      · exact h.apart i j y u u' (hlt i u e1 hu).1 (hlt j u' e2 hu').1 h1 h2

/-- A part more. -/
theorem Pts.more {w w1 w' : World} {B x rb : Nat} {pv pv' : Value} {ps : List (List Nat)} {Vs : List Value} (h : Pts w B pv ps Vs) (hB : B ≤ w.heap.size) (hw1 : Below w.heap.size w w1) (hrb : w.heap.size ≤ rb) (hrow : RowAt w1 rb 3 (intsA [(x : Int)]))
    (hown : w'.ownsRow B 24 1 pv' (ps.length + 1) (Vs ++ [.slice (some ⟨rb, 0, none⟩) 1 1])) (hg : w1.grownBy w' pv.ownBlock) :
    Pts w' B pv' (ps ++ [[x]]) (Vs ++ [.slice (some ⟨rb, 0, none⟩) 1 1]) := by
  have h1 := h.below hw1
  have hnew : w1.ownsRow B 3 1 (.slice (some ⟨rb, 0, none⟩) 1 1) 1 (iV (ints [x])) := ⟨rfl, .inr ⟨rb, 1, _, rfl, by omega, hrow, Nat.le_refl _, by decide, rfl, rfl⟩⟩
  refine ⟨by simpa using hown, fun i p hp => ?_, fun i j y u v hu hv e1 e2 => ?_⟩
  · by_cases hi : i < ps.length
    · rw [List.getElem?_append_left hi] at hp
      obtain ⟨v, hv1, hv2⟩ := h1.row i p hp
      exact ⟨v, by rw [List.getElem?_append_left (by rw [h.len]; exact hi)]; exact hv1, kept_other hv2 h1.outer (by decide) hg⟩
    · have hi2 : i = ps.length := by
        have := (List.getElem?_eq_some_iff.1 hp).1
        simp at this
        omega
      subst hi2
      obtain rfl : [x] = p := by simpa using hp
      refine ⟨.slice (some ⟨rb, 0, none⟩) 1 1, by rw [← h.len]; simp, kept_other hnew h1.outer (by decide) hg⟩
  · have hold : ∀ i u, (Vs ++ [.slice (some ⟨rb, 0, none⟩) 1 1])[i]? = some u → (Vs[i]? = some u ∧ ∀ y, u.ownBlock = some y → y < w.heap.size) ∨ (i = ps.length ∧ u.ownBlock = some rb) := fun i u hu => by
      by_cases hi : i < Vs.length
      · rw [List.getElem?_append_left hi] at hu
        obtain ⟨u0, p1, p2⟩ := h.row i (ps[i]'(by rw [← h.len]; exact hi)) (List.getElem?_eq_getElem _)
        rw [hu] at p1
        cases p1
        exact .inl ⟨hu, fun y hy => (p2.lt y hy).2⟩
      · have hi2 : i = Vs.length := by
          have := (List.getElem?_eq_some_iff.1 hu).1
          simp at this
          omega
        subst hi2
        obtain rfl : _ = u := by simpa using hu
        exact .inr ⟨h.len, rfl⟩
    rcases hold i u hu with ⟨a1, a2⟩ | ⟨a1, a2⟩
    · rcases hold j v hv with ⟨b1, b2⟩ | ⟨b1, b2⟩
      · exact h.apart i j y u v a1 b1 e1 e2
      · rw [b2] at e2
        have := a2 y e1
        cases e2
        omega
    · rcases hold j v hv with ⟨b1, b2⟩ | ⟨b1, b2⟩
      · rw [a2] at e1
        have := b2 y e2
        cases e1
        omega
      · rw [a1, b1]

end Go.Proofs.YtgllcbajgndldaaDoor.GraphNet
