/-
  Texts that stand together: GraphPts, GraphPartsM.
-/
import Derived.Test.YtigepihinflkdaaGreatDoorLGraphRound
namespace Go.Proofs.YtigepihinflkdaaGreatDoor.GraphNet
open Go.RowKit Go.Sort Go.Proofs.YtigepihinflkdaaGreatDoor.GramMath Go.Proofs.YtigepihinflkdaaGreatDoor.GramRow Go.Proofs.YtigepihinflkdaaGreatDoor.GramApart Go.Proofs.YtigepihinflkdaaGreatDoor.GraphMath Go.Proofs.YtigepihinflkdaaGreatDoor.GraphFn Go.Proofs.YtigepihinflkdaaGreatDoor.GraphSort Go.Proofs.YtigepihinflkdaaGreatDoor.OpRow Go.Proofs.YtigepihinflkdaaGreatDoor.GramErrs
set_option linter.unusedVariables false
set_option linter.unusedSimpArgs false

/-- Is there a way from each to the other? -/
def sameT (m : Nat) (E : List (Nat × Nat)) (a b : Nat) : Bool := ((GraphMath.tour m E [a]).ahead b != -1) && ((GraphMath.tour m E [b]).ahead a != -1)
/-- A node put to the first part whose least node is such, or a part of its own. -/
def addP (same : Nat → Nat → Bool) (ps : List (List Nat)) (x : Nat) : List (List Nat) :=
  match ps.findIdx? (fun p => same (p.headD 0) x) with
  | some k => ps.set k ((ps.getD k []) ++ [x])
  | none => ps ++ [[x]]
def partsK (same : Nat → Nat → Bool) (k : Nat) : List (List Nat) := (List.range k).foldl (addP same) []
theorem partsK_succ (same : Nat → Nat → Bool) (k : Nat) : partsK same (k + 1) = addP same (partsK same k) k := by unfold partsK; rw [List.range_succ, List.foldl_append]; rfl

theorem addP_hit {same : Nat → Nat → Bool} {ps : List (List Nat)} {x k : Nat} {p : List Nat} (hp : ps[k]? = some p) (hs : same (p.headD 0) x = true) (hno : ∀ i q, i < k → ps[i]? = some q → same (q.headD 0) x = false) : addP same ps x = ps.set k (p ++ [x]) := by
  have hk := (List.getElem?_eq_some_iff.1 hp).1
  have h : ps.findIdx? (fun p => same (p.headD 0) x) = some k := by
    rw [List.findIdx?_eq_some_iff_getElem]
    refine ⟨hk, ?_, fun j hj => ?_⟩
    · rw [(List.getElem?_eq_some_iff.1 hp).2]; exact hs
    · have := hno j _ hj (List.getElem?_eq_getElem (by omega))
      simpa using this
  unfold addP
  rw [h]
  simp [List.getD, hp]
theorem addP_miss {same : Nat → Nat → Bool} {ps : List (List Nat)} {x : Nat} (hno : ∀ i q, i < ps.length → ps[i]? = some q → same (q.headD 0) x = false) : addP same ps x = ps ++ [[x]] := by
  have h : ps.findIdx? (fun p => same (p.headD 0) x) = none := by
    rw [List.findIdx?_eq_none_iff]
    intro q hq
    obtain ⟨i, hi, e⟩ := List.mem_iff_getElem.1 hq
    exact hno i q hi (by rw [List.getElem?_eq_getElem hi, e])
  unfold addP
  rw [h]

/-- Parts that may be. -/
structure PsOk (m k : Nat) (ps : List (List Nat)) : Prop where
  ne : ∀ p ∈ ps, p ≠ []
  lt : ∀ p ∈ ps, ∀ x ∈ p, x < k
  len : ps.length ≤ k
  each : ∀ p ∈ ps, p.length ≤ k
theorem PsOk.nil (m : Nat) : PsOk m 0 [] := ⟨by simp, by simp, by simp, by simp⟩
theorem PsOk.add {m k : Nat} {ps : List (List Nat)} {same : Nat → Nat → Bool} (h : PsOk m k ps) : PsOk m (k + 1) (addP same ps k) := by
  unfold addP
  cases hf : ps.findIdx? (fun p => same (p.headD 0) k) with
  | none =>
    dsimp only
    refine ⟨fun p hp => ?_, fun p hp x hx => ?_, by simp; exact h.len, fun p hp => ?_⟩
    · rcases List.mem_append.1 hp with h1 | h1
      · exact h.ne p h1
      · rw [List.mem_singleton.1 h1]; simp
    · rcases List.mem_append.1 hp with h1 | h1
      · have := h.lt p h1 x hx; omega
      · rw [List.mem_singleton.1 h1] at hx; have := List.mem_singleton.1 hx; omega
    · rcases List.mem_append.1 hp with h1 | h1
      · have := h.each p h1; omega
      · rw [List.mem_singleton.1 h1]; simp
  | some i =>
    dsimp only
    rw [List.findIdx?_eq_some_iff_getElem] at hf
    obtain ⟨hi, _⟩ := hf
    have e : ps.getD i [] = ps[i] := by simp [List.getD, List.getElem?_eq_getElem hi]
    have hin : ps[i] ∈ ps := List.getElem_mem hi
    rw [e]
    refine ⟨fun p hp => ?_, fun p hp x hx => ?_, by rw [List.length_set]; have := h.len; omega, fun p hp => ?_⟩
    · rcases List.mem_or_eq_of_mem_set hp with h1 | h1
      · exact h.ne p h1
      · rw [h1]; simp
    · rcases List.mem_or_eq_of_mem_set hp with h1 | h1
      · have := h.lt p h1 x hx; omega
      · rw [h1] at hx
        rcases List.mem_append.1 hx with h2 | h2
        · have := h.lt _ hin x h2; omega
        · have := List.mem_singleton.1 h2; omega
    · rcases List.mem_or_eq_of_mem_set hp with h1 | h1
      · have := h.each p h1; omega
      · rw [h1]; have := h.each _ hin; simp; omega
theorem partsK_ok (m : Nat) (same : Nat → Nat → Bool) : ∀ k, PsOk m k (partsK same k)
  | 0 => PsOk.nil m
  | k + 1 => by rw [partsK_succ]; exact (partsK_ok m same k).add

/-- Parts in memory, each in a block of its own. -/
structure Pts (w : World) (B : Nat) (pv : Value) (ps : List (List Nat)) (Vs : List Value) : Prop where
  outer : w.ownsRow B 36 1 pv ps.length Vs
  row : ∀ (i : Nat) p, ps[i]? = some p → ∃ v, Vs[i]? = some v ∧ w.ownsRow B 3 1 v p.length (iV (ints p))
  apart : ∀ (i j x : Nat) u v, Vs[i]? = some u → Vs[j]? = some v → u.ownBlock = some x → v.ownBlock = some x → i = j

theorem Pts.nil (w : World) (B : Nat) : Pts w B (.slice none 0 0) [] [] := ⟨World.ownsRow_nil .., fun i p h => by simp at h, fun i j x u v h => by simp at h⟩
theorem Pts.below {w w' : World} {B : Nat} {pv : Value} {ps : List (List Nat)} {Vs : List Value} (h : Pts w B pv ps Vs) (hb : Below w.heap.size w w') : Pts w' B pv ps Vs :=
  ⟨own_up h.outer hb, fun i p hp => by
    obtain ⟨v, h1, h2⟩ := h.row i p hp
    exact ⟨v, h1, own_up h2 hb⟩, h.apart⟩
theorem Pts.len {w : World} {B : Nat} {pv : Value} {ps : List (List Nat)} {Vs : List Value} (h : Pts w B pv ps Vs) : Vs.length = ps.length := by have := h.outer.1; omega

theorem kept_other {w w' : World} {base base' e e' : Nat} {v u : Value} {n k : Nat} {xs ys : List Value} (h : w.ownsRow base e 1 v n xs) (hu : w.ownsRow base' e' 1 u k ys) (hne : e ≠ e') (hg : w.grownBy w' u.ownBlock) : w'.ownsRow base e 1 v n xs := by
  obtain ⟨h1, h | ⟨g, cap, cur, hv, hbb, hr, rest⟩⟩ := h
  · exact ⟨h1, .inl h⟩
  · refine ⟨h1, .inr ⟨g, cap, cur, hv, hbb, ?_, rest⟩⟩
    have hrow : RowAt w g e cur := hr
    exact (hrow.grown hg (hrow.not_own hne hu))

theorem own_set1 {w : World} {base e n g c q : Nat} {x : Value} {xs : List Value} (h : w.ownsRow base e 1 (.slice (some ⟨g, 0, none⟩) n c) n xs) (hq : q < n) : (w.setCell ⟨g, q, none⟩ x).ownsRow base e 1 (.slice (some ⟨g, 0, none⟩) n c) n (xs.set q x) := by
  obtain ⟨hl, ⟨e1, _⟩ | ⟨g', cap, cur, e1, h1, h2, h3, h4, h5, h6⟩⟩ := h
  · cases e1
  · cases e1
    have hr : RowAt w g e cur := h2
    refine ⟨by rw [List.length_set]; exact hl, .inr ⟨g, c, cur.setIfInBounds q x, rfl, h1, hr.set q x, h3, h4, by simpa using h5, ?_⟩⟩
    rw [← h6, Array.toList_setIfInBounds, List.take_set]

/-- A node more in a part. -/
theorem Pts.grow {w w' : World} {B : Nat} {ps : List (List Nat)} {Vs : List Value} {pg pc k x : Nat} {p : List Nat} {v v' : Value} (h : Pts w B (.slice (some ⟨pg, 0, none⟩) ps.length pc) ps Vs) (hp : ps[k]? = some p) (hv : Vs[k]? = some v)
    (hown : w'.ownsRow B 3 1 v' (p.length + 1) (iV (ints p) ++ [.int .i64 (x : Int)])) (hg : w.grownBy w' v.ownBlock) (hat : ∀ g, v'.ownBlock = some g → v.ownBlock = some g ∨ w.heap.size ≤ g) :
    (w'.cell? ⟨pg, k, none⟩ = some v ∧ w'.frozen? ⟨pg, k, none⟩ = false) ∧ Pts (w'.setCell ⟨pg, k, none⟩ v') B (.slice (some ⟨pg, 0, none⟩) ps.length pc) (ps.set k (p ++ [x])) (Vs.set k v') := by
  have hk := (List.getElem?_eq_some_iff.1 hp).1
  obtain ⟨v0, hv0, hrow⟩ := h.row k p hp
  obtain rfl : v0 = v := by rw [hv] at hv0; exact (Option.some.inj hv0).symm
  have hout := kept_other h.outer hrow (by decide) hg
  have hout2 := own_set1 (x := v') hout hk
  have hcell : w'.cell? ⟨pg, k, none⟩ = some v0 := by rw [hout.cellAt k (by omega)]; exact hv
  have hfz : w'.frozen? ⟨pg, k, none⟩ = false := by
    obtain ⟨_, ⟨e1, _⟩ | ⟨g', cap, cur, e1, _, h2, _⟩⟩ := hout
    · cases e1
    · cases e1
      have hr : RowAt w' pg 36 cur := h2
      exact hr.frozen k
  have hfar : ∀ {u : Value} {n : Nat} {xs : List Value}, w'.ownsRow B 3 1 u n xs → (w'.setCell ⟨pg, k, none⟩ v').ownsRow B 3 1 u n xs := fun hu => by
    refine ownsRow_setCell_other hu ?_ _
    obtain ⟨_, ⟨e1, _⟩ | ⟨g', cap, cur, e1, _, h2, _⟩⟩ := hout
    · cases e1
    · cases e1
      have hr : RowAt w' pg 36 cur := h2
      exact (hr.not_own (by decide) hu).symm
  refine ⟨⟨hcell, hfz⟩, by rw [List.length_set]; exact hout2, fun i q hq => ?_, fun i j y u u' hu hu' h1 h2 => ?_⟩
  · by_cases e : i = k
    · subst e
      rw [List.getElem?_set_self hk] at hq
      obtain rfl : p ++ [x] = q := by simpa using hq
      refine ⟨v', by rw [List.getElem?_set_self (by rw [h.len]; exact hk)], hfar ?_⟩
      simpa [iV, ints] using hown
    · rw [List.getElem?_set_ne (fun h => e h.symm)] at hq
      obtain ⟨u, hu1, hu2⟩ := h.row i q hq
      refine ⟨u, by rw [List.getElem?_set_ne (fun h => e h.symm)]; exact hu1, hfar (hu2.kept hg ?_)⟩
      cases hb : u.ownBlock with
      | none => exact .inl rfl
      | some y => exact .inr (fun hc => e (h.apart i k y u v0 hu1 hv hb hc.symm))
  · have hlt : ∀ i u, i ≠ k → (Vs.set k v')[i]? = some u → Vs[i]? = some u ∧ ∀ y, u.ownBlock = some y → y < w.heap.size := fun i u hi hu => by
      rw [List.getElem?_set_ne (fun h => hi h.symm)] at hu
      have hil : i < ps.length := by rw [← h.len]; exact (List.getElem?_eq_some_iff.1 hu).1
      obtain ⟨u0, e1, e2⟩ := h.row i ps[i] (List.getElem?_eq_getElem hil)
      rw [hu] at e1
      cases e1
      exact ⟨hu, fun y hy => (e2.lt y hy).2⟩
    have hk2 : ∀ u, (Vs.set k v')[k]? = some u → u = v' := fun u hu => by
      rw [List.getElem?_set_self (by rw [h.len]; exact hk)] at hu
      exact (Option.some.inj hu).symm
    by_cases e1 : i = k
    · by_cases e2 : j = k
      · rw [e1, e2]
      · subst e1
        rw [hk2 u hu] at h1
        obtain ⟨p1, p2⟩ := hlt j u' e2 hu'
        rcases hat y h1 with h3 | h3
        · exact h.apart i j y v0 u' hv p1 h3 h2
        · have := p2 y h2; omega
    · by_cases e2 : j = k
      · subst e2
        rw [hk2 u' hu'] at h2
        obtain ⟨p1, p2⟩ := hlt i u e1 hu
        rcases hat y h2 with h3 | h3
        · exact h.apart i j y u v0 p1 hv h1 h3
        · have := p2 y h1; omega
      · exact h.apart i j y u u' (hlt i u e1 hu).1 (hlt j u' e2 hu').1 h1 h2

/-- A part more. -/
theorem Pts.more {w w1 w' : World} {B x rb : Nat} {pv pv' : Value} {ps : List (List Nat)} {Vs : List Value} (h : Pts w B pv ps Vs) (hB : B ≤ w.heap.size) (hw1 : Below w.heap.size w w1) (hrb : w.heap.size ≤ rb) (hrow : RowAt w1 rb 3 (intsA [(x : Int)]))
    (hown : w'.ownsRow B 36 1 pv' (ps.length + 1) (Vs ++ [.slice (some ⟨rb, 0, none⟩) 1 1])) (hg : w1.grownBy w' pv.ownBlock) :
    Pts w' B pv' (ps ++ [[x]]) (Vs ++ [.slice (some ⟨rb, 0, none⟩) 1 1]) := by
  have h1 := h.below hw1
  have hnew : w1.ownsRow B 3 1 (.slice (some ⟨rb, 0, none⟩) 1 1) 1 (iV (ints [x])) := ⟨rfl, .inr ⟨rb, 1, _, rfl, by omega, hrow, Nat.le_refl _, by decide, rfl, rfl⟩⟩
  refine ⟨by simpa using hown, fun i p hp => ?_, fun i j y u v hu hv e1 e2 => ?_⟩
  · by_cases hi : i < ps.length
    · rw [List.getElem?_append_left hi] at hp
      obtain ⟨v, hv1, hv2⟩ := h1.row i p hp
      exact ⟨v, by rw [List.getElem?_append_left (by rw [h.len]; exact hi)]; exact hv1, kept_other hv2 h1.outer (by decide) hg⟩
    · have hi2 : i = ps.length := by
        have := (List.getElem?_eq_some_iff.1 hp).1
        simp at this
        omega
      subst hi2
      obtain rfl : [x] = p := by simpa using hp
      refine ⟨.slice (some ⟨rb, 0, none⟩) 1 1, by rw [← h.len]; simp, kept_other hnew h1.outer (by decide) hg⟩
  · have hold : ∀ i u, (Vs ++ [.slice (some ⟨rb, 0, none⟩) 1 1])[i]? = some u → (Vs[i]? = some u ∧ ∀ y, u.ownBlock = some y → y < w.heap.size) ∨ (i = ps.length ∧ u.ownBlock = some rb) := fun i u hu => by
      by_cases hi : i < Vs.length
      · rw [List.getElem?_append_left hi] at hu
        obtain ⟨u0, p1, p2⟩ := h.row i (ps[i]'(by rw [← h.len]; exact hi)) (List.getElem?_eq_getElem _)
        rw [hu] at p1
        cases p1
        exact .inl ⟨hu, fun y hy => (p2.lt y hy).2⟩
      · have hi2 : i = Vs.length := by
          have := (List.getElem?_eq_some_iff.1 hu).1
          simp at this
          omega
        subst hi2
        obtain rfl : _ = u := by simpa using hu
        exact .inr ⟨h.len, rfl⟩
    rcases hold i u hu with ⟨a1, a2⟩ | ⟨a1, a2⟩
    · rcases hold j v hv with ⟨b1, b2⟩ | ⟨b1, b2⟩
      · exact h.apart i j y u v a1 b1 e1 e2
      · rw [b2] at e2
        have := a2 y e1
        cases e2
        omega
    · rcases hold j v hv with ⟨b1, b2⟩ | ⟨b1, b2⟩
      · rw [a2] at e1
        have := b2 y e2
        cases e1
        omega
      · rw [a1, b1]

end Go.Proofs.YtigepihinflkdaaGreatDoor.GraphNet

namespace Go.Proofs.YtigepihinflkdaaGreatDoor.GraphNet
open Go.RowKit Go.Proofs.YtigepihinflkdaaGreatDoor.GramMath Go.Proofs.YtigepihinflkdaaGreatDoor.GraphMath Go.Proofs.YtigepihinflkdaaGreatDoor.GraphFn
set_option linter.unusedVariables false

/-- Nodes that hang together. -/
structure Eqv (m : Nat) (same : Nat → Nat → Bool) : Prop where
  refl : ∀ x, x < m → same x x = true
  symm : ∀ x y, x < m → y < m → same x y = true → same y x = true
  trans : ∀ x y z, x < m → y < m → z < m → same x y = true → same y z = true → same x z = true

def headB (same : Nat → Nat → Bool) (k : Nat) : Bool := (List.range k).all (fun i => !same i k)
def heads (same : Nat → Nat → Bool) (j : Nat) : List Nat := (List.range j).filter (headB same)
def cls (same : Nat → Nat → Bool) (j h : Nat) : List Nat := (List.range j).filter (same h)

theorem headB_iff {same : Nat → Nat → Bool} {k : Nat} : headB same k = true ↔ ∀ i, i < k → same i k = false := by
  unfold headB
  rw [List.all_eq_true]
  simp
theorem mem_heads {same : Nat → Nat → Bool} {j h : Nat} : h ∈ heads same j ↔ h < j ∧ ∀ i, i < h → same i h = false := by
  unfold heads
  rw [List.mem_filter, List.mem_range, headB_iff]
theorem mem_cls {same : Nat → Nat → Bool} {j h x : Nat} : x ∈ cls same j h ↔ x < j ∧ same h x = true := by
  unfold cls
  rw [List.mem_filter, List.mem_range]
theorem cls_succ (same : Nat → Nat → Bool) (j h : Nat) : cls same (j + 1) h = cls same j h ++ (if same h j = true then [j] else []) := by
  unfold cls
  rw [List.range_succ, List.filter_append]
  cases h1 : same h j <;> simp [h1]
theorem heads_succ (same : Nat → Nat → Bool) (j : Nat) : heads same (j + 1) = heads same j ++ (if headB same j = true then [j] else []) := by
  unfold heads
  rw [List.range_succ, List.filter_append]
  cases h1 : headB same j <;> simp [h1]

/-- Each node has a least one that hangs together with it. -/
theorem head_of {m : Nat} {same : Nat → Nat → Bool} (h : Eqv m same) : ∀ (n x : Nat), x < n → x < m → ∃ y, y ≤ x ∧ (∀ i, i < y → same i y = false) ∧ same y x = true
  | 0, x, hx, _ => by omega
  | n + 1, x, hx, hm => by
    by_cases hh : ∀ i, i < x → same i x = false
    · exact ⟨x, Nat.le_refl _, hh, h.refl x hm⟩
    · obtain ⟨i, hi⟩ := Classical.not_forall.1 hh
      obtain ⟨hi1, hi2⟩ := Classical.not_imp.1 hi
      have hi3 : same i x = true := by simpa using hi2
      obtain ⟨y, h1, h2, h3⟩ := head_of h n i (by omega) (by omega)
      exact ⟨y, by omega, h2, h.trans y i x (by omega) (by omega) hm h3 hi3⟩
theorem head_uniq {m : Nat} {same : Nat → Nat → Bool} (h : Eqv m same) {a b x : Nat} (ha : a < m) (hb : b < m) (hx : x < m) (ha2 : ∀ i, i < a → same i a = false) (hb2 : ∀ i, i < b → same i b = false) (h1 : same a x = true) (h2 : same b x = true) : a = b := by
  have h3 := h.trans a x b ha hx hb h1 (h.symm b x hb hx h2)
  have h4 := h.trans b x a hb hx ha h2 (h.symm a x ha hx h1)
  rcases Nat.lt_trichotomy a b with h5 | h5 | h5
  · rw [hb2 a h5] at h3; cases h3
  · exact h5
  · rw [ha2 b h5] at h4; cases h4

theorem cls_head {m j h : Nat} {same : Nat → Nat → Bool} (e : Eqv m same) (hj : j ≤ m) (hh : h ∈ heads same j) : (cls same j h).headD 0 = h := by
  obtain ⟨h1, h2⟩ := mem_heads.1 hh
  have hin : h ∈ cls same j h := mem_cls.2 ⟨h1, e.refl h (by omega)⟩
  have hsort : (cls same j h).Pairwise (· < ·) := List.Pairwise.filter _ List.pairwise_lt_range
  cases hc : cls same j h with
  | nil => rw [hc] at hin; cases hin
  | cons a l =>
    rw [hc] at hin hsort
    have ha : a ∈ cls same j h := by rw [hc]; exact List.mem_cons_self
    obtain ⟨ha1, ha2⟩ := mem_cls.1 ha
    show a = h
    rcases List.mem_cons.1 hin with e1 | e1
    · exact e1.symm
    · have h3 := (List.pairwise_cons.1 hsort).1 h e1
      have h4 := e.symm h a (by omega) (by omega) ha2
      rw [h2 a h3] at h4
      cases h4

theorem partsK_form {m : Nat} {same : Nat → Nat → Bool} (e : Eqv m same) : ∀ j, j ≤ m → partsK same j = (heads same j).map (cls same j)
  | 0, _ => rfl
  | j + 1, hj => by
    rw [partsK_succ, partsK_form e j (by omega)]
    have hjm : j < m := by omega
    by_cases hx : ∃ h ∈ heads same j, same h j = true
    · obtain ⟨h, hh, hs⟩ := hx
      obtain ⟨h1, h2⟩ := mem_heads.1 hh
      have hnb : headB same j = false := by
        rw [Bool.eq_false_iff]
        intro hc
        rw [headB_iff.1 hc h h1] at hs
        cases hs
      rw [heads_succ, hnb]
      simp only [Bool.false_eq_true, if_false, List.append_nil]
      obtain ⟨i, hi, ei⟩ := List.mem_iff_getElem.1 hh
      have hget : ((heads same j).map (cls same j))[i]? = some (cls same j h) := by rw [List.getElem?_map, List.getElem?_eq_getElem hi, ei]; rfl
      have hothers : ∀ k y, (heads same j)[k]? = some y → k ≠ i → same y j = false := fun k y hk hne => by
        rw [Bool.eq_false_iff]
        intro hc
        have hy := List.mem_of_getElem? hk
        obtain ⟨y1, y2⟩ := mem_heads.1 hy
        have := head_uniq e (by omega) (by omega) hjm y2 h2 hc hs
        subst this
        obtain ⟨hk2, ek⟩ := List.getElem?_eq_some_iff.1 hk
        have hnd : (heads same j).Nodup := (List.Pairwise.filter _ List.pairwise_lt_range : (heads same j).Pairwise (· < ·)).imp (fun h => Nat.ne_of_lt h)
        exact hne ((List.getElem_inj hnd).1 (ek.trans ei.symm))
      rw [addP_hit hget (by rw [cls_head e (by omega) hh]; exact hs) (fun k q hk hq => by
        rw [List.getElem?_map] at hq
        obtain ⟨y, hy, rfl⟩ := Option.map_eq_some_iff.1 hq
        rw [cls_head e (by omega) (List.mem_of_getElem? hy)]
        exact hothers k y hy (by omega))]
      apply List.ext_getElem?
      intro k
      by_cases ek : k = i
      · subst ek
        rw [List.getElem?_set_self (by simpa using hi), List.getElem?_map, List.getElem?_eq_getElem hi, ei]
        simp only [Option.map_some]
        rw [cls_succ, if_pos hs]
      · rw [List.getElem?_set_ne (fun h => ek h.symm), List.getElem?_map, List.getElem?_map]
        cases hk : (heads same j)[k]? with
        | none => rfl
        | some y =>
          simp only [Option.map_some]
          rw [cls_succ, hothers k y hk ek]
          simp
    · have hno : ∀ h ∈ heads same j, same h j = false := fun h hh => by
        rw [Bool.eq_false_iff]
        intro hc
        exact hx ⟨h, hh, hc⟩
      have hb : headB same j = true := by
        rw [headB_iff]
        intro i hi
        rw [Bool.eq_false_iff]
        intro hc
        obtain ⟨y, h1, h2, h3⟩ := head_of e (i + 1) i (by omega) (by omega)
        have := hno y (mem_heads.2 ⟨by omega, h2⟩)
        rw [e.trans y i j (by omega) (by omega) hjm h3 hc] at this
        cases this
      rw [addP_miss (fun k q hk hq => by
        rw [List.getElem?_map] at hq
        obtain ⟨y, hy, rfl⟩ := Option.map_eq_some_iff.1 hq
        rw [cls_head e (by omega) (List.mem_of_getElem? hy)]
        exact hno y (List.mem_of_getElem? hy))]
      rw [heads_succ, hb]
      simp only [if_true, List.map_append, List.map_cons, List.map_nil]
      congr 1
      · refine List.map_congr_left fun h hh => ?_
        rw [cls_succ, hno h hh]
        simp
      · rw [cls_succ, e.refl j hjm]
        simp only [if_true]
        have : cls same j j = [] := by
          unfold cls
          rw [List.filter_eq_nil_iff]
          intro i hi
          have hi2 := List.mem_range.1 hi
          have h1 := headB_iff.1 hb i hi2
          intro hc
          have := e.symm j i hjm (by omega) (by simpa using hc)
          rw [h1] at this
          cases this
        rw [this]
        rfl

theorem ahead_met {m : Nat} {E : List (Nat × Nat)} (hE : ∀ e ∈ E, e.1 < m ∧ e.2 < m) {a b : Nat} (ha : a < m) : ((GraphMath.tour m E [a]).ahead b != -1) = true ↔ GraphMath.Way E a b := by
  obtain ⟨hok, hmem⟩ := tour_facts hE [a] (by simpa using ha)
  rw [bne_iff_ne, ← hok.met b, hmem b]
  simp
theorem sameT_iff {m : Nat} {E : List (Nat × Nat)} (hE : ∀ e ∈ E, e.1 < m ∧ e.2 < m) {a b : Nat} (ha : a < m) (hb : b < m) : sameT m E a b = true ↔ GraphMath.Way E a b ∧ GraphMath.Way E b a := by
  unfold sameT
  rw [Bool.and_eq_true, ahead_met hE ha, ahead_met hE hb]
theorem way_trans {E : List (Nat × Nat)} {a b c : Nat} (h1 : GraphMath.Way E a b) (h2 : GraphMath.Way E b c) : GraphMath.Way E a c := by
  induction h2 with
  | none => exact h1
  | more _ he ih => exact ih.more he
theorem sameT_eqv {m : Nat} {E : List (Nat × Nat)} (hE : ∀ e ∈ E, e.1 < m ∧ e.2 < m) : Eqv m (sameT m E) :=
  ⟨fun x hx => (sameT_iff hE hx hx).2 ⟨.none x, .none x⟩, fun x y hx hy h => (sameT_iff hE hy hx).2 ((sameT_iff hE hx hy).1 h).symm, fun x y z hx hy hz h1 h2 => by
    obtain ⟨a1, a2⟩ := (sameT_iff hE hx hy).1 h1
    obtain ⟨b1, b2⟩ := (sameT_iff hE hy hz).1 h2
    exact (sameT_iff hE hx hz).2 ⟨way_trans a1 b1, way_trans b2 a2⟩⟩

end Go.Proofs.YtigepihinflkdaaGreatDoor.GraphNet
