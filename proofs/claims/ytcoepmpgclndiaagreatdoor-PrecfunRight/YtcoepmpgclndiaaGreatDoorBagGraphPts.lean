/-
  Texts that stand together: GraphPts, GraphPartsM, GraphLevM, PrecMath.
-/
import Derived.Test.YtcoepmpgclndiaaGreatDoorBGraphRound
import Derived.Test.YtcoepmpgclndiaaGreatDoorBagGraphTops
namespace Go.Proofs.YtcoepmpgclndiaaGreatDoor.GraphNet
open Go.RowKit Go.Sort Go.Proofs.YtcoepmpgclndiaaGreatDoor.GramMath Go.Proofs.YtcoepmpgclndiaaGreatDoor.GramRow Go.Proofs.YtcoepmpgclndiaaGreatDoor.GramApart Go.Proofs.YtcoepmpgclndiaaGreatDoor.GraphMath Go.Proofs.YtcoepmpgclndiaaGreatDoor.GraphFn Go.Proofs.YtcoepmpgclndiaaGreatDoor.GraphSort Go.Proofs.YtcoepmpgclndiaaGreatDoor.OpRow Go.Proofs.YtcoepmpgclndiaaGreatDoor.GramErrs
set_option linter.unusedVariables false
set_option linter.unusedSimpArgs false

/-- Is there a way from each to the other? -/
def sameT (m : Nat) (E : List (Nat × Nat)) (a b : Nat) : Bool := ((GraphMath.tour m E [a]).ahead b != -1) && ((GraphMath.tour m E [b]).ahead a != -1)
/-- A node put to the first part whose least node is such, or a part of its own. -/
def addP (same : Nat → Nat → Bool) (ps : List (List Nat)) (x : Nat) : List (List Nat) :=
  match ps.findIdx? (fun p => same (p.headD 0) x) with
  | some k => ps.set k ((ps.getD k []) ++ [x])
  | none => ps ++ [[x]]
def partsK (same : Nat → Nat → Bool) (k : Nat) : List (List Nat) := (List.range k).foldl (addP same) []
theorem partsK_succ (same : Nat → Nat → Bool) (k : Nat) : partsK same (k + 1) = addP same (partsK same k) k := by unfold partsK; rw [List.range_succ, List.foldl_append]; rfl

theorem addP_hit {same : Nat → Nat → Bool} {ps : List (List Nat)} {x k : Nat} {p : List Nat} (hp : ps[k]? = some p) (hs : same (p.headD 0) x = true) (hno : ∀ i q, i < k → ps[i]? = some q → same (q.headD 0) x = false) : addP same ps x = ps.set k (p ++ [x]) := by
  have hk := (List.getElem?_eq_some_iff.1 hp).1
  have h : ps.findIdx? (fun p => same (p.headD 0) x) = some k := by
    rw [List.findIdx?_eq_some_iff_getElem]
    refine ⟨hk, ?_, fun j hj => ?_⟩
    · rw [(List.getElem?_eq_some_iff.1 hp).2]; exact hs
    · have := hno j _ hj (List.getElem?_eq_getElem (by omega))
      simpa using this
  unfold addP
  rw [h]
  simp [List.getD, hp]
theorem addP_miss {same : Nat → Nat → Bool} {ps : List (List Nat)} {x : Nat} (hno : ∀ i q, i < ps.length → ps[i]? = some q → same (q.headD 0) x = false) : addP same ps x = ps ++ [[x]] := by
  have h : ps.findIdx? (fun p => same (p.headD 0) x) = none := by
    rw [List.findIdx?_eq_none_iff]
    intro q hq
    obtain ⟨i, hi, e⟩ := List.mem_iff_getElem.1 hq
    exact hno i q hi (by rw [List.getElem?_eq_getElem hi, e])
  unfold addP
  rw [h]

/-- Parts that may be. -/
structure PsOk (m k : Nat) (ps : List (List Nat)) : Prop where
  ne : ∀ p ∈ ps, p ≠ []
  lt : ∀ p ∈ ps, ∀ x ∈ p, x < k
  len : ps.length ≤ k
  each : ∀ p ∈ ps, p.length ≤ k
theorem PsOk.nil (m : Nat) : PsOk m 0 [] := ⟨by simp, by simp, by simp, by simp⟩
theorem PsOk.add {m k : Nat} {ps : List (List Nat)} {same : Nat → Nat → Bool} (h : PsOk m k ps) : PsOk m (k + 1) (addP same ps k) := by
  unfold addP
  cases hf : ps.findIdx? (fun p => same (p.headD 0) k) with
  | none =>
    dsimp only
    refine ⟨fun p hp => ?_, fun p hp x hx => ?_, by simp; exact h.len, fun p hp => ?_⟩
    · rcases List.mem_append.1 hp with h1 | h1
      · exact h.ne p h1
      · rw [List.mem_singleton.1 h1]; simp
    · rcases List.mem_append.1 hp with h1 | h1
      · have := h.lt p h1 x hx; omega
      · rw [List.mem_singleton.1 h1] at hx; have := List.mem_singleton.1 hx; omega
    · rcases List.mem_append.1 hp with h1 | h1
      · have := h.each p h1; omega
      · rw [List.mem_singleton.1 h1]; simp
  | some i =>
    dsimp only
    rw [List.findIdx?_eq_some_iff_getElem] at hf
    obtain ⟨hi, _⟩ := hf
    have e : ps.getD i [] = ps[i] := by simp [List.getD, List.getElem?_eq_getElem hi]
    have hin : ps[i] ∈ ps := List.getElem_mem hi
    rw [e]
    refine ⟨fun p hp => ?_, fun p hp x hx => ?_, by rw [List.length_set]; have := h.len; omega, fun p hp => ?_⟩
    · rcases List.mem_or_eq_of_mem_set hp with h1 | h1
      · exact h.ne p h1
      · rw [h1]; simp
    · rcases List.mem_or_eq_of_mem_set hp with h1 | h1
      · have := h.lt p h1 x hx; omega
      · rw [h1] at hx
        rcases List.mem_append.1 hx with h2 | h2
        · have := h.lt _ hin x h2; omega
        · have := List.mem_singleton.1 h2; omega
    · rcases List.mem_or_eq_of_mem_set hp with h1 | h1
      · have := h.each p h1; omega
      · rw [h1]; have := h.each _ hin; simp; omega
theorem partsK_ok (m : Nat) (same : Nat → Nat → Bool) : ∀ k, PsOk m k (partsK same k)
  | 0 => PsOk.nil m
  | k + 1 => by rw [partsK_succ]; exact (partsK_ok m same k).add

/-- Parts in memory, each in a block of its own. -/
structure Pts (w : World) (B : Nat) (pv : Value) (ps : List (List Nat)) (Vs : List Value) : Prop where
  outer : w.ownsRow B 32 1 pv ps.length Vs
  row : ∀ (i : Nat) p, ps[i]? = some p → ∃ v, Vs[i]? = some v ∧ w.ownsRow B 3 1 v p.length (iV (ints p))
  apart : ∀ (i j x : Nat) u v, Vs[i]? = some u → Vs[j]? = some v → u.ownBlock = some x → v.ownBlock = some x → i = j

theorem Pts.nil (w : World) (B : Nat) : Pts w B (.slice none 0 0) [] [] := ⟨World.ownsRow_nil .., fun i p h => by simp at h, fun i j x u v h => by simp at h⟩
theorem Pts.below {w w' : World} {B : Nat} {pv : Value} {ps : List (List Nat)} {Vs : List Value} (h : Pts w B pv ps Vs) (hb : Below w.heap.size w w') : Pts w' B pv ps Vs :=
  ⟨own_up h.outer hb, fun i p hp => by
    obtain ⟨v, h1, h2⟩ := h.row i p hp
    exact ⟨v, h1, own_up h2 hb⟩, h.apart⟩
theorem Pts.len {w : World} {B : Nat} {pv : Value} {ps : List (List Nat)} {Vs : List Value} (h : Pts w B pv ps Vs) : Vs.length = ps.length := by have := h.outer.1; omega

theorem kept_other {w w' : World} {base base' e e' : Nat} {v u : Value} {n k : Nat} {xs ys : List Value} (h : w.ownsRow base e 1 v n xs) (hu : w.ownsRow base' e' 1 u k ys) (hne : e ≠ e') (hg : w.grownBy w' u.ownBlock) : w'.ownsRow base e 1 v n xs := by
  obtain ⟨h1, h | ⟨g, cap, cur, hv, hbb, hr, rest⟩⟩ := h
  · exact ⟨h1, .inl h⟩
  · refine ⟨h1, .inr ⟨g, cap, cur, hv, hbb, ?_, rest⟩⟩
    have hrow : RowAt w g e cur := hr
    exact (hrow.grown hg (hrow.not_own hne hu))

theorem own_set1 {w : World} {base e n g c q : Nat} {x : Value} {xs : List Value} (h : w.ownsRow base e 1 (.slice (some ⟨g, 0, none⟩) n c) n xs) (hq : q < n) : (w.setCell ⟨g, q, none⟩ x).ownsRow base e 1 (.slice (some ⟨g, 0, none⟩) n c) n (xs.set q x) := by
  obtain ⟨hl, ⟨e1, _⟩ | ⟨g', cap, cur, e1, h1, h2, h3, h4, h5, h6⟩⟩ := h
  · cases e1
  · cases e1
    have hr : RowAt w g e cur := h2
    refine ⟨by rw [List.length_set]; exact hl, .inr ⟨g, c, cur.setIfInBounds q x, rfl, h1, hr.set q x, h3, h4, by simpa using h5, ?_⟩⟩
    rw [← h6, Array.toList_setIfInBounds, List.take_set]

/-- A node more in a part. -/
theorem Pts.grow {w w' : World} {B : Nat} {ps : List (List Nat)} {Vs : List Value} {pg pc k x : Nat} {p : List Nat} {v v' : Value} (h : Pts w B (.slice (some ⟨pg, 0, none⟩) ps.length pc) ps Vs) (hp : ps[k]? = some p) (hv : Vs[k]? = some v)
    (hown : w'.ownsRow B 3 1 v' (p.length + 1) (iV (ints p) ++ [.int .i64 (x : Int)])) (hg : w.grownBy w' v.ownBlock) (hat : ∀ g, v'.ownBlock = some g → v.ownBlock = some g ∨ w.heap.size ≤ g) :
    (w'.cell? ⟨pg, k, none⟩ = some v ∧ w'.frozen? ⟨pg, k, none⟩ = false) ∧ Pts (w'.setCell ⟨pg, k, none⟩ v') B (.slice (some ⟨pg, 0, none⟩) ps.length pc) (ps.set k (p ++ [x])) (Vs.set k v') := by
  have hk := (List.getElem?_eq_some_iff.1 hp).1
  obtain ⟨v0, hv0, hrow⟩ := h.row k p hp
  obtain rfl : v0 = v := by rw [hv] at hv0; exact (Option.some.inj hv0).symm
  have hout := kept_other h.outer hrow (by decide) hg
  have hout2 := own_set1 (x := v') hout hk
  have hcell : w'.cell? ⟨pg, k, none⟩ = some v0 := by rw [hout.cellAt k (by omega)]; exact hv
  have hfz : w'.frozen? ⟨pg, k, none⟩ = false := by
    obtain ⟨_, ⟨e1, _⟩ | ⟨g', cap, cur, e1, _, h2, _⟩⟩ := hout
    · cases e1
    · cases e1
      have hr : RowAt w' pg 32 cur := h2
      exact hr.frozen k
  have hfar : ∀ {u : Value} {n : Nat} {xs : List Value}, w'.ownsRow B 3 1 u n xs → (w'.setCell ⟨pg, k, none⟩ v').ownsRow B 3 1 u n xs := fun hu => by
    refine ownsRow_setCell_other hu ?_ _
    obtain ⟨_, ⟨e1, _⟩ | ⟨g', cap, cur, e1, _, h2, _⟩⟩ := hout
    · cases e1
    · cases e1
      have hr : RowAt w' pg 32 cur := h2
      exact (hr.not_own (by decide) hu).symm
  refine ⟨⟨hcell, hfz⟩, by rw [List.length_set]; exact hout2, fun i q hq => ?_, fun i j y u u' hu hu' h1 h2 => ?_⟩
  · by_cases e : i = k
    · subst e
      rw [List.getElem?_set_self hk] at hq
      obtain rfl : p ++ [x] = q := by simpa using hq
      refine ⟨v', by rw [List.getElem?_set_self (by rw [h.len]; exact hk)], hfar ?_⟩
      simpa [iV, ints] using hown
    · rw [List.getElem?_set_ne (fun h => e h.symm)] at hq
      obtain ⟨u, hu1, hu2⟩ := h.row i q hq
      refine ⟨u, by rw [List.getElem?_set_ne (fun h => e h.symm)]; exact hu1, hfar (hu2.kept hg ?_)⟩
      cases hb : u.ownBlock with
      | none => exact .inl rfl
      | some y => exact .inr (fun hc => e (h.apart i k y u v0 hu1 hv hb hc.symm))
  · have hlt : ∀ i u, i ≠ k → (Vs.set k v')[i]? = some u → Vs[i]? = some u ∧ ∀ y, u.ownBlock = some y → y < w.heap.size := fun i u hi hu => by
      rw [List.getElem?_set_ne (fun h => hi h.symm)] at hu
      have hil : i < ps.length := by rw [← h.len]; exact (List.getElem?_eq_some_iff.1 hu).1
      obtain ⟨u0, e1, e2⟩ := h.row i ps[i] (List.getElem?_eq_getElem hil)
      rw [hu] at e1
      cases e1
      exact ⟨hu, fun y hy => (e2.lt y hy).2⟩
    have hk2 : ∀ u, (Vs.set k v')[k]? = some u → u = v' := fun u hu => by
      rw [List.getElem?_set_self (by rw [h.len]; exact hk)] at hu
      exact (Option.some.inj hu).symm
    by_cases e1 : i = k
    · by_cases e2 : j = k
      · rw [e1, e2]
      · subst e1
        rw [hk2 u hu] at h1
        obtain ⟨p1, p2⟩ := hlt j u' e2 hu'
        rcases hat y h1 with h3 | h3
        · exact h.apart i j y v0 u' hv p1 h3 h2
        · have := p2 y h2; omega
    · by_cases e2 : j = k
      · subst e2
        rw [hk2 u' hu'] at h2
        obtain ⟨p1, p2⟩ := hlt i u e1 hu
        rcases hat y h2 with h3 | h3
        · exact h.apart i j y u v0 p1 hv h1 h3
        · have := p2 y h1; omega
      · exact h.apart i j y u u' (hlt i u e1 hu).1 (hlt j u' e2 hu').1 h1 h2

/-- A part more. -/
theorem Pts.more {w w1 w' : World} {B x rb : Nat} {pv pv' : Value} {ps : List (List Nat)} {Vs : List Value} (h : Pts w B pv ps Vs) (hB : B ≤ w.heap.size) (hw1 : Below w.heap.size w w1) (hrb : w.heap.size ≤ rb) (hrow : RowAt w1 rb 3 (intsA [(x : Int)]))
    (hown : w'.ownsRow B 32 1 pv' (ps.length + 1) (Vs ++ [.slice (some ⟨rb, 0, none⟩) 1 1])) (hg : w1.grownBy w' pv.ownBlock) :
    Pts w' B pv' (ps ++ [[x]]) (Vs ++ [.slice (some ⟨rb, 0, none⟩) 1 1]) := by
  have h1 := h.below hw1
  have hnew : w1.ownsRow B 3 1 (.slice (some ⟨rb, 0, none⟩) 1 1) 1 (iV (ints [x])) := ⟨rfl, .inr ⟨rb, 1, _, rfl, by omega, hrow, Nat.le_refl _, by decide, rfl, rfl⟩⟩
  refine ⟨by simpa using hown, fun i p hp => ?_, fun i j y u v hu hv e1 e2 => ?_⟩
  · by_cases hi : i < ps.length
    · rw [List.getElem?_append_left hi] at hp
      obtain ⟨v, hv1, hv2⟩ := h1.row i p hp
      exact ⟨v, by rw [List.getElem?_append_left (by rw [h.len]; exact hi)]; exact hv1, kept_other hv2 h1.outer (by decide) hg⟩
    · have hi2 : i = ps.length := by
        have := (List.getElem?_eq_some_iff.1 hp).1
        simp at this
        omega
      subst hi2
      obtain rfl : [x] = p := by simpa using hp
      refine ⟨.slice (some ⟨rb, 0, none⟩) 1 1, by rw [← h.len]; simp, kept_other hnew h1.outer (by decide) hg⟩
  · have hold : ∀ i u, (Vs ++ [.slice (some ⟨rb, 0, none⟩) 1 1])[i]? = some u → (Vs[i]? = some u ∧ ∀ y, u.ownBlock = some y → y < w.heap.size) ∨ (i = ps.length ∧ u.ownBlock = some rb) := fun i u hu => by
      by_cases hi : i < Vs.length
      · rw [List.getElem?_append_left hi] at hu
        obtain ⟨u0, p1, p2⟩ := h.row i (ps[i]'(by rw [← h.len]; exact hi)) (List.getElem?_eq_getElem _)
        rw [hu] at p1
        cases p1
        exact .inl ⟨hu, fun y hy => (p2.lt y hy).2⟩
      · have hi2 : i = Vs.length := by
          have := (List.getElem?_eq_some_iff.1 hu).1
          simp at this
          omega
        subst hi2
        obtain rfl : _ = u := by simpa using hu
        exact .inr ⟨h.len, rfl⟩
    rcases hold i u hu with ⟨a1, a2⟩ | ⟨a1, a2⟩
    · rcases hold j v hv with ⟨b1, b2⟩ | ⟨b1, b2⟩
      · exact h.apart i j y u v a1 b1 e1 e2
      · rw [b2] at e2
        have := a2 y e1
        cases e2
        omega
    · rcases hold j v hv with ⟨b1, b2⟩ | ⟨b1, b2⟩
      · rw [a2] at e1
        have := b2 y e2
        cases e1
        omega
      · rw [a1, b1]

end Go.Proofs.YtcoepmpgclndiaaGreatDoor.GraphNet

namespace Go.Proofs.YtcoepmpgclndiaaGreatDoor.GraphNet
open Go.RowKit Go.Proofs.YtcoepmpgclndiaaGreatDoor.GramMath Go.Proofs.YtcoepmpgclndiaaGreatDoor.GraphMath Go.Proofs.YtcoepmpgclndiaaGreatDoor.GraphFn
set_option linter.unusedVariables false

/-- Nodes that hang together. -/
structure Eqv (m : Nat) (same : Nat → Nat → Bool) : Prop where
  refl : ∀ x, x < m → same x x = true
  symm : ∀ x y, x < m → y < m → same x y = true → same y x = true
  trans : ∀ x y z, x < m → y < m → z < m → same x y = true → same y z = true → same x z = true

def headB (same : Nat → Nat → Bool) (k : Nat) : Bool := (List.range k).all (fun i => !same i k)
def heads (same : Nat → Nat → Bool) (j : Nat) : List Nat := (List.range j).filter (headB same)
def cls (same : Nat → Nat → Bool) (j h : Nat) : List Nat := (List.range j).filter (same h)

theorem headB_iff {same : Nat → Nat → Bool} {k : Nat} : headB same k = true ↔ ∀ i, i < k → same i k = false := by
  unfold headB
  rw [List.all_eq_true]
  simp
theorem mem_heads {same : Nat → Nat → Bool} {j h : Nat} : h ∈ heads same j ↔ h < j ∧ ∀ i, i < h → same i h = false := by
  unfold heads
  rw [List.mem_filter, List.mem_range, headB_iff]
theorem mem_cls {same : Nat → Nat → Bool} {j h x : Nat} : x ∈ cls same j h ↔ x < j ∧ same h x = true := by
  unfold cls
  rw [List.mem_filter, List.mem_range]
theorem cls_succ (same : Nat → Nat → Bool) (j h : Nat) : cls same (j + 1) h = cls same j h ++ (if same h j = true then [j] else []) := by
  unfold cls
  rw [List.range_succ, List.filter_append]
  cases h1 : same h j <;> simp [h1]
theorem heads_succ (same : Nat → Nat → Bool) (j : Nat) : heads same (j + 1) = heads same j ++ (if headB same j = true then [j] else []) := by
  unfold heads
  rw [List.range_succ, List.filter_append]
  cases h1 : headB same j <;> simp [h1]

/-- Each node has a least one that hangs together with it. -/
theorem head_of {m : Nat} {same : Nat → Nat → Bool} (h : Eqv m same) : ∀ (n x : Nat), x < n → x < m → ∃ y, y ≤ x ∧ (∀ i, i < y → same i y = false) ∧ same y x = true
  | 0, x, hx, _ => by omega
  | n + 1, x, hx, hm => by
    by_cases hh : ∀ i, i < x → same i x = false
    · exact ⟨x, Nat.le_refl _, hh, h.refl x hm⟩
    · obtain ⟨i, hi⟩ := Classical.not_forall.1 hh
      obtain ⟨hi1, hi2⟩ := Classical.not_imp.1 hi
      have hi3 : same i x = true := by simpa using hi2
      obtain ⟨y, h1, h2, h3⟩ := head_of h n i (by omega) (by omega)
      exact ⟨y, by omega, h2, h.trans y i x (by omega) (by omega) hm h3 hi3⟩
theorem head_uniq {m : Nat} {same : Nat → Nat → Bool} (h : Eqv m same) {a b x : Nat} (ha : a < m) (hb : b < m) (hx : x < m) (ha2 : ∀ i, i < a → same i a = false) (hb2 : ∀ i, i < b → same i b = false) (h1 : same a x = true) (h2 : same b x = true) : a = b := by
  have h3 := h.trans a x b ha hx hb h1 (h.symm b x hb hx h2)
  have h4 := h.trans b x a hb hx ha h2 (h.symm a x ha hx h1)
  rcases Nat.lt_trichotomy a b with h5 | h5 | h5
  · rw [hb2 a h5] at h3; cases h3
  · exact h5
  · rw [ha2 b h5] at h4; cases h4

theorem cls_head {m j h : Nat} {same : Nat → Nat → Bool} (e : Eqv m same) (hj : j ≤ m) (hh : h ∈ heads same j) : (cls same j h).headD 0 = h := by
  obtain ⟨h1, h2⟩ := mem_heads.1 hh
  have hin : h ∈ cls same j h := mem_cls.2 ⟨h1, e.refl h (by omega)⟩
  have hsort : (cls same j h).Pairwise (· < ·) := List.Pairwise.filter _ List.pairwise_lt_range
  cases hc : cls same j h with
  | nil => rw [hc] at hin; cases hin
  | cons a l =>
    rw [hc] at hin hsort
    have ha : a ∈ cls same j h := by rw [hc]; exact List.mem_cons_self
    obtain ⟨ha1, ha2⟩ := mem_cls.1 ha
    show a = h
    rcases List.mem_cons.1 hin with e1 | e1
    · exact e1.symm
    · have h3 := (List.pairwise_cons.1 hsort).1 h e1
      have h4 := e.symm h a (by omega) (by omega) ha2
      rw [h2 a h3] at h4
      cases h4

theorem partsK_form {m : Nat} {same : Nat → Nat → Bool} (e : Eqv m same) : ∀ j, j ≤ m → partsK same j = (heads same j).map (cls same j)
  | 0, _ => rfl
  | j + 1, hj => by
    rw [partsK_succ, partsK_form e j (by omega)]
    have hjm : j < m := by omega
    by_cases hx : ∃ h ∈ heads same j, same h j = true
    · obtain ⟨h, hh, hs⟩ := hx
      obtain ⟨h1, h2⟩ := mem_heads.1 hh
      have hnb : headB same j = false := by
        rw [Bool.eq_false_iff]
        intro hc
        rw [headB_iff.1 hc h h1] at hs
        cases hs
      rw [heads_succ, hnb]
      simp only [Bool.false_eq_true, if_false, List.append_nil]
      obtain ⟨i, hi, ei⟩ := List.mem_iff_getElem.1 hh
      have hget : ((heads same j).map (cls same j))[i]? = some (cls same j h) := by rw [List.getElem?_map, List.getElem?_eq_getElem hi, ei]; rfl
      have hothers : ∀ k y, (heads same j)[k]? = some y → k ≠ i → same y j = false := fun k y hk hne => by
        rw [Bool.eq_false_iff]
        intro hc
        have hy := List.mem_of_getElem? hk
        obtain ⟨y1, y2⟩ := mem_heads.1 hy
        have := head_uniq e (by omega) (by omega) hjm y2 h2 hc hs
        subst this
        obtain ⟨hk2, ek⟩ := List.getElem?_eq_some_iff.1 hk
        have hnd : (heads same j).Nodup := (List.Pairwise.filter _ List.pairwise_lt_range : (heads same j).Pairwise (· < ·)).imp (fun h => Nat.ne_of_lt h)
        exact hne ((List.getElem_inj hnd).1 (ek.trans ei.symm))
      rw [addP_hit hget (by rw [cls_head e (by omega) hh]; exact hs) (fun k q hk hq => by
        rw [List.getElem?_map] at hq
        obtain ⟨y, hy, rfl⟩ := Option.map_eq_some_iff.1 hq
        rw [cls_head e (by omega) (List.mem_of_getElem? hy)]
        exact hothers k y hy (by omega))]
      apply List.ext_getElem?
      intro k
      by_cases ek : k = i
      · subst ek
        rw [List.getElem?_set_self (by simpa using hi), List.getElem?_map, List.getElem?_eq_getElem hi, ei]
        simp only [Option.map_some]
        rw [cls_succ, if_pos hs]
      · rw [List.getElem?_set_ne (fun h => ek h.symm), List.getElem?_map, List.getElem?_map]
        cases hk : (heads same j)[k]? with
        | none => rfl
        | some y =>
          simp only [Option.map_some]
          rw [cls_succ, hothers k y hk ek]
          simp
    · have hno : ∀ h ∈ heads same j, same h j = false := fun h hh => by
        rw [Bool.eq_false_iff]
        intro hc
        exact hx ⟨h, hh, hc⟩
      have hb : headB same j = true := by
        rw [headB_iff]
        intro i hi
        rw [Bool.eq_false_iff]
        intro hc
        obtain ⟨y, h1, h2, h3⟩ := head_of e (i + 1) i (by omega) (by omega)
        have := hno y (mem_heads.2 ⟨by omega, h2⟩)
        rw [e.trans y i j (by omega) (by omega) hjm h3 hc] at this
        cases this
      rw [addP_miss (fun k q hk hq => by
        rw [List.getElem?_map] at hq
        obtain ⟨y, hy, rfl⟩ := Option.map_eq_some_iff.1 hq
        rw [cls_head e (by omega) (List.mem_of_getElem? hy)]
        exact hno y (List.mem_of_getElem? hy))]
      rw [heads_succ, hb]
      simp only [if_true, List.map_append, List.map_cons, List.map_nil]
      congr 1
      · refine List.map_congr_left fun h hh => ?_
        rw [cls_succ, hno h hh]
        simp
      · rw [cls_succ, e.refl j hjm]
        simp only [if_true]
        have : cls same j j = [] := by
          unfold cls
          rw [List.filter_eq_nil_iff]
          intro i hi
          have hi2 := List.mem_range.1 hi
          have h1 := headB_iff.1 hb i hi2
          intro hc
          have := e.symm j i hjm (by omega) (by simpa using hc)
          rw [h1] at this
          cases this
        rw [this]
        rfl

theorem ahead_met {m : Nat} {E : List (Nat × Nat)} (hE : ∀ e ∈ E, e.1 < m ∧ e.2 < m) {a b : Nat} (ha : a < m) : ((GraphMath.tour m E [a]).ahead b != -1) = true ↔ GraphMath.Way E a b := by
  obtain ⟨hok, hmem⟩ := tour_facts hE [a] (by simpa using ha)
  rw [bne_iff_ne, ← hok.met b, hmem b]
  simp
theorem sameT_iff {m : Nat} {E : List (Nat × Nat)} (hE : ∀ e ∈ E, e.1 < m ∧ e.2 < m) {a b : Nat} (ha : a < m) (hb : b < m) : sameT m E a b = true ↔ GraphMath.Way E a b ∧ GraphMath.Way E b a := by
  unfold sameT
  rw [Bool.and_eq_true, ahead_met hE ha, ahead_met hE hb]
theorem way_trans {E : List (Nat × Nat)} {a b c : Nat} (h1 : GraphMath.Way E a b) (h2 : GraphMath.Way E b c) : GraphMath.Way E a c := by
  induction h2 with
  | none => exact h1
  | more _ he ih => exact ih.more he
theorem sameT_eqv {m : Nat} {E : List (Nat × Nat)} (hE : ∀ e ∈ E, e.1 < m ∧ e.2 < m) : Eqv m (sameT m E) :=
  ⟨fun x hx => (sameT_iff hE hx hx).2 ⟨.none x, .none x⟩, fun x y hx hy h => (sameT_iff hE hy hx).2 ((sameT_iff hE hx hy).1 h).symm, fun x y z hx hy hz h1 h2 => by
    obtain ⟨a1, a2⟩ := (sameT_iff hE hx hy).1 h1
    obtain ⟨b1, b2⟩ := (sameT_iff hE hy hz).1 h2
    exact (sameT_iff hE hx hz).2 ⟨way_trans a1 b1, way_trans b2 a2⟩⟩

end Go.Proofs.YtcoepmpgclndiaaGreatDoor.GraphNet

namespace Go.Proofs.YtcoepmpgclndiaaGreatDoor.GraphNet
open Go.RowKit Go.Proofs.YtcoepmpgclndiaaGreatDoor.GramMath Go.Proofs.YtcoepmpgclndiaaGreatDoor.GraphMath Go.Proofs.YtcoepmpgclndiaaGreatDoor.GraphFn
set_option linter.unusedVariables false

/-- Nodes in an order: those that lead to one stand ahead of it. -/
def Topo (m : Nat) (A : Nat → List Nat) (P : List Nat) : Prop := ∀ (i x : Nat), P[i]? = some x → ∀ a, a < m → x ∈ A a → a ∈ P.take i

theorem Topo.nil (m : Nat) (A : Nat → List Nat) : Topo m A [] := fun i x h => by simp at h
theorem Topo.add {m : Nat} {A : Nat → List Nat} {P : List Nat} {x : Nat} (h : Topo m A P) (hf : freeB m A P x = true) : Topo m A (P ++ [x]) := fun i y hy a ha hya => by
  obtain ⟨h1, h2⟩ := freeB_iff.1 hf
  by_cases hi : i < P.length
  · rw [List.getElem?_append_left hi] at hy
    rw [List.take_append_of_le_length (by omega)]
    exact h i y hy a ha hya
  · have := (List.getElem?_eq_some_iff.1 hy).1
    simp at this
    obtain rfl : i = P.length := by omega
    rw [List.getElem?_append_right (Nat.le_refl _)] at hy
    obtain rfl : x = y := by simpa using hy
    rw [List.take_left]
    exact h2 a ha hya
theorem ordR_topo {m : Nat} {A : Nat → List Nat} : ∀ (k : Nat) (P : List Nat), Topo m A P → ∀ L, ordR m A k P = some L → Topo m A L
  | 0, P, h, L, e => by
    obtain rfl : P = L := by simpa [ordR] using e
    exact h
  | k + 1, P, h, L, e => by
    simp only [ordR] at e
    cases hx : nxt m A P with
    | none => rw [hx] at e; cases e
    | some x =>
      rw [hx] at e
      exact ordR_topo k _ (h.add (nxt_some hx).2.1) L e

theorem stood_all {m : Nat} {A : Nat → List Nat} {L : List Nat} (h : Stood m A L) (hl : L.length = m) : ∀ x, x < m → x ∈ L := fun x hx => by
  apply Classical.byContradiction
  intro hc
  have h1 : (x :: L).Nodup := List.nodup_cons.2 ⟨hc, h.nodup⟩
  have h2 := nodup_le (m := m) h1 (fun y hy => by
    rcases List.mem_cons.1 hy with rfl | hy
    · exact hx
    · exact h.lt y hy)
  simp at h2
  omega

theorem levOne_spec {x : Nat} : ∀ (ys : List Nat) (f : Nat → Int), x ∉ ys → (∀ z, z ≠ x → levOne x f ys z = f z) ∧ f x ≤ levOne x f ys x ∧ (∀ y ∈ ys, f y + 1 ≤ levOne x f ys x) ∧ (levOne x f ys x = f x ∨ ∃ y ∈ ys, levOne x f ys x = f y + 1)
  | [], f, _ => ⟨fun _ _ => rfl, Int.le_refl _, by simp, .inl rfl⟩
  | y :: ys, f, h => by
    have hy : y ≠ x := fun e => h (by rw [e]; exact List.mem_cons_self)
    have hys : x ∉ ys := fun e => h (List.mem_cons_of_mem _ e)
    have e : levOne x f (y :: ys) = levOne x (updA f x (max (f x) (f y + 1))) ys := rfl
    rw [e]
    obtain ⟨h1, h2, h3, h4⟩ := levOne_spec ys (updA f x (max (f x) (f y + 1))) hys
    rw [updA_at] at h2 h4
    refine ⟨fun z hz => by rw [h1 z hz, updA_ne _ _ hz], by omega, fun z hz => ?_, ?_⟩
    · rcases List.mem_cons.1 hz with rfl | hz
      · omega
      · have := h3 z hz
        rw [updA_ne _ _ (fun e => hys (by rw [← e]; exact hz))] at this
        exact this
    · rcases h4 with h4 | ⟨z, hz, h4⟩
      · rw [h4]
        by_cases hm : f y + 1 ≤ f x
        · left; omega
        · right; exact ⟨y, List.mem_cons_self, by omega⟩
      · right
        rw [updA_ne _ _ (fun e => hys (by rw [← e]; exact hz))] at h4
        exact ⟨z, List.mem_cons_of_mem _ hz, h4⟩

/-- Levels: they fall along each edge, by one somewhere. -/
structure Lev (A : Nat → List Nat) (S : Nat → Prop) (f : Nat → Int) : Prop where
  falls : ∀ x, S x → ∀ y ∈ A x, f y + 1 ≤ f x
  one : ∀ x, S x → f x = 0 ∨ ∃ y ∈ A x, f x = f y + 1
  pos : ∀ x, 0 ≤ f x

theorem Lev.of {m : Nat} {A : Nat → List Nat} {L : List Nat} (hT : Topo m A L) (hn : L.Nodup) (hA : ∀ a y, y ∈ A a → y ∈ L) (hL : ∀ x ∈ L, x < m) : ∀ k, k ≤ L.length → Lev A (fun x => x ∈ L.drop (L.length - k)) (levF A (L.drop (L.length - k)).reverse)
  | 0, _ => by
    rw [Nat.sub_zero, List.drop_length]
    exact ⟨fun x h => (by cases h), fun x h => (by cases h), fun x => Int.le_refl _⟩
  | k + 1, hk => by
    have ih := Lev.of hT hn hA hL k (by omega)
    obtain ⟨i, hi⟩ : ∃ i, i = L.length - (k + 1) := ⟨_, rfl⟩
    have hil : i < L.length := by omega
    obtain ⟨x, hx⟩ : ∃ x, L[i]? = some x := ⟨L[i], List.getElem?_eq_getElem hil⟩
    rw [← hi]
    rw [show L.length - k = i + 1 by omega] at ih
    have hd : L.drop i = x :: L.drop (i + 1) := by
      rw [List.drop_eq_getElem_cons hil]
      obtain ⟨_, e⟩ := List.getElem?_eq_some_iff.1 hx
      rw [e]
    rw [hd, List.reverse_cons, levF_snoc]
    generalize hg : levF A (L.drop (i + 1)).reverse = g at ih ⊢
    have hsplit : L = L.take i ++ x :: L.drop (i + 1) := by rw [← hd, List.take_append_drop]
    have hnd : (L.take i ++ x :: L.drop (i + 1)).Nodup := by rw [← hsplit]; exact hn
    rw [List.nodup_append] at hnd
    obtain ⟨n1, n2, n3⟩ := hnd
    have hxm : x < m := hL x (List.mem_of_getElem? hx)
    have hxx : x ∉ A x := fun hc => n3 x (hT i x hx x hxm hc) x List.mem_cons_self rfl
    have hsucc : ∀ y ∈ A x, y ∈ L.drop (i + 1) := fun y hy => by
      have hyL := hA x y hy
      obtain ⟨j, hj, ej⟩ := List.mem_iff_getElem.1 hyL
      have hj2 : L[j]? = some y := by rw [List.getElem?_eq_getElem hj, ej]
      have h1 := hT j y hj2 x hxm hy
      obtain ⟨q, hq, eq⟩ := List.mem_iff_getElem.1 h1
      rw [List.length_take] at hq
      rw [List.getElem_take] at eq
      have e : q = i := nodup_idx hn (by rw [List.getElem?_eq_getElem (by omega), eq]) hx
      rw [List.mem_iff_getElem?]
      exact ⟨j - (i + 1), by rw [List.getElem?_drop, show i + 1 + (j - (i + 1)) = j by omega]; exact hj2⟩
    have hpre : ∀ z ∈ L.drop (i + 1), x ∉ A z := fun z hz hc => by
      have hzL := List.mem_of_mem_drop hz
      have h1 := hT i x hx z (hL z hzL) hc
      exact n3 z h1 z (List.mem_cons_of_mem _ hz) rfl
    have hxd : x ∉ L.drop (i + 1) := (List.nodup_cons.1 n2).1
    obtain ⟨s1, s2, s3, s4⟩ := levOne_spec (A x) g hxx
    have hgx : g x = 0 := by
      rw [← hg]
      have key : ∀ (xs : List Nat) (f : Nat → Int), x ∉ xs → f x = 0 → xs.foldl (fun f x => levOne x f (A x)) f x = 0 := by
        intro xs
        induction xs with
        | nil => intro f _ h; exact h
        | cons z xs ihz =>
          intro f h1 h2
          rw [List.foldl_cons]
          refine ihz _ (fun e => h1 (List.mem_cons_of_mem _ e)) ?_
          have hz : x ≠ z := fun e => h1 (by rw [e]; exact List.mem_cons_self)
          have : ∀ (ys : List Nat) (f : Nat → Int), levOne z f ys x = f x := by
            intro ys
            induction ys with
            | nil => intro f; rfl
            | cons y ys ihy =>
              intro f
              show levOne z (updA f z _) ys x = f x
              rw [ihy, updA_ne _ _ hz]
          rw [this]
          exact h2
      exact key _ _ (by rw [List.mem_reverse]; exact hxd) rfl
    refine ⟨fun z hz y hy => ?_, fun z hz => ?_, fun z => ?_⟩
    · rcases List.mem_cons.1 hz with rfl | hz
      · rw [s1 y (fun e => hxx (by rw [e] at hy; exact hy))]
        exact s3 y hy
      · rw [s1 z (fun e => hxd (by rw [← e]; exact hz)), s1 y (fun e => hpre z hz (by rw [← e]; exact hy))]
        exact ih.falls z hz y hy
    · rcases List.mem_cons.1 hz with rfl | hz
      · rcases s4 with s4 | ⟨y, hy, s4⟩
        · left; omega
        · right; exact ⟨y, hy, by rw [s1 y (fun e => hxx (by rw [e] at hy; exact hy))]; exact s4⟩
      · rw [s1 z (fun e => hxd (by rw [← e]; exact hz))]
        rcases ih.one z hz with h1 | ⟨y, hy, h1⟩
        · exact .inl h1
        · exact .inr ⟨y, hy, by rw [s1 y (fun e => hpre z hz (by rw [← e]; exact hy))]; exact h1⟩
    · by_cases e : z = x
      · subst e; have := ih.pos z; omega
      · rw [s1 z e]; exact ih.pos z

/-- What an order that was found tells. -/
structure Ord (m : Nat) (E : List (Nat × Nat)) (L : List Nat) : Prop where
  len : L.length = m
  nodup : L.Nodup
  lt : ∀ x ∈ L, x < m
  all : ∀ x, x < m → x ∈ L
  topo : Topo m (adj m E) L
  lev : Lev (adj m E) (fun x => x < m) (levL (adj m E) L)

theorem ord_of {m : Nat} {E : List (Nat × Nat)} {L : List Nat} (h : ordR m (adj m E) m [] = some L) : Ord m E L := by
  obtain ⟨h1, h2⟩ := ordR_facts m [] (Stood.nil m _) L h
  have h3 := ordR_topo m [] (Topo.nil m _) L h
  have hl : L.length = m := by simpa using h2
  have hall := stood_all h1 hl
  refine ⟨hl, h1.nodup, h1.lt, hall, h3, ?_⟩
  have h4 := Lev.of h3 h1.nodup (fun a y hy => hall y (mem_adj.1 hy).1) h1.lt L.length (Nat.le_refl _)
  rw [Nat.sub_self, List.drop_zero] at h4
  exact ⟨fun x hx => h4.falls x (hall x hx), fun x hx => h4.one x (hall x hx), h4.pos⟩

theorem Ord.edge {m : Nat} {E : List (Nat × Nat)} {L : List Nat} (h : Ord m E L) (hE : ∀ e ∈ E, e.1 < m ∧ e.2 < m) {a b : Nat} (he : (a, b) ∈ E) : levL (adj m E) L b + 1 ≤ levL (adj m E) L a := h.lev.falls a (hE _ he).1 b (mem_adj.2 ⟨(hE _ he).2, he⟩)
theorem Ord.place {m : Nat} {E : List (Nat × Nat)} {L : List Nat} (h : Ord m E L) (hE : ∀ e ∈ E, e.1 < m ∧ e.2 < m) {a b i j : Nat} (he : (a, b) ∈ E) (hi : L[i]? = some a) (hj : L[j]? = some b) : i < j := by
  have h1 := h.topo j b hj a (hE _ he).1 (mem_adj.2 ⟨(hE _ he).2, he⟩)
  obtain ⟨q, hq, eq⟩ := List.mem_iff_getElem.1 h1
  rw [List.length_take] at hq
  rw [List.getElem_take] at eq
  have e : q = i := nodup_idx h.nodup (by rw [List.getElem?_eq_getElem (by omega), eq]) hi
  omega
theorem Ord.wl {m : Nat} {E : List (Nat × Nat)} {L : List Nat} (h : Ord m E L) (hE : ∀ e ∈ E, e.1 < m ∧ e.2 < m) {s x : Nat} {l : List Nat} (hw : Wl E s l x) : levL (adj m E) L x ≤ levL (adj m E) L s := by
  induction hw with
  | one => exact Int.le_refl _
  | snoc _ he ih => have := h.edge hE he; omega
theorem Ord.no {m : Nat} {E : List (Nat × Nat)} {L : List Nat} (h : Ord m E L) (hE : ∀ e ∈ E, e.1 < m ∧ e.2 < m) {s : Nat} {l : List Nat} (hw : Rnd E s l) : False := by
  obtain ⟨x, h1, h2⟩ := hw
  have h3 := h.wl hE h1
  have h4 := h.edge hE h2
  omega
theorem Ord.way {m : Nat} {E : List (Nat × Nat)} {L : List Nat} (h : Ord m E L) (hE : ∀ e ∈ E, e.1 < m ∧ e.2 < m) {a b : Nat} (hw : GraphMath.Way E a b) : a = b ∨ levL (adj m E) L b + 1 ≤ levL (adj m E) L a := by
  induction hw with
  | none => exact .inl rfl
  | more _ he ih =>
    right
    have := h.edge hE he
    rcases ih with e | ih
    · rw [e]; exact this
    · omega

/-- Where no order is found there is a round. -/
theorem round_of {m : Nat} {E : List (Nat × Nat)} (hE : ∀ e ∈ E, e.1 < m ∧ e.2 < m) : ∀ (k : Nat) (P : List Nat), Stood m (adj m E) P → P.length + k = m → ordR m (adj m E) k P = none → ∃ s l, s < m ∧ Rnd E s l
  | 0, P, _, _, h => by simp [ordR] at h
  | k + 1, P, hP, hl, h => by
    simp only [ordR] at h
    cases hx : nxt m (adj m E) P with
    | some x =>
      rw [hx] at h
      obtain ⟨h1, h2, _⟩ := nxt_some hx
      exact round_of hE k _ (hP.add h1 h2) (by simp; omega) h
    | none =>
      have hno := nxt_none hx
      have hpred : ∀ y, y < m ∧ y ∉ P → ∃ a, (a < m ∧ a ∉ P) ∧ (a, y) ∈ E := fun y ⟨hy, hyP⟩ => by
        have h1 := hno y hy
        apply Classical.byContradiction
        intro hc
        have : freeB m (adj m E) P y = true := freeB_iff.2 ⟨hyP, fun a ha hya => by
          apply Classical.byContradiction
          intro haP
          exact hc ⟨a, ⟨ha, haP⟩, (mem_adj.1 hya).2⟩⟩
        rw [this] at h1
        cases h1
      obtain ⟨y0, hy0⟩ : ∃ y, y < m ∧ y ∉ P := by
        apply Classical.byContradiction
        intro hc
        have h1 : (List.range m).length ≤ P.length := List.Nodup.length_le_of_subset List.nodup_range (fun y hy => by
          apply Classical.byContradiction
          intro hyP
          exact hc ⟨y, List.mem_range.1 hy, hyP⟩)
        simp at h1
        omega
      -- a way backwards, of any length, among those that do not stand
      have hback : ∀ n, ∃ l : List Nat, l.length = n + 1 ∧ (∀ x ∈ l, x < m) ∧ ∃ s x, (s < m ∧ s ∉ P) ∧ Wl E s l x := fun n => by
        induction n with
        | zero => exact ⟨[y0], rfl, by simpa using hy0.1, y0, y0, hy0, .one⟩
        | succ n ih =>
          obtain ⟨l, h1, h2, s, x, h3, h4⟩ := ih
          obtain ⟨a, h5, h6⟩ := hpred s h3
          refine ⟨a :: l, by simp [h1], fun z hz => ?_, a, x, h5, ?_⟩
          · rcases List.mem_cons.1 hz with rfl | hz
            · exact h5.1
            · exact h2 z hz
          · exact (Wl.one : Wl E a [a] a).append h6 h4
      obtain ⟨l, h1, h2, s, x, h3, h4⟩ := hback m
      have hnd : ¬ l.Nodup := fun hc => by have := nodup_le hc h2; omega
      -- a node that is met twice
      have hdup : ∀ (l : List Nat), ¬ l.Nodup → ∃ v w1 w2 w3, l = w1 ++ v :: w2 ++ v :: w3 := by
        intro l
        induction l with
        | nil => intro h; exact absurd List.nodup_nil h
        | cons a l ih =>
          intro h
          by_cases ha : a ∈ l
          · obtain ⟨w2, w3, rfl⟩ := List.append_of_mem ha
            exact ⟨a, [], w2, w3, by simp⟩
          · obtain ⟨v, w1, w2, w3, rfl⟩ := ih (fun hc => h (List.nodup_cons.2 ⟨ha, hc⟩))
            exact ⟨v, a :: w1, w2, w3, by simp⟩
      obtain ⟨v, w1, w2, w3, rfl⟩ := hdup l hnd
      have h5 : Wl E s (w1 ++ v :: (w2 ++ v :: w3)) x := by simpa using h4
      have h6 := h5.split.2
      rw [show v :: (w2 ++ v :: w3) = (v :: w2) ++ v :: w3 by simp] at h6
      obtain ⟨h7, _⟩ := h6.split
      rcases h7 with h7 | ⟨u, h7, h8⟩
      · cases h7
      · exact ⟨v, v :: w2, h2 v (by simp), u, h7, h8⟩

theorem rd_of {m : Nat} {E : List (Nat × Nat)} (hE : ∀ e ∈ E, e.1 < m ∧ e.2 < m) (h : ordR m (adj m E) m [] = none) : ∃ s L, roundR m E = some L ∧ Rd m E s L := by
  obtain ⟨s, l, h1, h2⟩ := round_of hE m [] (Stood.nil m _) (by simp) h
  cases hr : roundR m E with
  | none => exact absurd h2 (roundR_none hE hr s l h1)
  | some L =>
    obtain ⟨s', h3⟩ := roundR_some hE hr
    exact ⟨s', L, rfl, h3⟩
theorem ord_no {m : Nat} {E : List (Nat × Nat)} (hE : ∀ e ∈ E, e.1 < m ∧ e.2 < m) {L : List Nat} (h : ordR m (adj m E) m [] = some L) : roundR m E = none := by
  cases hr : roundR m E with
  | none => rfl
  | some l =>
    obtain ⟨s, h1⟩ := roundR_some hE hr
    exact ((ord_of h).no hE h1.rnd).elim

theorem Rd.nth {m : Nat} {E : List (Nat × Nat)} {s : Nat} {L : List Nat} (hE : ∀ e ∈ E, e.1 < m ∧ e.2 < m) (h : Rd m E s L) : 0 < L.length ∧ L.length ≤ m ∧ L[0]? = some s ∧ (∀ (i x : Nat), L[i]? = some x → x < m ∧ s ≤ x) ∧ ∀ (i x y : Nat), L[i]? = some x → L[(i + 1) % L.length]? = some y → (x, y) ∈ E := by
  obtain ⟨e, h1, h2⟩ := h.rnd
  have hp := h1.pos
  obtain ⟨l, hl⟩ := h1.first
  refine ⟨hp, nodup_le h.nodup (fun x hx => (h1.lt hE h.lt).2 x hx), by rw [hl]; rfl, fun i x hx => ⟨(h1.lt hE h.lt).2 x (List.mem_of_getElem? hx), h.ge hE (List.mem_of_getElem? hx)⟩, fun i x y hx hy => ?_⟩
  have hi := (List.getElem?_eq_some_iff.1 hx).1
  by_cases hlast : i + 1 = L.length
  · rw [hlast, Nat.mod_self, hl] at hy
    obtain rfl : s = y := by simpa using hy
    rw [show i = L.length - 1 by omega, h1.at.2] at hx
    obtain rfl := Option.some.inj hx
    exact h2
  · rw [Nat.mod_eq_of_lt (by omega)] at hy
    exact h1.at.1 i x y hx hy

theorem wl_way {E : List (Nat × Nat)} {s x : Nat} {L : List Nat} (h : Wl E s L x) : GraphMath.Way E s x := by
  induction h with
  | one => exact .none _
  | snoc _ he ih => exact ih.more he
theorem heads_lt {same : Nat → Nat → Bool} {m a b : Nat} (hab : a < b) (hb : b < m) (h : same a b = true) : (heads same m).length < m := by
  unfold heads
  have h1 : ∃ x ∈ List.range m, ¬ headB same x = true := ⟨b, List.mem_range.2 hb, fun hc => by rw [headB_iff.1 hc a hab] at h; cases h⟩
  have := (List.length_filter_lt_length_iff_exists (p := headB same) (l := List.range m)).2 (by simpa using h1)
  simpa using this
theorem heads_all {same : Nat → Nat → Bool} {m : Nat} (h : ∀ a b, a < b → b < m → same a b = false) : (heads same m).length = m := by
  unfold heads
  rw [List.filter_eq_self.2 (fun x hx => headB_iff.2 (fun i hi => h i x hi (List.mem_range.1 hx)))]
  simp
theorem parts_lt {m : Nat} {E : List (Nat × Nat)} {s : Nat} {L : List Nat} (hE : ∀ e ∈ E, e.1 < m ∧ e.2 < m) (h : Rd m E s L) (h1 : L.length ≠ 1) : (heads (sameT m E) m).length < m := by
  obtain ⟨hp, hm, h0, hall, hnext⟩ := h.nth hE
  obtain ⟨x, hw, he⟩ := h.rnd
  have hx : L[L.length - 1]? = some x := hw.at.2
  have hxs : s ≤ x := (hall _ _ hx).2
  have hxm := (hall _ _ hx).1
  have hne : s ≠ x := fun e => by
    subst e
    have := nodup_idx h.nodup h0 hx
    omega
  exact heads_lt (a := s) (b := x) (by omega) hxm ((sameT_iff hE h.lt hxm).2 ⟨wl_way hw, (GraphMath.Way.none x).more he⟩)
theorem parts_all {m : Nat} {E : List (Nat × Nat)} {L : List Nat} (hE : ∀ e ∈ E, e.1 < m ∧ e.2 < m) (h : Ord m E L) : (heads (sameT m E) m).length = m := heads_all fun a b hab hb => by
  rw [Bool.eq_false_iff]
  intro hc
  obtain ⟨h1, h2⟩ := (sameT_iff hE (by omega) hb).1 hc
  rcases h.way hE h1 with e | e
  · omega
  · rcases h.way hE h2 with e2 | e2
    · omega
    · omega

end Go.Proofs.YtcoepmpgclndiaaGreatDoor.GraphNet

namespace Go.Proofs.YtcoepmpgclndiaaGreatDoor.PrecFn
open Go.RowKit Go.Proofs.YtcoepmpgclndiaaGreatDoor.GraphMath Go.Proofs.YtcoepmpgclndiaaGreatDoor.GraphNet
set_option linter.unusedVariables false

/-- Of each node the least one that is known to be in its class, with two classes joined. -/
def joinF (f : Nat → Nat) (a b : Nat) : Nat → Nat := fun k => if f k = max (f a) (f b) then min (f a) (f b) else f k
def stepF (q : Int → Int → Bool) (t : Nat) (f : Nat → Nat) (a b : Nat) : Nat → Nat := if q (a : Int) (b : Int) = true then joinF f a (t + b) else f
def rowF (q : Int → Int → Bool) (t : Nat) (f : Nat → Nat) (a : Nat) (n : Nat) : Nat → Nat := (List.range n).foldl (fun f b => stepF q t f a b) f
def allF (q : Int → Int → Bool) (t : Nat) (n : Nat) : Nat → Nat := (List.range n).foldl (fun f a => rowF q t f a t) id
def leastF (q : Int → Int → Bool) (t : Nat) : Nat → Nat := allF q t t
theorem rowF_succ (q : Int → Int → Bool) (t : Nat) (f : Nat → Nat) (a n : Nat) : rowF q t f a (n + 1) = stepF q t (rowF q t f a n) a n := by
  unfold rowF; rw [List.range_succ, List.foldl_append]; rfl
theorem allF_succ (q : Int → Int → Bool) (t n : Nat) : allF q t (n + 1) = rowF q t (allF q t n) n t := by
  unfold allF; rw [List.range_succ, List.foldl_append]; rfl

/-- Numbers as classes: the least one is told of each node. -/
def numL (f : Nat → Nat) : Nat → List Nat × Nat
  | 0 => ([], 0)
  | k + 1 => if f k < k then ((numL f k).1 ++ [(numL f k).1.getD (f k) 0], (numL f k).2) else ((numL f k).1 ++ [(numL f k).2], (numL f k).2 + 1)
theorem numL_len (f : Nat → Nat) : ∀ k, (numL f k).1.length = k
  | 0 => rfl
  | k + 1 => by
    unfold numL
    split
    · simp [numL_len f k]
    · simp [numL_len f k]
theorem numL_pre (f : Nat → Nat) (k : Nat) : ∃ x, (numL f (k + 1)).1 = (numL f k).1 ++ [x] := by
  conv => enter [1, x, 1]; unfold numL
  split
  · exact ⟨_, rfl⟩
  · exact ⟨_, rfl⟩
theorem numL_at (f : Nat → Nat) {i : Nat} : ∀ k, i < k → (numL f k).1[i]? = (numL f (i + 1)).1[i]?
  | 0, h => by omega
  | k + 1, h => by
    by_cases e : i = k
    · subst e; rfl
    · obtain ⟨x, hx⟩ := numL_pre f k
      rw [hx, List.getElem?_append_left (by rw [numL_len]; omega)]
      exact numL_at f k (by omega)
theorem numL_cnt (f : Nat → Nat) : ∀ k, (numL f k).2 ≤ k ∧ ∀ x ∈ (numL f k).1, x < (numL f k).2
  | 0 => ⟨Nat.le_refl _, by simp [numL]⟩
  | k + 1 => by
    obtain ⟨h1, h2⟩ := numL_cnt f k
    unfold numL
    split
    · next hlt =>
      refine ⟨by dsimp only; omega, fun x hx => ?_⟩
      rcases List.mem_append.1 hx with h | h
      · exact h2 x h
      · rw [List.mem_singleton.1 h]
        have hl : f k < (numL f k).1.length := by rw [numL_len]; exact hlt
        rw [List.getD_eq_getElem?_getD, List.getElem?_eq_getElem hl]
        exact h2 _ (List.getElem_mem hl)
    · refine ⟨by dsimp only; omega, fun x hx => ?_⟩
      rcases List.mem_append.1 hx with h | h
      · have := h2 x h; dsimp only; omega
      · rw [List.mem_singleton.1 h]; dsimp only; omega

def classL (q : Int → Int → Bool) (t : Nat) : List Nat := (numL (leastF q t) (2 * t)).1
def cntC (q : Int → Int → Bool) (t : Nat) : Nat := (numL (leastF q t) (2 * t)).2
theorem classL_len (q : Int → Int → Bool) (t : Nat) : (classL q t).length = 2 * t := numL_len _ _
theorem classL_lt (q : Int → Int → Bool) (t : Nat) : ∀ x ∈ classL q t, x < cntC q t := (numL_cnt _ _).2
theorem cntC_le (q : Int → Int → Bool) (t : Nat) : cntC q t ≤ 2 * t := (numL_cnt _ _).1

/-- The nodes of a class, of the first so many nodes. -/
def nodesK (cl : List Nat) (k j : Nat) : List Nat := (List.range k).filter (fun x => cl.getD x 0 == j)
theorem mem_nodesK {cl : List Nat} {k j x : Nat} : x ∈ nodesK cl k j ↔ x < k ∧ cl.getD x 0 = j := by simp [nodesK]
theorem nodesK_succ (cl : List Nat) (k j : Nat) : nodesK cl (k + 1) j = nodesK cl k j ++ (if cl.getD k 0 = j then [k] else []) := by
  unfold nodesK
  rw [List.range_succ, List.filter_append]
  by_cases h : cl.getD k 0 = j
  · rw [if_pos h]; simp only [List.filter_cons, List.filter_nil]; rw [if_pos (by simpa using h)]
  · rw [if_neg h]; simp only [List.filter_cons, List.filter_nil]; rw [if_neg (by simpa using h)]
/-- Classes whose numbers come up in their order: how many there are among the first k nodes. -/
def cntK (f : Nat → Nat) (k : Nat) : Nat := (numL f k).2
def partK (f : Nat → Nat) (n k : Nat) : List (List Nat) := (List.range (cntK f k)).map (nodesK (numL f n).1 k)
theorem partK_len (f : Nat → Nat) (n k : Nat) : (partK f n k).length = cntK f k := by simp [partK]

def aboveB (y k : Int → Int → Bool) (t : Nat) (x z : Nat) : Bool := k (x : Int) ((z : Int) - (t : Int)) || y (z : Int) ((x : Int) - (t : Int))
def edgeB (y k : Int → Int → Bool) (t : Nat) (cl : List Nat) (i j : Nat) : Bool := (nodesK cl (2 * t) i).any (fun x => (nodesK cl (2 * t) j).any (fun z => aboveB y k t x z))
def edgeR (B : Nat → Nat → Bool) (i n : Nat) : List (Int × Int) := ((List.range n).filter (B i)).map (fun (j : Nat) => ((i : Int), (j : Int)))
def edgeA (B : Nat → Nat → Bool) (c i : Nat) : List (Int × Int) := (List.range i).flatMap (fun i => edgeR B i c)
def edgeL (y q k : Int → Int → Bool) (t : Nat) : List (Int × Int) := edgeA (edgeB y k t (classL q t)) (cntC q t) (cntC q t)
theorem edgeR_zero (B : Nat → Nat → Bool) (i : Nat) : edgeR B i 0 = [] := rfl
theorem edgeR_succ (B : Nat → Nat → Bool) (i n : Nat) : edgeR B i (n + 1) = edgeR B i n ++ (if B i n = true then [((i : Int), (n : Int))] else []) := by
  unfold edgeR
  rw [List.range_succ, List.filter_append, List.map_append]
  by_cases h : B i n = true
  · rw [if_pos h]; simp [h]
  · rw [if_neg h]; simp [h]
theorem edgeA_succ (B : Nat → Nat → Bool) (c i : Nat) : edgeA B c (i + 1) = edgeA B c i ++ edgeR B i c := by
  unfold edgeA
  rw [List.range_succ, List.flatMap_append]
  simp
theorem mem_edgeR {B : Nat → Nat → Bool} {i n : Nat} {e : Int × Int} : e ∈ edgeR B i n ↔ ∃ j : Nat, j < n ∧ B i j = true ∧ e = ((i : Int), (j : Int)) := by
  unfold edgeR
  simp only [List.mem_map, List.mem_filter, List.mem_range]
  constructor
  · rintro ⟨j, ⟨h1, h2⟩, rfl⟩; exact ⟨j, h1, h2, rfl⟩
  · rintro ⟨j, h1, h2, rfl⟩; exact ⟨j, ⟨h1, h2⟩, rfl⟩
theorem mem_edgeA {B : Nat → Nat → Bool} {c n : Nat} {e : Int × Int} : e ∈ edgeA B c n ↔ ∃ i j : Nat, i < n ∧ j < c ∧ B i j = true ∧ e = ((i : Int), (j : Int)) := by
  unfold edgeA
  simp only [List.mem_flatMap, List.mem_range, mem_edgeR]
  constructor
  · rintro ⟨i, hi, j, h1, h2, h3⟩; exact ⟨i, j, hi, h1, h2, h3⟩
  · rintro ⟨i, j, hi, h1, h2, h3⟩; exact ⟨i, hi, j, h1, h2, h3⟩
theorem edgeR_len (B : Nat → Nat → Bool) (i n : Nat) : (edgeR B i n).length ≤ n := by
  unfold edgeR
  rw [List.length_map]
  have := List.length_filter_le (B i) (List.range n)
  simpa using this
theorem edgeA_len (B : Nat → Nat → Bool) (c : Nat) : ∀ n, (edgeA B c n).length ≤ n * c
  | 0 => by simp [edgeA]
  | n + 1 => by
    rw [edgeA_succ, List.length_append, Nat.add_mul, Nat.one_mul]
    have := edgeA_len B c n
    have := edgeR_len B n c
    omega

/-- Do two numbers say the relations? -/
def saysB (y q k : Int → Int → Bool) (f g : Int) (a b : Int) : Bool := (decide (f < g) || !y a b) && (decide (f = g) || !q a b) && (decide (g < f) || !k a b)
def fitRow (y q k : Int → Int → Bool) (t : Nat) (F G : List Int) (a n : Nat) : Bool := (List.range n).all (fun b => saysB y q k (F.getD a 0) (G.getD b 0) (a : Int) (b : Int))
def fitAll (y q k : Int → Int → Bool) (t : Nat) (F G : List Int) (n : Nat) : Bool := (List.range n).all (fun a => fitRow y q k t F G a t)
def fitsB (y q k : Int → Int → Bool) (t : Nat) (F G : List Int) : Bool := decide (F.length = t) && decide (G.length = t) && fitAll y q k t F G t

theorem stepF_lt {q : Int → Int → Bool} {t : Nat} {f : Nat → Nat} {N : Nat} (h : ∀ k, k < N → f k < N) {a b : Nat} (ha : a < N) (hb : t + b < N) : ∀ k, k < N → stepF q t f a b k < N := fun k hk => by
  unfold stepF
  split
  · unfold joinF
    have h1 := h a ha
    have h2 := h (t + b) hb
    split
    · omega
    · exact h k hk
  · exact h k hk

end Go.Proofs.YtcoepmpgclndiaaGreatDoor.PrecFn
