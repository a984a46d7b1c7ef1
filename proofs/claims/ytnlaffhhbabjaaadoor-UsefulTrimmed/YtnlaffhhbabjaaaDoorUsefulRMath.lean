/-
  Marks that are set rule by rule, round by round, till nothing is new. No part of the program.
-/
import Derived.Test.YtnlaffhhbabjaaaDoorBaseMath
namespace Go.Proofs.YtnlaffhhbabjaaaDoor.UsefulMath
open Go.Proofs.YtnlaffhhbabjaaaDoor.GramMath Go.Proofs.YtnlaffhhbabjaaaDoor.SetsMath
set_option linter.unusedVariables false

/-- How many of the first n are marked. -/
def cntB (S : Nat → Bool) (n : Nat) : Nat := ((List.range n).filter S).length
theorem cntB_le (S : Nat → Bool) (n : Nat) : cntB S n ≤ n := by
  have := List.length_filter_le S (List.range n)
  rw [List.length_range] at this
  exact this
theorem cntB_congr {S T : Nat → Bool} {n : Nat} (h : ∀ k, k < n → S k = T k) : cntB S n = cntB T n := by
  unfold cntB
  rw [List.filter_congr (fun k hk => h k (List.mem_range.1 hk))]
theorem cntB_succ (S : Nat → Bool) (n : Nat) : cntB S (n + 1) = cntB S n + if S n = true then 1 else 0 := by
  unfold cntB
  rw [List.range_succ, List.filter_append, List.length_append]
  congr 1
  by_cases h : S n = true
  · simp [h]
  · simp [h]
theorem cntB_upd {S : Nat → Bool} {m : Nat} (hm : S m = false) : ∀ {n : Nat}, cntB (updB S m) n = cntB S n + if m < n then 1 else 0
  | 0 => by simp [cntB]
  | n + 1 => by
    rw [cntB_succ, cntB_succ, cntB_upd hm]
    by_cases e : n = m
    · subst e
      rw [updB_at, hm]
      simp
    · rw [updB_ne _ e]
      by_cases h : m < n
      · rw [if_pos h, if_pos (show m < n + 1 by omega)]; omega
      · rw [if_neg h, if_neg (show ¬ m < n + 1 by omega)]; omega
theorem cntB_mono {S : Nat → Bool} (m n : Nat) : cntB S n ≤ cntB (updB S m) n := by
  cases h : S m with
  | true =>
    rw [cntB_congr (S := updB S m) (T := S) (fun k _ => by
      by_cases e : k = m
      · subst e; rw [updB_at, h]
      · rw [updB_ne _ e])]
    exact Nat.le_refl _
  | false => rw [cntB_upd h]; omega
theorem upd_same {S : Nat → Bool} {m : Nat} (h : S m = true) (k : Nat) : updB S m k = S k := by
  by_cases e : k = m
  · subst e; rw [updB_at, h]
  · rw [updB_ne _ e]

/-- Are all nonterminals of a right side marked? -/
def allS (S : Nat → Bool) (zs : List Int) : Bool := zs.all (fun x => !decide (x < 0) || S (-1 - x).toNat)
theorem allS_iff {S : Nat → Bool} {zs : List Int} : allS S zs = true ↔ ∀ x ∈ zs, x < 0 → S (-1 - x).toNat = true := by
  unfold allS
  rw [List.all_eq_true]
  constructor
  · intro h x hx h0
    have := h x hx
    simpa [h0] using this
  · intro h x hx
    by_cases h0 : x < 0
    · simp [h x hx h0]
    · simp [h0]
theorem allS_congr {S T : Nat → Bool} {zs : List Int} (h : ∀ x ∈ zs, x < 0 → S (-1 - x).toNat = T (-1 - x).toNat) : allS S zs = allS T zs := by
  rw [Bool.eq_iff_iff, allS_iff, allS_iff]
  exact ⟨fun hh x hx h0 => by rw [← h x hx h0]; exact hh x hx h0, fun hh x hx h0 => by rw [h x hx h0]; exact hh x hx h0⟩

/-- The rules from the first to the i-th add no productive one. -/
def DoneP (rs : List R) (S : Nat → Bool) (i : Nat) : Prop := ∀ j r, j < i → rs[j]? = some r → allS S r.right = true → S r.left.toNat = true
def SoundP (rs : List R) (S : Nat → Bool) : Prop := ∀ k, S k = true → Prod rs k
/-- What is known of the marks in the round t, ahead of the i-th rule. -/
structure InP (rs : List R) (n t : Nat) (S0 S : Nat → Bool) (i : Nat) : Prop where
  sound : SoundP rs S
  so : ((∀ k, k < n → S k = S0 k) ∧ DoneP rs S i) ∨ t + 1 ≤ cntB S n
def OutP (rs : List R) (n t : Nat) (S : Nat → Bool) : Prop := SoundP rs S ∧ (DoneP rs S rs.length ∨ t ≤ cntB S n)

theorem OutP.start (rs : List R) (n : Nat) : OutP rs n 0 (fun _ => false) := ⟨(fun _ h => by cases h), .inr (Nat.zero_le _)⟩
theorem OutP.inn {rs : List R} {n t : Nat} {S : Nat → Bool} (h : OutP rs n t S) : InP rs n t S S 0 := ⟨h.1, .inl ⟨fun _ _ => rfl, fun j r hj => absurd hj (by omega)⟩⟩
theorem InP.out {rs : List R} {n t : Nat} {S0 S : Nat → Bool} (h : InP rs n t S0 S rs.length) : OutP rs n (t + 1) S := ⟨h.sound, h.so.imp (·.2) id⟩
theorem InP.skip {rs : List R} {n t : Nat} {S0 S : Nat → Bool} {i : Nat} {r : R} (h : InP rs n t S0 S i) (hr : rs[i]? = some r) (ha : allS S r.right = false) : InP rs n t S0 S (i + 1) :=
  ⟨h.sound, h.so.imp (fun ⟨h1, h2⟩ => ⟨h1, fun j r' hj hr' ha' => by
    by_cases e : j = i
    · subst e
      rw [hr] at hr'
      cases hr'
      rw [ha] at ha'
      cases ha'
    · exact h2 j r' (by omega) hr' ha'⟩) id⟩
theorem InP.mark {t' n t : Nat} {rs : List R} (ho : OkRs t' n rs) {S0 S : Nat → Bool} {i : Nat} {r : R} (h0 : OutP rs n t S0) (h : InP rs n t S0 S i) (hr : rs[i]? = some r) (ha : allS S r.right = true) : InP rs n t S0 (updB S r.left.toNat) (i + 1) := by
  have hrm := List.mem_of_getElem? hr
  have hl := ho.left hrm
  refine ⟨fun k hk => ?_, ?_⟩
  · by_cases e : k = r.left.toNat
    · subst e
      rw [show ((r.left.toNat : Nat) : Int) = r.left by omega]
      exact .mk r hrm (fun x hx hx0 => by
        have := h.sound _ (allS_iff.1 ha x hx hx0)
        rwa [show (((-1 - x).toNat : Nat) : Int) = -1 - x by omega] at this)
    · rw [updB_ne _ e] at hk
      exact h.sound k hk
  · rcases h.so with ⟨h1, h2⟩ | h1
    · cases hs : S r.left.toNat with
      | true =>
        refine .inl ⟨fun k hk => by rw [upd_same hs]; exact h1 k hk, fun j r' hj hr' ha' => ?_⟩
        have e : ∀ zs, allS (updB S r.left.toNat) zs = allS S zs := fun zs => allS_congr (fun x _ _ => upd_same hs _)
        rw [e] at ha'
        rw [upd_same hs]
        by_cases ej : j = i
        · subst ej
          rw [hr] at hr'
          cases hr'
          exact hs
        · exact h2 j r' (by omega) hr' ha'
      | false =>
        right
        rw [cntB_upd hs, if_pos (by omega)]
        rcases h0.2 with hd | hd
        · exfalso
          have hin : ∀ x ∈ r.right, x < 0 → (-1 - x).toNat < n := fun x hx _ => by have := ho.sym hrm hx; omega
          have ha0 : allS S0 r.right = true := by rw [← ha]; exact allS_congr (fun x hx hx0 => (h1 _ (hin x hx hx0)).symm)
          have := hd i r (List.getElem?_eq_some_iff.1 hr).1 hr ha0
          rw [← h1 _ (by omega), hs] at this
          cases this
        · rw [cntB_congr h1]
          omega
    · exact .inr (Nat.le_trans h1 (cntB_mono _ _))
theorem OutP.end {t' n : Nat} {rs : List R} (ho : OkRs t' n rs) {S : Nat → Bool} (h : OutP rs n (n + 1) S) {k : Nat} (hk : k < n) : S k = true ↔ Prod rs k := by
  have hd : DoneP rs S rs.length := by
    rcases h.2 with h1 | h1
    · exact h1
    · have := cntB_le S n
      omega
  refine ⟨h.1 k, fun hp => ?_⟩
  have key : ∀ z, Prod rs z → S z.toNat = true := fun z hz => by
    induction hz with
    | mk r hr _ ih =>
      obtain ⟨j, hj, he⟩ := List.mem_iff_getElem.1 hr
      exact hd j r hj (by rw [List.getElem?_eq_getElem hj, he]) (allS_iff.2 ih)
  have := key _ hp
  rwa [Int.toNat_natCast] at this

/-- The rules from the first to the i-th lead no further. -/
def DoneR (rs : List R) (I S : Nat → Bool) (i : Nat) : Prop := ∀ j r, j < i → rs[j]? = some r → S r.left.toNat = true → allS I r.right = true → ∀ x ∈ r.right, x < 0 → S (-1 - x).toNat = true
def SoundR (rs : List R) (I : Nat → Bool) (ax : Int) (S : Nat → Bool) : Prop := ∀ k : Nat, S k = true → Reach (rs.filter (fun r => allS I r.right)) (fun k => k = ax) k
structure InR (rs : List R) (I : Nat → Bool) (ax : Int) (n t : Nat) (S0 S : Nat → Bool) (i : Nat) : Prop where
  sound : SoundR rs I ax S
  ax : S ax.toNat = true
  so : ((∀ k, k < n → S k = S0 k) ∧ DoneR rs I S i) ∨ t + 1 ≤ cntB S n
def OutR (rs : List R) (I : Nat → Bool) (ax : Int) (n t : Nat) (S : Nat → Bool) : Prop := SoundR rs I ax S ∧ S ax.toNat = true ∧ (DoneR rs I S rs.length ∨ t ≤ cntB S n)
/-- Within a rule: its first k symbols are marked. -/
structure SideR (rs : List R) (I : Nat → Bool) (ax : Int) (n t : Nat) (S0 S : Nat → Bool) (i : Nat) (r : R) (k : Nat) : Prop where
  sound : SoundR rs I ax S
  ax : S ax.toNat = true
  left : S r.left.toNat = true
  so : ((∀ k, k < n → S k = S0 k) ∧ DoneR rs I S i ∧ ∀ x ∈ r.right.take k, x < 0 → S (-1 - x).toNat = true) ∨ t + 1 ≤ cntB S n

theorem OutR.start (rs : List R) (I : Nat → Bool) {ax : Int} (h0 : 0 ≤ ax) (n : Nat) : OutR rs I ax n 0 (updB (fun _ => false) ax.toNat) :=
  ⟨(fun k hk => by
    by_cases e : k = ax.toNat
    · subst e; exact .base (by omega)
    · rw [updB_ne _ e] at hk; cases hk), updB_at _ _, .inr (Nat.zero_le _)⟩
theorem OutR.inn {rs : List R} {I : Nat → Bool} {ax : Int} {n t : Nat} {S : Nat → Bool} (h : OutR rs I ax n t S) : InR rs I ax n t S S 0 := ⟨h.1, h.2.1, .inl ⟨fun _ _ => rfl, fun j r hj => absurd hj (by omega)⟩⟩
theorem InR.out {rs : List R} {I : Nat → Bool} {ax : Int} {n t : Nat} {S0 S : Nat → Bool} (h : InR rs I ax n t S0 S rs.length) : OutR rs I ax n (t + 1) S := ⟨h.sound, h.ax, h.so.imp (·.2) id⟩
theorem InR.skip {rs : List R} {I : Nat → Bool} {ax : Int} {n t : Nat} {S0 S : Nat → Bool} {i : Nat} {r : R} (h : InR rs I ax n t S0 S i) (hr : rs[i]? = some r) (ha : S r.left.toNat = false ∨ allS I r.right = false) : InR rs I ax n t S0 S (i + 1) :=
  ⟨h.sound, h.ax, h.so.imp (fun ⟨h1, h2⟩ => ⟨h1, fun j r' hj hr' hl ha' => by
    by_cases e : j = i
    · subst e
      rw [hr] at hr'
      cases hr'
      rcases ha with ha | ha
      · rw [ha] at hl; cases hl
      · rw [ha] at ha'; cases ha'
    · exact h2 j r' (by omega) hr' hl ha'⟩) id⟩
theorem InR.side {rs : List R} {I : Nat → Bool} {ax : Int} {n t : Nat} {S0 S : Nat → Bool} {i : Nat} {r : R} (h : InR rs I ax n t S0 S i) (hl : S r.left.toNat = true) : SideR rs I ax n t S0 S i r 0 :=
  ⟨h.sound, h.ax, hl, h.so.imp (fun ⟨h1, h2⟩ => ⟨h1, h2, fun x hx => by simp at hx⟩) id⟩
theorem SideR.out {rs : List R} {I : Nat → Bool} {ax : Int} {n t : Nat} {S0 S : Nat → Bool} {i : Nat} {r : R} (h : SideR rs I ax n t S0 S i r r.right.length) (hr : rs[i]? = some r) : InR rs I ax n t S0 S (i + 1) :=
  ⟨h.sound, h.ax, h.so.imp (fun ⟨h1, h2, h3⟩ => ⟨h1, fun j r' hj hr' hl ha' x hx hx0 => by
    by_cases e : j = i
    · subst e
      rw [hr] at hr'
      cases hr'
      exact h3 x (by rw [List.take_length]; exact hx) hx0
    · exact h2 j r' (by omega) hr' hl ha' x hx hx0⟩) id⟩
theorem SideR.skip {rs : List R} {I : Nat → Bool} {ax : Int} {n t : Nat} {S0 S : Nat → Bool} {i : Nat} {r : R} {k : Nat} {x : Int} (h : SideR rs I ax n t S0 S i r k) (hx : r.right[k]? = some x) (h0 : ¬ x < 0) : SideR rs I ax n t S0 S i r (k + 1) :=
  ⟨h.sound, h.ax, h.left, h.so.imp (fun ⟨h1, h2, h3⟩ => ⟨h1, h2, fun y hy hy0 => by
    rw [List.take_add_one, hx] at hy
    rcases List.mem_append.1 hy with hy | hy
    · exact h3 y hy hy0
    · obtain rfl : y = x := by simpa using hy
      exact absurd hy0 h0⟩) id⟩
theorem SideR.mark {t' n t : Nat} {rs : List R} (ho : OkRs t' n rs) {I : Nat → Bool} {ax : Int} {S0 S : Nat → Bool} {i : Nat} {r : R} {k : Nat} {x : Int} (hO : OutR rs I ax n t S0) (h : SideR rs I ax n t S0 S i r k) (hr : rs[i]? = some r) (ha : allS I r.right = true) (hx : r.right[k]? = some x) (h0 : x < 0) :
    SideR rs I ax n t S0 (updB S (-1 - x).toNat) i r (k + 1) := by
  have hrm := List.mem_of_getElem? hr
  have hl := ho.left hrm
  have hxm := List.mem_of_getElem? hx
  have hs := ho.sym hrm hxm
  refine ⟨fun q hq => ?_, updB_up _ _ _ h.ax, updB_up _ _ _ h.left, ?_⟩
  · by_cases e : q = (-1 - x).toNat
    · subst e
      rw [show (((-1 - x).toNat : Nat) : Int) = -1 - x by omega]
      have h1 := h.sound _ h.left
      rw [show ((r.left.toNat : Nat) : Int) = r.left by omega] at h1
      exact .step r (List.mem_filter.2 ⟨hrm, ha⟩) h1 x hxm h0
    · rw [updB_ne _ e] at hq
      exact h.sound q hq
  · rcases h.so with ⟨h1, h2, h3⟩ | h1
    · cases hm : S (-1 - x).toNat with
      | true =>
        refine .inl ⟨fun q hq => by rw [upd_same hm]; exact h1 q hq, fun j r' hj hr' hl' ha' y hy hy0 => ?_, fun y hy hy0 => ?_⟩
        · rw [upd_same hm] at hl' ⊢
          exact h2 j r' hj hr' hl' ha' y hy hy0
        · rw [upd_same hm]
          rw [List.take_add_one, hx] at hy
          rcases List.mem_append.1 hy with hy | hy
          · exact h3 y hy hy0
          · obtain rfl : y = x := by simpa using hy
            exact hm
      | false =>
        right
        rw [cntB_upd hm, if_pos (by omega)]
        rcases hO.2.2 with hd | hd
        · exfalso
          have := hd i r (List.getElem?_eq_some_iff.1 hr).1 hr (by rw [← h1 _ (by omega)]; exact h.left) ha x hxm h0
          rw [← h1 _ (by omega), hm] at this
          cases this
        · rw [cntB_congr h1]
          omega
    · exact .inr (Nat.le_trans h1 (cntB_mono _ _))
theorem OutR.end {t' n : Nat} {rs : List R} (ho : OkRs t' n rs) {I : Nat → Bool} {ax : Int} {S : Nat → Bool} (h : OutR rs I ax n (n + 1) S) {k : Nat} : S k = true ↔ Reach (rs.filter (fun r => allS I r.right)) (fun k => k = ax) k := by
  have hd : DoneR rs I S rs.length := by
    rcases h.2.2 with h1 | h1
    · exact h1
    · have := cntB_le S n
      omega
  refine ⟨h.1 k, fun hp => ?_⟩
  have key : ∀ z, Reach (rs.filter (fun r => allS I r.right)) (fun k => k = ax) z → S z.toNat = true := fun z hz => by
    induction hz with
    | base hb => rw [hb]; exact h.2.1
    | step r hr _ x hx h0 ih =>
      obtain ⟨hr1, hr2⟩ := List.mem_filter.1 hr
      obtain ⟨j, hj, he⟩ := List.mem_iff_getElem.1 hr1
      exact hd j r hj (by rw [List.getElem?_eq_getElem hj, he]) ih hr2 x hx h0
  have := key _ hp
  rwa [Int.toNat_natCast] at this

/-- Marks as a set. -/
def setTo (S : Nat → Bool) : Nat → Int
  | 0 => 0
  | k + 1 => if S k = true then withI (setTo S k) k else setTo S k
theorem setTo_isSet (S : Nat → Bool) : ∀ k, IsSet (setTo S k)
  | 0 => zero_isSet
  | k + 1 => by
    unfold setTo
    split
    · exact withI_isSet _ (setTo_isSet S k)
    · exact setTo_isSet S k
theorem hasB_setTo (S : Nat → Bool) {j : Int} : ∀ {k : Nat}, k ≤ 64 → (hasB (setTo S k) j = true ↔ 0 ≤ j ∧ j < k ∧ S j.toNat = true)
  | 0, _ => by
    rw [show setTo S 0 = 0 from rfl, hasB_zero]
    constructor
    · intro h; cases h
    · rintro ⟨h1, h2, _⟩; omega
  | k + 1, hk => by
    have ih := hasB_setTo S (j := j) (k := k) (by omega)
    unfold setTo
    split
    · rename_i hs
      rw [hasB_with (setTo_isSet S k), ih]
      constructor
      · rintro (⟨h1, h2, h3⟩ | ⟨rfl, h1, h2⟩)
        · exact ⟨h1, by omega, h3⟩
        · exact ⟨h1, by omega, by simpa using hs⟩
      · rintro ⟨h1, h2, h3⟩
        by_cases e : j = k
        · exact .inr ⟨e.symm, by omega, by omega⟩
        · exact .inl ⟨h1, by omega, h3⟩
    · rename_i hs
      rw [ih]
      constructor
      · rintro ⟨h1, h2, h3⟩
        exact ⟨h1, by omega, h3⟩
      · rintro ⟨h1, h2, h3⟩
        by_cases e : j = k
        · subst e
          rw [Int.toNat_natCast] at h3
          exact absurd h3 hs
        · exact ⟨h1, by omega, h3⟩

theorem setTo_eq {P : Int → Prop} {S : Nat → Bool} {n : Nat} (hn : n ≤ 60) (hP : ∀ k, P k → 0 ≤ k ∧ k < n) (h : ∀ k : Nat, k < n → (S k = true ↔ P k)) : setTo S n = setI P := by
  refine setI_eq (fun k hk => by have := hP k hk; omega) (setTo_isSet S n) (fun k => ?_)
  rw [hasB_setTo S (by omega)]
  constructor
  · rintro ⟨h1, h2, h3⟩
    have := (h k.toNat (by omega)).1 h3
    rwa [Int.toNat_of_nonneg h1] at this
  · intro hk
    have h1 := hP k hk
    exact ⟨h1.1, h1.2, (h k.toNat (by omega)).2 (by rwa [Int.toNat_of_nonneg h1.1])⟩

open Classical in
noncomputable def prodS (g : G) (k : Nat) : Bool := decide (Prod g.rs k)
open Classical in
noncomputable def reachS (g : G) (I : Nat → Bool) (k : Nat) : Bool := decide (Reach (g.rs.filter (fun r => allS I r.right)) (fun k => k = g.ax) k)
noncomputable def usefulS (g : G) (k : Nat) : Bool := prodS g k && reachS g (prodS g) k

theorem prodS_iff (g : G) (k : Nat) : prodS g k = true ↔ Prod g.rs k := by simp [prodS]
theorem reachS_iff (g : G) (I : Nat → Bool) (k : Nat) : reachS g I k = true ↔ Reach (g.rs.filter (fun r => allS I r.right)) (fun k => k = g.ax) k := by simp [reachS]

theorem set_prod {g : G} (h : GoodG g) : setTo (prodS g) g.ns.length = prodI g :=
  setTo_eq h.okRs.1 (fun k hk => hk.lt h.okRs) (fun k _ => prodS_iff g k)

theorem all_true (zs : List Int) : allS (fun _ => true) zs = true := allS_iff.2 (fun _ _ _ => rfl)
theorem set_reach {g : G} (h : GoodG g) {I : Nat → Bool} (hI : ∀ k, k < g.ns.length → I k = true) : setTo (reachS g I) g.ns.length = reachI g := by
  have hf : g.rs.filter (fun r => allS I r.right) = g.rs := List.filter_eq_self.2 (fun r hr => allS_iff.2 (fun x hx h0 => hI _ (by have := h.okRs.sym hr hx; omega)))
  refine setTo_eq h.okRs.1 (fun k hk => hk.lt h.okRs (fun k hk => by have := h.ax0; have := h.ax1; omega)) (fun k _ => ?_)
  rw [reachS_iff, hf]
theorem nin_all {g : G} (h : GoodG g) {r : R} (hr : r ∈ g.rs) : nin (prodI g) r = allS (prodS g) r.right := by
  rw [Bool.eq_iff_iff, nin_iff h.okRs hr (prodI_isSet g), allS_iff]
  constructor
  · intro hh x hx h0
    rw [prodS_iff, Int.toNat_of_nonneg (by omega)]
    exact (hasB_prodI h _).1 (hh x hx h0)
  · intro hh x hx h0
    have := (prodS_iff g _).1 (hh x hx h0)
    rw [Int.toNat_of_nonneg (by omega)] at this
    exact (hasB_prodI h _).2 this
theorem set_useful {g : G} (h : GoodG g) : setTo (usefulS g) g.ns.length = usefulI g := by
  have hf : g.rs.filter (fun r => allS (prodS g) r.right) = g.rs.filter (nin (prodI g)) := List.filter_congr (fun r hr => (nin_all h hr).symm)
  refine setTo_eq h.okRs.1 (fun k hk => hk.1.lt h.okRs) (fun k _ => ?_)
  unfold usefulS
  rw [Bool.and_eq_true, prodS_iff, reachS_iff, hf]

end Go.Proofs.YtnlaffhhbabjaaaDoor.UsefulMath
