/-
  Texts that stand together: UsefulRMath, Shelf, GramName, GramApart0.
-/
import Derived.Test.YthbbipgngeflnaaGreatDoorBBaseMath
import Derived.Shelf.LaysM
import Derived.Shelf.Strconv.Clone
import Derived.Test.YthbbipgngeflnaaGreatDoorProg
import Derived.Test.YthbbipgngeflnaaGreatDoorBagUsefulTabs
import Derived.Test.YthbbipgngeflnaaGreatDoorBGramLent
namespace Go.Proofs.YthbbipgngeflnaaGreatDoor.UsefulMath
open Go.Proofs.YthbbipgngeflnaaGreatDoor.GramMath Go.Proofs.YthbbipgngeflnaaGreatDoor.SetsMath
set_option linter.unusedVariables false

/-- How many of the first n are marked. -/
def cntB (S : Nat → Bool) (n : Nat) : Nat := ((List.range n).filter S).length
theorem cntB_le (S : Nat → Bool) (n : Nat) : cntB S n ≤ n := by
  have := List.length_filter_le S (List.range n)
  rw [List.length_range] at this
  exact this
theorem cntB_congr {S T : Nat → Bool} {n : Nat} (h : ∀ k, k < n → S k = T k) : cntB S n = cntB T n := by
  unfold cntB
  rw [List.filter_congr (fun k hk => h k (List.mem_range.1 hk))]
theorem cntB_succ (S : Nat → Bool) (n : Nat) : cntB S (n + 1) = cntB S n + if S n = true then 1 else 0 := by
  unfold cntB
  rw [List.range_succ, List.filter_append, List.length_append]
  congr 1
  by_cases h : S n = true
  · simp [h]
  · simp [h]
theorem cntB_upd {S : Nat → Bool} {m : Nat} (hm : S m = false) : ∀ {n : Nat}, cntB (updB S m) n = cntB S n + if m < n then 1 else 0
  | 0 => by simp [cntB]
  | n + 1 => by
    rw [cntB_succ, cntB_succ, cntB_upd hm]
    by_cases e : n = m
    · subst e
      rw [updB_at, hm]
      simp
    · rw [updB_ne _ e]
      by_cases h : m < n
      · rw [if_pos h, if_pos (show m < n + 1 by omega)]; omega
      · rw [if_neg h, if_neg (show ¬ m < n + 1 by omega)]; omega
theorem cntB_mono {S : Nat → Bool} (m n : Nat) : cntB S n ≤ cntB (updB S m) n := by
  cases h : S m with
  | true =>
    rw [cntB_congr (S := updB S m) (T := S) (fun k _ => by
      by_cases e : k = m
      · subst e; rw [updB_at, h]
      · rw [updB_ne _ e])]
    exact Nat.le_refl _
  | false => rw [cntB_upd h]; omega
theorem upd_same {S : Nat → Bool} {m : Nat} (h : S m = true) (k : Nat) : updB S m k = S k := by
  by_cases e : k = m
  · subst e; rw [updB_at, h]
  · rw [updB_ne _ e]

/-- Are all nonterminals of a right side marked? -/
def allS (S : Nat → Bool) (zs : List Int) : Bool := zs.all (fun x => !decide (x < 0) || S (-1 - x).toNat)
theorem allS_iff {S : Nat → Bool} {zs : List Int} : allS S zs = true ↔ ∀ x ∈ zs, x < 0 → S (-1 - x).toNat = true := by
  unfold allS
  rw [List.all_eq_true]
  constructor
  · intro h x hx h0
    have := h x hx
    simpa [h0] using this
  · intro h x hx
    by_cases h0 : x < 0
    · simp [h x hx h0]
    · simp [h0]
theorem allS_congr {S T : Nat → Bool} {zs : List Int} (h : ∀ x ∈ zs, x < 0 → S (-1 - x).toNat = T (-1 - x).toNat) : allS S zs = allS T zs := by
  rw [Bool.eq_iff_iff, allS_iff, allS_iff]
  exact ⟨fun hh x hx h0 => by rw [← h x hx h0]; exact hh x hx h0, fun hh x hx h0 => by rw [h x hx h0]; exact hh x hx h0⟩

/-- The rules from the first to the i-th add no productive one. -/
def DoneP (rs : List R) (S : Nat → Bool) (i : Nat) : Prop := ∀ j r, j < i → rs[j]? = some r → allS S r.right = true → S r.left.toNat = true
def SoundP (rs : List R) (S : Nat → Bool) : Prop := ∀ k, S k = true → Prod rs k
/-- What is known of the marks in the round t, ahead of the i-th rule. -/
structure InP (rs : List R) (n t : Nat) (S0 S : Nat → Bool) (i : Nat) : Prop where
  sound : SoundP rs S
  so : ((∀ k, k < n → S k = S0 k) ∧ DoneP rs S i) ∨ t + 1 ≤ cntB S n
def OutP (rs : List R) (n t : Nat) (S : Nat → Bool) : Prop := SoundP rs S ∧ (DoneP rs S rs.length ∨ t ≤ cntB S n)

theorem OutP.start (rs : List R) (n : Nat) : OutP rs n 0 (fun _ => false) := ⟨(fun _ h => by cases h), .inr (Nat.zero_le _)⟩
theorem OutP.inn {rs : List R} {n t : Nat} {S : Nat → Bool} (h : OutP rs n t S) : InP rs n t S S 0 := ⟨h.1, .inl ⟨fun _ _ => rfl, fun j r hj => absurd hj (by omega)⟩⟩
theorem InP.out {rs : List R} {n t : Nat} {S0 S : Nat → Bool} (h : InP rs n t S0 S rs.length) : OutP rs n (t + 1) S := ⟨h.sound, h.so.imp (·.2) id⟩
theorem InP.skip {rs : List R} {n t : Nat} {S0 S : Nat → Bool} {i : Nat} {r : R} (h : InP rs n t S0 S i) (hr : rs[i]? = some r) (ha : allS S r.right = false) : InP rs n t S0 S (i + 1) :=
  ⟨h.sound, h.so.imp (fun ⟨h1, h2⟩ => ⟨h1, fun j r' hj hr' ha' => by
    by_cases e : j = i
    · subst e
      rw [hr] at hr'
      cases hr'
      rw [ha] at ha'
      cases ha'
    · exact h2 j r' (by omega) hr' ha'⟩) id⟩
theorem InP.mark {t' n t : Nat} {rs : List R} (ho : OkRs t' n rs) {S0 S : Nat → Bool} {i : Nat} {r : R} (h0 : OutP rs n t S0) (h : InP rs n t S0 S i) (hr : rs[i]? = some r) (ha : allS S r.right = true) : InP rs n t S0 (updB S r.left.toNat) (i + 1) := by
  have hrm := List.mem_of_getElem? hr
  have hl := ho.left hrm
  refine ⟨fun k hk => ?_, ?_⟩
  · by_cases e : k = r.left.toNat
    · subst e
      rw [show ((r.left.toNat : Nat) : Int) = r.left by omega]
      exact .mk r hrm (fun x hx hx0 => by
        have := h.sound _ (allS_iff.1 ha x hx hx0)
        rwa [show (((-1 - x).toNat : Nat) : Int) = -1 - x by omega] at this)
    · rw [updB_ne _ e] at hk
      exact h.sound k hk
  · rcases h.so with ⟨h1, h2⟩ | h1
    · cases hs : S r.left.toNat with
      | true =>
        refine .inl ⟨fun k hk => by rw [upd_same hs]; exact h1 k hk, fun j r' hj hr' ha' => ?_⟩
        have e : ∀ zs, allS (updB S r.left.toNat) zs = allS S zs := fun zs => allS_congr (fun x _ _ => upd_same hs _)
        rw [e] at ha'
        rw [upd_same hs]
        by_cases ej : j = i
        · subst ej
          rw [hr] at hr'
          cases hr'
          exact hs
        · exact h2 j r' (by omega) hr' ha'
      | false =>
        right
        rw [cntB_upd hs, if_pos (by omega)]
        rcases h0.2 with hd | hd
        · exfalso
          have hin : ∀ x ∈ r.right, x < 0 → (-1 - x).toNat < n := fun x hx _ => by have := ho.sym hrm hx; omega
          have ha0 : allS S0 r.right = true := by rw [← ha]; exact allS_congr (fun x hx hx0 => (h1 _ (hin x hx hx0)).symm)
          have := hd i r (List.getElem?_eq_some_iff.1 hr).1 hr ha0
          rw [← h1 _ (by omega), hs] at this
          cases this
        · rw [cntB_congr h1]
          omega
    · exact .inr (Nat.le_trans h1 (cntB_mono _ _))
theorem OutP.end {t' n : Nat} {rs : List R} (ho : OkRs t' n rs) {S : Nat → Bool} (h : OutP rs n (n + 1) S) {k : Nat} (hk : k < n) : S k = true ↔ Prod rs k := by
  have hd : DoneP rs S rs.length := by
    rcases h.2 with h1 | h1
    · exact h1
    · have := cntB_le S n
      omega
  refine ⟨h.1 k, fun hp => ?_⟩
  have key : ∀ z, Prod rs z → S z.toNat = true := fun z hz => by
    induction hz with
    | mk r hr _ ih =>
      obtain ⟨j, hj, he⟩ := List.mem_iff_getElem.1 hr
      exact hd j r hj (by rw [List.getElem?_eq_getElem hj, he]) (allS_iff.2 ih)
  have := key _ hp
  rwa [Int.toNat_natCast] at this

/-- The rules from the first to the i-th lead no further. -/
def DoneR (rs : List R) (I S : Nat → Bool) (i : Nat) : Prop := ∀ j r, j < i → rs[j]? = some r → S r.left.toNat = true → allS I r.right = true → ∀ x ∈ r.right, x < 0 → S (-1 - x).toNat = true
def SoundR (rs : List R) (I : Nat → Bool) (ax : Int) (S : Nat → Bool) : Prop := ∀ k : Nat, S k = true → Reach (rs.filter (fun r => allS I r.right)) (fun k => k = ax) k
structure InR (rs : List R) (I : Nat → Bool) (ax : Int) (n t : Nat) (S0 S : Nat → Bool) (i : Nat) : Prop where
  sound : SoundR rs I ax S
  ax : S ax.toNat = true
  so : ((∀ k, k < n → S k = S0 k) ∧ DoneR rs I S i) ∨ t + 1 ≤ cntB S n
def OutR (rs : List R) (I : Nat → Bool) (ax : Int) (n t : Nat) (S : Nat → Bool) : Prop := SoundR rs I ax S ∧ S ax.toNat = true ∧ (DoneR rs I S rs.length ∨ t ≤ cntB S n)
/-- Within a rule: its first k symbols are marked. -/
structure SideR (rs : List R) (I : Nat → Bool) (ax : Int) (n t : Nat) (S0 S : Nat → Bool) (i : Nat) (r : R) (k : Nat) : Prop where
  sound : SoundR rs I ax S
  ax : S ax.toNat = true
  left : S r.left.toNat = true
  so : ((∀ k, k < n → S k = S0 k) ∧ DoneR rs I S i ∧ ∀ x ∈ r.right.take k, x < 0 → S (-1 - x).toNat = true) ∨ t + 1 ≤ cntB S n

theorem OutR.start (rs : List R) (I : Nat → Bool) {ax : Int} (h0 : 0 ≤ ax) (n : Nat) : OutR rs I ax n 0 (updB (fun _ => false) ax.toNat) :=
  ⟨(fun k hk => by
    by_cases e : k = ax.toNat
    · subst e; exact .base (by omega)
    · rw [updB_ne _ e] at hk; cases hk), updB_at _ _, .inr (Nat.zero_le _)⟩
theorem OutR.inn {rs : List R} {I : Nat → Bool} {ax : Int} {n t : Nat} {S : Nat → Bool} (h : OutR rs I ax n t S) : InR rs I ax n t S S 0 := ⟨h.1, h.2.1, .inl ⟨fun _ _ => rfl, fun j r hj => absurd hj (by omega)⟩⟩
theorem InR.out {rs : List R} {I : Nat → Bool} {ax : Int} {n t : Nat} {S0 S : Nat → Bool} (h : InR rs I ax n t S0 S rs.length) : OutR rs I ax n (t + 1) S := ⟨h.sound, h.ax, h.so.imp (·.2) id⟩
theorem InR.skip {rs : List R} {I : Nat → Bool} {ax : Int} {n t : Nat} {S0 S : Nat → Bool} {i : Nat} {r : R} (h : InR rs I ax n t S0 S i) (hr : rs[i]? = some r) (ha : S r.left.toNat = false ∨ allS I r.right = false) : InR rs I ax n t S0 S (i + 1) :=
  ⟨h.sound, h.ax, h.so.imp (fun ⟨h1, h2⟩ => ⟨h1, fun j r' hj hr' hl ha' => by
    by_cases e : j = i
    · subst e
      rw [hr] at hr'
      cases hr'
      rcases ha with ha | ha
      · rw [ha] at hl; cases hl
      · rw [ha] at ha'; cases ha'
    · exact h2 j r' (by omega) hr' hl ha'⟩) id⟩
theorem InR.side {rs : List R} {I : Nat → Bool} {ax : Int} {n t : Nat} {S0 S : Nat → Bool} {i : Nat} {r : R} (h : InR rs I ax n t S0 S i) (hl : S r.left.toNat = true) : SideR rs I ax n t S0 S i r 0 :=
  ⟨h.sound, h.ax, hl, h.so.imp (fun ⟨h1, h2⟩ => ⟨h1, h2, fun x hx => by simp at hx⟩) id⟩
theorem SideR.out {rs : List R} {I : Nat → Bool} {ax : Int} {n t : Nat} {S0 S : Nat → Bool} {i : Nat} {r : R} (h : SideR rs I ax n t S0 S i r r.right.length) (hr : rs[i]? = some r) : InR rs I ax n t S0 S (i + 1) :=
  ⟨h.sound, h.ax, h.so.imp (fun ⟨h1, h2, h3⟩ => ⟨h1, fun j r' hj hr' hl ha' x hx hx0 => by
    by_cases e : j = i
    · subst e
      rw [hr] at hr'
      cases hr'
      exact h3 x (by rw [List.take_length]; exact hx) hx0
    · exact h2 j r' (by omega) hr' hl ha' x hx hx0⟩) id⟩
theorem SideR.skip {rs : List R} {I : Nat → Bool} {ax : Int} {n t : Nat} {S0 S : Nat → Bool} {i : Nat} {r : R} {k : Nat} {x : Int} (h : SideR rs I ax n t S0 S i r k) (hx : r.right[k]? = some x) (h0 : ¬ x < 0) : SideR rs I ax n t S0 S i r (k + 1) :=
  ⟨h.sound, h.ax, h.left, h.so.imp (fun ⟨h1, h2, h3⟩ => ⟨h1, h2, fun y hy hy0 => by
    rw [List.take_add_one, hx] at hy
    rcases List.mem_append.1 hy with hy | hy
    · exact h3 y hy hy0
    · obtain rfl : y = x := by simpa using hy
      exact absurd hy0 h0⟩) id⟩
theorem SideR.mark {t' n t : Nat} {rs : List R} (ho : OkRs t' n rs) {I : Nat → Bool} {ax : Int} {S0 S : Nat → Bool} {i : Nat} {r : R} {k : Nat} {x : Int} (hO : OutR rs I ax n t S0) (h : SideR rs I ax n t S0 S i r k) (hr : rs[i]? = some r) (ha : allS I r.right = true) (hx : r.right[k]? = some x) (h0 : x < 0) :
    SideR rs I ax n t S0 (updB S (-1 - x).toNat) i r (k + 1) := by
  have hrm := List.mem_of_getElem? hr
  have hl := ho.left hrm
  have hxm := List.mem_of_getElem? hx
  have hs := ho.sym hrm hxm
  refine ⟨fun q hq => ?_, updB_up _ _ _ h.ax, updB_up _ _ _ h.left, ?_⟩
  · by_cases e : q = (-1 - x).toNat
    · subst e
      rw [show (((-1 - x).toNat : Nat) : Int) = -1 - x by omega]
      have h1 := h.sound _ h.left
      rw [show ((r.left.toNat : Nat) : Int) = r.left by omega] at h1
      exact .step r (List.mem_filter.2 ⟨hrm, ha⟩) h1 x hxm h0
    · rw [updB_ne _ e] at hq
      exact h.sound q hq
  · rcases h.so with ⟨h1, h2, h3⟩ | h1
    · cases hm : S (-1 - x).toNat with
      | true =>
        refine .inl ⟨fun q hq => by rw [upd_same hm]; exact h1 q hq, fun j r' hj hr' hl' ha' y hy hy0 => ?_, fun y hy hy0 => ?_⟩
        · rw [upd_same hm] at hl' ⊢
          exact h2 j r' hj hr' hl' ha' y hy hy0
        · rw [upd_same hm]
          rw [List.take_add_one, hx] at hy
          rcases List.mem_append.1 hy with hy | hy
          · exact h3 y hy hy0
          · obtain rfl : y = x := by simpa using hy
            exact hm
      | false =>
        right
        rw [cntB_upd hm, if_pos (by omega)]
        rcases hO.2.2 with hd | hd
        · exfalso
          have := hd i r (List.getElem?_eq_some_iff.1 hr).1 hr (by rw [← h1 _ (by omega)]; exact h.left) ha x hxm h0
          rw [← h1 _ (by omega), hm] at this
          cases this
        · rw [cntB_congr h1]
          omega
    · exact .inr (Nat.le_trans h1 (cntB_mono _ _))
theorem OutR.end {t' n : Nat} {rs : List R} (ho : OkRs t' n rs) {I : Nat → Bool} {ax : Int} {S : Nat → Bool} (h : OutR rs I ax n (n + 1) S) {k : Nat} : S k = true ↔ Reach (rs.filter (fun r => allS I r.right)) (fun k => k = ax) k := by
  have hd : DoneR rs I S rs.length := by
    rcases h.2.2 with h1 | h1
    · exact h1
    · have := cntB_le S n
      omega
  refine ⟨h.1 k, fun hp => ?_⟩
  have key : ∀ z, Reach (rs.filter (fun r => allS I r.right)) (fun k => k = ax) z → S z.toNat = true := fun z hz => by
    induction hz with
    | base hb => rw [hb]; exact h.2.1
    | step r hr _ x hx h0 ih =>
      obtain ⟨hr1, hr2⟩ := List.mem_filter.1 hr
      obtain ⟨j, hj, he⟩ := List.mem_iff_getElem.1 hr1
      exact hd j r hj (by rw [List.getElem?_eq_getElem hj, he]) ih hr2 x hx h0
  have := key _ hp
  rwa [Int.toNat_natCast] at this

/-- Marks as a set. -/
def setTo (S : Nat → Bool) : Nat → Int
  | 0 => 0
  | k + 1 => if S k = true then withI (setTo S k) k else setTo S k
theorem setTo_isSet (S : Nat → Bool) : ∀ k, IsSet (setTo S k)
  | 0 => zero_isSet
  | k + 1 => by
    unfold setTo
    split
    · exact withI_isSet _ (setTo_isSet S k)
    · exact setTo_isSet S k
theorem hasB_setTo (S : Nat → Bool) {j : Int} : ∀ {k : Nat}, k ≤ 64 → (hasB (setTo S k) j = true ↔ 0 ≤ j ∧ j < k ∧ S j.toNat = true)
  | 0, _ => by
    rw [show setTo S 0 = 0 from rfl, hasB_zero]
    constructor
    · intro h; cases h
    · rintro ⟨h1, h2, _⟩; omega
  | k + 1, hk => by
    have ih := hasB_setTo S (j := j) (k := k) (by omega)
    unfold setTo
    split
    · rename_i hs
      rw [hasB_with (setTo_isSet S k), ih]
      constructor
      · rintro (⟨h1, h2, h3⟩ | ⟨rfl, h1, h2⟩)
        · exact ⟨h1, by omega, h3⟩
        · exact ⟨h1, by omega, by simpa using hs⟩
      · rintro ⟨h1, h2, h3⟩
        by_cases e : j = k
        · exact .inr ⟨e.symm, by omega, by omega⟩
        · exact .inl ⟨h1, by omega, h3⟩
    · rename_i hs
      rw [ih]
      constructor
      · rintro ⟨h1, h2, h3⟩
        exact ⟨h1, by omega, h3⟩
      · rintro ⟨h1, h2, h3⟩
        by_cases e : j = k
        · subst e
          rw [Int.toNat_natCast] at h3
          exact absurd h3 hs
        · exact ⟨h1, by omega, h3⟩

theorem setTo_eq {P : Int → Prop} {S : Nat → Bool} {n : Nat} (hn : n ≤ 60) (hP : ∀ k, P k → 0 ≤ k ∧ k < n) (h : ∀ k : Nat, k < n → (S k = true ↔ P k)) : setTo S n = setI P := by
  refine setI_eq (fun k hk => by have := hP k hk; omega) (setTo_isSet S n) (fun k => ?_)
  rw [hasB_setTo S (by omega)]
  constructor
  · rintro ⟨h1, h2, h3⟩
    have := (h k.toNat (by omega)).1 h3
    rwa [Int.toNat_of_nonneg h1] at this
  · intro hk
    have h1 := hP k hk
    exact ⟨h1.1, h1.2, (h k.toNat (by omega)).2 (by rwa [Int.toNat_of_nonneg h1.1])⟩

open Classical in
noncomputable def prodS (g : G) (k : Nat) : Bool := decide (Prod g.rs k)
open Classical in
noncomputable def reachS (g : G) (I : Nat → Bool) (k : Nat) : Bool := decide (Reach (g.rs.filter (fun r => allS I r.right)) (fun k => k = g.ax) k)
noncomputable def usefulS (g : G) (k : Nat) : Bool := prodS g k && reachS g (prodS g) k

theorem prodS_iff (g : G) (k : Nat) : prodS g k = true ↔ Prod g.rs k := by simp [prodS]
theorem reachS_iff (g : G) (I : Nat → Bool) (k : Nat) : reachS g I k = true ↔ Reach (g.rs.filter (fun r => allS I r.right)) (fun k => k = g.ax) k := by simp [reachS]

theorem nin_all {g : G} (h : GoodG g) {r : R} (hr : r ∈ g.rs) : nin (prodI g) r = allS (prodS g) r.right := by
  rw [Bool.eq_iff_iff, nin_iff h.okRs hr (prodI_isSet g), allS_iff]
  constructor
  · intro hh x hx h0
    rw [prodS_iff, Int.toNat_of_nonneg (by omega)]
    exact (hasB_prodI h _).1 (hh x hx h0)
  · intro hh x hx h0
    have := (prodS_iff g _).1 (hh x hx h0)
    rw [Int.toNat_of_nonneg (by omega)] at this
    exact (hasB_prodI h _).2 this
theorem set_useful {g : G} (h : GoodG g) : setTo (usefulS g) g.ns.length = usefulI g := by
  have hf : g.rs.filter (fun r => allS (prodS g) r.right) = g.rs.filter (nin (prodI g)) := List.filter_congr (fun r hr => (nin_all h hr).symm)
  refine setTo_eq h.okRs.1 (fun k hk => hk.1.lt h.okRs) (fun k _ => ?_)
  unfold usefulS
  rw [Bool.and_eq_true, prodS_iff, reachS_iff, hf]

end Go.Proofs.YthbbipgngeflnaaGreatDoor.UsefulMath

namespace Go.Proofs
open Go.Shelf
def Tryz.laysM316_ren : Go.Shelf.Ren := ⟨fun | 316 => 88 | n => n, fun | 9 => 9 | 3 => 3 | 4 => 4 | 37 => 104 | 0 => 0 | 127 => 139 | 5 => 5 | n => n, fun | n => n⟩
theorem Tryz.laysM316 : Go.Proofs.LaysM.n316 Tryz.prog Tryz.laysM316_ren := {
  mixed := by kernel_rfl
  f316 := Tryz.func88.trans (congrArg some (by kernel_rfl))
  t0 := Tryz.underlying0
  a0 := Tryz.isAgg0
  z0 := Tryz.sizeOf0
  v0 := Tryz.zeroValue0
  t3 := Tryz.underlying3
  a3 := Tryz.isAgg3
  z3 := Tryz.sizeOf3
  v3 := Tryz.zeroValue3
  t4 := Tryz.underlying4
  a4 := Tryz.isAgg4
  z4 := Tryz.sizeOf4
  v4 := Tryz.zeroValue4
  t9 := Tryz.underlying9
  a9 := Tryz.isAgg9
  z9 := Tryz.sizeOf9
  v9 := Tryz.zeroValue9
  t37 := Tryz.underlying104
  a37 := Tryz.isAgg104
  z37 := Tryz.sizeOf104
  v37 := Tryz.zeroValue104
  t127 := Tryz.underlying139
  a127 := Tryz.isAgg139
  z127 := Tryz.sizeOf139
  v127 := Tryz.zeroValue139
  t5 := Tryz.underlying5
  a5 := Tryz.isAgg5
  z5 := Tryz.sizeOf5
  v5 := Tryz.zeroValue5
  i0 := by kernel_rfl
  i3 := by kernel_rfl
  i4 := by kernel_rfl
  i5 := by kernel_rfl
  i9 := by kernel_rfl
  i37 := by kernel_rfl
  i127 := by kernel_rfl }
open Go.RowKit in
theorem Tryz.stringslite_Clone (s : ByteArray) (w : World) (hlim : s.size ≤ 281474976710656) :
    Calls Tryz.prog 88 #[.string s] w fun e w' => e = .returned (.string s) ∧ Below w.heap.size w w' := Any.stringslite_Clone Tryz.laysM316 s w hlim
end Go.Proofs

namespace Go.Proofs.YthbbipgngeflnaaGreatDoor.GramName
open Go.RowKit Go.Proofs.YthbbipgngeflnaaGreatDoor.GramMath Go.Proofs.YthbbipgngeflnaaGreatDoor.GramRow Go.Proofs.YthbbipgngeflnaaGreatDoor.GramOne Go.Proofs.YthbbipgngeflnaaGreatDoor.GramCheck Go.Proofs.YthbbipgngeflnaaGreatDoor.GramAboveFn Go.Proofs.YthbbipgngeflnaaGreatDoor.GramAwake
set_option linter.unusedVariables false

theorem clone_any (s : ByteArray) (w : World) (hs : s.size ≤ 281474976710656) : Calls Tryz.prog 85 #[.string s] w fun e w' => e = .returned (.string s) ∧ Below w.heap.size w w' := by
  go_enter Tryz.func85, Tryz.ntmps85
  go_wp2_with fail
  refine (Tryz.stringslite_Clone s w hs).mono ?_
  rintro e w1 ⟨rfl, hb⟩
  go_wp2
  go_ret
  exact ⟨rfl, hb⟩

def nameS (g : G) (s : Int) : ByteArray := if leftB g.ts.length s = true then g.ts.getD s.toNat ⟨#[]⟩ else if leftB g.ns.length (-1 - s) = true then g.ns.getD (-1 - s).toNat ⟨#[]⟩ else ⟨#[]⟩
def nameB (g : G) (s : Int) : Bool := leftB g.ts.length s || leftB g.ns.length (-1 - s)

def b2i (b : Bool) : Int := if b = true then 1 else 0

end Go.Proofs.YthbbipgngeflnaaGreatDoor.GramName

namespace Go.Proofs.YthbbipgngeflnaaGreatDoor.GramApart
open Go.RowKit Go.Proofs.YthbbipgngeflnaaGreatDoor.GramMath Go.Proofs.YthbbipgngeflnaaGreatDoor.GramRow
set_option linter.unusedVariables false

def RowAt (w : World) (b : Nat) (t : TypeId) (cur : Array Value) : Prop := w.heap[b]? = some (.cells cur t (0, 0))

theorem RowAt.lt {w : World} {b : Nat} {t : TypeId} {cur : Array Value} (h : RowAt w b t cur) : b < w.heap.size := (Array.getElem?_eq_some_iff.1 h).1

theorem RowAt.cell {w : World} {b : Nat} {t : TypeId} {cur : Array Value} (h : RowAt w b t cur) {q : Nat} {v : Value} (hq : cur[q]? = some v) : w.cell? ⟨b, q, none⟩ = some v := by
  unfold World.cell?
  rw [show w.heap[b]? = _ from h]
  exact hq

theorem RowAt.frozen {w : World} {b : Nat} {t : TypeId} {cur : Array Value} (h : RowAt w b t cur) (q : Nat) : w.frozen? ⟨b, q, none⟩ = false := by
  simp [World.frozen?, show w.heap[b]? = _ from h]

theorem RowAt.set {w : World} {b : Nat} {t : TypeId} {cur : Array Value} (h : RowAt w b t cur) (q : Nat) (v : Value) : RowAt (w.setCell ⟨b, q, none⟩ v) b t (cur.setIfInBounds q v) := by
  unfold RowAt at h ⊢
  simp only [World.setCell, Array.getElem?_modify]
  simp [h]

theorem RowAt.other {w : World} {b b' : Nat} {t : TypeId} {cur : Array Value} (h : RowAt w b t cur) (hne : b ≠ b') (q : Nat) (v : Value) : RowAt (w.setCell ⟨b', q, none⟩ v) b t cur := by
  unfold RowAt at h ⊢
  rw [Below.heap_setCell _ _ _ _ hne]
  exact h

theorem RowAt.below {w w' : World} {B b : Nat} {t : TypeId} {cur : Array Value} (h : RowAt w b t cur) (hb : Below B w w') (hlt : b < B) : RowAt w' b t cur := (hb.block b hlt).trans h

theorem RowAt.grown {w w' : World} {row : Option Nat} {b : Nat} {t : TypeId} {cur : Array Value} (h : RowAt w b t cur) (hg : w.grownBy w' row) (hne : some b ≠ row) : RowAt w' b t cur := (hg.block b h.lt hne).trans h

theorem RowAt.alloc {w : World} {b : Nat} {t : TypeId} {cur : Array Value} (h : RowAt w b t cur) (o : Obj) : RowAt (w.alloc o) b t cur := (Below.heap_alloc w o b h.lt).trans h

theorem RowAt.ne {w : World} {b b' : Nat} {t t' : TypeId} {cur cur' : Array Value} (h : RowAt w b t cur) (h' : RowAt w b' t' cur') (ht : t ≠ t') : b ≠ b' := by
  intro e
  subst e
  unfold RowAt at h h'
  rw [h] at h'
  cases h'
  exact ht rfl

theorem RowAt.not_own {w : World} {b : Nat} {t e : TypeId} {cur : Array Value} (h : RowAt w b t cur) (ht : t ≠ e) {base size n : Nat} {v : Value} {xs : List Value} (hr : w.ownsRow base e size v n xs) : some b ≠ v.ownBlock := by
  obtain ⟨_, ⟨rfl, _⟩ | ⟨g, cap, cur', rfl, _, hg, _⟩⟩ := hr
  · simp [Value.ownBlock]
  · intro hq
    simp only [Value.ownBlock, Option.some.injEq] at hq
    exact h.ne hg ht hq

theorem own_at {w : World} {base : Nat} {e : TypeId} {g n c : Nat} {xs : List Value} (h : w.ownsRow base e 1 (.slice (some ⟨g, 0, none⟩) n c) n xs) :
    ∃ cur, RowAt w g e cur ∧ cur.size = c ∧ n ≤ c ∧ base ≤ g ∧ ∀ q, q < n → cur[q]? = xs[q]? := by
  obtain ⟨_, h | ⟨g', cap, cur, hv, hb, hg, hn, _, hs, hx⟩⟩ := h
  · exact absurd h.1 (by simp)
  · simp at hv
    obtain ⟨rfl, rfl⟩ := hv
    refine ⟨cur, hg, by omega, hn, hb, fun q hq => ?_⟩
    rw [← hx, List.getElem?_take, if_pos (by omega), Array.getElem?_toList]

theorem own_base {w : World} {base base' : Nat} {e : TypeId} {size n : Nat} {v : Value} {xs : List Value} (h : w.ownsRow base e size v n xs) (hb : base' ≤ base) : w.ownsRow base' e size v n xs := by
  obtain ⟨h1, h | ⟨g, cap, cur, hv, hbb, rest⟩⟩ := h
  · exact ⟨h1, .inl h⟩
  · exact ⟨h1, .inr ⟨g, cap, cur, hv, by omega, rest⟩⟩

/-- The marks that have been written into the lists: all of those before i, the first k of the i-th. -/
def Marked (mk : Int → Value) (m : Nat) (g N : Nat → Nat) (w : World) (i k : Nat) : Prop :=
  ∀ j, j < m → ∀ q, q < N j → w.frozen? ⟨g j, q, none⟩ = false ∧ ∃ v, w.cell? ⟨g j, q, none⟩ = some v ∧ ((j < i ∨ j = i ∧ q < k) → v = mk (1000 * (j : Int) + (q : Int)))

theorem Marked.store {mk : Int → Value} {m : Nat} {g N : Nat → Nat} {w : World} {i k : Nat} (h : Marked mk m g N w i k) (hi : i < m) (hk : k < N i) (hd : ∀ a, a < m → ∀ b, b < m → a ≠ b → 0 < N a → 0 < N b → g a ≠ g b) :
    Marked mk m g N (w.setCell ⟨g i, k, none⟩ (mk (1000 * (i : Int) + (k : Int)))) i (k + 1) := by
  intro j hj q hq
  obtain ⟨hf, v, hv, hc⟩ := h j hj q hq
  refine ⟨by rw [World.frozen?_setCell]; exact hf, ?_⟩
  by_cases e : j = i
  · subst e
    by_cases hqk : q = k
    · subst hqk
      exact ⟨_, World.cell?_setCell_same (h := hv) .., fun _ => rfl⟩
    · refine ⟨v, ?_, fun hcase => hc (by omega)⟩
      rw [World.cell?_setCell_other (h := show (⟨g j, k, none⟩ : Addr) ≠ ⟨g j, q, none⟩ from fun h => hqk (by cases h; rfl))]
      exact hv
  · refine ⟨v, ?_, fun hcase => hc (by omega)⟩
    have hne : g j ≠ g i := hd j hj i hi e (by omega) (by omega)
    rw [World.cell?_setCell_other (h := show (⟨g i, k, none⟩ : Addr) ≠ ⟨g j, q, none⟩ from fun h => hne (congrArg Addr.block h).symm)]
    exact hv

theorem Marked.next {mk : Int → Value} {m : Nat} {g N : Nat → Nat} {w : World} {i : Nat} (h : Marked mk m g N w i (N i)) : Marked mk m g N w (i + 1) 0 := by
  intro j hj q hq
  obtain ⟨hf, v, hv, hc⟩ := h j hj q hq
  refine ⟨hf, v, hv, fun hcase => hc ?_⟩
  by_cases e : j = i
  · subst e; exact .inr ⟨rfl, hq⟩
  · exact .inl (by omega)

theorem Marked.below {mk : Int → Value} {m B : Nat} {g N : Nat → Nat} {w w' : World} {i k : Nat} (h : Marked mk m g N w i k) (hb : Below B w w') (hg : ∀ j, j < m → 0 < N j → g j < B) : Marked mk m g N w' i k := by
  intro j hj q hq
  obtain ⟨hf, v, hv, hc⟩ := h j hj q hq
  have hB := hg j hj (by omega)
  exact ⟨(hb.frozen (p := ⟨g j, q, none⟩) hB).trans hf, v, (hb.cell (p := ⟨g j, q, none⟩) hB).trans hv, hc⟩

/-- What a list that was gone on with holds. -/
def Longer (mk : Int → Value) (w : World) (t : TypeId) (j n : Nat) (v : Value) : Prop :=
  ∃ h c cur, v = .slice (some ⟨h, 0, none⟩) (n + 30) c ∧ RowAt w h t cur ∧ (∀ q, q < n → cur[q]? = some (mk (1000 * (j : Int) + (q : Int)))) ∧ ∀ q, q < 30 → cur[n + q]? = some (mk (500000 + 1000 * (j : Int) + (q : Int)))

theorem Longer.below {mk : Int → Value} {w w' : World} {t : TypeId} {j n B : Nat} {v : Value} (h : Longer mk w t j n v) (hb : Below B w w') (hB : w.heap.size ≤ B) : Longer mk w' t j n v := by
  obtain ⟨a, c, cur, hv, hr, rest⟩ := h
  exact ⟨a, c, cur, hv, hr.below hb (by have := hr.lt; omega), rest⟩

theorem Longer.grown {mk : Int → Value} {t e : TypeId} {w w' : World} {j n : Nat} {v : Value} (h : Longer mk w t j n v) (ht : t ≠ e) {base size k : Nat} {u : Value} {xs : List Value} (hr : w.ownsRow base e size u k xs) (o : Obj) (hg : (w.alloc o).grownBy w' u.ownBlock) : Longer mk w' t j n v := by
  obtain ⟨a, c, cur, hv, hrow, rest⟩ := h
  exact ⟨a, c, cur, hv, (hrow.alloc o).grown hg (hrow.not_own ht hr), rest⟩

/-- The marks of a list, and what is laid behind them. -/
def markL (mk : Int → Value) (j n : Nat) : List Value := (List.range n).map fun (q : Nat) => mk (1000 * (j : Int) + (q : Int))
def moreL (mk : Int → Value) (j k : Nat) : List Value := (List.range k).map fun (q : Nat) => mk (500000 + 1000 * (j : Int) + (q : Int))

theorem moreL_succ (mk : Int → Value) (j k : Nat) : moreL mk j (k + 1) = moreL mk j k ++ [mk (500000 + 1000 * (j : Int) + (k : Int))] := by
  simp [moreL, List.range_succ]

theorem markL_len (mk : Int → Value) (j n : Nat) : (markL mk j n).length = n := by simp [markL]
theorem moreL_len (mk : Int → Value) (j n : Nat) : (moreL mk j n).length = n := by simp [moreL]

theorem longer_of {mk : Int → Value} {w : World} {base : Nat} {t : TypeId} {j n : Nat} {v : Value} (h : w.ownsRow base t 1 v (n + 30) (markL mk j n ++ moreL mk j 30)) : Longer mk w t j n v := by
  obtain ⟨g, c, rfl⟩ := ownsRow_succ (k := n + 29) h
  obtain ⟨cur, hr, _, _, _, hx⟩ := own_at h
  refine ⟨g, c, cur, rfl, hr, fun q hq => ?_, fun q hq => ?_⟩
  · rw [hx q (by omega), List.getElem?_append_left (by rw [markL_len]; exact hq)]
    simp [markL, hq]
  · rw [hx (n + q) (by omega), List.getElem?_append_right (by rw [markL_len]; omega), markL_len]
    simp [moreL, hq]

theorem own_below {w w' : World} {base : Nat} {e : TypeId} {size n : Nat} {v : Value} {xs : List Value} (h : w.ownsRow base e size v n xs) (hb : Below w.heap.size w w') : w'.ownsRow base e size v n xs := by
  obtain ⟨h1, h | ⟨g, cap, cur, hv, hbb, hg, rest⟩⟩ := h
  · exact ⟨h1, .inl h⟩
  · exact ⟨h1, .inr ⟨g, cap, cur, hv, hbb, (hb.block g (Array.getElem?_eq_some_iff.1 hg).1).trans hg, rest⟩⟩

theorem markL_get {mk : Int → Value} {m : Nat} {g N : Nat → Nat} {w : World} {i : Nat} (h : Marked mk m g N w m 0) (hi : i < m) : ∀ j u, (markL mk i (N i))[j]? = some u → w.cell? ⟨g i, j, none⟩ = some u := by
  intro j u hj
  have hjl : j < N i := by
    have := (List.getElem?_eq_some_iff.1 hj).1
    rwa [markL_len] at this
  obtain ⟨_, v, hv, hc⟩ := h i hi j hjl
  have h2 := hc (.inl hi)
  simp [markL, hjl] at hj
  subst hj
  rw [hv, h2]

/-- Where a list lies that may be none. -/
def at' (g N : Nat → Nat) (j : Nat) : Option Addr → Prop
  | none => N j = 0
  | some a => a = ⟨g j, 0, none⟩

end Go.Proofs.YthbbipgngeflnaaGreatDoor.GramApart
