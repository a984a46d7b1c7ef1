/-
  Productive, reached and useful nonterminals as plain notions; what sets that grow by rules come to. No part of the program.
-/
import Derived.Test.YtjmodcpeggafhaaDoorGramMath
import Derived.Test.YtjmodcpeggafhaaDoorSetsMath2
namespace Go.Proofs.YtjmodcpeggafhaaDoor.UsefulMath
open Go.Proofs.YtjmodcpeggafhaaDoor.GramMath Go.Proofs.YtjmodcpeggafhaaDoor.SetsMath

/-- A nonterminal that derives some row of tokens. -/
inductive Prod (rs : List R) : Int → Prop
  | mk (r : R) (hr : r ∈ rs) (h : ∀ x ∈ r.right, x < 0 → Prod rs (-1 - x)) : Prod rs r.left

/-- A nonterminal that rules lead to. -/
inductive Reach (rs : List R) (F : Int → Prop) : Int → Prop
  | base {k : Int} (h : F k) : Reach rs F k
  | step (r : R) (hr : r ∈ rs) (h : Reach rs F r.left) (x : Int) (hx : x ∈ r.right) (h0 : x < 0) : Reach rs F (-1 - x)

/-- Rules that keep to n nonterminals and t terminals. -/
def OkRs (t n : Nat) (rs : List R) : Prop := n ≤ 60 ∧ ∀ r ∈ rs, ruleK t n r = 0

theorem _root_.Go.Proofs.YtjmodcpeggafhaaDoor.GramMath.GoodG.okRs {g : G} (h : GoodG g) : OkRs g.ts.length g.ns.length g.rs := ⟨by have := h.few; omega, h.each⟩

theorem OkRs.filter {t n : Nat} {rs : List R} (h : OkRs t n rs) (p : R → Bool) : OkRs t n (rs.filter p) := ⟨h.1, fun r hr => h.2 r (List.mem_filter.1 hr).1⟩

theorem OkRs.left {t n : Nat} {rs : List R} (h : OkRs t n rs) {r : R} (hr : r ∈ rs) : 0 ≤ r.left ∧ r.left < n ∧ r.left < 64 := by
  obtain ⟨_, a, b, _⟩ := ruleK_ok (h.2 r hr)
  have := h.1
  omega

theorem OkRs.sym {t n : Nat} {rs : List R} (h : OkRs t n rs) {r : R} (hr : r ∈ rs) {x : Int} (hx : x ∈ r.right) : -1 - x < n ∧ x < t := by
  obtain ⟨_, _, _, c⟩ := ruleK_ok (h.2 r hr)
  have := c x hx
  omega

theorem Prod.lt {t n : Nat} {rs : List R} (h : OkRs t n rs) {k : Int} (hk : Prod rs k) : 0 ≤ k ∧ k < n := by
  cases hk with
  | mk r hr _ => have := h.left hr; omega

theorem Reach.lt {t n : Nat} {rs : List R} (h : OkRs t n rs) {F : Int → Prop} (hF : ∀ k, F k → 0 ≤ k ∧ k < n) {k : Int} (hk : Reach rs F k) : 0 ≤ k ∧ k < n := by
  cases hk with
  | base h => exact hF _ h
  | step r hr _ x hx h0 => have := h.sym hr hx; omega

theorem Reach.mono {rs rs' : List R} {F F' : Int → Prop} (hr : ∀ r ∈ rs, r ∈ rs') (hF : ∀ k, F k → F' k) {k : Int} (h : Reach rs F k) : Reach rs' F' k := by
  induction h with
  | base h => exact .base (hF _ h)
  | step r hr' _ x hx h0 ih => exact .step r (hr r hr') ih x hx h0

theorem Prod.mono {rs rs' : List R} (hr : ∀ r ∈ rs, r ∈ rs') {k : Int} (h : Prod rs k) : Prod rs' k := by
  induction h with
  | mk r hr' _ ih => exact .mk r (hr r hr') ih

/-- The nonterminals of a right side. -/
def ntI (r : R) : Int := ofI (r.right.map (fun x => -1 - x))

theorem ntI_isSet (r : R) : IsSet (ntI r) := ofI_isSet _ zero_isSet

theorem hasB_range {s k : Int} (h : hasB s k = true) : 0 ≤ k ∧ k < 64 := by
  by_cases hk : 0 ≤ k ∧ k < 64
  · exact hk
  · rw [hasB_out hk] at h; cases h

theorem hasB_zero (k : Int) : hasB 0 k = false := by simp [hasB]

theorem hasB_with {s k j : Int} (hs : IsSet s) : hasB (withI s k) j = true ↔ hasB s j = true ∨ (k = j ∧ 0 ≤ k ∧ k < 64) := by
  by_cases hk : 0 ≤ k ∧ k < 64
  · by_cases hj : 0 ≤ j ∧ j < 64
    · obtain ⟨a, rfl⟩ : ∃ a : Nat, k = a := ⟨k.toNat, by omega⟩
      obtain ⟨b, rfl⟩ : ∃ b : Nat, j = b := ⟨j.toNat, by omega⟩
      rw [hasB_withI s (by omega) (by omega), Bool.or_eq_true, decide_eq_true_iff]
      constructor
      · rintro (h | h)
        · exact .inl h
        · exact .inr ⟨by omega, hk⟩
      · rintro (h | h)
        · exact .inl h
        · exact .inr (by omega)
    · rw [hasB_out hj, hasB_out hj]
      constructor
      · intro h; cases h
      · rintro (h | h)
        · exact h
        · obtain ⟨rfl, h1⟩ := h
          exact absurd h1 hj
  · rw [withI_out hs hk]
    constructor
    · exact .inl
    · rintro (h | h)
      · exact h
      · exact absurd h.2 hk

theorem hasB_fold (l : List Int) : ∀ {s j : Int}, IsSet s → (hasB (l.foldl withI s) j = true ↔ hasB s j = true ∨ (j ∈ l ∧ 0 ≤ j ∧ j < 64)) := by
  induction l with
  | nil => intro s j _; simp
  | cons x l ih =>
    intro s j hs
    rw [List.foldl_cons, ih (withI_isSet x hs), hasB_with hs, List.mem_cons]
    constructor
    · rintro ((h | ⟨rfl, h⟩) | ⟨h, h2⟩)
      · exact .inl h
      · exact .inr ⟨.inl rfl, h⟩
      · exact .inr ⟨.inr h, h2⟩
    · rintro (h | ⟨rfl | h, h2⟩)
      · exact .inl (.inl h)
      · exact .inl (.inr ⟨rfl, h2⟩)
      · exact .inr ⟨h, h2⟩

theorem hasB_ofI (l : List Int) {j : Int} : hasB (ofI l) j = true ↔ j ∈ l ∧ 0 ≤ j ∧ j < 64 := by
  unfold ofI
  rw [hasB_fold l zero_isSet, hasB_zero]
  simp

theorem hasB_ntI {r : R} {j : Int} : hasB (ntI r) j = true ↔ (∃ x ∈ r.right, -1 - x = j) ∧ 0 ≤ j ∧ j < 64 := by
  unfold ntI
  rw [hasB_ofI, List.mem_map]

theorem hasB_or {s t j : Int} : hasB (orI s t) j = true ↔ hasB s j = true ∨ hasB t j = true := by
  by_cases hj : 0 ≤ j ∧ j < 64
  · obtain ⟨b, rfl⟩ : ∃ b : Nat, j = b := ⟨j.toNat, by omega⟩
    rw [hasB_orI _ _ (by omega), Bool.or_eq_true]
  · rw [hasB_out hj, hasB_out hj, hasB_out hj]
    simp

theorem hasB_meet {s t j : Int} : hasB (meetI s t) j = true ↔ hasB s j = true ∧ hasB t j = true := by
  by_cases hj : 0 ≤ j ∧ j < 64
  · obtain ⟨b, rfl⟩ : ∃ b : Nat, j = b := ⟨j.toNat, by omega⟩
    rw [hasB_meetI _ _ (by omega), Bool.and_eq_true]
  · rw [hasB_out hj, hasB_out hj, hasB_out hj]
    simp

theorem ext_of {a b : Int} (ha : IsSet a) (hb : IsSet b) (h : ∀ j : Int, hasB a j = true ↔ hasB b j = true) : a = b :=
  ext_set ha hb (fun j _ => by rw [Bool.eq_iff_iff]; exact h j)

theorem minus_zero {s t : Int} (hs : IsSet s) (ht : IsSet t) : minusI s t = 0 ↔ ∀ j : Int, hasB s j = true → hasB t j = true := by
  constructor
  · intro h j hj
    have hr := hasB_range hj
    obtain ⟨b, rfl⟩ : ∃ b : Nat, j = b := ⟨j.toNat, by omega⟩
    have h1 : hasB (minusI s t) b = false := by rw [h, hasB_zero]
    rw [hasB_minusI s ht (by omega), hj] at h1
    simpa using h1
  · intro h
    refine ext_of (minusI_isSet hs) zero_isSet (fun j => ?_)
    rw [hasB_zero]
    constructor
    · intro hj
      have hr := hasB_range hj
      obtain ⟨b, rfl⟩ : ∃ b : Nat, j = b := ⟨j.toNat, by omega⟩
      rw [hasB_minusI s ht (by omega), Bool.and_eq_true] at hj
      rw [h _ hj.1] at hj
      exact hj.2
    · intro h; cases h

/-- Are all nonterminals of a rule's right side in a set? -/
def nin (s : Int) (r : R) : Bool := minusI (ntI r) s == 0

theorem nin_iff {t n : Nat} {rs : List R} (ho : OkRs t n rs) {r : R} (hr : r ∈ rs) {s : Int} (hs : IsSet s) : nin s r = true ↔ ∀ x ∈ r.right, x < 0 → hasB s (-1 - x) = true := by
  unfold nin
  rw [beq_iff_eq, minus_zero (ntI_isSet r) hs]
  have hn := ho.1
  constructor
  · intro h x hx h0
    have := ho.sym hr hx
    exact h _ (hasB_ntI.2 ⟨⟨x, hx, rfl⟩, by omega, by omega⟩)
  · intro h j hj
    obtain ⟨⟨x, hx, rfl⟩, h1, _⟩ := hasB_ntI.1 hj
    exact h x hx (by omega)

/-- What a rule adds to the productive ones, and to the reached ones. -/
def addP (s : Int) (r : R) : Int := if nin s r = true then ofI [r.left] else 0
def addR (s : Int) (r : R) : Int := if hasB s r.left = true then ntI r else 0

theorem addP_isSet (s : Int) (r : R) : IsSet (addP s r) := by
  unfold addP
  split
  · exact ofI_isSet _ zero_isSet
  · exact zero_isSet
theorem addR_isSet (s : Int) (r : R) : IsSet (addR s r) := by
  unfold addR
  split
  · exact ntI_isSet r
  · exact zero_isSet

/-- What a set grows to. -/
structure Grown (f : Int → R → Int) (rs : List R) (s0 S : Int) : Prop where
  isSet : IsSet S
  closed : ∀ r ∈ rs, orI S (f S r) = S
  least : ∀ P : Int → Prop, P s0 → (∀ s, ∀ r ∈ rs, IsSet s → P s → P (orI s (f s r))) → P S

theorem Grown.prod {t n : Nat} {rs : List R} (ho : OkRs t n rs) {S : Int} (h : Grown addP rs 0 S) (k : Int) : hasB S k = true ↔ Prod rs k := by
  constructor
  · refine h.least (fun s => ∀ k, hasB s k = true → Prod rs k) (fun k hk => by rw [hasB_zero] at hk; cases hk) (fun s r hr hs ih k hk => ?_) k
    rcases hasB_or.1 hk with hk | hk
    · exact ih k hk
    · unfold addP at hk
      split at hk
      · rename_i hn
        obtain ⟨h1, _⟩ := (hasB_ofI _).1 hk
        obtain rfl : k = r.left := by simpa using h1
        exact .mk r hr (fun x hx h0 => ih _ ((nin_iff ho hr hs).1 hn x hx h0))
      · rw [hasB_zero] at hk; cases hk
  · intro hk
    induction hk with
    | mk r hr _ ih =>
      have hl := ho.left hr
      have hc := h.closed r hr
      rw [← hc, hasB_or]
      right
      unfold addP
      rw [if_pos ((nin_iff ho hr h.isSet).2 ih), hasB_ofI]
      exact ⟨by simp, hl.1, hl.2.2⟩

theorem Grown.reach {t n : Nat} {rs : List R} (ho : OkRs t n rs) {s0 S : Int} (h : Grown addR rs s0 S) (k : Int) : hasB S k = true ↔ Reach rs (fun k => hasB s0 k = true) k := by
  constructor
  · refine h.least (fun s => ∀ k, hasB s k = true → Reach rs (fun k => hasB s0 k = true) k) (fun k hk => .base hk) (fun s r hr hs ih k hk => ?_) k
    rcases hasB_or.1 hk with hk | hk
    · exact ih k hk
    · unfold addR at hk
      split at hk
      · rename_i hn
        obtain ⟨⟨x, hx, rfl⟩, h1, _⟩ := hasB_ntI.1 hk
        exact .step r hr (ih _ hn) x hx (by omega)
      · rw [hasB_zero] at hk; cases hk
  · intro hk
    induction hk with
    | base hb => exact h.least (fun s => ∀ k, hasB s0 k = true → hasB s k = true) (fun _ h => h) (fun s r hr hs ih k hk => hasB_or.2 (.inl (ih k hk))) _ hb
    | step r hr _ x hx h0 ih =>
      have hl := ho.sym hr hx
      have hn := ho.1
      have hc := h.closed r hr
      rw [← hc, hasB_or]
      right
      unfold addR
      rw [if_pos ih, hasB_ntI]
      exact ⟨⟨x, hx, rfl⟩, by omega, by omega⟩

theorem Grown.prodEq {t n : Nat} {rs : List R} (ho : OkRs t n rs) {S S' : Int} (h : Grown addP rs 0 S) (h' : Grown addP rs 0 S') : S = S' :=
  ext_of h.isSet h'.isSet (fun j => by rw [h.prod ho, h'.prod ho])

open Classical in
/-- The set of the numbers below 64 that are so. -/
noncomputable def setI (P : Int → Prop) : Int := ofI (((List.range 64).map (fun n : Nat => (n : Int))).filter (fun k => decide (P k)))

theorem setI_isSet (P : Int → Prop) : IsSet (setI P) := ofI_isSet _ zero_isSet

theorem hasB_setI {P : Int → Prop} (hP : ∀ k, P k → 0 ≤ k ∧ k < 64) (k : Int) : hasB (setI P) k = true ↔ P k := by
  unfold setI
  rw [hasB_ofI, List.mem_filter, List.mem_map]
  constructor
  · rintro ⟨⟨_, h⟩, _⟩
    simpa using h
  · intro h
    have := hP k h
    exact ⟨⟨⟨k.toNat, List.mem_range.2 (by omega), by omega⟩, by simpa using h⟩, this⟩

theorem setI_eq {P : Int → Prop} (hP : ∀ k, P k → 0 ≤ k ∧ k < 64) {S : Int} (hS : IsSet S) (h : ∀ k, hasB S k = true ↔ P k) : S = setI P :=
  ext_of hS (setI_isSet P) (fun j => by rw [h, hasB_setI hP])

/-- The sets of a grammar. -/
noncomputable def prodI (g : G) : Int := setI (Prod g.rs)
noncomputable def reachI (g : G) : Int := setI (Reach g.rs (fun k => k = g.ax))
/-- Has a rule no nonterminals, left or right, but those of a set? -/
def rin (s : Int) (r : R) : Bool := minusI (withI (ntI r) r.left) s == 0
noncomputable def usefulI (g : G) : Int := setI (fun k => Prod g.rs k ∧ Reach (g.rs.filter (nin (prodI g))) (fun k => k = g.ax) k)

theorem rin_iff {t n : Nat} {rs : List R} (ho : OkRs t n rs) {r : R} (hr : r ∈ rs) {s : Int} (hs : IsSet s) : rin s r = true ↔ hasB s r.left = true ∧ ∀ x ∈ r.right, x < 0 → hasB s (-1 - x) = true := by
  have hl := ho.left hr
  unfold rin
  rw [beq_iff_eq, minus_zero (withI_isSet _ (ntI_isSet r)) hs]
  have hn := ho.1
  constructor
  · intro h
    refine ⟨h _ ((hasB_with (ntI_isSet r)).2 (.inr ⟨rfl, hl.1, hl.2.2⟩)), fun x hx h0 => ?_⟩
    have := ho.sym hr hx
    exact h _ ((hasB_with (ntI_isSet r)).2 (.inl (hasB_ntI.2 ⟨⟨x, hx, rfl⟩, by omega, by omega⟩)))
  · rintro ⟨h1, h2⟩ j hj
    rcases (hasB_with (ntI_isSet r)).1 hj with hj | ⟨rfl, _⟩
    · obtain ⟨⟨x, hx, rfl⟩, h3, _⟩ := hasB_ntI.1 hj
      exact h2 x hx (by omega)
    · exact h1

theorem prod_range {g : G} (h : GoodG g) : ∀ k, Prod g.rs k → 0 ≤ k ∧ k < 64 := fun k hk => by
  have := hk.lt h.okRs
  have := h.okRs.1
  omega

theorem hasB_prodI {g : G} (h : GoodG g) (k : Int) : hasB (prodI g) k = true ↔ Prod g.rs k := hasB_setI (prod_range h) k
theorem prodI_isSet (g : G) : IsSet (prodI g) := setI_isSet _

theorem prod_grown {g : G} (h : GoodG g) {S : Int} (hS : Grown addP g.rs 0 S) : S = prodI g := setI_eq (prod_range h) hS.isSet (hS.prod h.okRs)

theorem reach_range {g : G} (h : GoodG g) {rs : List R} (ho : OkRs g.ts.length g.ns.length rs) : ∀ k, Reach rs (fun k => k = g.ax) k → 0 ≤ k ∧ k < 64 := fun k hk => by
  have := hk.lt ho (fun k hk => by have := h.ax0; have := h.ax1; omega)
  have := ho.1
  omega

theorem ofI_one {k : Int} (a : 0 ≤ k) (b : k < 64) (j : Int) : hasB (ofI [k]) j = true ↔ j = k := by
  rw [hasB_ofI]
  constructor
  · rintro ⟨h, _⟩; simpa using h
  · rintro rfl; exact ⟨by simp, a, b⟩

theorem reach_grown {g : G} (h : GoodG g) {S : Int} (hS : Grown addR g.rs (ofI [g.ax]) S) : S = reachI g := by
  have ha := h.ax0
  have hb := h.ax1
  have hn := h.okRs.1
  refine setI_eq (reach_range h h.okRs) hS.isSet (fun k => ?_)
  rw [hS.reach h.okRs]
  exact ⟨Reach.mono (fun _ h => h) (fun k hk => (ofI_one ha (by omega) k).1 hk), Reach.mono (fun _ h => h) (fun k hk => (ofI_one ha (by omega) k).2 hk)⟩

theorem useful_grown {g : G} (h : GoodG g) {S : Int} (hS : Grown addR (g.rs.filter (rin (prodI g))) (meetI (prodI g) (ofI [g.ax])) S) : S = usefulI g := by
  have ha := h.ax0
  have hb := h.ax1
  have hn := h.okRs.1
  have ho := h.okRs
  have hp := prodI_isSet g
  refine setI_eq (fun k hk => prod_range h k hk.1) hS.isSet (fun k => ?_)
  rw [hS.reach (ho.filter _)]
  constructor
  · intro hk
    induction hk with
    | base hk =>
      obtain ⟨h1, h2⟩ := hasB_meet.1 hk
      exact ⟨(hasB_prodI h _).1 h1, .base ((ofI_one ha (by omega) _).1 h2)⟩
    | step r hr _ x hx h0 ih =>
      obtain ⟨hr1, hr2⟩ := List.mem_filter.1 hr
      obtain ⟨_, h2⟩ := (rin_iff ho hr1 hp).1 hr2
      exact ⟨(hasB_prodI h _).1 (h2 x hx h0), .step r (List.mem_filter.2 ⟨hr1, (nin_iff ho hr1 hp).2 h2⟩) ih.2 x hx h0⟩
  · rintro ⟨hk1, hk2⟩
    induction hk2 with
    | base hk =>
      subst hk
      exact .base (hasB_meet.2 ⟨(hasB_prodI h _).2 hk1, (ofI_one ha (by omega) _).2 rfl⟩)
    | step r hr _ x hx h0 ih =>
      obtain ⟨hr1, hr2⟩ := List.mem_filter.1 hr
      have h2 := (nin_iff ho hr1 hp).1 hr2
      have hl : Prod g.rs r.left := .mk r hr1 (fun y hy h0 => (hasB_prodI h _).1 (h2 y hy h0))
      exact .step r (List.mem_filter.2 ⟨hr1, (rin_iff ho hr1 hp).2 ⟨(hasB_prodI h _).2 hl, h2⟩⟩) (ih hl) x hx h0

end Go.Proofs.YtjmodcpeggafhaaDoor.UsefulMath
