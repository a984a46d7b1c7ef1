/-
  A trimmed grammar's mathematics, grammars compared, the table and the errors laid, Trim, kinds of errors, and what the document names of package useful.
-/
import Derived.Test.YtnlaffhhbabjaaaDoorUsefulTMath
import Derived.Test.YtnlaffhhbabjaaaDoorUsefulDMath
import Derived.Test.YtnlaffhhbabjaaaDoorGramEq
import Derived.Test.YtnlaffhhbabjaaaDoorGramErrs
import Derived.Test.YtnlaffhhbabjaaaDoorSetsFns
import Derived.Lib.LaidTab
import Derived.LaidSub
import Derived.Test.YtnlaffhhbabjaaaDoorUsefulRebuilt
import Derived.Test.YtnlaffhhbabjaaaDoorUsefulTop
import Derived.LaidEql
import Derived.Stop.Asserts
import Derived.RowKitTokens
import Derived.Test.YtnlaffhhbabjaaaDoorUsefulWordTop
import Derived.Test.YtnlaffhhbabjaaaDoorUsefulOpen
namespace Go.Proofs.YtnlaffhhbabjaaaDoor.UsefulTrimM
open Go.RowKit Go.Proofs.YtnlaffhhbabjaaaDoor.GramMath Go.Proofs.YtnlaffhhbabjaaaDoor.GramOne Go.Proofs.YtnlaffhhbabjaaaDoor.GramRoll Go.Proofs.YtnlaffhhbabjaaaDoor.SetsMath Go.Proofs.YtnlaffhhbabjaaaDoor.UsefulMath
set_option linter.unusedVariables false

theorem uS_iff (g : G) (k : Nat) : usefulS g k = true ↔ UsefulMath.Prod g.rs k ∧ UsefulMath.Reach (g.rs.filter (fun r => allS (prodS g) r.right)) (fun k => k = g.ax) k := by
  unfold usefulS
  rw [Bool.and_eq_true, prodS_iff, reachS_iff]

theorem uS_in {g : G} (hg : GoodG g) {r : R} (hr : r ∈ g.rs) (hl : usefulS g r.left.toNat = true) (hp : ∀ x ∈ r.right, x < 0 → UsefulMath.Prod g.rs (-1 - x)) : inS (usefulS g) r = true := by
  have h1 := (hg.okRs.left hr).1
  refine inS_iff.2 ⟨hl, fun x hx h0 => ?_⟩
  rw [uS_iff, Int.toNat_of_nonneg (by omega)]
  refine ⟨hp x hx h0, .step r (List.mem_filter.2 ⟨hr, allS_iff.2 (fun y hy hy0 => ?_)⟩) ?_ x hx h0⟩
  · rw [prodS_iff, Int.toNat_of_nonneg (by omega)]
    exact hp y hy hy0
  · have := ((uS_iff g _).1 hl).2
    rwa [Int.toNat_of_nonneg h1] at this

theorem renX_neg {S U : Nat → Bool} {x : Int} (h : x < 0) : renX S U x = -1 - (cntB S (-1 - x).toNat : Int) := if_pos h
theorem renX_pos {S U : Nat → Bool} {x : Int} (h : 0 ≤ x) : renX S U x = (cntB U x.toNat : Int) := if_neg (by omega)
theorem renX_sign {S U : Nat → Bool} {x : Int} : renX S U x < 0 ↔ x < 0 := by
  by_cases h : x < 0
  · rw [renX_neg h]; omega
  · rw [renX_pos (by omega)]; omega

theorem cut_mem {S : Nat → Bool} {g : G} {r : R} (hr : r ∈ g.rs) (hi : inS S r = true) : ren S (useS S g.rs) r ∈ (cutG S g).rs := List.mem_map.2 ⟨r, List.mem_filter.2 ⟨hr, hi⟩, rfl⟩
theorem cut_inv {S : Nat → Bool} {g : G} {q : R} (hq : q ∈ (cutG S g).rs) : ∃ r, r ∈ g.rs ∧ inS S r = true ∧ q = ren S (useS S g.rs) r := by
  obtain ⟨r, hr, rfl⟩ := List.mem_map.1 hq
  exact ⟨r, (List.mem_filter.1 hr).1, (List.mem_filter.1 hr).2, rfl⟩

theorem cut_prod {g : G} (hg : GoodG g) {k : Int} (h : UsefulMath.Prod g.rs k) : 0 ≤ k → usefulS g k.toNat = true → UsefulMath.Prod (trimG g).rs (cntB (usefulS g) k.toNat : Int) := by
  induction h with
  | mk r hr hp ih =>
    intro h0 hu
    have hi := uS_in hg hr hu hp
    refine UsefulMath.Prod.mk (ren (usefulS g) (useS (usefulS g) g.rs) r) (cut_mem hr hi) (fun y hy hy0 => ?_)
    obtain ⟨x, hx, rfl⟩ := List.mem_map.1 hy
    have hx0 := renX_sign.1 hy0
    rw [renX_neg hx0, show -1 - (-1 - (cntB (usefulS g) (-1 - x).toNat : Int)) = (cntB (usefulS g) (-1 - x).toNat : Int) by omega]
    exact ih x hx hx0 (by omega) ((inS_iff.1 hi).2 x hx hx0)

theorem cut_sides {g : G} (hg : GoodG g) {r : R} (hr : r ∈ g.rs) (hi : inS (usefulS g) r = true) : allS (prodS (trimG g)) (ren (usefulS g) (useS (usefulS g) g.rs) r).right = true := by
  refine allS_iff.2 (fun y hy hy0 => ?_)
  obtain ⟨x, hx, rfl⟩ := List.mem_map.1 hy
  have hx0 := renX_sign.1 hy0
  have hu := (inS_iff.1 hi).2 x hx hx0
  have hp := ((uS_iff g _).1 hu).1
  have := cut_prod hg hp (by omega) (by rw [Int.toNat_natCast]; exact hu)
  rw [Int.toNat_natCast] at this
  rw [prodS_iff, renX_neg hx0, show (-1 - (-1 - (cntB (usefulS g) (-1 - x).toNat : Int))).toNat = cntB (usefulS g) (-1 - x).toNat by omega]
  exact this

theorem cut_reach {g : G} (hg : GoodG g) (ha : usefulS g g.ax.toNat = true) {k : Int} (h : UsefulMath.Reach (g.rs.filter (fun r => allS (prodS g) r.right)) (fun k => k = g.ax) k) :
    usefulS g k.toNat = true ∧ UsefulMath.Reach ((trimG g).rs.filter (fun r => allS (prodS (trimG g)) r.right)) (fun k => k = (trimG g).ax) (cntB (usefulS g) k.toNat : Int) := by
  induction h with
  | base h => subst h; exact ⟨ha, .base rfl⟩
  | step r hr h x hx h0 ih =>
    obtain ⟨hr1, hr2⟩ := List.mem_filter.1 hr
    have hp : ∀ y ∈ r.right, y < 0 → UsefulMath.Prod g.rs (-1 - y) := fun y hy hy0 => by
      have := (prodS_iff g _).1 (allS_iff.1 hr2 y hy hy0)
      rwa [Int.toNat_of_nonneg (by omega)] at this
    have hi := uS_in hg hr1 ih.1 hp
    refine ⟨(inS_iff.1 hi).2 x hx h0, ?_⟩
    have := UsefulMath.Reach.step (F := fun k => k = (trimG g).ax) (ren (usefulS g) (useS (usefulS g) g.rs) r) (List.mem_filter.2 ⟨cut_mem hr1 hi, cut_sides hg hr1 hi⟩) ih.2 (renX (usefulS g) (useS (usefulS g) g.rs) x) (List.mem_map.2 ⟨x, hx, rfl⟩) (renX_sign.2 h0)
    rwa [renX_neg h0, show -1 - (-1 - (cntB (usefulS g) (-1 - x).toNat : Int)) = (cntB (usefulS g) (-1 - x).toNat : Int) by omega] at this

theorem cut_useful {g : G} (hg : GoodG g) (ha : usefulS g g.ax.toNat = true) {k : Nat} (hk : usefulS g k = true) : usefulS (trimG g) (cntB (usefulS g) k) = true := by
  obtain ⟨h1, h2⟩ := (uS_iff g k).1 hk
  have p := cut_prod hg h1 (by omega) (by rw [Int.toNat_natCast]; exact hk)
  have q := (cut_reach hg ha h2).2
  rw [Int.toNat_natCast] at p q
  exact (uS_iff _ _).2 ⟨p, q⟩

theorem cut_all {g : G} (hg : GoodG g) (ha : usefulS g g.ax.toNat = true) {j : Nat} (hj : j < (trimG g).ns.length) : usefulS (trimG g) j = true := by
  obtain ⟨k, _, h2, h3, _⟩ := sel_of (S := usefulS g) (ss := g.ns) (j := j) (List.getElem?_eq_getElem hj)
  rw [h3]
  exact cut_useful hg ha h2

theorem cut_in {g : G} (hg : GoodG g) (ha : usefulS g g.ax.toNat = true) {r : R} (hr : r ∈ g.rs) (hi : inS (usefulS g) r = true) : inS (usefulS (trimG g)) (ren (usefulS g) (useS (usefulS g) g.rs) r) = true := by
  obtain ⟨h1, h2⟩ := inS_iff.1 hi
  refine inS_iff.2 ⟨?_, fun y hy hy0 => ?_⟩
  · show usefulS (trimG g) ((cntB (usefulS g) r.left.toNat : Int)).toNat = true
    rw [Int.toNat_natCast]
    exact cut_useful hg ha h1
  · obtain ⟨x, hx, rfl⟩ := List.mem_map.1 hy
    have hx0 := renX_sign.1 hy0
    rw [renX_neg hx0, show (-1 - (-1 - (cntB (usefulS g) (-1 - x).toNat : Int))).toNat = cntB (usefulS g) (-1 - x).toNat by omega]
    exact cut_useful hg ha (h2 x hx hx0)

/-- Each terminal stands in a rule. -/
theorem cut_terms {g : G} (hg : GoodG g) (ha : usefulS g g.ax.toNat = true) {j : Nat} (hj : j < (trimG g).ts.length) : useS (usefulS (trimG g)) (trimG g).rs j = true := by
  obtain ⟨k, _, h2, h3, _⟩ := sel_of (S := useS (usefulS g) g.rs) (ss := g.ts) (j := j) (List.getElem?_eq_getElem hj)
  unfold useS at h2
  obtain ⟨r, hr, h4⟩ := List.any_eq_true.1 h2
  rw [Bool.and_eq_true, List.any_eq_true] at h4
  obtain ⟨hi, x, hx, h5⟩ := h4
  rw [beq_iff_eq] at h5
  have hx0 : 0 ≤ x := by omega
  have := useS_of (cut_mem hr hi) (cut_in hg ha hr hi) (x := renX (usefulS g) (useS (usefulS g) g.rs) x) (List.mem_map.2 ⟨x, hx, rfl⟩) (by rw [renX_pos hx0]; omega)
  rw [renX_pos hx0, Int.toNat_natCast, h5, Int.toNat_natCast, ← h3] at this
  exact this

theorem cntB_full {S : Nat → Bool} {k : Nat} (h : ∀ j, j < k → S j = true) : cntB S k = k := by
  unfold cntB
  rw [List.filter_eq_self.2 (fun j hj => h j (List.mem_range.1 hj)), List.length_range]
theorem sel_full {S : Nat → Bool} {ss : List ByteArray} (h : ∀ j, j < ss.length → S j = true) : sel S ss = ss := by
  unfold sel
  rw [List.filter_eq_self.2 (fun j hj => h j (List.mem_range.1 hj))]
  apply List.ext_getElem?
  intro i
  rw [List.getElem?_map]
  by_cases hi : i < ss.length
  · rw [List.getElem?_range hi, nmN_get hi]
    rfl
  · rw [List.getElem?_eq_none (by simpa using hi), List.getElem?_eq_none (by omega)]
    rfl

theorem trim_good {g : G} (hg : GoodG g) (ha : usefulS g g.ax.toNat = true) : GoodG (trimG g) := good_of (by unfold trimG; rw [cut_good hg ha])

theorem trim_trim {g : G} (hg : GoodG g) (ha : usefulS g g.ax.toNat = true) : trimG (trimG g) = trimG g := by
  have hh := trim_good hg ha
  have hn := fun j hj => cut_all hg ha (j := j) hj
  have ht := fun j hj => cut_terms hg ha (j := j) hj
  generalize trimG g = h at *
  have hin : ∀ r ∈ h.rs, inS (usefulS h) r = true := fun r hr => by
    obtain ⟨_, h2, h3, h4⟩ := ruleK_ok (hh.each r hr)
    exact inS_iff.2 ⟨hn _ (by omega), fun x hx h0 => hn _ (by have := h4 x hx; omega)⟩
  have hren : ∀ r ∈ h.rs, ren (usefulS h) (useS (usefulS h) h.rs) r = r := fun r hr => by
    obtain ⟨_, h2, h3, h4⟩ := ruleK_ok (hh.each r hr)
    have e1 : cntB (usefulS h) r.left.toNat = r.left.toNat := cntB_full (fun j hj => hn j (by omega))
    have e2 : r.right.map (renX (usefulS h) (useS (usefulS h) h.rs)) = r.right := by
      conv => rhs; rw [← List.map_id r.right]
      refine List.map_congr_left (fun x hx => ?_)
      have := h4 x hx
      by_cases h0 : x < 0
      · rw [renX_neg h0, cntB_full (fun j hj => hn j (by omega))]
        show _ = x
        omega
      · rw [renX_pos (by omega), cntB_full (fun j hj => ht j (by omega))]
        show _ = x
        omega
    unfold ren
    rw [e1, e2, Int.toNat_of_nonneg h2]
  have e1 : sel (useS (usefulS h) h.rs) h.ts = h.ts := sel_full ht
  have e2 : sel (usefulS h) h.ns = h.ns := sel_full hn
  have e3 : (cntB (usefulS h) h.ax.toNat : Int) = h.ax := by
    have h1 := hh.ax0
    have h2 := hh.ax1
    rw [cntB_full (fun j hj => hn j (by omega))]
    omega
  have e4 : (h.rs.filter (inS (usefulS h))).map (ren (usefulS h) (useS (usefulS h) h.rs)) = h.rs := by
    rw [List.filter_eq_self.2 hin]
    conv => rhs; rw [← List.map_id h.rs]
    exact List.map_congr_left hren
  unfold trimG cutG
  rw [e1, e2, e3, e4]

/-! ### Derivations -/

theorem cnt_inj {S : Nat → Bool} {a b : Nat} (ha : S a = true) (hb : S b = true) (h : cntB S a = cntB S b) : a = b := by
  have h1 := cnt_at S (a + b + 1) a (by omega) ha
  have h2 := cnt_at S (a + b + 1) b (by omega) hb
  rw [h, h2] at h1
  exact (Option.some.inj h1).symm

theorem D_cut {g : G} (hg : GoodG g) {l v : List Int} (hd : D g.rs l v) : (∀ x ∈ l, x < 0 → usefulS g (-1 - x).toNat = true) → (∀ x ∈ l, 0 ≤ x → useS (usefulS g) g.rs x.toNat = true) →
    (∀ x ∈ v, 0 ≤ x ∧ useS (usefulS g) g.rs x.toNat = true) ∧ D (trimG g).rs (l.map (renX (usefulS g) (useS (usefulS g) g.rs))) (v.map (renX (usefulS g) (useS (usefulS g) g.rs))) := by
  induction hd with
  | nil => intro _ _; exact ⟨(fun x hx => by cases hx), .nil⟩
  | @term x l v h hd ih =>
    intro h1 h2
    obtain ⟨i1, i2⟩ := ih (fun y hy => h1 y (List.mem_cons_of_mem _ hy)) (fun y hy => h2 y (List.mem_cons_of_mem _ hy))
    refine ⟨fun y hy => ?_, .term (by rw [renX_pos h]; omega) i2⟩
    rcases List.mem_cons.1 hy with rfl | hy
    · exact ⟨h, h2 _ List.mem_cons_self h⟩
    · exact i1 y hy
  | @rule l u v r hr hu hv ihu ihv =>
    intro h1 h2
    have hl := (hg.okRs.left hr).1
    have hS : usefulS g r.left.toNat = true := by
      have := h1 (-1 - r.left) List.mem_cons_self (by omega)
      rwa [show -1 - (-1 - r.left) = r.left by omega] at this
    have hi := uS_in hg hr hS (hu.prod hg.okRs)
    obtain ⟨i1, i2⟩ := ihu (fun y hy hy0 => (inS_iff.1 hi).2 y hy hy0) (fun y hy hy0 => useS_of hr hi hy hy0)
    obtain ⟨j1, j2⟩ := ihv (fun y hy => h1 y (List.mem_cons_of_mem _ hy)) (fun y hy => h2 y (List.mem_cons_of_mem _ hy))
    refine ⟨fun y hy => ?_, ?_⟩
    · rcases List.mem_append.1 hy with hy | hy
      · exact i1 y hy
      · exact j1 y hy
    · have := D.rule (ren (usefulS g) (useS (usefulS g) g.rs) r) (cut_mem hr hi) i2 j2
      rw [List.map_cons, List.map_append, renX_neg (show -1 - r.left < 0 by omega), show -1 - (-1 - r.left) = r.left by omega]
      exact this

theorem D_back {g : G} (hg : GoodG g) {l v : List Int} (hd : D (trimG g).rs l v) : ∀ l0 : List Int, l = l0.map (renX (usefulS g) (useS (usefulS g) g.rs)) → (∀ x ∈ l0, x < 0 → usefulS g (-1 - x).toNat = true) → (∀ x ∈ l0, 0 ≤ x → useS (usefulS g) g.rs x.toNat = true) →
    ∃ v0, v = v0.map (renX (usefulS g) (useS (usefulS g) g.rs)) ∧ D g.rs l0 v0 ∧ ∀ x ∈ v0, 0 ≤ x ∧ useS (usefulS g) g.rs x.toNat = true := by
  induction hd with
  | nil =>
    intro l0 h _ _
    obtain rfl : l0 = [] := by simpa using h.symm
    exact ⟨[], rfl, .nil, (fun x hx => by cases hx)⟩
  | @term x l v h hd ih =>
    intro l0 he h1 h2
    cases l0 with
    | nil => cases he
    | cons x0 l0 =>
      rw [List.map_cons, List.cons.injEq] at he
      obtain ⟨e1, e2⟩ := he
      have hx0 : 0 ≤ x0 := by
        by_cases hn : x0 < 0
        · have := renX_sign (S := usefulS g) (U := useS (usefulS g) g.rs).2 hn
          omega
        · omega
      obtain ⟨v0, i1, i2, i3⟩ := ih l0 e2 (fun y hy => h1 y (List.mem_cons_of_mem _ hy)) (fun y hy => h2 y (List.mem_cons_of_mem _ hy))
      refine ⟨x0 :: v0, by rw [List.map_cons, ← e1, ← i1], .term hx0 i2, fun y hy => ?_⟩
      rcases List.mem_cons.1 hy with rfl | hy
      · exact ⟨hx0, h2 _ List.mem_cons_self hx0⟩
      · exact i3 y hy
  | @rule l u v q hq hu hv ihu ihv =>
    intro l0 he h1 h2
    obtain ⟨r, hr, hi, rfl⟩ := cut_inv hq
    cases l0 with
    | nil => cases he
    | cons x0 l0 =>
      rw [List.map_cons, List.cons.injEq] at he
      obtain ⟨e1, e2⟩ := he
      have hl := (hg.okRs.left hr).1
      have e1' : -1 - (cntB (usefulS g) r.left.toNat : Int) = renX (usefulS g) (useS (usefulS g) g.rs) x0 := e1
      have hx0 : x0 < 0 := renX_sign.1 (by rw [← e1']; omega)
      rw [renX_neg hx0] at e1'
      have e3 := cnt_inj (h1 x0 List.mem_cons_self hx0) (inS_iff.1 hi).1 (by omega)
      obtain rfl : x0 = -1 - r.left := by omega
      obtain ⟨u0, i1, i2, i3⟩ := ihu r.right rfl (fun y hy hy0 => (inS_iff.1 hi).2 y hy hy0) (fun y hy hy0 => useS_of hr hi hy hy0)
      obtain ⟨v0, j1, j2, j3⟩ := ihv l0 e2 (fun y hy => h1 y (List.mem_cons_of_mem _ hy)) (fun y hy => h2 y (List.mem_cons_of_mem _ hy))
      refine ⟨u0 ++ v0, by rw [List.map_append, ← i1, ← j1], .rule r hr i2 j2, fun y hy => ?_⟩
      rcases List.mem_append.1 hy with hy | hy
      · exact i3 y hy
      · exact j3 y hy

/-- Tokens that a trimmed grammar has. -/
def WholeT (g : G) (ts : List Int) : Prop := ∀ x ∈ ts, 0 ≤ x ∧ x < g.ts.length ∧ useS (usefulS g) g.rs x.toNat = true

theorem derive_whole {g : G} (hg : GoodG g) (ha : usefulS g g.ax.toNat = true) {ts : List Int} (hd : D g.rs [-1 - g.ax] ts) : WholeT g ts := fun x hx => by
  have h0 := hg.ax0
  have h1 := (D_cut hg hd (fun y hy _ => by obtain rfl : y = -1 - g.ax := by simpa using hy
                                            rw [show -1 - (-1 - g.ax) = g.ax by omega]; exact ha) (fun y hy hy0 => by obtain rfl : y = -1 - g.ax := by simpa using hy
                                                                                                                      omega)).1 x hx
  have h2 := hd.toks hg.okRs (fun y hy => by obtain rfl : y = -1 - g.ax := by simpa using hy
                                             have := Int.natCast_nonneg g.ts.length; omega) x hx
  exact ⟨h1.1, h2.2, h1.2⟩

theorem derive_same {g : G} (hg : GoodG g) (ha : usefulS g g.ax.toNat = true) {ts : List Int} (hw : WholeT g ts) : D (trimG g).rs [-1 - (trimG g).ax] (ts.map (renX (usefulS g) (useS (usefulS g) g.rs))) ↔ D g.rs [-1 - g.ax] ts := by
  have h0 := hg.ax0
  have e : [-1 - (trimG g).ax] = [-1 - g.ax].map (renX (usefulS g) (useS (usefulS g) g.rs)) := by
    rw [List.map_singleton, renX_neg (by omega), show -1 - (-1 - g.ax) = g.ax by omega]
    rfl
  have c1 : ∀ y ∈ [-1 - g.ax], y < 0 → usefulS g (-1 - y).toNat = true := fun y hy _ => by
    obtain rfl : y = -1 - g.ax := by simpa using hy
    rw [show -1 - (-1 - g.ax) = g.ax by omega]
    exact ha
  have c2 : ∀ y ∈ [-1 - g.ax], 0 ≤ y → useS (usefulS g) g.rs y.toNat = true := fun y hy hy0 => by
    obtain rfl : y = -1 - g.ax := by simpa using hy
    omega
  constructor
  · intro hd
    obtain ⟨v0, i1, i2, i3⟩ := D_back hg hd _ e c1 c2
    have : v0 = ts := by
      have hl : v0.length = ts.length := by have := congrArg List.length i1; simpa using this.symm
      apply List.ext_getElem hl
      intro i h1 h2
      have h3 : (ts.map (renX (usefulS g) (useS (usefulS g) g.rs)))[i]? = (v0.map (renX (usefulS g) (useS (usefulS g) g.rs)))[i]? := by rw [i1]
      rw [List.getElem?_map, List.getElem?_map, List.getElem?_eq_getElem h1, List.getElem?_eq_getElem h2] at h3
      have h4 := i3 _ (List.getElem_mem h1)
      have h5 := hw _ (List.getElem_mem h2)
      have h6 := Option.some.inj h3
      rw [renX_pos h4.1, renX_pos h5.1] at h6
      have := cnt_inj h5.2.2 h4.2 (by omega)
      omega
    rw [← this]
    exact i2
  · intro hd
    rw [e]
    exact (D_cut hg hd c1 c2).2

end Go.Proofs.YtnlaffhhbabjaaaDoor.UsefulTrimM

namespace Go.Proofs.YtnlaffhhbabjaaaDoor.GramSame
open Go.RowKit Go.Proofs.YtnlaffhhbabjaaaDoor.GramMath Go.Proofs.YtnlaffhhbabjaaaDoor.GramRow Go.Proofs.YtnlaffhhbabjaaaDoor.GramOne
set_option linter.unusedVariables false

set_option maxRecDepth 100000 in
set_option maxHeartbeats 4000000 in
theorem grammar_any (ta na ra tb nb rb : Option Addr) (tc nc rc td nd rd : Nat) (g h : G) (w : World) (hG : GRow w ta na ra g) (hH : GRow w tb nb rb h) (og : okG g) (oh : okG h) :
    Calls Tryd.prog 9 #[.agg #[.slice ta g.ts.length tc, .slice na g.ns.length nc, .int .i64 g.ax, .slice ra g.rs.length rc], .agg #[.slice tb h.ts.length td, .slice nb h.ns.length nd, .int .i64 h.ax, .slice rb h.rs.length rd]] w fun e w' => e = .returned (.bool (eqG g h)) ∧ Below w.heap.size w w' := by
  have hB : Below w.heap.size w ((w.alloc (.cells #[.slice ta g.ts.length tc, .slice na g.ns.length nc, .int .i64 g.ax, .slice ra g.rs.length rc] 25)).alloc (.cells #[.slice tb h.ts.length td, .slice nb h.ns.length nd, .int .i64 h.ax, .slice rb h.rs.length rd] 25)) := ((Below.refl _ _).alloc (Nat.le_refl _) _).alloc (by simp) _
  obtain ⟨G1, G2, G3⟩ := hG.below hB (Nat.le_refl _)
  obtain ⟨H1, H2, H3⟩ := hH.below hB (Nat.le_refl _)
  obtain ⟨p1, p2, p3, _, p5, _⟩ := og
  obtain ⟨q1, q2, q3, _, q5, _⟩ := oh
  have hand := eqG_and g h
  have ht := fun q => strs_any ta tb tc td g.ts h.ts (World.drewN ((w.alloc (.cells #[.slice ta g.ts.length tc, .slice na g.ns.length nc, .int .i64 g.ax, .slice ra g.rs.length rc] 25)).alloc (.cells #[.slice tb h.ts.length td, .slice nb h.ns.length nd, .int .i64 h.ax, .slice rb h.rs.length rd] 25)) q) G1 H1 p1 q1
  have hn := fun q => strs_any na nb nc nd g.ns h.ns (World.drewN ((w.alloc (.cells #[.slice ta g.ts.length tc, .slice na g.ns.length nc, .int .i64 g.ax, .slice ra g.rs.length rc] 25)).alloc (.cells #[.slice tb h.ts.length td, .slice nb h.ns.length nd, .int .i64 h.ax, .slice rb h.rs.length rd] 25)) q) G2 H2 p2 q2
  have hr := fun q => rules_any ra rb rc rd g.rs h.rs (World.drewN ((w.alloc (.cells #[.slice ta g.ts.length tc, .slice na g.ns.length nc, .int .i64 g.ax, .slice ra g.rs.length rc] 25)).alloc (.cells #[.slice tb h.ts.length td, .slice nb h.ns.length nd, .int .i64 h.ax, .slice rb h.rs.length rd] 25)) q) G3 H3 p3 q3 p5 q5
  cases ht1 : eqS g.ts h.ts with
  | false =>
    rw [ht1, Bool.false_and, Bool.false_and, Bool.false_and] at hand
    have E : Hid (eqG g h = false) := hand
    rw [ht1] at ht
    clear hand ht1
    go_enter Tryd.func9, Tryd.ntmps9
    go_wp2_with fail
    refine (ht 0).mono ?_
    rintro e w1 ⟨rfl, q, rfl⟩
    go_wp2
    go_ret
    exact ⟨ret_bool E.out.symm, hB.os, hB.tape, hB.output, hB.size, hB.block⟩
  | true =>
    rw [ht1, Bool.true_and] at hand
    rw [ht1] at ht
    cases hn1 : eqS g.ns h.ns with
    | false =>
      rw [hn1, Bool.false_and, Bool.false_and] at hand
      have E : Hid (eqG g h = false) := hand
      rw [hn1] at hn
      clear hand ht1 hn1
      go_enter Tryd.func9, Tryd.ntmps9
      go_wp2_with fail
      refine (ht 0).mono ?_
      rintro e w1 ⟨rfl, q, rfl⟩
      go_wp2_with fail
      refine (hn _).mono ?_
      rintro e w1 ⟨rfl, q2, rfl⟩
      go_wp2
      go_ret
      exact ⟨ret_bool E.out.symm, hB.os, hB.tape, hB.output, hB.size, hB.block⟩
    | true =>
      rw [hn1, Bool.true_and] at hand
      rw [hn1] at hn
      by_cases hax : g.ax = h.ax
      · have hf : (g.ax == h.ax) = true := by simpa using hax
        rw [decide_eq_true hax, Bool.true_and] at hand
        have E : Hid (eqG g h = eqRs g.rs h.rs) := hand
        clear hand hax ht1 hn1
        go_enter Tryd.func9, Tryd.ntmps9
        go_wp2_with fail
        refine (ht 0).mono ?_
        rintro e w1 ⟨rfl, q, rfl⟩
        go_wp2_with fail
        refine (hn _).mono ?_
        rintro e w1 ⟨rfl, q2, rfl⟩
        rw [World.drewN_drewN]
        go_wp2_with fail
        refine (hr _).mono ?_
        rintro e w1 ⟨rfl, q3, rfl⟩
        go_wp2
        go_ret
        exact ⟨ret_bool E.out.symm, hB.os, hB.tape, hB.output, hB.size, hB.block⟩
      · have hf : (g.ax == h.ax) = false := by simpa using hax
        rw [decide_eq_false hax, Bool.false_and] at hand
        have E : Hid (eqG g h = false) := hand
        clear hand hax ht1 hn1 hr
        go_enter Tryd.func9, Tryd.ntmps9
        go_wp2_with fail
        refine (ht 0).mono ?_
        rintro e w1 ⟨rfl, q, rfl⟩
        go_wp2_with fail
        refine (hn _).mono ?_
        rintro e w1 ⟨rfl, q2, rfl⟩
        go_wp2
        go_ret
        exact ⟨ret_bool E.out.symm, hB.os, hB.tape, hB.output, hB.size, hB.block⟩

end Go.Proofs.YtnlaffhhbabjaaaDoor.GramSame

namespace Go.Proofs.YtnlaffhhbabjaaaDoor.UsefulTabs
open Go.RowKit Go.Proofs.YtnlaffhhbabjaaaDoor.SetsAlg Go.Proofs.YtnlaffhhbabjaaaDoor.GramErrs Go.Proofs.YtnlaffhhbabjaaaDoor.GramRow
set_option linter.unusedVariables false

theorem gTz : Tryd.prog.globalNamed "math/bits.deBruijn64tab" = some 15 := by kernel_rfl
theorem gtTz : (Tryd.prog.globals[15]?).map (·.type) = some 144 := by kernel_rfl
theorem gcTz : Tryd.prog.cellsOf 144 = 64 := by kernel_rfl
def valsTz : List Int := [0, 1, 56, 2, 57, 49, 28, 3, 61, 58, 42, 50, 38, 29, 17, 4, 62, 47, 59, 36, 45, 43, 51, 22, 53, 39, 33, 30, 24, 18, 12, 5, 63, 55, 48, 27, 60, 41, 37, 16, 46, 35, 44, 21, 52, 32, 23, 11, 54, 26, 40, 15, 34, 20, 31, 10, 25, 14, 19, 9, 13, 8, 7, 6]

def tabLaid : List (String × DataW Unit) := ("math/bits.deBruijn64tab", Rows.laid_math_bits_deBruijn64tab) :: errLaid

theorem errs_laid {W : World} (h : laidMetH Tryd.prog tabLaid W) : laidMetH Tryd.prog errLaid W := by
  have h2 := laidMetH.filter (fun x => !decide (x.1 = "math/bits.deBruijn64tab")) h
  have e : tabLaid.filter (fun x => !decide (x.1 = "math/bits.deBruijn64tab")) = errLaid := by kernel_rfl
  rw [e] at h2
  exact h2

theorem tableTz {W : World} (h : laidMetH Tryd.prog tabLaid W) : Lib.TabIs Tryd.prog W "math/bits.deBruijn64tab" .u8 valsTz := by
  have h2 := laidMetH.filter (fun x => decide (x.1 = "math/bits.deBruijn64tab")) h
  have e : tabLaid.filter (fun x => decide (x.1 = "math/bits.deBruijn64tab")) = [("math/bits.deBruijn64tab", Lib.tabData .u8 valsTz)] := by kernel_rfl
  rw [e] at h2
  exact Lib.tabIs_of_head (rest := []) gTz gtTz Tryd.underlying144 Tryd.underlying5 (by kernel_rfl) gcTz h2

theorem tab_laid {W : World} (h : laidMetH Tryd.prog tabLaid W) : Tab W ∧ 15 < W.heap.size := by
  have hc : ∀ i, i < valsTz.length → W.cell? ⟨15, i, none⟩ = some (.int .u8 (valsTz.getD i 0)) := fun i hi => (tableTz h).cell gTz i hi
  refine ⟨fun j hj => ?_, cell_lt (hc 0 (by decide))⟩
  have e : ∀ j, j < 64 → valsTz.getD j 0 = ((Lib.deBruijn64tab.getD j 0 : Nat) : Int) := by decide +kernel
  rw [hc j hj, e j hj]

def layTz : Obj → Obj
  | .cells _ t frozen => .cells (valsTz.map (fun z => Value.int .u8 z)).toArray t frozen
  | o => o

noncomputable def laidWorldT (os : Os) : World := { laidWorld os with heap := (laidWorld os).heap.modify 15 layTz }

end Go.Proofs.YtnlaffhhbabjaaaDoor.UsefulTabs

namespace Go.Proofs.YtnlaffhhbabjaaaDoor.UsefulTrim
open Go.RowKit Go.Proofs.YtnlaffhhbabjaaaDoor.GramLess Go.Proofs.YtnlaffhhbabjaaaDoor.GramMath Go.Proofs.YtnlaffhhbabjaaaDoor.GramRow Go.Proofs.YtnlaffhhbabjaaaDoor.GramOne Go.Proofs.YtnlaffhhbabjaaaDoor.GramApart Go.Proofs.YtnlaffhhbabjaaaDoor.GramCopy Go.Proofs.YtnlaffhhbabjaaaDoor.GramRoll Go.Proofs.YtnlaffhhbabjaaaDoor.GramErrs Go.Proofs.YtnlaffhhbabjaaaDoor.SetsMath Go.Proofs.YtnlaffhhbabjaaaDoor.SetsAlg Go.Proofs.YtnlaffhhbabjaaaDoor.SetsEach Go.Proofs.YtnlaffhhbabjaaaDoor.UsefulMath Go.Proofs.YtnlaffhhbabjaaaDoor.UsefulFn Go.Proofs.YtnlaffhhbabjaaaDoor.UsefulTrimM Go.Proofs.YtnlaffhhbabjaaaDoor.UsefulTop
set_option linter.unusedVariables false
set_option linter.unusedSimpArgs false

theorem hasB_terms {g : G} (hg : GoodG g) (S : Nat → Bool) (k : Nat) (hk : k < 64) : hasB (tmI (g.rs.filter (inS S))) k = true ↔ k < g.ts.length ∧ useS S g.rs k = true := by
  rw [hasB_tmI]
  constructor
  · rintro ⟨r, hr, hx, _, _⟩
    obtain ⟨h1, h2⟩ := List.mem_filter.1 hr
    have h3 := (ruleK_ok (hg.each r h1)).2.2.2 _ hx
    exact ⟨by omega, by have := useS_of h1 h2 hx (by omega); rwa [Int.toNat_natCast] at this⟩
  · rintro ⟨h1, h2⟩
    unfold useS at h2
    obtain ⟨r, hr, h3⟩ := List.any_eq_true.1 h2
    rw [Bool.and_eq_true, List.any_eq_true] at h3
    obtain ⟨h4, x, hx, h5⟩ := h3
    rw [beq_iff_eq] at h5
    subst h5
    exact ⟨r, List.mem_filter.2 ⟨hr, h4⟩, hx, by omega, by omega⟩

theorem newX_ren {g : G} (hg : GoodG g) {S : Nat → Bool} {r : R} (hr : r ∈ g.rs) (hi : inS S r = true) {x : Int} (hx : x ∈ r.right) (a : Int) (b : List R) : newX g ⟨sel (useS S g.rs) g.ts, sel S g.ns, a, b⟩ x = renX S (useS S g.rs) x := by
  obtain ⟨h1, h2, h3, h4⟩ := ruleK_ok (hg.each r hr)
  have h5 := h4 x hx
  unfold newX renX
  split
  · rename_i h0
    unfold nmI
    simp only
    rw [sel_idx hg.nn (by omega) ((inS_iff.1 hi).2 x hx h0)]
  · rename_i h0
    unfold nmI
    simp only
    rw [sel_idx hg.nt (by omega) (useS_of hr hi hx (by omega))]

theorem newR_ren {g : G} (hg : GoodG g) {S : Nat → Bool} {r : R} (hr : r ∈ g.rs) (hi : inS S r = true) (a : Int) (b : List R) : newR g ⟨sel (useS S g.rs) g.ts, sel S g.ns, a, b⟩ r = ren S (useS S g.rs) r := by
  obtain ⟨h1, h2, h3, h4⟩ := ruleK_ok (hg.each r hr)
  unfold newR ren
  congr 1
  · unfold nmI
    simp only
    rw [sel_idx hg.nn (by omega) (inS_iff.1 hi).1]
  · exact List.map_congr_left (fun x hx => newX_ren hg hr hi hx a b)

theorem known_cut {g : G} (hg : GoodG g) {S : Nat → Bool} {r : R} (hr : r ∈ g.rs) (hi : inS S r = true) (a : Int) (b : List R) : Known g ⟨sel (useS S g.rs) g.ts, sel S g.ns, a, b⟩ r.right := fun x hx => by
  have h5 := (ruleK_ok (hg.each r hr)).2.2.2 x hx
  by_cases h0 : x < 0
  · exact .inr ⟨(-1 - x).toNat, by omega, by omega, sel_mem (by omega) ((inS_iff.1 hi).2 x hx h0)⟩
  · exact .inl ⟨x.toNat, by omega, by omega, sel_mem (by omega) (useS_of hr hi hx (by omega))⟩

theorem cntB_small (S : Nat → Bool) (n : Nat) : cntB S n ≤ n := cntB_le S n

theorem okG_cut {g : G} (hg : GoodG g) (ho : okG g) (S : Nat → Bool) : okG (cutG S g) := by
  have h1 := sel_le (useS S g.rs) g.ts
  have h2 := sel_le S g.ns
  have h3 := hg.few
  have h4 := hg.rules
  have h5 := List.length_filter_le (inS S) g.rs
  have h6 := cntB_small S g.ax.toNat
  have h7 := hg.ax1
  have h8 := hg.ax0
  refine ⟨?_, ?_, ?_, ?_, ?_, ?_, ?_⟩
  · show (sel (useS S g.rs) g.ts).length ≤ _; omega
  · show (sel S g.ns).length ≤ _; omega
  · show ((g.rs.filter (inS S)).map _).length ≤ _; rw [List.length_map]; omega
  · show I64 (cntB S g.ax.toNat : Int)
    unfold I64; omega
  · intro r hr
    obtain ⟨q, hq, rfl⟩ := List.mem_map.1 hr
    obtain ⟨q1, q2⟩ := List.mem_filter.1 hq
    obtain ⟨k1, k2, k3, k4⟩ := ruleK_ok (hg.each q q1)
    have k5 := cntB_small S q.left.toNat
    refine ⟨?_, fun x hx => ?_, ?_⟩
    · show I64 (cntB S q.left.toNat : Int)
      unfold I64; omega
    · obtain ⟨y, hy, rfl⟩ := List.mem_map.1 hx
      have k6 := k4 y hy
      unfold renX I64
      split
      · have := cntB_small S (-1 - y).toNat; omega
      · have := cntB_small (useS S g.rs) y.toNat; omega
    · show (q.right.map _).length ≤ _
      rw [List.length_map]; omega
  · intro s hs
    obtain ⟨j, hj⟩ := List.mem_iff_getElem?.1 hs
    obtain ⟨k, g1, _, _, rfl⟩ := sel_of hj
    exact ho.2.2.2.2.2.1 _ (List.mem_of_getElem? (nmN_get g1))
  · intro s hs
    obtain ⟨j, hj⟩ := List.mem_iff_getElem?.1 hs
    obtain ⟨k, g1, _, _, rfl⟩ := sel_of hj
    exact ho.2.2.2.2.2.2 _ (List.mem_of_getElem? (nmN_get g1))

set_option maxHeartbeats 800000 in
theorem rebuilt_trim (ta na ra : Option Addr) (tc nc rc : Nat) (g : G) (p : Nat → Addr) (w : World)
    (hG : GRow w ta na ra g) (hg : okG g) (hgood : GoodG g) (hnil : ra = none → g.rs.length = 0 ∧ rc = 0) (hS : Sents w p) (hT : Tab w) (hGt : 15 < w.heap.size) (ha : usefulS g g.ax.toNat = true) :
    Calls Tryd.prog 18 #[.agg #[.slice ta g.ts.length tc, .slice na g.ns.length nc, .int .i64 g.ax, .slice ra g.rs.length rc], .int .u64 (usefulI g)] w fun e w' => (∃ b1 b2 b3 bs, e = .returned (.tuple #[.agg #[.slice (some ⟨b1, 0, none⟩) (trimG g).ts.length (trimG g).ts.length, .slice (some ⟨b2, 0, none⟩) (trimG g).ns.length (trimG g).ns.length, .int .i64 (trimG g).ax, .slice (some ⟨b3, 0, none⟩) (trimG g).rs.length (trimG g).rs.length], .nilIface]) ∧ CopyAt w' w.heap.size b1 b2 b3 bs (trimG g)) ∧ Below w.heap.size w w' := by
  have h64 : g.ns.length ≤ 64 ∧ g.ts.length ≤ 64 := by have := hgood.few; omega
  have hax : g.ax.toNat < g.ns.length := by have := hgood.ax0; have := hgood.ax1; omega
  have hu := fun k hk => hasB_useful hgood k hk
  have Ers : g.rs.filter (rin (usefulI g)) = g.rs.filter (inS (usefulS g)) := List.filter_congr (fun r hr => rin_inS hgood (usefulI_isSet hgood) hu hr)
  have Erm : (g.rs.filter (inS (usefulS g))).map (newR g ⟨sel (useS (usefulS g) g.rs) g.ts, sel (usefulS g) g.ns, 0, []⟩) = (trimG g).rs := List.map_congr_left (fun r hr => newR_ren hgood (List.mem_filter.1 hr).1 (List.mem_filter.1 hr).2 _ _)
  have hEq : (⟨sel (useS (usefulS g) g.rs) g.ts, sel (usefulS g) g.ns, (cntB (usefulS g) g.ax.toNat : Int), (g.rs.filter (inS (usefulS g))).map (newR g ⟨sel (useS (usefulS g) g.rs) g.ts, sel (usefulS g) g.ns, 0, []⟩)⟩ : G) = trimG g := by
    rw [Erm]
    rfl
  have hck : (checkG (trimG g)).1 = 0 := by unfold trimG; rw [cut_good hgood ha]
  have h := rebuilt_any ta na ra tc nc rc g (usefulI g) p w (g.rs.filter (inS (usefulS g))) (sel (usefulS g) g.ns) (sel (useS (usefulS g) g.rs) g.ts) (cntB (usefulS g) g.ax.toNat : Int) hG hg hgood hnil hS hT hGt (usefulI_isSet hgood)
    (fun j hj => ((hu j (by have := hasB_range hj; omega)).1 hj).1) Ers (tell_sel hgood.nn h64.1 hu) (tell_sel hgood.nt h64.2 (fun k hk => hasB_terms hgood (usefulS g) k hk))
    (by show _ = _; unfold nmI; exact sel_idx hgood.nn hax ha)
    (fun j hj => ((hasB_terms hgood (usefulS g) j (by have := hasB_range hj; omega)).1 hj).1)
    (fun r hr => by
      obtain ⟨h1, h2⟩ := List.mem_filter.1 hr
      obtain ⟨k1, k2, k3, k4⟩ := ruleK_ok (hgood.each r h1)
      exact ⟨known_cut hgood h1 h2 _ _, r.left.toNat, by omega, by omega, sel_mem (by omega) (inS_iff.1 h2).1⟩)
    ⟨g.ax.toNat, by have := hgood.ax0; omega, hax, sel_mem hax ha⟩
    (by show _ = _; rw [hEq]; exact hck) (by show okG _; rw [hEq]; exact okG_cut hgood hg _)
  rw [hEq] at h
  have hl : (g.rs.filter (inS (usefulS g))).length = (trimG g).rs.length := by rw [← Erm, List.length_map]
  rw [hl] at h
  exact h

/-- What Trim answers. -/
noncomputable def trimZ (g : G) : Nat × Option Nat := if (checkG g).1 ≠ 0 then checkG g else if usefulS g g.ax.toNat = true then (0, none) else (15, none)
theorem trimZ_bad {g : G} (h : (checkG g).1 ≠ 0) : trimZ g = checkG g := if_pos h
theorem trimZ_ok {g : G} (h : (checkG g).1 = 0) (hu : usefulS g g.ax.toNat = true) : trimZ g = (0, none) := by
  unfold trimZ
  rw [if_neg (by simp [h]), if_pos hu]
theorem trimZ_none {g : G} (h : (checkG g).1 = 0) (hu : usefulS g g.ax.toNat = false) : trimZ g = (15, none) := by
  unfold trimZ
  rw [if_neg (by simp [h]), if_neg (by rw [hu]; decide)]

def TrimV (w0 w' : World) (p : Nat → Addr) (g : G) (e : Ending) : Prop :=
  ((trimZ g).1 = 0 ∧ ∃ b1 b2 b3 bs, e = .returned (.tuple #[.agg #[.slice (some ⟨b1, 0, none⟩) (trimG g).ts.length (trimG g).ts.length, .slice (some ⟨b2, 0, none⟩) (trimG g).ns.length (trimG g).ns.length, .int .i64 (trimG g).ax, .slice (some ⟨b3, 0, none⟩) (trimG g).rs.length (trimG g).rs.length], .nilIface]) ∧ CopyAt w' w0.heap.size b1 b2 b3 bs (trimG g))
  ∨ ((trimZ g).1 ≠ 0 ∧ ∃ v, e = .returned (.tuple #[.agg #[.slice none 0 0, .slice none 0 0, .int .i64 0, .slice none 0 0], v]) ∧ CkV w0.heap.size p (trimZ g) w' v)

set_option maxRecDepth 100000 in
set_option maxHeartbeats 4000000 in
theorem trim_top (ta na ra : Option Addr) (tc nc rc : Nat) (g : G) (p : Nat → Addr) (w : World) (hG : GRow w ta na ra g) (hg : okG g) (htc : g.ts.length ≤ tc) (hnc : g.ns.length ≤ nc) (hnil : ra = none → g.rs.length = 0 ∧ rc = 0) (hE : Errs w p) (hT : Tab w) (hGt : 15 < w.heap.size) (hG0 : 0 < w.heap.size) :
    Calls Tryd.prog 6 #[.agg #[.slice ta g.ts.length tc, .slice na g.ns.length nc, .int .i64 g.ax, .slice ra g.rs.length rc]] w fun e w' => TrimV w w' p g e ∧ Below w.heap.size w w' := by
  have hneq := neq_nil
  have hnn := nil_neq
  have hB2 : Below w.heap.size w ((w.alloc (.cells #[.slice ta g.ts.length tc, .slice na g.ns.length nc, .int .i64 g.ax, .slice ra g.rs.length rc] 25)).alloc (.cells #[.slice none 0 0, .slice none 0 0, .int .i64 0, .slice none 0 0] 25)) := ((Below.refl _ _).alloc (Nat.le_refl _) _).alloc (by simp) _
  have hgb2 : RowAt ((w.alloc (.cells #[.slice ta g.ts.length tc, .slice na g.ns.length nc, .int .i64 g.ax, .slice ra g.rs.length rc] 25)).alloc (.cells #[.slice none 0 0, .slice none 0 0, .int .i64 0, .slice none 0 0] 25)) w.heap.size 25 #[.slice ta g.ts.length tc, .slice na g.ns.length nc, .int .i64 g.ax, .slice ra g.rs.length rc] := (rowNew w _ _).alloc _
  have hrb2 : RowAt ((w.alloc (.cells #[.slice ta g.ts.length tc, .slice na g.ns.length nc, .int .i64 g.ax, .slice ra g.rs.length rc] 25)).alloc (.cells #[.slice none 0 0, .slice none 0 0, .int .i64 0, .slice none 0 0] 25)) (w.heap.size + 1) 25 #[.slice none 0 0, .slice none 0 0, .int .i64 0, .slice none 0 0] := by
    have := rowNew (w.alloc (.cells #[.slice ta g.ts.length tc, .slice na g.ns.length nc, .int .i64 g.ax, .slice ra g.rs.length rc] 25)) #[.slice none 0 0, .slice none 0 0, .int .i64 0, .slice none 0 0] 25
    rwa [World.size_alloc] at this
  have hz2 : ((w.alloc (.cells #[.slice ta g.ts.length tc, .slice na g.ns.length nc, .int .i64 g.ax, .slice ra g.rs.length rc] 25)).alloc (.cells #[.slice none 0 0, .slice none 0 0, .int .i64 0, .slice none 0 0] 25)).heap.size = w.heap.size + 2 := by simp
  have hus := Useful_top ta na ra tc nc rc g p _ (hG.below hB2 (Nat.le_refl _)) hg htc hnc hnil (hE.sents.below hB2 (Nat.le_refl _))
  go_enter Tryd.func6, Tryd.ntmps6
  go_wp2_with fail
  generalize (w.alloc (.cells #[.slice ta g.ts.length tc, .slice na g.ns.length nc, .int .i64 g.ax, .slice ra g.rs.length rc] 25)).alloc (.cells #[.slice none 0 0, .slice none 0 0, .int .i64 0, .slice none 0 0] 25) = W2 at *
  refine hus.mono ?_
  rintro e w3 ⟨⟨v, rfl, hv⟩, hb3⟩
  have hB3 := hB2.trans (hb3.mono (by omega))
  have hgb3 := hgb2.below hb3 (by omega)
  have hrb3 := hrb2.below hb3 (by omega)
  have hz3 : w.heap.size + 2 ≤ w3.heap.size := by have := hb3.size; omega
  have a2 := hgb3.cell (q := 2) rfl
  have c0 := hrb3.cell (q := 0) rfl
  have c1 := hrb3.cell (q := 1) rfl
  have c2 := hrb3.cell (q := 2) rfl
  have c3 := hrb3.cell (q := 3) rfl
  have g0 := hrb3.frozen 0
  have g1 := hrb3.frozen 1
  have g2 := hrb3.frozen 2
  have g3 := hrb3.frozen 3
  clear hus hgb2 hrb2 hB2 hb3
  by_cases h0 : (checkG g).1 = 0
  · have hgood := good_of h0
    obtain rfl := ck_nil hv h0
    rw [okI_yes h0]
    have hset := usefulI_isSet hgood
    have hhas := SetsOne.has_any (usefulI g) g.ax w3 hset
    have hiff : hasB (usefulI g) g.ax = usefulS g g.ax.toNat := by
      have h1 := hgood.ax0
      have h2 := hgood.ax1
      have h3 := hgood.few
      have := hasB_useful hgood g.ax.toNat (by omega)
      rw [Int.toNat_of_nonneg h1] at this
      rw [Bool.eq_iff_iff, this]
      exact ⟨fun h => h.2, fun h => ⟨by omega, h⟩⟩
    rw [hiff] at hhas
    clear hv hiff
    cases hu : usefulS g g.ax.toNat with
    | false =>
      rw [hu] at hhas
      have EZ : Hid (trimZ g = (15, none)) := trimZ_none h0 hu
      have s15 : w3.cell? ⟨0, 0, none⟩ = some (.iface 149 (.pointer (some (p 15)))) := ((hE.below hB3 (Nat.le_refl _)).1 14 (by omega)).1
      clear h0 hu hgood hset
      go_wp2_with fail
      refine hhas.mono ?_
      rintro e w4 ⟨rfl, hw4⟩
      obtain rfl := hw4.symm
      clear hhas
      go_wp2_with fail
      have hr4 := (((hrb3.set 0 (.slice none 0 0)).set 1 (.slice none 0 0)).set 2 (.int .i64 0)).set 3 (.slice none 0 0)
      have hBZ := (((hB3.setCell (p := ⟨w.heap.size + 1, 0, none⟩) (by show _ ≤ w.heap.size + 1; omega) (.slice none 0 0)).setCell (p := ⟨w.heap.size + 1, 1, none⟩) (by show _ ≤ w.heap.size + 1; omega) (.slice none 0 0)).setCell (p := ⟨w.heap.size + 1, 2, none⟩) (by show _ ≤ w.heap.size + 1; omega) (.int .i64 0)).setCell (p := ⟨w.heap.size + 1, 3, none⟩) (by show _ ≤ w.heap.size + 1; omega) (.slice none 0 0)
      have HZ : Hid (_) := And.intro hr4 hBZ
      clear hr4 hBZ
      go_region
      obtain ⟨hr4, hBZ⟩ := HZ.out
      have q0 := hr4.cell (q := 0) rfl
      have q1 := hr4.cell (q := 1) rfl
      have q2 := hr4.cell (q := 2) rfl
      have q3 := hr4.cell (q := 3) rfl
      generalize ((((w3.setCell ⟨w.heap.size + 1, 0, none⟩ (.slice none 0 0)).setCell ⟨w.heap.size + 1, 1, none⟩ (.slice none 0 0)).setCell ⟨w.heap.size + 1, 2, none⟩ (.int .i64 0)).setCell ⟨w.heap.size + 1, 3, none⟩ (.slice none 0 0)) = Z at *
      go_wp2
      refine bodyPost_ret (v := .tuple #[.agg #[.slice none 0 0, .slice none 0 0, .int .i64 0, .slice none 0 0], .iface 149 (.pointer (some (p 15)))]) (by simp [results, Tryd.results6, go_sem, q0, q1, q2, q3]) rfl ?_
      refine ⟨.inr ⟨by rw [EZ.out]; decide, _, rfl, by rw [EZ.out]; rfl⟩, hBZ.trans ⟨rfl, rfl, rfl, Nat.le_refl _, fun _ _ => rfl⟩⟩
    | true =>
      rw [hu] at hhas
      have EZ : Hid (trimZ g = (0, none)) := trimZ_ok h0 hu
      have hreb := rebuilt_trim ta na ra tc nc rc g p w3 (hG.below hB3 (Nat.le_refl _)) hg hgood hnil (hE.sents.below hB3 (Nat.le_refl _)) (Tab.from hT hB3 hGt) (by omega) hu
      have a0 := hgb3.cell (q := 0) rfl
      have a1 := hgb3.cell (q := 1) rfl
      have a3 := hgb3.cell (q := 3) rfl
      clear h0 hu hgood hset
      go_wp2_with fail
      refine hhas.mono ?_
      rintro e w4 ⟨rfl, hw4⟩
      obtain rfl := hw4.symm
      clear hhas
      go_wp2_with fail
      refine hreb.mono ?_
      rintro e w5 ⟨⟨b1, b2, b3, bs, rfl, hcp⟩, hb5⟩
      have hB5 := hB3.trans (hb5.mono hB3.size)
      have hrb5 := hrb3.below hb5 (show w.heap.size + 1 < w3.heap.size by omega)
      clear hreb c0 c1 c2 c3 g0 g1 g2 g3 a0 a1 a2 a3
      have c0 := hrb5.cell (q := 0) rfl
      have c1 := hrb5.cell (q := 1) rfl
      have c2 := hrb5.cell (q := 2) rfl
      have c3 := hrb5.cell (q := 3) rfl
      have g0 := hrb5.frozen 0
      have g1 := hrb5.frozen 1
      have g2 := hrb5.frozen 2
      have g3 := hrb5.frozen 3
      obtain ⟨tg, htg⟩ : ∃ tg, trimG g = tg := ⟨_, rfl⟩
      have Htg : Hid (trimG g = tg) := htg
      rw [htg] at hcp ⊢
      clear htg
      have hr4 := (((hrb5.set 0 (.slice (some ⟨b1, 0, none⟩) tg.ts.length tg.ts.length)).set 1 (.slice (some ⟨b2, 0, none⟩) tg.ns.length tg.ns.length)).set 2 (.int .i64 tg.ax)).set 3 (.slice (some ⟨b3, 0, none⟩) tg.rs.length tg.rs.length)
      have hBZ := (((hB5.setCell (p := ⟨w.heap.size + 1, 0, none⟩) (by show _ ≤ w.heap.size + 1; omega) (.slice (some ⟨b1, 0, none⟩) tg.ts.length tg.ts.length)).setCell (p := ⟨w.heap.size + 1, 1, none⟩) (by show _ ≤ w.heap.size + 1; omega) (.slice (some ⟨b2, 0, none⟩) tg.ns.length tg.ns.length)).setCell (p := ⟨w.heap.size + 1, 2, none⟩) (by show _ ≤ w.heap.size + 1; omega) (.int .i64 tg.ax)).setCell (p := ⟨w.heap.size + 1, 3, none⟩) (by show _ ≤ w.heap.size + 1; omega) (.slice (some ⟨b3, 0, none⟩) tg.rs.length tg.rs.length)
      have hkZ : ∀ i, w3.heap.size ≤ i → ((((w5.setCell ⟨w.heap.size + 1, 0, none⟩ (.slice (some ⟨b1, 0, none⟩) tg.ts.length tg.ts.length)).setCell ⟨w.heap.size + 1, 1, none⟩ (.slice (some ⟨b2, 0, none⟩) tg.ns.length tg.ns.length)).setCell ⟨w.heap.size + 1, 2, none⟩ (.int .i64 tg.ax)).setCell ⟨w.heap.size + 1, 3, none⟩ (.slice (some ⟨b3, 0, none⟩) tg.rs.length tg.rs.length)).heap[i]? = w5.heap[i]? := fun i hi => by
        rw [Below.heap_setCell _ _ _ _ (show i ≠ w.heap.size + 1 by omega), Below.heap_setCell _ _ _ _ (show i ≠ w.heap.size + 1 by omega), Below.heap_setCell _ _ _ _ (show i ≠ w.heap.size + 1 by omega), Below.heap_setCell _ _ _ _ (show i ≠ w.heap.size + 1 by omega)]
      have hcZ := CopyAt.kept hcp (fun i hi _ => hkZ i hi) (by simp) (show w.heap.size ≤ w3.heap.size by omega)
      have HZ : Hid (_) := And.intro hr4 (And.intro hBZ hcZ)
      clear hr4 hBZ hcZ hkZ hcp
      go_wp2
      obtain ⟨hr4, hBZ, hcZ⟩ := HZ.out
      have q0 := hr4.cell (q := 0) rfl
      have q1 := hr4.cell (q := 1) rfl
      have q2 := hr4.cell (q := 2) rfl
      have q3 := hr4.cell (q := 3) rfl
      generalize (((w5.setCell ⟨w.heap.size + 1, 0, none⟩ (.slice (some ⟨b1, 0, none⟩) tg.ts.length tg.ts.length)).setCell ⟨w.heap.size + 1, 1, none⟩ (.slice (some ⟨b2, 0, none⟩) tg.ns.length tg.ns.length)).setCell ⟨w.heap.size + 1, 2, none⟩ (.int .i64 tg.ax)).setCell ⟨w.heap.size + 1, 3, none⟩ (.slice (some ⟨b3, 0, none⟩) tg.rs.length tg.rs.length) = Z at *
      refine bodyPost_ret (v := .tuple #[.agg #[.slice (some ⟨b1, 0, none⟩) tg.ts.length tg.ts.length, .slice (some ⟨b2, 0, none⟩) tg.ns.length tg.ns.length, .int .i64 tg.ax, .slice (some ⟨b3, 0, none⟩) tg.rs.length tg.rs.length], .nilIface]) (by simp [results, Tryd.results6, go_sem, q0, q1, q2, q3]) rfl ?_
      refine ⟨?_, hBZ⟩
      unfold TrimV
      rw [Htg.out]
      exact .inl ⟨by rw [EZ.out], b1, b2, b3, bs, rfl, hcZ⟩
  · obtain ⟨t, u, rfl⟩ := ck_iface hv h0
    rw [okI_no h0]
    have EZ : Hid (trimZ g = checkG g) := trimZ_bad h0
    have h0' : Hid ((checkG g).1 ≠ 0) := h0
    have hv2 : Hid (CkV (w.heap.size + 2) p (checkG g) w3 (.iface t u)) := by show CkV _ _ _ _ _; rw [← hz2]; exact hv
    clear h0 hv
    have hr4 := (((hrb3.set 0 (.slice none 0 0)).set 1 (.slice none 0 0)).set 2 (.int .i64 0)).set 3 (.slice none 0 0)
    have hBZ := (((hB3.setCell (p := ⟨w.heap.size + 1, 0, none⟩) (by show _ ≤ w.heap.size + 1; omega) (.slice none 0 0)).setCell (p := ⟨w.heap.size + 1, 1, none⟩) (by show _ ≤ w.heap.size + 1; omega) (.slice none 0 0)).setCell (p := ⟨w.heap.size + 1, 2, none⟩) (by show _ ≤ w.heap.size + 1; omega) (.int .i64 0)).setCell (p := ⟨w.heap.size + 1, 3, none⟩) (by show _ ≤ w.heap.size + 1; omega) (.slice none 0 0)
    have HZ : Hid (_) := And.intro hr4 hBZ
    clear hr4 hBZ
    go_wp2
    obtain ⟨hr4, hBZ⟩ := HZ.out
    have q0 := hr4.cell (q := 0) rfl
    have q1 := hr4.cell (q := 1) rfl
    have q2 := hr4.cell (q := 2) rfl
    have q3 := hr4.cell (q := 3) rfl
    have hvZ : CkV w.heap.size p (checkG g) ((((w3.setCell ⟨w.heap.size + 1, 0, none⟩ (.slice none 0 0)).setCell ⟨w.heap.size + 1, 1, none⟩ (.slice none 0 0)).setCell ⟨w.heap.size + 1, 2, none⟩ (.int .i64 0)).setCell ⟨w.heap.size + 1, 3, none⟩ (.slice none 0 0)) (.iface t u) := by
      exact ((((hv2.out.set (k := w.heap.size + 1) (by omega) 0 _).set (k := w.heap.size + 1) (by omega) 1 _).set (k := w.heap.size + 1) (by omega) 2 _).set (k := w.heap.size + 1) (by omega) 3 _).mono (by omega)
    generalize ((((w3.setCell ⟨w.heap.size + 1, 0, none⟩ (.slice none 0 0)).setCell ⟨w.heap.size + 1, 1, none⟩ (.slice none 0 0)).setCell ⟨w.heap.size + 1, 2, none⟩ (.int .i64 0)).setCell ⟨w.heap.size + 1, 3, none⟩ (.slice none 0 0)) = Z at *
    refine bodyPost_ret (v := .tuple #[.agg #[.slice none 0 0, .slice none 0 0, .int .i64 0, .slice none 0 0], .iface t u]) (by simp [results, Tryd.results6, go_sem, q0, q1, q2, q3]) rfl ?_
    exact ⟨.inr ⟨by rw [EZ.out]; exact h0'.out, _, rfl, by rw [EZ.out]; exact hvZ⟩, hBZ⟩

end Go.Proofs.YtnlaffhhbabjaaaDoor.UsefulTrim

namespace Go.Proofs.YtnlaffhhbabjaaaDoor.GramErrs
open Go.RowKit Go.Extern.Stop Go.Stop Go.Extern Go.Proofs.YtnlaffhhbabjaaaDoor.GramMath Go.Proofs.YtnlaffhhbabjaaaDoor.GramRow

theorem isTypeOf (v : Value) (w : World) : (ReflectliteType.typeOf #[.iface 149 v]).run Tryd.prog w = .ok (.iface 114 (.agg #[.pointer (some ⟨16, 149, none⟩)])) w := by kernel_rfl
theorem isComparable (w : World) : (callFunc 116 #[.agg #[.pointer (some ⟨16, 149, none⟩)]]).run Tryd.prog w = .ok (.value (.bool true)) w := by
  rw [@run_callFunc_extern Tryd.prog 116 _ (ReflectliteType.method fun t => do Rtype.noPackHeld "Comparable" t; pure (.bool (← typeInfo t).comparable)) Tryd.func116 (by kernel_rfl) (by kernel_rfl) (by kernel_rfl) (by kernel_rfl)]
  kernel_rfl
theorem isMethodComparable (n : Nat) (v : Value) (w : World) : (Go.method (n + 1) 114 v "Comparable").run Tryd.prog w = .ok (116, v) w := by kernel_rfl
theorem isComp : (Tryd.prog.info? 149).map (·.comparable) = some true := by kernel_rfl
theorem isSize : (Tryd.prog.info? 174).map (·.size) = some 1 := by kernel_rfl

theorem noIsE (v : Value) (xT : TypeId) (w : World) : (Instr.typeAssert (.iface 149 v) xT 116 true).run Tryd.prog w = .ok (.tuple #[.nilIface, .bool false]) w := run_typeAssert_lacksB Tryd.underlying116 (by kernel_rfl) (by kernel_rfl) v xT w
theorem noUnwrapE (v : Value) (xT : TypeId) (w : World) : (Instr.typeAssert (.iface 149 v) xT 119 true).run Tryd.prog w = .ok (.tuple #[.nilIface, .bool false]) w := run_typeAssert_lacksB Tryd.underlying119 (by kernel_rfl) (by kernel_rfl) v xT w
theorem noUnwrapsE (v : Value) (xT : TypeId) (w : World) : (Instr.typeAssert (.iface 149 v) xT 121 true).run Tryd.prog w = .ok (.tuple #[.nilIface, .bool false]) w := run_typeAssert_lacksB Tryd.underlying121 (by kernel_rfl) (by kernel_rfl) v xT w
theorem noIsP (v : Value) (xT : TypeId) (w : World) : (Instr.typeAssert (.iface 126 v) xT 116 true).run Tryd.prog w = .ok (.tuple #[.nilIface, .bool false]) w := run_typeAssert_lacksB Tryd.underlying116 (by kernel_rfl) (by kernel_rfl) v xT w
theorem hasUnwrapP (v : Value) (xT : TypeId) (w : World) : (Instr.typeAssert (.iface 126 v) xT 119 true).run Tryd.prog w = .ok (.tuple #[.iface 126 v, .bool true]) w := run_typeAssert_hasB Tryd.underlying119 (by kernel_rfl) v xT w
theorem methodUnwrap (n : Nat) (v : Value) (w : World) : (Go.method (n + 1) 126 v "Unwrap").run Tryd.prog w = .ok (126, v) w := by kernel_rfl

set_option maxRecDepth 100000 in
set_option maxHeartbeats 2000000 in
theorem is_same (a : Addr) (w : World) :
    Calls Tryd.prog 23 #[.iface 149 (.pointer (some a)), .iface 149 (.pointer (some a))] w fun e w' => e = .returned (.bool true) ∧ w' = w := by
  obtain ⟨i, hi, hcmp⟩ := Option.map_eq_some_iff.1 isComp
  obtain ⟨j, hj, hjs⟩ := Option.map_eq_some_iff.1 isSize
  have h8 := @run_callFunc_extern Tryd.prog 51 _ ReflectliteType.typeOf Tryd.func51 (by kernel_rfl) (by kernel_rfl) (by kernel_rfl) (by kernel_rfl)
  have tT := isTypeOf
  have cT := isComparable
  have mR := isMethodComparable
  have heq := run_eql_iface_ptr_same (P := Tryd.prog) w a Tryd.underlying28 Tryd.underlying149 hi hcmp hj
  go_enter Tryd.func23, Tryd.ntmps23
  go_wp2
  refine wp_loop_rounds 1 ?_
  rw [rounds_succ]
  go_wp2
  go_ret
  exact ⟨rfl, rfl⟩

set_option maxRecDepth 100000 in
set_option maxHeartbeats 2000000 in
theorem is_other (a b : Addr) (w : World) (hne : a ≠ b) (ha : Row0 w a) (hb : Row0 w b) :
    Calls Tryd.prog 23 #[.iface 149 (.pointer (some a)), .iface 149 (.pointer (some b))] w fun e w' => e = .returned (.bool false) ∧ w' = w := by
  obtain ⟨i, hi, hcmp⟩ := Option.map_eq_some_iff.1 isComp
  obtain ⟨j, hj, hjs⟩ := Option.map_eq_some_iff.1 isSize
  have h8 := @run_callFunc_extern Tryd.prog 51 _ ReflectliteType.typeOf Tryd.func51 (by kernel_rfl) (by kernel_rfl) (by kernel_rfl) (by kernel_rfl)
  have tT := isTypeOf
  have cT := isComparable
  have mR := isMethodComparable
  have nE := noIsE
  have uE := noUnwrapE
  have vE := noUnwrapsE
  obtain ⟨ca, ta, ha⟩ := ha
  obtain ⟨cb, tb, hb⟩ := hb
  have heq := run_eql_iface_ptr_other (P := Tryd.prog) w Tryd.underlying28 Tryd.underlying149 hi hcmp hj (by rw [hjs]; decide) hne ha hb
  go_enter Tryd.func23, Tryd.ntmps23
  go_wp2
  refine wp_loop_rounds 1 ?_
  rw [rounds_succ]
  go_wp2
  go_ret
  exact ⟨rfl, rfl⟩

set_option maxRecDepth 100000 in
set_option maxHeartbeats 2000000 in
theorem is_place_same (blk : Nat) (p : Int) (a : Addr) (w : World) (hblk : w.heap[blk]? = some (.cells #[.int .i64 p, .iface 149 (.pointer (some a))] 128 (0, 0))) :
    Calls Tryd.prog 23 #[.iface 126 (.pointer (some ⟨blk, 0, none⟩)), .iface 149 (.pointer (some a))] w fun e w' => e = .returned (.bool true) ∧ w' = w := by
  obtain ⟨i, hi, hcmp⟩ := Option.map_eq_some_iff.1 isComp
  obtain ⟨j, hj, hjs⟩ := Option.map_eq_some_iff.1 isSize
  have h8 := @run_callFunc_extern Tryd.prog 51 _ ReflectliteType.typeOf Tryd.func51 (by kernel_rfl) (by kernel_rfl) (by kernel_rfl) (by kernel_rfl)
  have tT := isTypeOf
  have cT := isComparable
  have mR := isMethodComparable
  have nE := noIsE
  have uE := noUnwrapE
  have vE := noUnwrapsE
  have nP := noIsP
  have uP := hasUnwrapP
  have mU := methodUnwrap
  have hety := fun (u v : Value) (W : World) => run_eql_iface_types (P := Tryd.prog) 126 149 u v Tryd.underlying28 (by decide) W
  have c1 : w.cell? ⟨blk, 1, none⟩ = some (.iface 149 (.pointer (some a))) := by
    unfold World.cell?
    rw [hblk]
    rfl
  have heq := run_eql_iface_ptr_same (P := Tryd.prog) w a Tryd.underlying28 Tryd.underlying149 hi hcmp hj
  go_enter Tryd.func23, Tryd.ntmps23
  go_wp2
  refine wp_loop_rounds 2 ?_
  rw [rounds_succ]
  go_wp2
  rw [rounds_succ]
  go_wp2
  go_ret
  exact ⟨rfl, rfl⟩

set_option maxRecDepth 100000 in
set_option maxHeartbeats 2000000 in
theorem is_place_other (blk : Nat) (p : Int) (a b : Addr) (w : World) (hblk : w.heap[blk]? = some (.cells #[.int .i64 p, .iface 149 (.pointer (some a))] 128 (0, 0))) (hne : a ≠ b) (ha : Row0 w a) (hb : Row0 w b) :
    Calls Tryd.prog 23 #[.iface 126 (.pointer (some ⟨blk, 0, none⟩)), .iface 149 (.pointer (some b))] w fun e w' => e = .returned (.bool false) ∧ w' = w := by
  obtain ⟨i, hi, hcmp⟩ := Option.map_eq_some_iff.1 isComp
  obtain ⟨j, hj, hjs⟩ := Option.map_eq_some_iff.1 isSize
  have h8 := @run_callFunc_extern Tryd.prog 51 _ ReflectliteType.typeOf Tryd.func51 (by kernel_rfl) (by kernel_rfl) (by kernel_rfl) (by kernel_rfl)
  have tT := isTypeOf
  have cT := isComparable
  have mR := isMethodComparable
  have nE := noIsE
  have uE := noUnwrapE
  have vE := noUnwrapsE
  have nP := noIsP
  have uP := hasUnwrapP
  have mU := methodUnwrap
  have hety := fun (u v : Value) (W : World) => run_eql_iface_types (P := Tryd.prog) 126 149 u v Tryd.underlying28 (by decide) W
  have c1 : w.cell? ⟨blk, 1, none⟩ = some (.iface 149 (.pointer (some a))) := by
    unfold World.cell?
    rw [hblk]
    rfl
  obtain ⟨ca, ta, ha⟩ := ha
  obtain ⟨cb, tb, hb⟩ := hb
  have heq := run_eql_iface_ptr_other (P := Tryd.prog) w Tryd.underlying28 Tryd.underlying149 hi hcmp hj (by rw [hjs]; decide) hne ha hb
  go_enter Tryd.func23, Tryd.ntmps23
  go_wp2
  refine wp_loop_rounds 2 ?_
  rw [rounds_succ]
  go_wp2
  rw [rounds_succ]
  go_wp2
  go_ret
  exact ⟨rfl, rfl⟩

end Go.Proofs.YtnlaffhhbabjaaaDoor.GramErrs

namespace Go.Proofs.YtnlaffhhbabjaaaDoor.GramErrs
open Go.RowKit Go.Extern.Stop Go.Stop Go.Extern Go.Proofs.YtnlaffhhbabjaaaDoor.GramMath Go.Proofs.YtnlaffhhbabjaaaDoor.GramRow

end Go.Proofs.YtnlaffhhbabjaaaDoor.GramErrs

namespace Go.Proofs.YtnlaffhhbabjaaaDoor.GramErrs
open Go.RowKit Go.Proofs.YtnlaffhhbabjaaaDoor.GramMath Go.Proofs.YtnlaffhhbabjaaaDoor.GramRow

def ErrsO (w : World) (p : Nat → Addr) : Prop := (∀ k, k < 15 → Sent w (globN.getD k 0) (p k) ∧ Row0 w (p k)) ∧ ∀ i j, i < 15 → j < 15 → p i = p j → i = j
theorem Errs.old {w : World} {p : Nat → Addr} (h : Errs w p) : ErrsO w (fun k => p (k + 1)) := h

/-- The list that Kind goes over. -/
def errL (p : Nat → Addr) : Array Value := #[.iface 149 (.pointer (some (p 0))), .iface 149 (.pointer (some (p 1))), .iface 149 (.pointer (some (p 2))), .iface 149 (.pointer (some (p 3))), .iface 149 (.pointer (some (p 4))), .iface 149 (.pointer (some (p 5))), .iface 149 (.pointer (some (p 6))), .iface 149 (.pointer (some (p 7))), .iface 149 (.pointer (some (p 8))), .iface 149 (.pointer (some (p 9))), .iface 149 (.pointer (some (p 10))), .iface 149 (.pointer (some (p 11))), .iface 149 (.pointer (some (p 12))), .iface 149 (.pointer (some (p 13))), .iface 149 (.pointer (some (p 14)))]

theorem errL_at (p : Nat → Addr) (i : Nat) (hi : i < 15) : (errL p)[i]? = some (.iface 149 (.pointer (some (p i)))) := by
  match i, hi with
  | 0, _ => rfl
  | 1, _ => rfl
  | 2, _ => rfl
  | 3, _ => rfl
  | 4, _ => rfl
  | 5, _ => rfl
  | 6, _ => rfl
  | 7, _ => rfl
  | 8, _ => rfl
  | 9, _ => rfl
  | 10, _ => rfl
  | 11, _ => rfl
  | 12, _ => rfl
  | 13, _ => rfl
  | 14, _ => rfl
  | n + 15, h => exact absurd h (by omega)

set_option maxHeartbeats 400000 in
theorem kind_nil (w : World) : Calls Tryd.prog 8 #[.nilIface] w fun e w' => e = .returned (.int .i64 0) ∧ w' = w := by
  go_enter Tryd.func8, Tryd.ntmps8
  go_wp2
  go_ret
  exact ⟨rfl, rfl⟩



set_option maxRecDepth 100000 in
set_option maxHeartbeats 8000000 in
theorem kind_of (t : TypeId) (u : Value) (k0 : Nat) (p : Nat → Addr) (w : World) (hk0 : k0 < 15) (hE : ErrsO w p)
    (hIs : ∀ (W : World) (b : Addr), Below w.heap.size w W → Row0 W b → Calls Tryd.prog 23 #[.iface t u, .iface 149 (.pointer (some b))] W fun e w' => e = .returned (.bool (decide (p k0 = b))) ∧ w' = W) :
    Calls Tryd.prog 8 #[.iface t u] w fun e w' => e = .returned (.int .i64 ((k0 : Int) + 1)) ∧ Below w.heap.size w w' := by
  have hnil := eql_nil
  have e0 : w.cell? ⟨1, 0, none⟩ = some (.iface 149 (.pointer (some (p 0)))) := (hE.1 0 (by omega)).1
  have e1 : w.cell? ⟨2, 0, none⟩ = some (.iface 149 (.pointer (some (p 1)))) := (hE.1 1 (by omega)).1
  have e2 : w.cell? ⟨3, 0, none⟩ = some (.iface 149 (.pointer (some (p 2)))) := (hE.1 2 (by omega)).1
  have e3 : w.cell? ⟨4, 0, none⟩ = some (.iface 149 (.pointer (some (p 3)))) := (hE.1 3 (by omega)).1
  have e4 : w.cell? ⟨5, 0, none⟩ = some (.iface 149 (.pointer (some (p 4)))) := (hE.1 4 (by omega)).1
  have e5 : w.cell? ⟨6, 0, none⟩ = some (.iface 149 (.pointer (some (p 5)))) := (hE.1 5 (by omega)).1
  have e6 : w.cell? ⟨7, 0, none⟩ = some (.iface 149 (.pointer (some (p 6)))) := (hE.1 6 (by omega)).1
  have e7 : w.cell? ⟨8, 0, none⟩ = some (.iface 149 (.pointer (some (p 7)))) := (hE.1 7 (by omega)).1
  have e8 : w.cell? ⟨9, 0, none⟩ = some (.iface 149 (.pointer (some (p 8)))) := (hE.1 8 (by omega)).1
  have e9 : w.cell? ⟨10, 0, none⟩ = some (.iface 149 (.pointer (some (p 9)))) := (hE.1 9 (by omega)).1
  have e10 : w.cell? ⟨11, 0, none⟩ = some (.iface 149 (.pointer (some (p 10)))) := (hE.1 10 (by omega)).1
  have e11 : w.cell? ⟨12, 0, none⟩ = some (.iface 149 (.pointer (some (p 11)))) := (hE.1 11 (by omega)).1
  have e12 : w.cell? ⟨13, 0, none⟩ = some (.iface 149 (.pointer (some (p 12)))) := (hE.1 12 (by omega)).1
  have e13 : w.cell? ⟨14, 0, none⟩ = some (.iface 149 (.pointer (some (p 13)))) := (hE.1 13 (by omega)).1
  have e14 : w.cell? ⟨0, 0, none⟩ = some (.iface 149 (.pointer (some (p 14)))) := (hE.1 14 (by omega)).1
  have hB : Below w.heap.size w (w.alloc (.cells (errL p) 28)) := (Below.refl _ _).alloc (Nat.le_refl _) _
  have hcell : ∀ i, i < 15 → (w.alloc (.cells (errL p) 28)).cell? ⟨w.heap.size, i, none⟩ = some (.iface 149 (.pointer (some (p i)))) := fun i hi => by
    rw [← errL_at p i hi]
    exact World.cell?_alloc_mark w (errL p) 28 (0, 0) i
  have hrow : ∀ i, i < 15 → Row0 (w.alloc (.cells (errL p) 28)) (p i) := fun i hi => (hE.1 i hi).2.below hB (Nat.le_refl _)
  have hinj := hE.2
  clear hE
  go_enter Tryd.func8, Tryd.ntmps8
  go_wp2
  have hw1 : w.alloc (.cells #[.iface 149 (.pointer (some (p 0))), .iface 149 (.pointer (some (p 1))), .iface 149 (.pointer (some (p 2))), .iface 149 (.pointer (some (p 3))), .iface 149 (.pointer (some (p 4))), .iface 149 (.pointer (some (p 5))), .iface 149 (.pointer (some (p 6))), .iface 149 (.pointer (some (p 7))), .iface 149 (.pointer (some (p 8))), .iface 149 (.pointer (some (p 9))), .iface 149 (.pointer (some (p 10))), .iface 149 (.pointer (some (p 11))), .iface 149 (.pointer (some (p 12))), .iface 149 (.pointer (some (p 13))), .iface 149 (.pointer (some (p 14)))] 28) = w.alloc (.cells (errL p) 28) := rfl
  rw [hw1]
  clear hw1
  generalize w.alloc (.cells (errL p) 28) = W1 at *
  go_loop [4, 5] (fun h i => ∃ k : Nat, k ≤ 15 ∧ i = .int .i64 k ∧ h = .int .i64 (if k ≤ k0 then 99 else (k0 : Int) + 1)) (fun _ i => 15 - (intOf i).toNat)
  case atStart => exact ⟨0, by omega, rfl, by simp⟩
  case round =>
    obtain ⟨k, hk, rfl, rfl⟩ := hrel
    by_cases hlt : k < 15
    · have hc := hcell k hlt
      have hr := hrow k hlt
      have hlt2 : (k : Int) < 15 := by omega
      by_cases he : k0 = k
      · have hd : decide (p k0 = p k) = true := by simp [he]
        have h1 : (if k ≤ k0 then (99 : Int) else (k0 : Int) + 1) = 99 := if_pos (by omega)
        have h2 : Hid ((if k + 1 ≤ k0 then (99 : Int) else (k0 : Int) + 1) = (k : Int) + 1) := by show _ = _; rw [if_neg (by omega), he]
        rw [h1]
        clear h1 hcell hrow hnil
        go_wp2_with fail
        refine (hIs _ (p k) hB hr).mono ?_
        rintro e w2 ⟨rfl, hw2⟩
        obtain rfl := hw2.symm
        rw [hd]
        go_wp2
        go_round
        case rel => exact ⟨k + 1, by omega, by go_num, by rw [h2.out]⟩
        case measure => simp [intOf]; omega
      · have hd : decide (p k0 = p k) = false := by
          simp only [decide_eq_false_iff_not]
          exact fun e => he (hinj _ _ hk0 hlt e)
        have h2 : Hid ((if k + 1 ≤ k0 then (99 : Int) else (k0 : Int) + 1) = (if k ≤ k0 then (99 : Int) else (k0 : Int) + 1)) := by
          show _ = _
          by_cases h : k ≤ k0
          · rw [if_pos h, if_pos (by omega)]
          · rw [if_neg h, if_neg (by omega)]
        generalize (if k ≤ k0 then (99 : Int) else (k0 : Int) + 1) = z at *
        clear hcell hrow hnil
        go_wp2_with fail
        refine (hIs _ (p k) hB hr).mono ?_
        rintro e w2 ⟨rfl, hw2⟩
        obtain rfl := hw2.symm
        rw [hd]
        go_wp2
        go_round
        case rel => exact ⟨k + 1, by omega, by go_num, by rw [h2.out]⟩
        case measure => simp [intOf]; omega
    · have h1 : (if k ≤ k0 then (99 : Int) else (k0 : Int) + 1) = (k0 : Int) + 1 := if_neg (by omega)
      rw [h1]
      clear h1 hcell hrow hnil
      go_wp2
      go_ret
      exact ⟨rfl, hB⟩

end Go.Proofs.YtnlaffhhbabjaaaDoor.GramErrs

namespace Go.Proofs.YtnlaffhhbabjaaaDoor.GramErrs
open Go.RowKit Go.Extern.Stop Go.Stop Go.Extern Go.Proofs.YtnlaffhhbabjaaaDoor.GramMath Go.Proofs.YtnlaffhhbabjaaaDoor.GramRow
set_option linter.unusedVariables false

/-- The rule that a finding names; -1: none. -/
def ruleZ (z : Nat × Option Nat) : Int :=
  match z with
  | (_ + 1, some i) => (i : Int)
  | _ => -1

set_option maxRecDepth 100000 in
theorem kind_ck (base : Nat) (p : Nat → Addr) (z : Nat × Option Nat) (w : World) (v : Value) (hE : Errs w p) (hz : z.1 ≤ 15) (hv : CkV base p z w v) : Calls Tryd.prog 8 #[v] w fun e w' => e = .returned (.int .i64 (z.1 : Int)) ∧ Below w.heap.size w w' := by
  match z, hz, hv with
  | (0, x), _, hv =>
    obtain rfl : v = .nilIface := hv
    refine (kind_nil w).mono ?_
    rintro e w1 ⟨rfl, hw1⟩
    obtain rfl := hw1.symm
    exact ⟨rfl, Below.refl _ _⟩
  | (k + 1, none), hz, hv =>
    obtain rfl : v = .iface 149 (.pointer (some (p (k + 1)))) := hv
    refine (kind_of 149 (.pointer (some (p (k + 1)))) k (fun k => p (k + 1)) w (by omega) hE.old ?_).mono ?_
    · intro W b hB hb
      by_cases he : p (k + 1) = b
      · subst he
        simpa using is_same (p (k + 1)) W
      · simpa [he] using is_other (p (k + 1)) b W he ((hE.1 k (by omega)).2.below hB (Nat.le_refl _)) hb
    · rintro e w1 ⟨rfl, hb1⟩
      exact ⟨ret_num (by simp), hb1⟩
  | (k + 1, some i), hz, ⟨blk, _, hv, hblk⟩ =>
    subst hv
    refine (kind_of 126 (.pointer (some ⟨blk, 0, none⟩)) k (fun k => p (k + 1)) w (by omega) hE.old ?_).mono ?_
    · intro W b hB hb
      have hblk2 := (hB.block blk (Array.getElem?_eq_some_iff.1 hblk).1).trans hblk
      by_cases he : p (k + 1) = b
      · subst he
        simpa using is_place_same blk _ (p (k + 1)) W hblk2
      · simpa [he] using is_place_other blk _ (p (k + 1)) b W hblk2 he ((hE.1 k (by omega)).2.below hB (Nat.le_refl _)) hb
    · rintro e w1 ⟨rfl, hb1⟩
      exact ⟨ret_num (by simp), hb1⟩

end Go.Proofs.YtnlaffhhbabjaaaDoor.GramErrs

namespace Go.Proofs.YtnlaffhhbabjaaaDoor.UsefulKnown
open Go.RowKit Go.Proofs.YtnlaffhhbabjaaaDoor.GramMath Go.Proofs.YtnlaffhhbabjaaaDoor.GramRow Go.Proofs.YtnlaffhhbabjaaaDoor.SetsMath Go.Proofs.YtnlaffhhbabjaaaDoor.UsefulMath Go.Proofs.YtnlaffhhbabjaaaDoor.UsefulFn Go.Proofs.YtnlaffhhbabjaaaDoor.UsefulTop Go.Proofs.YtnlaffhhbabjaaaDoor.UsefulShort Go.Proofs.YtnlaffhhbabjaaaDoor.UsefulWord Go.Proofs.YtnlaffhhbabjaaaDoor.OpRow Go.Proofs.YtnlaffhhbabjaaaDoor.GramApart Go.Proofs.YtnlaffhhbabjaaaDoor.GramLess Go.Proofs.YtnlaffhhbabjaaaDoor.GramErrs Go.Proofs.YtnlaffhhbabjaaaDoor.SetsAlg
set_option linter.unusedVariables false

def knownG : G := ⟨[⟨#[97]⟩, ⟨#[98]⟩], [⟨#[83]⟩, ⟨#[65]⟩, ⟨#[66]⟩, ⟨#[67]⟩], 0, [⟨0, [0, -2]⟩, ⟨0, [-3]⟩, ⟨0, [1]⟩, ⟨1, [0]⟩, ⟨2, [-3, 1]⟩, ⟨3, [0]⟩]⟩
theorem ck : checkG knownG = (0, none) := by kernel_rfl
theorem ck0 : (checkG knownG).1 = 0 := by rw [ck]
theorem good : GoodG knownG := good_of ck0
theorem okRs : OkRs 2 4 knownG.rs := good.okRs
theorem okg : okG knownG := by
  refine ⟨by decide, by decide, by decide, ⟨by decide, by decide⟩, ?_, ?_, ?_⟩
  · intro r hr
    simp only [knownG, List.mem_cons, List.not_mem_nil, or_false] at hr
    rcases hr with rfl | rfl | rfl | rfl | rfl | rfl <;> exact ⟨⟨by decide, by decide⟩, by intro x hx; simp only [List.mem_cons, List.not_mem_nil, or_false] at hx; (first | (rcases hx with rfl | rfl <;> exact ⟨by decide, by decide⟩) | (rcases hx with rfl; exact ⟨by decide, by decide⟩)), by decide⟩
  · intro s hs
    simp only [knownG, List.mem_cons, List.not_mem_nil, or_false] at hs
    rcases hs with rfl | rfl <;> decide
  · intro s hs
    simp only [knownG, List.mem_cons, List.not_mem_nil, or_false] at hs
    rcases hs with rfl | rfl | rfl | rfl <;> decide

/-- What a set grows to, told by a run. -/
theorem grown_run {f : Int → R → Int} {rs : List R} {s0 : Int} (os : List R) {S : Int} (hs : IsSet S) (hs0 : IsSet s0) (hf : ∀ s r, IsSet (f s r)) (ho : ∀ r ∈ os, r ∈ rs) (hS : os.foldl (fun s r => orI s (f s r)) s0 = S) (hc : ∀ r ∈ rs, orI S (f S r) = S) : Grown f rs s0 S :=
  ⟨hs, hc, fun P h0 hP => by
    rw [← hS]
    have key : ∀ (l : List R) (s : Int), (∀ r ∈ l, r ∈ rs) → IsSet s → P s → P (l.foldl (fun s r => orI s (f s r)) s) := by
      intro l
      induction l with
      | nil => intro s _ _ h; exact h
      | cons r l ih => intro s hl hs h; exact ih _ (fun q hq => hl q (by simp [hq])) (orI_isSet hs (hf s r)) (hP s r (hl r (by simp)) hs h)
    exact key os s0 ho hs0 h0⟩

theorem prodK : prodI knownG = 11 := by
  refine (prod_grown good (grown_run [⟨0, [1]⟩, ⟨1, [0]⟩, ⟨3, [0]⟩] ⟨by decide, by decide⟩ zero_isSet addP_isSet ?_ (by kernel_rfl) ?_)).symm
  · intro r hr
    simp only [List.mem_cons, List.not_mem_nil, or_false] at hr
    rcases hr with rfl | rfl | rfl <;> simp [knownG]
  · intro r hr
    simp only [knownG, List.mem_cons, List.not_mem_nil, or_false] at hr
    rcases hr with rfl | rfl | rfl | rfl | rfl | rfl <;> kernel_rfl
theorem usefulK : usefulI knownG = 3 := by
  refine (useful_grown good ?_).symm
  rw [prodK]
  refine grown_run [⟨0, [0, -2]⟩] ⟨by decide, by decide⟩ (meetI_isSet ⟨by decide, by decide⟩) addR_isSet ?_ (by kernel_rfl) ?_
  · intro r hr
    obtain rfl : r = ⟨0, [0, -2]⟩ := by simpa using hr
    exact List.mem_filter.2 ⟨by simp [knownG], by kernel_rfl⟩
  · intro r hr
    obtain ⟨h1, h2⟩ := List.mem_filter.1 hr
    simp only [knownG, List.mem_cons, List.not_mem_nil, or_false] at h1
    rcases h1 with rfl | rfl | rfl | rfl | rfl | rfl
    · kernel_rfl
    · exact absurd h2 (by decide)
    · kernel_rfl
    · kernel_rfl
    · exact absurd h2 (by decide)
    · kernel_rfl
theorem prod_iff (k : Int) : Prod knownG.rs k ↔ hasB 11 k = true := by rw [← prodK, hasB_prodI good]

theorem dS : D knownG.rs [-1] [1] := D.one (r := ⟨0, [1]⟩) (by simp [knownG]) (.term (by decide) .nil)
theorem dA : D knownG.rs [-2] [0] := D.one (r := ⟨1, [0]⟩) (by simp [knownG]) (.term (by decide) .nil)
theorem dC : D knownG.rs [-4] [0] := D.one (r := ⟨3, [0]⟩) (by simp [knownG]) (.term (by decide) .nil)

theorem shortK : Short knownG.rs 4 [1, 1, -1, 1] := by
  refine LenEnd.short okRs ⟨rfl, fun k hk => ?_⟩ (fun r hr hp => ?_)
  · match k, hk with
    | 0, _ => exact ⟨fun h => absurd ((prod_iff _).2 (by kernel_rfl)) h, fun _ => ⟨by decide, by decide, .inr ⟨[1], dS, rfl⟩⟩⟩
    | 1, _ => exact ⟨fun h => absurd ((prod_iff _).2 (by kernel_rfl)) h, fun _ => ⟨by decide, by decide, .inr ⟨[0], dA, rfl⟩⟩⟩
    | 2, _ => exact ⟨fun _ => rfl, fun h => absurd ((prod_iff _).1 h) (by decide)⟩
    | 3, _ => exact ⟨fun h => absurd ((prod_iff _).2 (by kernel_rfl)) h, fun _ => ⟨by decide, by decide, .inr ⟨[0], dC, rfl⟩⟩⟩
  · simp only [knownG, List.mem_cons, List.not_mem_nil, or_false] at hr
    rcases hr with rfl | rfl | rfl | rfl | rfl | rfl
    · decide
    · exact absurd ((prod_iff _).1 (hp (-3) (by simp) (by decide))) (by decide)
    · decide
    · decide
    · exact absurd ((prod_iff _).1 (hp (-3) (by simp) (by decide))) (by decide)
    · decide

theorem d_nil {rs : List R} {l a : List Int} (h : D rs l a) (e : l = []) : a = [] := by
  cases h with
  | nil => rfl
  | term => cases e
  | rule => cases e
theorem d_term' {rs : List R} {x : Int} {l a : List Int} (ho : ∀ r ∈ rs, 0 ≤ r.left) (hx : 0 ≤ x) (h : D rs l a) (e : l = [x]) : a = [x] := by
  cases h with
  | nil => cases e
  | term h1 h2 => obtain ⟨rfl, rfl⟩ := List.cons.inj e; rw [d_nil h2 rfl]
  | rule r hr => obtain ⟨h3, _⟩ := List.cons.inj e; have := ho r hr; omega
theorem d_term {rs : List R} {x : Int} {a : List Int} (ho : ∀ r ∈ rs, 0 ≤ r.left) (hx : 0 ≤ x) (h : D rs [x] a) : a = [x] := d_term' ho hx h rfl

theorem wordK : IsWord knownG.rs 0 [1] := by
  refine ⟨dS, fun u hu => ?_⟩
  have h1 := shortK.2 0 (by decide) u hu
  have tu := Dij.toks okRs (by decide) (k := 0) (by decide) hu
  have t1 : Tok [1] := fun x hx => by
    obtain rfl : x = 1 := (by simpa using hx)
    decide
  have hl : 1 ≤ u.length := by
    have : ([1, 1, -1, 1] : List Int).getD 0 0 = 1 := rfl
    rw [this] at h1
    omega
  by_cases e : u.length = 1
  · obtain ⟨r, hr, hrl, hd⟩ := hu.inv (by decide)
    have hs := sum_le okRs shortK hd
    simp only [knownG, List.mem_cons, List.not_mem_nil, or_false] at hr
    rcases hr with rfl | rfl | rfl | rfl | rfl | rfl
    · have h2 : sumL [1, 1, -1, 1] [0, -2] = 2 := by decide
      rw [h2] at hs
      omega
    · exact absurd ((prod_iff _).1 (hd.prod okRs (-3) (by simp) (by decide))) (by decide)
    · rw [d_term (by decide) (by decide) hd]; exact Nat.le_refl _
    · cases hrl
    · cases hrl
    · cases hrl
  · exact Nat.le_of_lt (rk_len t1 tu (by simp; omega))
theorem wz0 : wordZ knownG 0 = (0, none) := by
  unfold wordZ
  rw [if_neg (by rw [ck]; decide), if_neg (by simp [knownG]), if_neg (by rw [prod_iff]; decide), if_neg (fun h => by have := h [1] dS; simp at this)]
theorem wz2 : wordZ knownG 2 = (15, none) := by
  unfold wordZ
  rw [if_neg (by rw [ck]; decide), if_neg (by simp [knownG]), if_pos (by rw [prod_iff]; decide)]

theorem gen_world {P : Program} {f : FuncId} {args : Array Value} {w0 : World} {R : Ending → World → Prop} (h : ∀ W, W = w0 → Calls P f args W R) : Calls P f args w0 R := h _ rfl
theorem row_of_irow {w : World} {a : Option Addr} {zs : List Int} (h : IRow w a zs) : SetsMany.Row .i64 w a zs.length zs := fun i hi => by
  obtain ⟨x, hx⟩ : ∃ x, zs[i]? = some x := ⟨zs[i], List.getElem?_eq_getElem hi⟩
  obtain ⟨b, off, ha, hc⟩ := h i x hx
  refine ⟨b, off, ha, ?_⟩
  rw [List.getD_eq_getElem?_getD, hx]
  exact hc
theorem below_many {B : Nat} {w w' : World} (h : Below B w w') (o : Obj) (hB : B ≤ w.heap.size) : Below B w (w'.alloc o) := h.alloc (Nat.le_trans hB h.size) o

set_option maxRecDepth 100000 in
set_option maxHeartbeats 4000000 in
theorem known_any (p : Nat → Addr) (w : World) (hE : Errs w p) (hT : Tab w) (hGl : 15 < w.heap.size) :
    Calls Tryd.prog 11 #[] w fun e w' => e = .returned (.bool true) ∧ Below w.heap.size w w' := by
  have heq := eql_nil
  go_enter Tryd.func11, Tryd.ntmps11
  go_wp2_with fail
  refine gen_world (fun W hW => ?_)
  have hB : Below w.heap.size w W := by
    rw [hW]
    repeat (first | exact Below.refl _ _ | refine below_many ?_ _ (Nat.le_refl _))
  have b0 : W.cell? ⟨w.heap.size + 9, 0, none⟩ = some (.slice (some ⟨w.heap.size, 0, none⟩) 2 2) := by rw [hW]; simp [go_sem]
  have b1 : W.cell? ⟨w.heap.size + 9, 1, none⟩ = some (.slice (some ⟨w.heap.size + 1, 0, none⟩) 4 4) := by rw [hW]; simp [go_sem]
  have b2 : W.cell? ⟨w.heap.size + 9, 2, none⟩ = some (.int .i64 0) := by rw [hW]; simp [go_sem]
  have b3 : W.cell? ⟨w.heap.size + 9, 3, none⟩ = some (.slice (some ⟨w.heap.size + 8, 0, none⟩) 6 6) := by rw [hW]; simp [go_sem]
  have hz : W.heap.size = w.heap.size + 10 := by rw [hW]; simp
  have hQ : QRow W (some ⟨w.heap.size + 8, 0, none⟩) [⟨⟨0, [0, -2]⟩, some ⟨w.heap.size + 2, 0, none⟩, 2⟩, ⟨⟨0, [-3]⟩, some ⟨w.heap.size + 3, 0, none⟩, 1⟩, ⟨⟨0, [1]⟩, some ⟨w.heap.size + 4, 0, none⟩, 1⟩, ⟨⟨1, [0]⟩, some ⟨w.heap.size + 5, 0, none⟩, 1⟩, ⟨⟨2, [-3, 1]⟩, some ⟨w.heap.size + 6, 0, none⟩, 2⟩, ⟨⟨3, [0]⟩, some ⟨w.heap.size + 7, 0, none⟩, 1⟩] := fun i x hx => by
    match i, hx with
    | 0, hx =>
      obtain rfl := Option.some.inj hx
      exact ⟨w.heap.size + 8, 0, rfl, by rw [hW]; simp [go_sem], by rw [hW]; simp [go_sem]⟩
    | 1, hx =>
      obtain rfl := Option.some.inj hx
      exact ⟨w.heap.size + 8, 0, rfl, by rw [hW]; simp [go_sem], by rw [hW]; simp [go_sem]⟩
    | 2, hx =>
      obtain rfl := Option.some.inj hx
      exact ⟨w.heap.size + 8, 0, rfl, by rw [hW]; simp [go_sem], by rw [hW]; simp [go_sem]⟩
    | 3, hx =>
      obtain rfl := Option.some.inj hx
      exact ⟨w.heap.size + 8, 0, rfl, by rw [hW]; simp [go_sem], by rw [hW]; simp [go_sem]⟩
    | 4, hx =>
      obtain rfl := Option.some.inj hx
      exact ⟨w.heap.size + 8, 0, rfl, by rw [hW]; simp [go_sem], by rw [hW]; simp [go_sem]⟩
    | 5, hx =>
      obtain rfl := Option.some.inj hx
      exact ⟨w.heap.size + 8, 0, rfl, by rw [hW]; simp [go_sem], by rw [hW]; simp [go_sem]⟩
    | i + 6, hx => simp at hx
  have i0 : IRow W (some ⟨w.heap.size + 2, 0, none⟩) [0, -2] := fun i x hx => by
    match i, hx with
    | 0, hx =>
      obtain rfl := Option.some.inj hx
      exact ⟨w.heap.size + 2, 0, rfl, by rw [hW]; simp [go_sem]⟩
    | 1, hx =>
      obtain rfl := Option.some.inj hx
      exact ⟨w.heap.size + 2, 0, rfl, by rw [hW]; simp [go_sem]⟩
    | i + 2, hx => simp at hx
  have i1 : IRow W (some ⟨w.heap.size + 3, 0, none⟩) [-3] := fun i x hx => by
    match i, hx with
    | 0, hx =>
      obtain rfl := Option.some.inj hx
      exact ⟨w.heap.size + 3, 0, rfl, by rw [hW]; simp [go_sem]⟩
    | i + 1, hx => simp at hx
  have i2 : IRow W (some ⟨w.heap.size + 4, 0, none⟩) [1] := fun i x hx => by
    match i, hx with
    | 0, hx =>
      obtain rfl := Option.some.inj hx
      exact ⟨w.heap.size + 4, 0, rfl, by rw [hW]; simp [go_sem]⟩
    | i + 1, hx => simp at hx
  have i3 : IRow W (some ⟨w.heap.size + 5, 0, none⟩) [0] := fun i x hx => by
    match i, hx with
    | 0, hx =>
      obtain rfl := Option.some.inj hx
      exact ⟨w.heap.size + 5, 0, rfl, by rw [hW]; simp [go_sem]⟩
    | i + 1, hx => simp at hx
  have i4 : IRow W (some ⟨w.heap.size + 6, 0, none⟩) [-3, 1] := fun i x hx => by
    match i, hx with
    | 0, hx =>
      obtain rfl := Option.some.inj hx
      exact ⟨w.heap.size + 6, 0, rfl, by rw [hW]; simp [go_sem]⟩
    | 1, hx =>
      obtain rfl := Option.some.inj hx
      exact ⟨w.heap.size + 6, 0, rfl, by rw [hW]; simp [go_sem]⟩
    | i + 2, hx => simp at hx
  have i5 : IRow W (some ⟨w.heap.size + 7, 0, none⟩) [0] := fun i x hx => by
    match i, hx with
    | 0, hx =>
      obtain rfl := Option.some.inj hx
      exact ⟨w.heap.size + 7, 0, rfl, by rw [hW]; simp [go_sem]⟩
    | i + 1, hx => simp at hx
  have st : SRow W (some ⟨w.heap.size, 0, none⟩) [⟨#[97]⟩, ⟨#[98]⟩] := fun i x hx => by
    match i, hx with
    | 0, hx =>
      obtain rfl := Option.some.inj hx
      exact ⟨_, 0, rfl, by rw [hW]; simp [go_sem]⟩
    | 1, hx =>
      obtain rfl := Option.some.inj hx
      exact ⟨_, 0, rfl, by rw [hW]; simp [go_sem]⟩
    | i + 2, hx => simp at hx
  have sn : SRow W (some ⟨w.heap.size + 1, 0, none⟩) [⟨#[83]⟩, ⟨#[65]⟩, ⟨#[66]⟩, ⟨#[67]⟩] := fun i x hx => by
    match i, hx with
    | 0, hx =>
      obtain rfl := Option.some.inj hx
      exact ⟨_, 0, rfl, by rw [hW]; simp [go_sem]⟩
    | 1, hx =>
      obtain rfl := Option.some.inj hx
      exact ⟨_, 0, rfl, by rw [hW]; simp [go_sem]⟩
    | 2, hx =>
      obtain rfl := Option.some.inj hx
      exact ⟨_, 0, rfl, by rw [hW]; simp [go_sem]⟩
    | 3, hx =>
      obtain rfl := Option.some.inj hx
      exact ⟨_, 0, rfl, by rw [hW]; simp [go_sem]⟩
    | i + 4, hx => simp at hx
  have hG : GRow W (some ⟨w.heap.size, 0, none⟩) (some ⟨w.heap.size + 1, 0, none⟩) (some ⟨w.heap.size + 8, 0, none⟩) knownG := ⟨st, sn, rrow_of hQ (fun x hx => by
    simp only [List.mem_cons, List.not_mem_nil, or_false] at hx
    rcases hx with rfl | rfl | rfl | rfl | rfl | rfl
    · exact i0
    · exact i1
    · exact i2
    · exact i3
    · exact i4
    · exact i5)⟩
  clear hW hQ i0 i1 i2 i3 i4 i5 st sn
  have hE0 := hE.below hB (Nat.le_refl _)
  have hu := Useful_top (some ⟨w.heap.size, 0, none⟩) (some ⟨w.heap.size + 1, 0, none⟩) (some ⟨w.heap.size + 8, 0, none⟩) 2 4 6 knownG p W hG okg (by decide) (by decide) (fun h => by cases h) hE0.sents
  rw [okI_yes ck0, usefulK, ck] at hu
  refine hu.mono ?_
  rintro e w1 ⟨⟨v1, rfl, hv1⟩, hb1⟩
  obtain rfl : v1 = .nilIface := hv1
  have hB1 := hB.trans (hb1.mono hB.size)
  have hG1 := hG.below hb1 (Nat.le_refl _)
  have hlt9 : w.heap.size + 9 < W.heap.size := by omega
  have c0 := (hb1.cell (p := ⟨w.heap.size + 9, 0, none⟩) hlt9).trans b0
  have c1 := (hb1.cell (p := ⟨w.heap.size + 9, 1, none⟩) hlt9).trans b1
  have c2 := (hb1.cell (p := ⟨w.heap.size + 9, 2, none⟩) hlt9).trans b2
  have c3 := (hb1.cell (p := ⟨w.heap.size + 9, 3, none⟩) hlt9).trans b3
  have hs1 := hb1.size
  clear hu hG b0 b1 b2 b3
  have hsh := shortest_top (some ⟨w.heap.size, 0, none⟩) (some ⟨w.heap.size + 1, 0, none⟩) (some ⟨w.heap.size + 8, 0, none⟩) 2 4 6 knownG p w1 hG1 okg (by decide) (by decide) (fun h => by cases h) (hE.sents.below hB1 (Nat.le_refl _))
  go_wp2_with fail
  refine hsh.mono ?_
  rintro e w2 ⟨⟨v2, hv2, ⟨h0, _⟩ | ⟨_, d, ls, rfl, hd, hrow, hS⟩⟩, hb2⟩
  · exact absurd ck0 h0
  rw [ck] at hv2
  obtain rfl : v2 = .nilIface := hv2
  obtain rfl := hS.eq okRs shortK
  have hB2 := hB1.trans (hb2.mono hB1.size)
  have hG2 := hG1.below hb2 (Nat.le_refl _)
  have d0 := (hb2.cell (p := ⟨w.heap.size + 9, 0, none⟩) (by show w.heap.size + 9 < _; omega)).trans c0
  have d1 := (hb2.cell (p := ⟨w.heap.size + 9, 1, none⟩) (by show w.heap.size + 9 < _; omega)).trans c1
  have d2 := (hb2.cell (p := ⟨w.heap.size + 9, 2, none⟩) (by show w.heap.size + 9 < _; omega)).trans c2
  have d3 := (hb2.cell (p := ⟨w.heap.size + 9, 3, none⟩) (by show w.heap.size + 9 < _; omega)).trans c3
  have hs2 := hb2.size
  have hls := intsA_row hrow
  clear hsh hG1 c0 c1 c2 c3
  have hw0 := word_top (some ⟨w.heap.size, 0, none⟩) (some ⟨w.heap.size + 1, 0, none⟩) (some ⟨w.heap.size + 8, 0, none⟩) 2 4 6 knownG 0 p w2 hG2 okg (by decide) (by decide) (fun h => by cases h) (hE.below hB2 (Nat.le_refl _)) (SetsEach.Tab.from hT hB2 hGl) (by have := hB2.size; omega) ⟨by decide, by decide⟩
  go_wp2_with fail
  refine hw0.mono ?_
  rintro e w3 ⟨⟨v3, hv3, ⟨h0, _⟩ | ⟨_, a3, c3, row, rfl, hr3, _, _, hwd⟩⟩, hb3⟩
  · exact absurd (by rw [wz0]) h0
  rw [wz0] at hv3
  obtain rfl : v3 = .nilIface := hv3
  obtain rfl := hwd.eq okRs (by decide) (by decide) wordK
  have hB3 := hB2.trans (hb3.mono hB2.size)
  have hG3 := hG2.below hb3 (Nat.le_refl _)
  have f0 := (hb3.cell (p := ⟨w.heap.size + 9, 0, none⟩) (by show w.heap.size + 9 < _; omega)).trans d0
  have f1 := (hb3.cell (p := ⟨w.heap.size + 9, 1, none⟩) (by show w.heap.size + 9 < _; omega)).trans d1
  have f2 := (hb3.cell (p := ⟨w.heap.size + 9, 2, none⟩) (by show w.heap.size + 9 < _; omega)).trans d2
  have f3 := (hb3.cell (p := ⟨w.heap.size + 9, 3, none⟩) (by show w.heap.size + 9 < _; omega)).trans d3
  have hls3 := hls.below hb3 (Nat.le_refl _)
  clear hw0 hG2 d0 d1 d2 d3
  have hw2 := word_top (some ⟨w.heap.size, 0, none⟩) (some ⟨w.heap.size + 1, 0, none⟩) (some ⟨w.heap.size + 8, 0, none⟩) 2 4 6 knownG 2 p w3 hG3 okg (by decide) (by decide) (fun h => by cases h) (hE.below hB3 (Nat.le_refl _)) (SetsEach.Tab.from hT hB3 hGl) (by have := hB3.size; omega) ⟨by decide, by decide⟩
  go_wp2_with fail
  refine hw2.mono ?_
  rintro e w4 ⟨⟨v4, hv4, hor⟩, hb4⟩
  obtain ⟨_, rfl⟩ := hor.resolve_right (fun h0 => absurd h0.1 (by rw [wz2]; decide))
  rw [wz2] at hv4
  have hB4 := hB3.trans (hb4.mono hB3.size)
  have hls4 := hls3.below hb4 (Nat.le_refl _)
  have hr4 := hr3.below hb4 (Nat.le_refl _)
  clear hw2 hG3 f0 f1 f2 f3 hls3 hr3
  have hBa : Below w4.heap.size w4 (w4.alloc (.cells #[.int .i64 1, .int .i64 1, .int .i64 (-1), .int .i64 1] 3)) := (Below.refl _ _).alloc (Nat.le_refl _) _
  have hnewa : IRow (w4.alloc (.cells #[.int .i64 1, .int .i64 1, .int .i64 (-1), .int .i64 1] 3)) (some ⟨w4.heap.size, 0, none⟩) [1, 1, -1, 1] := intsA_row (rowNew w4 _ _)
  have hia := SetsMany.ints_same (some ⟨d, 0, none⟩) (some ⟨w4.heap.size, 0, none⟩) 4 4 4 [1, 1, -1, 1] _ (row_of_irow (hls4.below hBa (Nat.le_refl _))) (row_of_irow hnewa) (by omega)
  go_wp2_with fail
  refine hia.mono ?_
  rintro e w5 ⟨rfl, q5, hw5⟩
  have hB5 : Below w.heap.size w w5 := by rw [hw5]; exact bdrew (hB4.trans (hBa.mono hB4.size)) q5
  have hb45 : Below w4.heap.size w4 w5 := by rw [hw5]; exact bdrew hBa q5
  clear hia hw5 hBa hnewa hls4
  have hBb : Below w5.heap.size w5 (w5.alloc (.cells #[.int .i64 1] 3)) := (Below.refl _ _).alloc (Nat.le_refl _) _
  have hnewb : IRow (w5.alloc (.cells #[.int .i64 1] 3)) (some ⟨w5.heap.size, 0, none⟩) [1] := intsA_row (rowNew w5 _ _)
  have hib := SetsMany.ints_same a3 (some ⟨w5.heap.size, 0, none⟩) 1 c3 1 [1] _ (row_of_irow ((hr4.below hb45 (Nat.le_refl _)).below hBb (Nat.le_refl _))) (row_of_irow hnewb) (by omega)
  go_wp2_with fail
  refine hib.mono ?_
  rintro e w6 ⟨rfl, q6, hw6⟩
  have hb46 : Below w4.heap.size w4 w6 := by rw [hw6]; exact bdrew (hb45.trans (hBb.mono hb45.size)) q6
  have hB6 := hB4.trans (hb46.mono hB4.size)
  clear hib hw6 hBb hnewb hr4
  have hkk := kind_ck _ p (15, none) w6 v4 (hE.below hB6 (Nat.le_refl _)) (by decide) (hv4.below hb46 (Nat.le_refl _))
  go_wp2_with fail
  refine hkk.mono ?_
  rintro e w7 ⟨rfl, hb7⟩
  clear hkk
  go_wp2
  go_ret
  exact ⟨rfl, hB6.trans (hb7.mono hB6.size)⟩

end Go.Proofs.YtnlaffhhbabjaaaDoor.UsefulKnown
