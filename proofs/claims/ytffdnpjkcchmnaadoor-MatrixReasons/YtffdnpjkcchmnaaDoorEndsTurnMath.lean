/-
  Right sides turned about, rules in another order, a rule less: what becomes of sets and chains. No part of the program.
-/
import Derived.Test.YtffdnpjkcchmnaaDoorEndsChain
import Derived.Test.YtffdnpjkcchmnaaDoorGramLessMath
namespace Go.Proofs.YtffdnpjkcchmnaaDoor.EndsTurn
open Go.Proofs.YtffdnpjkcchmnaaDoor.GramMath Go.Proofs.YtffdnpjkcchmnaaDoor.EndsMath Go.Proofs.YtffdnpjkcchmnaaDoor.GramLess Go.Proofs.YtffdnpjkcchmnaaDoor.EndsChain
set_option linter.unusedVariables false

def turn (r : R) : R := ⟨r.left, r.right.reverse⟩
def turnG (g : G) : G := withR g (g.rs.map turn)

theorem vw_turn (b : Bool) (l : List Int) : vw (!b) l.reverse = vw b l := by
  unfold vw
  cases b <;> simp
theorem sh_turn (b : Bool) (r : R) : shO (!b) (turn r) = shO b r := by unfold shO turn; rw [vw_turn]
theorem ld_turn (b : Bool) (r : R) : ldO (!b) (turn r) = ldO b r := by unfold ldO turn; rw [vw_turn]

theorem lft_turn {b : Bool} {rs : List R} {n t : Nat} (h : Lft b rs n t) : Lft (!b) (rs.map turn) n t := by
  induction h with
  | @shows r t hr h => exact Lft.shows (r := turn r) (List.mem_map_of_mem hr) (by rw [sh_turn]; exact h)
  | @leads r m t hr h _ ih => exact Lft.leads (r := turn r) (List.mem_map_of_mem hr) (by rw [ld_turn]; exact h) ih
theorem turn_turn (rs : List R) : (rs.map turn).map turn = rs := by
  rw [List.map_map]
  have : turn ∘ turn = id := by
    funext r
    cases r
    simp [turn]
  rw [this, List.map_id]
theorem lft_turn_iff {b : Bool} {rs : List R} {n t : Nat} : Lft (!b) (rs.map turn) n t ↔ Lft b rs n t := by
  constructor
  · intro h
    have := lft_turn h
    rwa [turn_turn, Bool.not_not] at this
  · exact lft_turn

theorem hitR_turn (b : Bool) (t : Nat) (l : List Int) (m : Nat) : ∀ (rs : List R) (k : Nat), hitR (!b) t l m k (rs.map turn) = hitR b t l m k rs
  | [], _ => rfl
  | r :: rs, k => by
    show hitR (!b) t l m k (turn r :: rs.map turn) = _
    unfold hitR
    rw [sh_turn, hitR_turn b t l m rs (k + 1)]
    rfl
theorem hitW_turn (b : Bool) (t : Nat) (rs : List R) : ∀ ys : List Wy, hitW (!b) t (rs.map turn) ys = hitW b t rs ys
  | [] => rfl
  | y :: ys => by
    unfold hitW
    rw [hitR_turn, hitW_turn b t rs ys]
theorem one_turn (b : Bool) (l : List Int) (m k : Nat) (r : R) (s : St) : one (!b) l m k (turn r) s = one b l m k r s := by
  unfold one
  rw [ld_turn]
  rfl
theorem goR_turn (b : Bool) (l : List Int) (m : Nat) : ∀ (rs : List R) (k : Nat) (s : St), goR (!b) l m k (rs.map turn) s = goR b l m k rs s
  | [], _, _ => rfl
  | r :: rs, k, s => by
    show goR (!b) l m (k + 1) (rs.map turn) (one (!b) l m k (turn r) s) = goR b l m (k + 1) rs (one b l m k r s)
    rw [one_turn, goR_turn b l m rs (k + 1)]
theorem goW_turn (b : Bool) (rs : List R) : ∀ (ys : List Wy) (s : St), goW (!b) (rs.map turn) ys s = goW b rs ys s
  | [], _ => rfl
  | y :: ys, s => by
    show goW (!b) (rs.map turn) ys (goR (!b) y.rules y.to 0 (rs.map turn) s) = goW b rs ys (goR b y.rules y.to 0 rs s)
    rw [goR_turn, goW_turn b rs ys]
theorem search_turn {b : Bool} {t : Nat} {rs : List R} {ring : List Wy} {S : Nat → Bool} {o : Option (List Int)} (h : Search b t rs ring S o) : Search (!b) t (rs.map turn) ring S o := by
  induction h with
  | none S => exact .none S
  | hit h => exact .hit (by rw [hitW_turn]; exact h)
  | step hne h _ ih =>
    refine .step hne (by rw [hitW_turn]; exact h) ?_
    rw [goW_turn]
    exact ih

theorem ruleK_turn (t n : Nat) (r : R) : ruleK t n (turn r) = ruleK t n r := by
  unfold ruleK turn
  simp

theorem check_rules {g : G} (h : GoodG g) {rs : List R} (hl : rs.length ≤ 120) (ha : ∀ r ∈ rs, ruleK g.ts.length g.ns.length r = 0) : checkG (withR g rs) = (0, none) := by
  rw [check_with h, if_neg (by omega), rulesK_all ha]
theorem check_turn {g : G} (h : GoodG g) : checkG (turnG g) = (0, none) := by
  have := h.rules
  refine check_rules h (by simpa using this) (fun r hr => ?_)
  obtain ⟨r', hr', rfl⟩ := List.mem_map.1 hr
  rw [ruleK_turn]
  exact h.each r' hr'

theorem chainR_turn {g : G} (h0 : (checkG g).1 = 0) {n t : Int} {z : Nat × Option Nat} {o : Option (List Int)} (h : ChainR g n t false z o) : ChainR (turnG g) n t true z o := by
  have hg := good_of h0
  have hc : (checkG (turnG g)).1 = 0 := by rw [check_turn hg]
  rcases h with ⟨a1, _⟩ | ⟨_, a2, rfl, rfl⟩ | ⟨_, a2, a3, rfl⟩
  · exact absurd h0 a1
  · exact .inr (.inl ⟨hc, a2, rfl, rfl⟩)
  · exact .inr (.inr ⟨hc, a2, search_turn (b := false) a3, rfl⟩)

theorem ends_turn {b : Bool} {g : G} {V U : Nat → Nat} (h : IsEnds b g V) (k : IsEnds (!b) (turnG g) U) {i : Nat} (hi : i < g.ns.length) : V i = U i :=
  h.eq k hi hi (fun t => (lft_turn_iff (b := b)).symm)

/-- The same rules. -/
theorem ends_same {b : Bool} {g : G} {rs : List R} (hm : ∀ r, r ∈ rs ↔ r ∈ g.rs) {V U : Nat → Nat} (h : IsEnds b g V) (k : IsEnds b (withR g rs) U) {i : Nat} (hi : i < g.ns.length) : V i = U i :=
  h.eq k hi hi (fun t => ⟨Lft.mono (fun r hr => (hm r).2 hr), Lft.mono (fun r hr => (hm r).1 hr)⟩)

/-- Fewer rules. -/
theorem ends_less {b : Bool} {g : G} {rs : List R} (hm : ∀ r ∈ rs, r ∈ g.rs) {V U : Nat → Nat} (h : IsEnds b g V) (k : IsEnds b (withR g rs) U) {i : Nat} (hi : i < g.ns.length) : ∀ t, (U i).testBit t = true → (V i).testBit t = true := fun t ht => by
  rw [(h i hi).2]
  exact Lft.mono hm (((k i hi).2 t).1 ht)

theorem andNot_zero {a b : Nat} (ha : a < 1152921504606846976) (hb : b < 1152921504606846976) (h : ∀ t, a.testBit t = true → b.testBit t = true) : bits .andNot .u64 (a : Int) (b : Int) = 0 := by
  rw [u64_andNot (a : Int) (b : Int) (by omega) (by omega) (by omega) (by omega)]
  have e : a &&& (18446744073709551615 - b) = 0 := by
    apply Nat.eq_of_testBit_eq
    intro t
    rw [Nat.testBit_and, Nat.zero_testBit]
    cases hat : a.testBit t with
    | false => rfl
    | true =>
      have hbt := h t hat
      have e2 : (18446744073709551615 - b) = 2 ^ 64 - (b + 1) := by omega
      rw [e2, Nat.testBit_two_pow_sub_succ (by omega), hbt]
      simp
  simp only [Int.toNat_natCast]
  rw [e]
  rfl

theorem okR_turn {r : R} (h : okR r) : okR (turn r) := ⟨h.1, fun x hx => h.2.1 x (by simpa [turn] using hx), by simpa [turn] using h.2.2⟩
theorem ok_with {g : G} (h : okG g) {rs : List R} (hl : rs.length ≤ 1125899906842624) (hr : ∀ r ∈ rs, okR r) : okG (withR g rs) := ⟨h.1, h.2.1, hl, h.2.2.2.1, hr, h.2.2.2.2.2⟩
theorem ok_turn {g : G} (h : okG g) : okG (turnG g) := ok_with h (by simpa using h.2.2.1) (fun r hr => by
  obtain ⟨r', hr', rfl⟩ := List.mem_map.1 hr
  exact okR_turn (h.2.2.2.2.1 r' hr'))

end Go.Proofs.YtffdnpjkcchmnaaDoor.EndsTurn
