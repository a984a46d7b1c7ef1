/-
  The mathematics of turned grammars and of reasons.
-/
import Derived.Test.YtpdkjblmpgmcjaaGreatDoorEndsConcats
import Derived.Test.YtpdkjblmpgmcjaaGreatDoorEndsChain
import Derived.Test.YtpdkjblmpgmcjaaGreatDoorGramLessMath
import Derived.Test.YtpdkjblmpgmcjaaGreatDoorBaseMath
import Derived.Test.YtpdkjblmpgmcjaaGreatDoorMatrixKeep
namespace Go.Proofs.YtpdkjblmpgmcjaaGreatDoor.EndsMath
open Go.Proofs.YtpdkjblmpgmcjaaGreatDoor.GramMath
set_option linter.unusedVariables false

/-- Rules that lead from a nonterminal to another. -/
def WayN (b : Bool) (rs : List R) (n : Nat) (y : Wy) : Prop :=
  ∃ N : Nat → Nat, N 0 = n ∧ N y.rules.length = y.to ∧ ∀ i, i < y.rules.length → ∃ (k : Nat) (r : R), y.rules[i]? = some (k : Int) ∧ rs[k]? = some r ∧ r.left = (N i : Int) ∧ ldO b r = some (N (i + 1))

/-- A chain. -/
def IsCh (b : Bool) (rs : List R) (n t : Nat) (c : List Int) : Prop :=
  ∃ N : Nat → Nat, N 0 = n ∧ ∀ i, i < c.length → ∃ (k : Nat) (r : R), c[i]? = some (k : Int) ∧ rs[k]? = some r ∧ r.left = (N i : Int) ∧ (i + 1 = c.length → shO b r = some t) ∧ (i + 1 < c.length → ldO b r = some (N (i + 1)))

theorem WayN.add {b : Bool} {rs : List R} {n : Nat} {y : Wy} (h : WayN b rs n y) {k : Nat} {r : R} {m : Nat} (hk : rs[k]? = some r) (hl : r.left = (y.to : Int)) (hd : ldO b r = some m) : WayN b rs n ⟨y.rules ++ [(k : Int)], m⟩ := by
  obtain ⟨N, h0, h1, h2⟩ := h
  refine ⟨fun j => if j ≤ y.rules.length then N j else m, by simp [h0], by show (if (y.rules ++ [(k : Int)]).length ≤ y.rules.length then _ else m) = m; rw [if_neg (by simp)], fun i hi => ?_⟩
  simp only [List.length_append, List.length_cons, List.length_nil] at hi
  by_cases e : i < y.rules.length
  · obtain ⟨k', r', a1, a2, a3, a4⟩ := h2 i e
    refine ⟨k', r', by rw [List.getElem?_append_left e]; exact a1, a2, ?_, ?_⟩
    · dsimp only; rw [if_pos (by omega)]; exact a3
    · dsimp only; rw [if_pos (by omega)]; exact a4
  · obtain rfl : i = y.rules.length := by omega
    refine ⟨k, r, by simp, hk, ?_, ?_⟩
    · dsimp only; rw [if_pos (by omega), h1]; exact hl
    · dsimp only; rw [if_neg (by omega)]; exact hd

theorem WayN.ch {b : Bool} {rs : List R} {n t : Nat} {y : Wy} (h : WayN b rs n y) {k : Nat} {r : R} (hk : rs[k]? = some r) (hl : r.left = (y.to : Int)) (hs : shO b r = some t) : IsCh b rs n t (y.rules ++ [(k : Int)]) := by
  obtain ⟨N, h0, h1, h2⟩ := h
  refine ⟨N, h0, fun i hi => ?_⟩
  simp only [List.length_append, List.length_cons, List.length_nil] at hi ⊢
  by_cases e : i < y.rules.length
  · obtain ⟨k', r', a1, a2, a3, a4⟩ := h2 i e
    exact ⟨k', r', by rw [List.getElem?_append_left e]; exact a1, a2, a3, fun h => by omega, fun _ => a4⟩
  · obtain rfl : i = y.rules.length := by omega
    exact ⟨k, r, by simp, hk, by rw [h1]; exact hl, fun _ => hs, fun h => by omega⟩

theorem IsCh.lft {b : Bool} {rs : List R} {n t : Nat} {c : List Int} (h : IsCh b rs n t c) (hc : 0 < c.length) : Lft b rs n t := by
  obtain ⟨N, h0, h2⟩ := h
  have key : ∀ d i, i + d + 1 = c.length → Lft b rs (N i) t := by
    intro d
    induction d with
    | zero =>
      intro i hi
      obtain ⟨k, r, _, a2, a3, a4, _⟩ := h2 i (by omega)
      have := Lft.shows (b := b) (List.mem_of_getElem? a2) (a4 (by omega))
      rwa [a3, Int.toNat_natCast] at this
    | succ d ih =>
      intro i hi
      obtain ⟨k, r, _, a2, a3, _, a5⟩ := h2 i (by omega)
      have := Lft.leads (b := b) (List.mem_of_getElem? a2) (a5 (by omega)) (ih (i + 1) (by omega))
      rwa [a3, Int.toNat_natCast] at this
  have := key (c.length - 1) 0 (by omega)
  rwa [h0] at this

theorem hitR_at {b : Bool} {t : Nat} {l : List Int} {m : Nat} {c : List Int} : ∀ {rs : List R} {k : Nat}, hitR b t l m k rs = some c → ∃ (j : Nat) (r : R), rs[j]? = some r ∧ r.left = (m : Int) ∧ shO b r = some t ∧ c = l ++ [((k + j : Nat) : Int)]
  | [], _, h => by cases h
  | r :: rs, k, h => by
    unfold hitR at h
    split at h
    · rename_i hx
      cases h
      exact ⟨0, r, rfl, hx.1, hx.2, rfl⟩
    · obtain ⟨j, r', a1, a2, a3, a4⟩ := hitR_at h
      exact ⟨j + 1, r', a1, a2, a3, by rw [a4, show k + 1 + j = k + (j + 1) by omega]⟩
theorem hitR_no {b : Bool} {t : Nat} {l : List Int} {m : Nat} : ∀ {rs : List R} {k : Nat}, hitR b t l m k rs = none → ∀ r ∈ rs, r.left = (m : Int) → shO b r ≠ some t
  | [], _, _, r, hr => by cases hr
  | x :: rs, k, h, r, hr => by
    unfold hitR at h
    split at h
    · cases h
    · rename_i hx
      rcases List.mem_cons.1 hr with rfl | hr
      · exact fun h1 h2 => hx ⟨h1, h2⟩
      · exact hitR_no h r hr
theorem hitW_at {b : Bool} {t : Nat} {rs : List R} {c : List Int} : ∀ {ys : List Wy}, hitW b t rs ys = some c → ∃ y ∈ ys, hitR b t y.rules y.to 0 rs = some c
  | [], h => by cases h
  | y :: ys, h => by
    unfold hitW at h
    cases hy : hitR b t y.rules y.to 0 rs with
    | some d => rw [hy] at h; cases h; exact ⟨y, by simp, hy⟩
    | none =>
      rw [hy] at h
      obtain ⟨z, hz, h2⟩ := hitW_at h
      exact ⟨z, List.mem_cons_of_mem _ hz, h2⟩
theorem hitW_no {b : Bool} {t : Nat} {rs : List R} : ∀ {ys : List Wy}, hitW b t rs ys = none → ∀ y ∈ ys, hitR b t y.rules y.to 0 rs = none
  | [], _, y, hy => by cases hy
  | x :: ys, h, y, hy => by
    unfold hitW at h
    cases hx : hitR b t x.rules x.to 0 rs with
    | some d => rw [hx] at h; cases h
    | none =>
      rw [hx] at h
      rcases List.mem_cons.1 hy with rfl | hy
      · exact hx
      · exact hitW_no h y hy

theorem one_all {b : Bool} {l : List Int} {m k : Nat} {r : R} {s : St} {P : Wy → Prop} (h : ∀ y ∈ s.nx, P y) (hn : ∀ tq, r.left = (m : Int) → ldO b r = some tq → P ⟨l ++ [(k : Int)], tq⟩) : ∀ y ∈ (one b l m k r s).nx, P y := by
  unfold one
  split
  · rename_i hl
    split
    · rename_i tq hto
      split
      · exact h
      · intro y hy
        rcases List.mem_append.1 hy with hy | hy
        · exact h y hy
        · obtain rfl : y = _ := by simpa using hy
          exact hn _ hl hto
    · exact h
  · exact h
theorem goR_all {b : Bool} {l : List Int} {m : Nat} {P : Wy → Prop} : ∀ {rs : List R} {k : Nat} {s : St}, (∀ y ∈ s.nx, P y) → (∀ (j : Nat) r tq, rs[j]? = some r → r.left = (m : Int) → ldO b r = some tq → P ⟨l ++ [((k + j : Nat) : Int)], tq⟩) → ∀ y ∈ (goR b l m k rs s).nx, P y
  | [], _, _, h, _ => h
  | r :: rs, k, s, h, hn => goR_all (rs := rs) (one_all h (fun tq h1 h2 => hn 0 r tq rfl h1 h2)) (fun j r' tq h1 h2 h3 => by
    have := hn (j + 1) r' tq h1 h2 h3
    rwa [show k + (j + 1) = k + 1 + j by omega] at this)
theorem goW_all {b : Bool} {rs : List R} {P : Wy → Prop} : ∀ {ys : List Wy} {s : St}, (∀ y ∈ s.nx, P y) → (∀ y ∈ ys, ∀ (j : Nat) r tq, rs[j]? = some r → r.left = (y.to : Int) → ldO b r = some tq → P ⟨y.rules ++ [(j : Int)], tq⟩) → ∀ y ∈ (goW b rs ys s).nx, P y
  | [], _, h, _ => h
  | y :: ys, s, h, hn => goW_all (ys := ys) (goR_all h (fun j r tq h1 h2 h3 => by rw [Nat.zero_add]; exact hn y (by simp) j r tq h1 h2 h3)) (fun z hz => hn z (List.mem_cons_of_mem _ hz))

theorem Search.chain {b : Bool} {t n : Nat} {rs : List R} {ring : List Wy} {S : Nat → Bool} {o : Option (List Int)} (k : Search b t rs ring S o) : (∀ y ∈ ring, WayN b rs n y) → ∀ c, o = some c → IsCh b rs n t c := by
  induction k with
  | none S => intro _ c hc; cases hc
  | hit hh =>
    intro hw c hc
    cases hc
    obtain ⟨y, hy, h2⟩ := hitW_at hh
    obtain ⟨j, r, a1, a2, a3, rfl⟩ := hitR_at h2
    rw [Nat.zero_add]
    exact (hw y hy).ch a1 a2 a3
  | step _ hh _ ih =>
    intro hw c hc
    exact ih (goW_all (fun y hy => by cases hy) (fun y hy j r tq h1 h2 h3 => (hw y hy).add h1 h2 h3)) c hc

theorem FoundE.chain {b : Bool} {rs : List R} {n t : Nat} {c : List Int} (h : FoundE b rs n t (some c)) : IsCh b rs n t c :=
  Search.chain h (fun y hy => by
    obtain rfl : y = ⟨[], n⟩ := by simpa [startW] using hy
    exact ⟨fun _ => n, rfl, rfl, fun i hi => absurd hi (by simp)⟩) c rfl

/-- What was met stays so; what rules lead to is met; who is new stands in the next ring. -/
theorem one_S {b : Bool} {l : List Int} {m k : Nat} {r : R} {s : St} {x : Nat} (h : s.S x = true) : (one b l m k r s).S x = true := by
  unfold one
  split
  · split
    · split
      · exact h
      · exact updB_up _ _ _ h
    · exact h
  · exact h
theorem one_to {b : Bool} {l : List Int} {m k : Nat} {r : R} {s : St} {tq : Nat} (hl : r.left = (m : Int)) (hd : ldO b r = some tq) : (one b l m k r s).S tq = true := by
  unfold one
  rw [if_pos hl, hd]
  dsimp only
  split
  · assumption
  · exact updB_at _ _
theorem one_new {b : Bool} {l : List Int} {m k : Nat} {r : R} {s : St} {S0 : Nat → Bool} (h : ∀ x, s.S x = true → S0 x = true ∨ ∃ y ∈ s.nx, y.to = x) : ∀ x, (one b l m k r s).S x = true → S0 x = true ∨ ∃ y ∈ (one b l m k r s).nx, y.to = x := by
  unfold one
  split
  · split
    · rename_i tq hto
      split
      · exact h
      · intro x hx
        dsimp only at hx ⊢
        by_cases e : x = tq
        · subst e
          exact .inr ⟨⟨l ++ [(k : Int)], x⟩, List.mem_append_right _ (by simp), rfl⟩
        · rw [updB_ne _ e] at hx
          rcases h x hx with h | ⟨y, hy, h⟩
          · exact .inl h
          · exact .inr ⟨y, List.mem_append_left _ hy, h⟩
    · exact h
  · exact h
theorem goR_S {b : Bool} {l : List Int} {m x : Nat} : ∀ {rs : List R} {k : Nat} {s : St}, s.S x = true → (goR b l m k rs s).S x = true
  | [], _, _, h => h
  | r :: rs, k, s, h => goR_S (rs := rs) (one_S h)
theorem goR_to {b : Bool} {l : List Int} {m : Nat} : ∀ {rs : List R} {k : Nat} {s : St}, ∀ r ∈ rs, r.left = (m : Int) → ∀ tq, ldO b r = some tq → (goR b l m k rs s).S tq = true
  | [], _, _, r, hr, _, _, _ => by cases hr
  | x :: rs, k, s, r, hr, hl, tq, hd => by
    rcases List.mem_cons.1 hr with rfl | hr
    · exact goR_S (rs := rs) (one_to hl hd)
    · exact goR_to (rs := rs) r hr hl tq hd
theorem goR_new {b : Bool} {l : List Int} {m : Nat} {S0 : Nat → Bool} : ∀ {rs : List R} {k : Nat} {s : St}, (∀ x, s.S x = true → S0 x = true ∨ ∃ y ∈ s.nx, y.to = x) → ∀ x, (goR b l m k rs s).S x = true → S0 x = true ∨ ∃ y ∈ (goR b l m k rs s).nx, y.to = x
  | [], _, _, h => h
  | r :: rs, k, s, h => goR_new (rs := rs) (one_new h)
theorem goW_S {b : Bool} {rs : List R} {x : Nat} : ∀ {ys : List Wy} {s : St}, s.S x = true → (goW b rs ys s).S x = true
  | [], _, h => h
  | y :: ys, s, h => goW_S (ys := ys) (goR_S h)
theorem goW_to {b : Bool} {rs : List R} : ∀ {ys : List Wy} {s : St}, ∀ y ∈ ys, ∀ r ∈ rs, r.left = (y.to : Int) → ∀ tq, ldO b r = some tq → (goW b rs ys s).S tq = true
  | [], _, y, hy, _, _, _, _, _ => by cases hy
  | z :: ys, s, y, hy, r, hr, hl, tq, hd => by
    rcases List.mem_cons.1 hy with rfl | hy
    · exact goW_S (ys := ys) (goR_to r hr hl tq hd)
    · exact goW_to (ys := ys) y hy r hr hl tq hd
theorem goW_new {b : Bool} {rs : List R} {S0 : Nat → Bool} : ∀ {ys : List Wy} {s : St}, (∀ x, s.S x = true → S0 x = true ∨ ∃ y ∈ s.nx, y.to = x) → ∀ x, (goW b rs ys s).S x = true → S0 x = true ∨ ∃ y ∈ (goW b rs ys s).nx, y.to = x
  | [], _, h => h
  | y :: ys, s, h => goW_new (ys := ys) (goR_new h)

/-- A nonterminal that was done: its rules do not show the terminal, and lead to what was met. -/
def DoneE (b : Bool) (t : Nat) (rs : List R) (S : Nat → Bool) (x : Nat) : Prop := ∀ r ∈ rs, r.left = (x : Int) → shO b r ≠ some t ∧ ∀ m, ldO b r = some m → S m = true

theorem Search.none_no {b : Bool} {t : Nat} {rs : List R} (hl : ∀ r ∈ rs, 0 ≤ r.left) {ring : List Wy} {S : Nat → Bool} {o : Option (List Int)} (k : Search b t rs ring S o) : o = Option.none → (∀ x, S x = true → (∃ y ∈ ring, y.to = x) ∨ DoneE b t rs S x) → ∀ x, S x = true → ¬ Lft b rs x t := by
  induction k with
  | none S =>
    intro _ hI
    have key : ∀ {x u : Nat}, Lft b rs x u → u = t → S x = true → False := by
      intro x u hL
      induction hL with
      | shows hr h =>
        rintro rfl hx
        rcases hI _ hx with ⟨y, hy, _⟩ | hd
        · cases hy
        · exact (hd _ hr (by have := hl _ hr; omega)).1 h
      | leads hr h _ ih =>
        rintro rfl hx
        rcases hI _ hx with ⟨y, hy, _⟩ | hd
        · cases hy
        · exact ih rfl ((hd _ hr (by have := hl _ hr; omega)).2 _ h)
    exact fun x hx hL => key hL rfl hx
  | hit hh => intro h; cases h
  | @step ring S o hne hh _ ih =>
    intro ho hI x hx
    refine ih ho (fun z hz => ?_) x (goW_S hx)
    rcases goW_new (S0 := S) (fun x hx => .inl hx) z hz with hz | ⟨y, hy, h⟩
    · right
      rcases hI z hz with ⟨y, hy, rfl⟩ | hd
      · intro r hr hrl
        exact ⟨hitR_no (hitW_no hh y hy) r hr hrl, fun m hm => goW_to y hy r hr hrl m hm⟩
      · intro r hr hrl
        exact ⟨(hd r hr hrl).1, fun m hm => goW_S ((hd r hr hrl).2 m hm)⟩
    · exact .inl ⟨y, hy, h⟩

theorem FoundE.none_no {b : Bool} {g : G} (hg : GoodG g) {n t : Nat} (h : FoundE b g.rs n t none) : ¬ Lft b g.rs n t :=
  Search.none_no (fun r hr => (left_lt hg hr).1) h rfl (fun x hx => by
    left
    refine ⟨⟨[], n⟩, by simp [startW], ?_⟩
    by_cases e : x = n
    · exact e.symm
    · unfold startS at hx
      rw [updB_ne _ e] at hx
      cases hx) n (by unfold startS; exact updB_at _ _)

end Go.Proofs.YtpdkjblmpgmcjaaGreatDoor.EndsMath

namespace Go.Proofs.YtpdkjblmpgmcjaaGreatDoor.EndsTurn
open Go.Proofs.YtpdkjblmpgmcjaaGreatDoor.GramMath Go.Proofs.YtpdkjblmpgmcjaaGreatDoor.EndsMath Go.Proofs.YtpdkjblmpgmcjaaGreatDoor.GramLess Go.Proofs.YtpdkjblmpgmcjaaGreatDoor.EndsChain
set_option linter.unusedVariables false

def turn (r : R) : R := ⟨r.left, r.right.reverse⟩
def turnG (g : G) : G := withR g (g.rs.map turn)

theorem vw_turn (b : Bool) (l : List Int) : vw (!b) l.reverse = vw b l := by
  unfold vw
  cases b <;> simp
theorem sh_turn (b : Bool) (r : R) : shO (!b) (turn r) = shO b r := by unfold shO turn; rw [vw_turn]
theorem ld_turn (b : Bool) (r : R) : ldO (!b) (turn r) = ldO b r := by unfold ldO turn; rw [vw_turn]

theorem lft_turn {b : Bool} {rs : List R} {n t : Nat} (h : Lft b rs n t) : Lft (!b) (rs.map turn) n t := by
  induction h with
  | @shows r t hr h => exact Lft.shows (r := turn r) (List.mem_map_of_mem hr) (by rw [sh_turn]; exact h)
  | @leads r m t hr h _ ih => exact Lft.leads (r := turn r) (List.mem_map_of_mem hr) (by rw [ld_turn]; exact h) ih
theorem turn_turn (rs : List R) : (rs.map turn).map turn = rs := by
  rw [List.map_map]
  have : turn ∘ turn = id := by
    funext r
    cases r
    simp [turn]
  rw [this, List.map_id]
theorem lft_turn_iff {b : Bool} {rs : List R} {n t : Nat} : Lft (!b) (rs.map turn) n t ↔ Lft b rs n t := by
  constructor
  · intro h
    have := lft_turn h
    rwa [turn_turn, Bool.not_not] at this
  · exact lft_turn

theorem hitR_turn (b : Bool) (t : Nat) (l : List Int) (m : Nat) : ∀ (rs : List R) (k : Nat), hitR (!b) t l m k (rs.map turn) = hitR b t l m k rs
  | [], _ => rfl
  | r :: rs, k => by
    show hitR (!b) t l m k (turn r :: rs.map turn) = _
    unfold hitR
    rw [sh_turn, hitR_turn b t l m rs (k + 1)]
    rfl
theorem hitW_turn (b : Bool) (t : Nat) (rs : List R) : ∀ ys : List Wy, hitW (!b) t (rs.map turn) ys = hitW b t rs ys
  | [] => rfl
  | y :: ys => by
    unfold hitW
    rw [hitR_turn, hitW_turn b t rs ys]
theorem one_turn (b : Bool) (l : List Int) (m k : Nat) (r : R) (s : St) : one (!b) l m k (turn r) s = one b l m k r s := by
  unfold one
  rw [ld_turn]
  rfl
theorem goR_turn (b : Bool) (l : List Int) (m : Nat) : ∀ (rs : List R) (k : Nat) (s : St), goR (!b) l m k (rs.map turn) s = goR b l m k rs s
  | [], _, _ => rfl
  | r :: rs, k, s => by
    show goR (!b) l m (k + 1) (rs.map turn) (one (!b) l m k (turn r) s) = goR b l m (k + 1) rs (one b l m k r s)
    rw [one_turn, goR_turn b l m rs (k + 1)]
theorem goW_turn (b : Bool) (rs : List R) : ∀ (ys : List Wy) (s : St), goW (!b) (rs.map turn) ys s = goW b rs ys s
  | [], _ => rfl
  | y :: ys, s => by
    show goW (!b) (rs.map turn) ys (goR (!b) y.rules y.to 0 (rs.map turn) s) = goW b rs ys (goR b y.rules y.to 0 rs s)
    rw [goR_turn, goW_turn b rs ys]
theorem search_turn {b : Bool} {t : Nat} {rs : List R} {ring : List Wy} {S : Nat → Bool} {o : Option (List Int)} (h : Search b t rs ring S o) : Search (!b) t (rs.map turn) ring S o := by
  induction h with
  | none S => exact .none S
  | hit h => exact .hit (by rw [hitW_turn]; exact h)
  | step hne h _ ih =>
    refine .step hne (by rw [hitW_turn]; exact h) ?_
    rw [goW_turn]
    exact ih

theorem ruleK_turn (t n : Nat) (r : R) : ruleK t n (turn r) = ruleK t n r := by
  unfold ruleK turn
  simp

theorem check_rules {g : G} (h : GoodG g) {rs : List R} (hl : rs.length ≤ 120) (ha : ∀ r ∈ rs, ruleK g.ts.length g.ns.length r = 0) : checkG (withR g rs) = (0, none) := by
  rw [check_with h, if_neg (by omega), rulesK_all ha]
theorem check_turn {g : G} (h : GoodG g) : checkG (turnG g) = (0, none) := by
  have := h.rules
  refine check_rules h (by simpa using this) (fun r hr => ?_)
  obtain ⟨r', hr', rfl⟩ := List.mem_map.1 hr
  rw [ruleK_turn]
  exact h.each r' hr'

theorem chainR_turn {g : G} (h0 : (checkG g).1 = 0) {n t : Int} {z : Nat × Option Nat} {o : Option (List Int)} (h : ChainR g n t false z o) : ChainR (turnG g) n t true z o := by
  have hg := good_of h0
  have hc : (checkG (turnG g)).1 = 0 := by rw [check_turn hg]
  rcases h with ⟨a1, _⟩ | ⟨_, a2, rfl, rfl⟩ | ⟨_, a2, a3, rfl⟩
  · exact absurd h0 a1
  · exact .inr (.inl ⟨hc, a2, rfl, rfl⟩)
  · exact .inr (.inr ⟨hc, a2, search_turn (b := false) a3, rfl⟩)

theorem ends_turn {b : Bool} {g : G} {V U : Nat → Nat} (h : IsEnds b g V) (k : IsEnds (!b) (turnG g) U) {i : Nat} (hi : i < g.ns.length) : V i = U i :=
  h.eq k hi hi (fun t => (lft_turn_iff (b := b)).symm)

/-- The same rules. -/
theorem ends_same {b : Bool} {g : G} {rs : List R} (hm : ∀ r, r ∈ rs ↔ r ∈ g.rs) {V U : Nat → Nat} (h : IsEnds b g V) (k : IsEnds b (withR g rs) U) {i : Nat} (hi : i < g.ns.length) : V i = U i :=
  h.eq k hi hi (fun t => ⟨Lft.mono (fun r hr => (hm r).2 hr), Lft.mono (fun r hr => (hm r).1 hr)⟩)

/-- Fewer rules. -/
theorem ends_less {b : Bool} {g : G} {rs : List R} (hm : ∀ r ∈ rs, r ∈ g.rs) {V U : Nat → Nat} (h : IsEnds b g V) (k : IsEnds b (withR g rs) U) {i : Nat} (hi : i < g.ns.length) : ∀ t, (U i).testBit t = true → (V i).testBit t = true := fun t ht => by
  rw [(h i hi).2]
  exact Lft.mono hm (((k i hi).2 t).1 ht)

theorem andNot_zero {a b : Nat} (ha : a < 1152921504606846976) (hb : b < 1152921504606846976) (h : ∀ t, a.testBit t = true → b.testBit t = true) : bits .andNot .u64 (a : Int) (b : Int) = 0 := by
  rw [u64_andNot (a : Int) (b : Int) (by omega) (by omega) (by omega) (by omega)]
  have e : a &&& (18446744073709551615 - b) = 0 := by
    apply Nat.eq_of_testBit_eq
    intro t
    rw [Nat.testBit_and, Nat.zero_testBit]
    cases hat : a.testBit t with
    | false => rfl
    | true =>
      have hbt := h t hat
      have e2 : (18446744073709551615 - b) = 2 ^ 64 - (b + 1) := by omega
      rw [e2, Nat.testBit_two_pow_sub_succ (by omega), hbt]
      simp
  simp only [Int.toNat_natCast]
  rw [e]
  rfl

theorem okR_turn {r : R} (h : okR r) : okR (turn r) := ⟨h.1, fun x hx => h.2.1 x (by simpa [turn] using hx), by simpa [turn] using h.2.2⟩
theorem ok_with {g : G} (h : okG g) {rs : List R} (hl : rs.length ≤ 1125899906842624) (hr : ∀ r ∈ rs, okR r) : okG (withR g rs) := ⟨h.1, h.2.1, hl, h.2.2.2.1, hr, h.2.2.2.2.2⟩
theorem ok_turn {g : G} (h : okG g) : okG (turnG g) := ok_with h (by simpa using h.2.2.1) (fun r hr => by
  obtain ⟨r', hr', rfl⟩ := List.mem_map.1 hr
  exact okR_turn (h.2.2.2.2.1 r' hr'))

end Go.Proofs.YtpdkjblmpgmcjaaGreatDoor.EndsTurn

namespace Go.Proofs.YtpdkjblmpgmcjaaGreatDoor.MatrixTurn
open Go.Proofs.YtpdkjblmpgmcjaaGreatDoor.GramMath Go.Proofs.YtpdkjblmpgmcjaaGreatDoor.EndsMath Go.Proofs.YtpdkjblmpgmcjaaGreatDoor.GramLess Go.Proofs.YtpdkjblmpgmcjaaGreatDoor.EndsTurn Go.Proofs.YtpdkjblmpgmcjaaGreatDoor.MatrixMath
set_option linter.unusedVariables false

theorem RelAt.mono {g g' : G} (h : ∀ b n t, Lft b g.rs n t → Lft b g'.rs n t) {l : List Int} {k : Nat} {x a b : Int} (hr : RelAt g l k x a b) : RelAt g' l k x a b := by
  cases hr with
  | yields h0 hk hn hb0 hb => exact .yields h0 hk hn hb0 (h _ _ _ hb)
  | equal h0 hk hb0 hb => exact .equal h0 hk hb0 hb
  | takes h0 hk hn ha0 ha => exact .takes h0 hk hn ha0 (h _ _ _ ha)

theorem rel_cases {g : G} {x a b : Int} : Rel g x a b ↔ (∃ r ∈ g.rs, ∃ k, k < r.right.length ∧ RelAt g r.right k x a b) ∨ (x = 1 ∧ a = g.ts.length ∧ 0 ≤ b ∧ Lft false g.rs g.ax.toNat b.toNat) ∨ (x = 3 ∧ b = g.ts.length ∧ 0 ≤ a ∧ Lft true g.rs g.ax.toNat a.toNat) := by
  constructor
  · intro h
    cases h with
    | @rule i k x a b hi hk h =>
      obtain ⟨r, hr, _, e⟩ := rightOf_mem hi
      rw [e] at hk h
      exact .inl ⟨r, hr, k, hk, h⟩
    | first hb0 hb => exact .inr (.inl ⟨rfl, rfl, hb0, hb⟩)
    | last ha0 ha => exact .inr (.inr ⟨rfl, rfl, ha0, ha⟩)
  · rintro (⟨r, hr, k, hk, h⟩ | ⟨rfl, rfl, h1, h2⟩ | ⟨rfl, rfl, h1, h2⟩)
    · obtain ⟨i, hi, rfl⟩ := List.getElem_of_mem hr
      have e : rightOf g.rs i = g.rs[i].right := by unfold rightOf; rw [List.getD_eq_getElem?_getD, List.getElem?_eq_getElem hi]; rfl
      exact .rule hi (by rw [e]; exact hk) (by rw [e]; exact h)
    · exact .first h1 h2
    · exact .last h1 h2

theorem rel_less {g : G} {rs : List R} (hm : ∀ r ∈ rs, r ∈ g.rs) {x a b : Int} (h : Rel (withR g rs) x a b) : Rel g x a b := by
  have hl : ∀ b n t, Lft b (withR g rs).rs n t → Lft b g.rs n t := fun b n t h => Lft.mono hm h
  rcases rel_cases.1 h with ⟨r, hr, k, hk, h⟩ | ⟨h1, h2, h3, h4⟩ | ⟨h1, h2, h3, h4⟩
  · exact rel_cases.2 (.inl ⟨r, hm r hr, k, hk, RelAt.mono hl h⟩)
  · exact rel_cases.2 (.inr (.inl ⟨h1, h2, h3, hl _ _ _ h4⟩))
  · exact rel_cases.2 (.inr (.inr ⟨h1, h2, h3, hl _ _ _ h4⟩))
theorem rel_more {g : G} {rs : List R} (hm : ∀ r ∈ g.rs, r ∈ rs) {x a b : Int} (h : Rel g x a b) : Rel (withR g rs) x a b := by
  have hl : ∀ b n t, Lft b g.rs n t → Lft b (withR g rs).rs n t := fun b n t h => Lft.mono hm h
  rcases rel_cases.1 h with ⟨r, hr, k, hk, h⟩ | ⟨h1, h2, h3, h4⟩ | ⟨h1, h2, h3, h4⟩
  · exact rel_cases.2 (.inl ⟨r, hm r hr, k, hk, RelAt.mono hl h⟩)
  · exact rel_cases.2 (.inr (.inl ⟨h1, h2, h3, hl _ _ _ h4⟩))
  · exact rel_cases.2 (.inr (.inr ⟨h1, h2, h3, hl _ _ _ h4⟩))
theorem rel_same {g : G} {rs : List R} (hm : ∀ r, r ∈ rs ↔ r ∈ g.rs) {x a b : Int} : Rel g x a b ↔ Rel (withR g rs) x a b :=
  ⟨rel_more (fun r hr => (hm r).2 hr), rel_less (fun r hr => (hm r).1 hr)⟩

theorem getD_rev {l : List Int} {k : Nat} (hk : k < l.length) : l.reverse.getD k 0 = l.getD (l.length - 1 - k) 0 := by
  rw [List.getD_eq_getElem?_getD, List.getD_eq_getElem?_getD, List.getElem?_reverse hk]

/-- The relation turned about. -/
def flip (x : Int) : Int := 4 - x

theorem at_turn {g g' : G} (hl : ∀ b n t, Lft b g.rs n t → Lft (!b) g'.rs n t) {l : List Int} {k : Nat} {x a b : Int} (hk : k < l.length) (h : RelAt g l k x a b) : ∃ j, j < l.reverse.length ∧ RelAt g' l.reverse j (flip x) b a := by
  have hlen : l.reverse.length = l.length := List.length_reverse
  cases h with
  | @yields n b h0 hk1 hn hb0 hb =>
    have e1 : l.reverse.getD (l.length - 1 - k) 0 = l.getD k 0 := by rw [getD_rev (by omega), show l.length - 1 - (l.length - 1 - k) = k by omega]
    have e2 : l.reverse.getD (l.length - 1 - k - 1) 0 = l.getD (k + 1) 0 := by rw [getD_rev (by omega), show l.length - 1 - (l.length - 1 - k - 1) = k + 1 by omega]
    refine ⟨l.length - 1 - k, by omega, ?_⟩
    have := RelAt.takes (g := g') (l := l.reverse) (k := l.length - 1 - k) (n := n) (a := b) (by rw [e1]; exact h0) (by omega) (by rw [e2]; exact hn) hb0 (hl _ _ _ hb)
    rw [e1] at this
    exact this
  | @takes n a h0 hk1 hn ha0 ha =>
    have e1 : l.reverse.getD (l.length - 1 - k) 0 = l.getD k 0 := by rw [getD_rev (by omega), show l.length - 1 - (l.length - 1 - k) = k by omega]
    have e2 : l.reverse.getD (l.length - 1 - k + 1) 0 = l.getD (k - 1) 0 := by rw [getD_rev (by omega), show l.length - 1 - (l.length - 1 - k + 1) = k - 1 by omega]
    refine ⟨l.length - 1 - k, by omega, ?_⟩
    have := RelAt.yields (g := g') (l := l.reverse) (k := l.length - 1 - k) (n := n) (b := a) (by rw [e1]; exact h0) (by omega) (by rw [e2]; exact hn) ha0 (hl _ _ _ ha)
    rw [e1] at this
    exact this
  | @equal b h0 hk1 hb0 hb =>
    subst hb
    by_cases hB : behB l k
    · have e : eqK l k = k + 2 := by unfold eqK; rw [if_pos hB]
      rw [e] at hk1 hb0 ⊢
      have e1 : l.reverse.getD (l.length - 1 - (k + 2)) 0 = l.getD (k + 2) 0 := by rw [getD_rev (by omega), show l.length - 1 - (l.length - 1 - (k + 2)) = k + 2 by omega]
      have e2 : l.reverse.getD (l.length - 1 - (k + 2) + 1) 0 = l.getD (k + 1) 0 := by rw [getD_rev (by omega), show l.length - 1 - (l.length - 1 - (k + 2) + 1) = k + 1 by omega]
      have e3 : l.reverse.getD (l.length - 1 - (k + 2) + 2) 0 = l.getD k 0 := by rw [getD_rev (by omega), show l.length - 1 - (l.length - 1 - (k + 2) + 2) = k by omega]
      have hB2 : behB l.reverse (l.length - 1 - (k + 2)) := ⟨by omega, by rw [e2]; exact hB.2⟩
      have ek : eqK l.reverse (l.length - 1 - (k + 2)) = l.length - 1 - (k + 2) + 2 := by unfold eqK; rw [if_pos hB2]
      refine ⟨l.length - 1 - (k + 2), by omega, ?_⟩
      have := RelAt.equal (g := g') (l := l.reverse) (k := l.length - 1 - (k + 2)) (b := l.getD k 0) (by rw [e1]; exact hb0) (by rw [ek]; omega) (by rw [ek, e3]; exact h0) (by rw [ek, e3])
      rw [e1] at this
      exact this
    · have e : eqK l k = k + 1 := by unfold eqK; rw [if_neg hB]
      rw [e] at hk1 hb0 ⊢
      have e1 : l.reverse.getD (l.length - 1 - (k + 1)) 0 = l.getD (k + 1) 0 := by rw [getD_rev (by omega), show l.length - 1 - (l.length - 1 - (k + 1)) = k + 1 by omega]
      have e2 : l.reverse.getD (l.length - 1 - (k + 1) + 1) 0 = l.getD k 0 := by rw [getD_rev (by omega), show l.length - 1 - (l.length - 1 - (k + 1) + 1) = k by omega]
      have hB2 : ¬ behB l.reverse (l.length - 1 - (k + 1)) := fun h => by have := h.2; rw [e2] at this; omega
      have ek : eqK l.reverse (l.length - 1 - (k + 1)) = l.length - 1 - (k + 1) + 1 := by unfold eqK; rw [if_neg hB2]
      refine ⟨l.length - 1 - (k + 1), by omega, ?_⟩
      have := RelAt.equal (g := g') (l := l.reverse) (k := l.length - 1 - (k + 1)) (b := l.getD k 0) (by rw [e1]; exact hb0) (by rw [ek]; omega) (by rw [ek, e2]; exact h0) (by rw [ek, e2])
      rw [e1] at this
      exact this

theorem rel_turn1 {g : G} {x a b : Int} (h : Rel g x a b) : Rel (withR g (g.rs.map turn)) (flip x) b a := by
  have hl : ∀ b n t, Lft b g.rs n t → Lft (!b) (withR g (g.rs.map turn)).rs n t := fun b n t h => lft_turn h
  rcases rel_cases.1 h with ⟨r, hr, k, hk, h⟩ | ⟨rfl, h2, h3, h4⟩ | ⟨rfl, h2, h3, h4⟩
  · obtain ⟨j, hj, h5⟩ := at_turn hl hk h
    exact rel_cases.2 (.inl ⟨turn r, List.mem_map_of_mem hr, j, hj, h5⟩)
  · exact rel_cases.2 (.inr (.inr ⟨rfl, h2, h3, hl _ _ _ h4⟩))
  · exact rel_cases.2 (.inr (.inl ⟨rfl, h2, h3, hl _ _ _ h4⟩))

theorem rel_turn {g : G} {x a b : Int} : Rel g x a b ↔ Rel (withR g (g.rs.map turn)) (flip x) b a := by
  constructor
  · exact rel_turn1
  · intro h
    have h2 := rel_turn1 h
    have e : withR (withR g (g.rs.map turn)) ((withR g (g.rs.map turn)).rs.map turn) = g := by
      cases g
      simp only [withR]
      congr 1
      exact turn_turn _
    rw [e, show flip (flip x) = x by unfold flip; omega] at h2
    exact h2

end Go.Proofs.YtpdkjblmpgmcjaaGreatDoor.MatrixTurn

namespace Go.Proofs.YtpdkjblmpgmcjaaGreatDoor.MatrixWhyMath
open Go.Proofs.YtpdkjblmpgmcjaaGreatDoor.GramMath Go.Proofs.YtpdkjblmpgmcjaaGreatDoor.SetsMath Go.Proofs.YtpdkjblmpgmcjaaGreatDoor.UsefulMath Go.Proofs.YtpdkjblmpgmcjaaGreatDoor.MatrixMath Go.Proofs.YtpdkjblmpgmcjaaGreatDoor.MatrixKeep Go.Proofs.YtpdkjblmpgmcjaaGreatDoor.EndsMath Go.Proofs.YtpdkjblmpgmcjaaGreatDoor.EndsChain
set_option linter.unusedVariables false

def InW (g : G) (a b x : Int) : Prop := (0 ≤ a ∧ a ≤ g.ts.length) ∧ (0 ≤ b ∧ b ≤ g.ts.length) ∧ (1 ≤ x ∧ x ≤ 3)

/-- What Why finds, and what is wrong. -/
def WhyR (g : G) (a b x : Int) (z : Nat × Option Nat) (rule at_ : Int) (o : Option (List Int)) : Prop :=
  ((checkG g).1 ≠ 0 ∧ z = checkG g ∧ rule = 0 ∧ at_ = 0 ∧ o = none) ∨
  ((checkG g).1 = 0 ∧ ¬ InW g a b x ∧ z = (1, none) ∧ rule = 0 ∧ at_ = 0 ∧ o = none) ∨
  ((checkG g).1 = 0 ∧ InW g a b x ∧ ∃ VL VR, IsEnds false g VL ∧ IsEnds true g VR ∧
    ((firstF x a b (findsF VL VR g) = none ∧ z = (15, none) ∧ rule = 0 ∧ at_ = 0 ∧ o = none) ∨
     ∃ f, firstF x a b (findsF VL VR g) = some f ∧ z = (0, none) ∧ rule = f.p.rule ∧ at_ = f.p.at_ ∧
       ((x = 2 ∧ o = none) ∨ (x = 1 ∧ ∃ c, o = some c ∧ ChainR g f.p.non b false (0, none) (some c)) ∨ (x = 3 ∧ ∃ c, o = some c ∧ ChainR g f.p.non a true (0, none) (some c)))))

theorem first_in {x a b : Int} {L : List Fnd} {f : Fnd} (h : firstF x a b L = some f) : f ∈ L ∧ f.rel = x ∧ f.a = a ∧ f.b = b := by
  unfold firstF at h
  have h1 := List.mem_of_find?_eq_some h
  have h2 := List.find?_some h
  unfold hitF at h2
  simp at h2
  exact ⟨h1, h2.1.1, h2.1.2, h2.2⟩
theorem first_not {x a b : Int} {L : List Fnd} (h : firstF x a b L = none) : ¬ ∃ f ∈ L, f.rel = x ∧ f.a = a ∧ f.b = b := by
  unfold firstF at h
  rw [List.find?_eq_none] at h
  rintro ⟨f, hf, h1, h2, h3⟩
  exact h f hf (by unfold hitF; simp [h1, h2, h3])

/-- The nonterminal beside a relation that was found. -/
theorem finds_non {g : G} (hg : GoodG g) {VL VR : Nat → Nat} (hL : IsEnds false g VL) (hR : IsEnds true g VR) {f : Fnd} (hf : f ∈ findsF VL VR g) :
    (f.rel = 1 → InG g f.p.non f.b ∧ Lft false g.rs f.p.non.toNat f.b.toNat) ∧ (f.rel = 3 → InG g f.p.non f.a ∧ Lft true g.rs f.p.non.toNat f.a.toNat) := by
  have hax0 := hg.ax0
  have hax1 := hg.ax1
  have hax : g.ax.toNat < g.ns.length := by omega
  unfold findsF endF at hf
  rcases List.mem_append.1 hf with hf | hf
  · rcases List.mem_append.1 hf with hf | hf
    · obtain ⟨h1, h2, h3, h4⟩ := mem_yieldF.1 hf
      obtain ⟨h5, h6⟩ := (ends_has hg hL hax).1 h3
      have := (h6.lt hg).2
      rw [h1, h4]
      exact ⟨fun _ => ⟨⟨hax0, hax1, h5, by omega⟩, h6⟩, fun h => by omega⟩
    · obtain ⟨h1, h2, h3, h4⟩ := mem_takeF.1 hf
      obtain ⟨h5, h6⟩ := (ends_has hg hR hax).1 h3
      have := (h6.lt hg).2
      rw [h1, h4]
      exact ⟨fun h => by omega, fun _ => ⟨⟨hax0, hax1, h5, by omega⟩, h6⟩⟩
  · obtain ⟨i, hi, k, hk, hf⟩ := mem_rulesF.1 hf
    have hsym := fun {j : Nat} (hj : j < (rightOf g.rs i).length) => side_sym hg hi hj
    generalize rightOf g.rs i = l at *
    unfold atF at hf
    split at hf
    · rename_i h0
      unfold aroundF at hf
      rcases List.mem_append.1 hf with hf | hf
      · rcases List.mem_append.1 hf with hf | hf
        · unfold aheadF at hf
          split at hf
          · rename_i hc
            obtain ⟨h1, h2, h3, h4⟩ := mem_takeF.1 hf
            have hs := hsym (j := k - 1) (by omega)
            have hn : (ntAt l (k - 1)).toNat < g.ns.length := by unfold ntAt; omega
            obtain ⟨h5, h6⟩ := (ends_has hg hR hn).1 h3
            have := (h6.lt hg).2
            rw [h1, h4]
            exact ⟨fun h => by omega, fun _ => ⟨⟨by show 0 ≤ ntAt l (k - 1); unfold ntAt; omega, by show ntAt l (k - 1) < _; unfold ntAt; omega, h5, by omega⟩, h6⟩⟩
          · cases hf
        · unfold behF at hf
          split at hf
          · rename_i hc
            obtain ⟨h1, h2, h3, h4⟩ := mem_yieldF.1 hf
            have hc1 := hc.1
            have hc2 := hc.2
            have hs := hsym hc1
            have hn : (ntAt l (k + 1)).toNat < g.ns.length := by unfold ntAt; omega
            obtain ⟨h5, h6⟩ := (ends_has hg hL hn).1 h3
            have := (h6.lt hg).2
            rw [h1, h4]
            exact ⟨fun _ => ⟨⟨by show 0 ≤ ntAt l (k + 1); unfold ntAt; omega, by show ntAt l (k + 1) < _; unfold ntAt; omega, h5, by omega⟩, h6⟩, fun h => by omega⟩
          · cases hf
      · unfold eqF at hf
        split at hf
        · rename_i hc
          obtain rfl := List.mem_singleton.1 hf
          exact ⟨fun h => by simp at h, fun h => by simp at h⟩
        · cases hf
    · cases hf

theorem chain_there {g : G} (h0 : (checkG g).1 = 0) {n t : Int} {b : Bool} (hin : InG g n t) (hl : Lft b g.rs n.toNat t.toNat) {z : Nat × Option Nat} {o : Option (List Int)} (h : ChainR g n t b z o) : z = (0, none) ∧ ∃ c, o = some c := by
  rcases h with ⟨h1, _⟩ | ⟨_, h2, _⟩ | ⟨_, _, hF, rfl⟩
  · exact absurd h0 h1
  · exact absurd hin h2
  · cases o with
    | none => exact absurd hl (FoundE.none_no (good_of h0) hF)
    | some c => exact ⟨rfl, c, rfl⟩

end Go.Proofs.YtpdkjblmpgmcjaaGreatDoor.MatrixWhyMath

namespace Go.Proofs.YtpdkjblmpgmcjaaGreatDoor.MatrixReasonsMath
open Go.Proofs.YtpdkjblmpgmcjaaGreatDoor.GramMath Go.Proofs.YtpdkjblmpgmcjaaGreatDoor.SetsMath Go.Proofs.YtpdkjblmpgmcjaaGreatDoor.UsefulMath Go.Proofs.YtpdkjblmpgmcjaaGreatDoor.MatrixMath Go.Proofs.YtpdkjblmpgmcjaaGreatDoor.MatrixKeep Go.Proofs.YtpdkjblmpgmcjaaGreatDoor.EndsMath Go.Proofs.YtpdkjblmpgmcjaaGreatDoor.EndsChain Go.Proofs.YtpdkjblmpgmcjaaGreatDoor.MatrixWhyMath
set_option linter.unusedVariables false

/-- The symbol at a place. -/
def symI (g : G) (rule at_ : Int) : Int := if 0 ≤ rule ∧ rule < g.rs.length ∧ 0 ≤ at_ ∧ at_ < (rightOf g.rs rule.toNat).length then (rightOf g.rs rule.toNat).getD at_.toNat 0 else g.ts.length

theorem symI_in {g : G} {i k : Nat} (hi : i < g.rs.length) (hk : k < (rightOf g.rs i).length) : symI g i k = (rightOf g.rs i).getD k 0 := by
  unfold symI
  rw [Int.toNat_natCast, Int.toNat_natCast, if_pos ⟨by omega, by omega, by omega, by omega⟩]

/-- What is found at a place. -/
theorem finds_place {g : G} (hg : GoodG g) {VL VR : Nat → Nat} (hL : IsEnds false g VL) (hR : IsEnds true g VR) {f : Fnd} (hf : f ∈ findsF VL VR g) :
    (f.rel = 1 → (f.a = g.ts.length ∧ f.p = ⟨-1, 0, g.ax⟩) ∨ (f.a < g.ts.length ∧ symI g f.p.rule f.p.at_ = f.a ∧ symI g f.p.rule (f.p.at_ + 1) < 0 ∧ -1 - symI g f.p.rule (f.p.at_ + 1) = f.p.non)) ∧
    (f.rel = 2 → symI g f.p.rule f.p.at_ = f.a ∧ ((0 ≤ symI g f.p.rule (f.p.at_ + 1) ∧ symI g f.p.rule (f.p.at_ + 1) = f.b) ∨ (symI g f.p.rule (f.p.at_ + 1) < 0 ∧ symI g f.p.rule (f.p.at_ + 2) = f.b))) ∧
    (f.rel = 3 → (f.b = g.ts.length ∧ f.p = ⟨-1, 0, g.ax⟩) ∨ (f.b < g.ts.length ∧ symI g f.p.rule f.p.at_ = f.b ∧ symI g f.p.rule (f.p.at_ - 1) < 0 ∧ -1 - symI g f.p.rule (f.p.at_ - 1) = f.p.non)) ∧
    (-1 ≤ f.p.rule ∧ f.p.rule < 120) ∧ (0 ≤ f.p.at_ ∧ f.p.at_ < 32) := by
  have h120 := hg.rules
  unfold findsF endF at hf
  rcases List.mem_append.1 hf with hf | hf
  · rcases List.mem_append.1 hf with hf | hf
    · obtain ⟨h1, h2, h3, h4⟩ := mem_yieldF.1 hf
      rw [h1, h2, h4]
      exact ⟨fun _ => .inl ⟨rfl, rfl⟩, fun h => by omega, fun h => by omega, by simp, by simp⟩
    · obtain ⟨h1, h2, h3, h4⟩ := mem_takeF.1 hf
      rw [h1, h2, h4]
      exact ⟨fun h => by omega, fun h => by omega, fun _ => .inl ⟨rfl, rfl⟩, by simp, by simp⟩
  · obtain ⟨i, hi, k, hk, hf⟩ := mem_rulesF.1 hf
    have hsym := fun {j : Nat} (hj : j < (rightOf g.rs i).length) => side_sym hg hi hj
    have hin := fun {j : Nat} (hj : j < (rightOf g.rs i).length) => symI_in hi hj
    obtain ⟨r, hr, _, er⟩ := rightOf_mem hi
    have h32 := (ruleK_ok (hg.each r hr)).1
    rw [← er] at h32
    have hb : (-1 ≤ (i : Int) ∧ (i : Int) < 120) ∧ (0 ≤ (k : Int) ∧ (k : Int) < 32) := by omega
    generalize rightOf g.rs i = l at *
    unfold atF at hf
    split at hf
    · rename_i h0
      unfold aroundF at hf
      rcases List.mem_append.1 hf with hf | hf
      · rcases List.mem_append.1 hf with hf | hf
        · unfold aheadF at hf
          split at hf
          · rename_i hc
            obtain ⟨h1, h2, h3, h4⟩ := mem_takeF.1 hf
            rw [h1, h2, h4]
            have e1 := hin hk
            have e2 := hin (j := k - 1) (by omega)
            have hs := hsym hk
            refine ⟨fun h => by omega, fun h => by omega, fun _ => .inr ⟨hs.2, e1, ?_, ?_⟩, hb⟩
            · show symI g i ((k : Int) - 1) < 0
              rw [show (k : Int) - 1 = ((k - 1 : Nat) : Int) by omega, e2]
              exact hc.2
            · show -1 - symI g i ((k : Int) - 1) = ntAt l (k - 1)
              rw [show (k : Int) - 1 = ((k - 1 : Nat) : Int) by omega, e2]
              rfl
          · cases hf
        · unfold behF at hf
          split at hf
          · rename_i hc
            obtain ⟨h1, h2, h3, h4⟩ := mem_yieldF.1 hf
            rw [h1, h2, h4]
            have e1 := hin hk
            have e2 := hin hc.1
            have hs := hsym hk
            refine ⟨fun _ => .inr ⟨hs.2, e1, ?_, ?_⟩, fun h => by omega, fun h => by omega, hb⟩
            · show symI g i ((k : Int) + 1) < 0
              rw [show (k : Int) + 1 = ((k + 1 : Nat) : Int) by omega, e2]
              exact hc.2
            · show -1 - symI g i ((k : Int) + 1) = ntAt l (k + 1)
              rw [show (k : Int) + 1 = ((k + 1 : Nat) : Int) by omega, e2]
              rfl
          · cases hf
      · unfold eqF at hf
        split at hf
        · rename_i hc
          obtain rfl := List.mem_singleton.1 hf
          have e1 := hin hk
          refine ⟨fun h => by simp at h, fun _ => ⟨e1, ?_⟩, fun h => by simp at h, hb⟩
          by_cases hB : behB l k
          · have e : eqK l k = k + 2 := by unfold eqK; rw [if_pos hB]
            rw [e] at hc ⊢
            right
            refine ⟨?_, ?_⟩
            · show symI g i ((k : Int) + 1) < 0
              rw [show (k : Int) + 1 = ((k + 1 : Nat) : Int) by omega, hin hB.1]
              exact hB.2
            · show symI g i ((k : Int) + 2) = l.getD (k + 2) 0
              rw [show (k : Int) + 2 = ((k + 2 : Nat) : Int) by omega, hin hc.1]
          · have e : eqK l k = k + 1 := by unfold eqK; rw [if_neg hB]
            rw [e] at hc ⊢
            left
            refine ⟨?_, ?_⟩
            · show 0 ≤ symI g i ((k : Int) + 1)
              rw [show (k : Int) + 1 = ((k + 1 : Nat) : Int) by omega, hin hc.1]
              exact hc.2
            · show symI g i ((k : Int) + 1) = l.getD (k + 1) 0
              rw [show (k : Int) + 1 = ((k + 1 : Nat) : Int) by omega, hin hc.1]
        · cases hf
    · cases hf

/-- The end is equal to nothing, takes nothing, and nothing yields to it. -/
theorem rel_end {g : G} (hg : GoodG g) {t : Int} : ¬ Rel g 2 g.ts.length t ∧ ¬ Rel g 3 g.ts.length t ∧ ¬ Rel g 1 t g.ts.length ∧ ¬ Rel g 2 t g.ts.length := by
  have key : ∀ {x a b : Int}, Rel g x a b → (x = 2 → a < g.ts.length ∧ b < g.ts.length) ∧ (x = 3 → a < g.ts.length) ∧ (x = 1 → b < g.ts.length) := by
    intro x a b h
    cases h with
    | @rule i k x a b hi hk h =>
      have hs := side_sym hg hi hk
      cases h with
      | @yields n b h0 hk1 hn hb0 hb =>
        have := (hb.lt hg).2
        exact ⟨fun h => by omega, fun h => by omega, fun _ => by omega⟩
      | @equal b h0 hk1 hb0 hb =>
        have h2 := side_sym hg hi hk1
        exact ⟨fun _ => by omega, fun h => by omega, fun h => by omega⟩
      | @takes n a h0 hk1 hn ha0 ha =>
        have := (ha.lt hg).2
        exact ⟨fun h => by omega, fun _ => by omega, fun h => by omega⟩
    | @first b hb0 hb =>
      have := (hb.lt hg).2
      exact ⟨fun h => by omega, fun h => by omega, fun _ => by omega⟩
    | @last a ha0 ha =>
      have := (ha.lt hg).2
      exact ⟨fun h => by omega, fun _ => by omega, fun h => by omega⟩
  exact ⟨fun h => by have := (key h).1 rfl; omega, fun h => by have := (key h).2.1 rfl; omega, fun h => by have := (key h).2.2 rfl; omega, fun h => by have := (key h).1 rfl; omega⟩

end Go.Proofs.YtpdkjblmpgmcjaaGreatDoor.MatrixReasonsMath
