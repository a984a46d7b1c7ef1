/-
  Texts that stand together: MatrixTurnM, MatrixRMath.
-/
import Derived.Test.YtigepihinflkdaaGreatDoorBEndsConcats
import Derived.Test.YtigepihinflkdaaGreatDoorBagEndsSearch
import Derived.Test.YtigepihinflkdaaGreatDoorBagGramLessMath
import Derived.Test.YtigepihinflkdaaGreatDoorBBaseMath
import Derived.Test.YtigepihinflkdaaGreatDoorBagPrecAwake3
namespace Go.Proofs.YtigepihinflkdaaGreatDoor.EndsMath
open Go.Proofs.YtigepihinflkdaaGreatDoor.GramMath
set_option linter.unusedVariables false

/-- Rules that lead from a nonterminal to another. -/
def WayN (b : Bool) (rs : List R) (n : Nat) (y : Wy) : Prop :=
  ∃ N : Nat → Nat, N 0 = n ∧ N y.rules.length = y.to ∧ ∀ i, i < y.rules.length → ∃ (k : Nat) (r : R), y.rules[i]? = some (k : Int) ∧ rs[k]? = some r ∧ r.left = (N i : Int) ∧ ldO b r = some (N (i + 1))

/-- A chain. -/
def IsCh (b : Bool) (rs : List R) (n t : Nat) (c : List Int) : Prop :=
  ∃ N : Nat → Nat, N 0 = n ∧ ∀ i, i < c.length → ∃ (k : Nat) (r : R), c[i]? = some (k : Int) ∧ rs[k]? = some r ∧ r.left = (N i : Int) ∧ (i + 1 = c.length → shO b r = some t) ∧ (i + 1 < c.length → ldO b r = some (N (i + 1)))

theorem WayN.add {b : Bool} {rs : List R} {n : Nat} {y : Wy} (h : WayN b rs n y) {k : Nat} {r : R} {m : Nat} (hk : rs[k]? = some r) (hl : r.left = (y.to : Int)) (hd : ldO b r = some m) : WayN b rs n ⟨y.rules ++ [(k : Int)], m⟩ := by
  obtain ⟨N, h0, h1, h2⟩ := h
  refine ⟨fun j => if j ≤ y.rules.length then N j else m, by simp [h0], by show (if (y.rules ++ [(k : Int)]).length ≤ y.rules.length then _ else m) = m; rw [if_neg (by simp)], fun i hi => ?_⟩
  simp only [List.length_append, List.length_cons, List.length_nil] at hi
  by_cases e : i < y.rules.length
  · obtain ⟨k', r', a1, a2, a3, a4⟩ := h2 i e
    refine ⟨k', r', by rw [List.getElem?_append_left e]; exact a1, a2, ?_, ?_⟩
    · dsimp only; rw [if_pos (by omega)]; exact a3
    · dsimp only; rw [if_pos (by omega)]; exact a4
  · obtain rfl : i = y.rules.length := by omega
    refine ⟨k, r, by simp, hk, ?_, ?_⟩
    · dsimp only; rw [if_pos (by omega), h1]; exact hl
    · dsimp only; rw [if_neg (by omega)]; exact hd

theorem WayN.ch {b : Bool} {rs : List R} {n t : Nat} {y : Wy} (h : WayN b rs n y) {k : Nat} {r : R} (hk : rs[k]? = some r) (hl : r.left = (y.to : Int)) (hs : shO b r = some t) : IsCh b rs n t (y.rules ++ [(k : Int)]) := by
  obtain ⟨N, h0, h1, h2⟩ := h
  refine ⟨N, h0, fun i hi => ?_⟩
  simp only [List.length_append, List.length_cons, List.length_nil] at hi ⊢
  by_cases e : i < y.rules.length
  · obtain ⟨k', r', a1, a2, a3, a4⟩ := h2 i e
    exact ⟨k', r', by rw [List.getElem?_append_left e]; exact a1, a2, a3, fun h => by omega, fun _ => a4⟩
  · obtain rfl : i = y.rules.length := by omega
    exact ⟨k, r, by simp, hk, by rw [h1]; exact hl, fun _ => hs, fun h => by omega⟩

theorem IsCh.lft {b : Bool} {rs : List R} {n t : Nat} {c : List Int} (h : IsCh b rs n t c) (hc : 0 < c.length) : Lft b rs n t := by
  obtain ⟨N, h0, h2⟩ := h
  have key : ∀ d i, i + d + 1 = c.length → Lft b rs (N i) t := by
    intro d
    induction d with
    | zero =>
      intro i hi
      obtain ⟨k, r, _, a2, a3, a4, _⟩ := h2 i (by omega)
      have := Lft.shows (b := b) (List.mem_of_getElem? a2) (a4 (by omega))
      rwa [a3, Int.toNat_natCast] at this
    | succ d ih =>
      intro i hi
      obtain ⟨k, r, _, a2, a3, _, a5⟩ := h2 i (by omega)
      have := Lft.leads (b := b) (List.mem_of_getElem? a2) (a5 (by omega)) (ih (i + 1) (by omega))
      rwa [a3, Int.toNat_natCast] at this
  have := key (c.length - 1) 0 (by omega)
  rwa [h0] at this

theorem hitR_at {b : Bool} {t : Nat} {l : List Int} {m : Nat} {c : List Int} : ∀ {rs : List R} {k : Nat}, hitR b t l m k rs = some c → ∃ (j : Nat) (r : R), rs[j]? = some r ∧ r.left = (m : Int) ∧ shO b r = some t ∧ c = l ++ [((k + j : Nat) : Int)]
  | [], _, h => by cases h
  | r :: rs, k, h => by
    unfold hitR at h
    split at h
    · rename_i hx
      cases h
      exact ⟨0, r, rfl, hx.1, hx.2, rfl⟩
    · obtain ⟨j, r', a1, a2, a3, a4⟩ := hitR_at h
      exact ⟨j + 1, r', a1, a2, a3, by rw [a4, show k + 1 + j = k + (j + 1) by omega]⟩
theorem hitR_no {b : Bool} {t : Nat} {l : List Int} {m : Nat} : ∀ {rs : List R} {k : Nat}, hitR b t l m k rs = none → ∀ r ∈ rs, r.left = (m : Int) → shO b r ≠ some t
  | [], _, _, r, hr => by cases hr
  | x :: rs, k, h, r, hr => by
    unfold hitR at h
    split at h
    · cases h
    · rename_i hx
      rcases List.mem_cons.1 hr with rfl | hr
      · exact fun h1 h2 => hx ⟨h1, h2⟩
      · exact hitR_no h r hr
theorem hitW_at {b : Bool} {t : Nat} {rs : List R} {c : List Int} : ∀ {ys : List Wy}, hitW b t rs ys = some c → ∃ y ∈ ys, hitR b t y.rules y.to 0 rs = some c
  | [], h => by cases h
  | y :: ys, h => by
    unfold hitW at h
    cases hy : hitR b t y.rules y.to 0 rs with
    | some d => rw [hy] at h; cases h; exact ⟨y, by simp, hy⟩
    | none =>
      rw [hy] at h
      obtain ⟨z, hz, h2⟩ := hitW_at h
      exact ⟨z, List.mem_cons_of_mem _ hz, h2⟩
theorem hitW_no {b : Bool} {t : Nat} {rs : List R} : ∀ {ys : List Wy}, hitW b t rs ys = none → ∀ y ∈ ys, hitR b t y.rules y.to 0 rs = none
  | [], _, y, hy => by cases hy
  | x :: ys, h, y, hy => by
    unfold hitW at h
    cases hx : hitR b t x.rules x.to 0 rs with
    | some d => rw [hx] at h; cases h
    | none =>
      rw [hx] at h
      rcases List.mem_cons.1 hy with rfl | hy
      · exact hx
      · exact hitW_no h y hy

theorem one_all {b : Bool} {l : List Int} {m k : Nat} {r : R} {s : St} {P : Wy → Prop} (h : ∀ y ∈ s.nx, P y) (hn : ∀ tq, r.left = (m : Int) → ldO b r = some tq → P ⟨l ++ [(k : Int)], tq⟩) : ∀ y ∈ (one b l m k r s).nx, P y := by
  unfold one
  split
  · rename_i hl
    split
    · rename_i tq hto
      split
      · exact h
      · intro y hy
        rcases List.mem_append.1 hy with hy | hy
        · exact h y hy
        · obtain rfl : y = _ := by simpa using hy
          exact hn _ hl hto
    · exact h
  · exact h
theorem goR_all {b : Bool} {l : List Int} {m : Nat} {P : Wy → Prop} : ∀ {rs : List R} {k : Nat} {s : St}, (∀ y ∈ s.nx, P y) → (∀ (j : Nat) r tq, rs[j]? = some r → r.left = (m : Int) → ldO b r = some tq → P ⟨l ++ [((k + j : Nat) : Int)], tq⟩) → ∀ y ∈ (goR b l m k rs s).nx, P y
  | [], _, _, h, _ => h
  | r :: rs, k, s, h, hn => goR_all (rs := rs) (one_all h (fun tq h1 h2 => hn 0 r tq rfl h1 h2)) (fun j r' tq h1 h2 h3 => by
    have := hn (j + 1) r' tq h1 h2 h3
    rwa [show k + (j + 1) = k + 1 + j by omega] at this)
theorem goW_all {b : Bool} {rs : List R} {P : Wy → Prop} : ∀ {ys : List Wy} {s : St}, (∀ y ∈ s.nx, P y) → (∀ y ∈ ys, ∀ (j : Nat) r tq, rs[j]? = some r → r.left = (y.to : Int) → ldO b r = some tq → P ⟨y.rules ++ [(j : Int)], tq⟩) → ∀ y ∈ (goW b rs ys s).nx, P y
  | [], _, h, _ => h
  | y :: ys, s, h, hn => goW_all (ys := ys) (goR_all h (fun j r tq h1 h2 h3 => by rw [Nat.zero_add]; exact hn y (by simp) j r tq h1 h2 h3)) (fun z hz => hn z (List.mem_cons_of_mem _ hz))

theorem Search.chain {b : Bool} {t n : Nat} {rs : List R} {ring : List Wy} {S : Nat → Bool} {o : Option (List Int)} (k : Search b t rs ring S o) : (∀ y ∈ ring, WayN b rs n y) → ∀ c, o = some c → IsCh b rs n t c := by
  induction k with
  | none S => intro _ c hc; cases hc
  | hit hh =>
    intro hw c hc
    cases hc
    obtain ⟨y, hy, h2⟩ := hitW_at hh
    obtain ⟨j, r, a1, a2, a3, rfl⟩ := hitR_at h2
    rw [Nat.zero_add]
    exact (hw y hy).ch a1 a2 a3
  | step _ hh _ ih =>
    intro hw c hc
    exact ih (goW_all (fun y hy => by cases hy) (fun y hy j r tq h1 h2 h3 => (hw y hy).add h1 h2 h3)) c hc

theorem FoundE.chain {b : Bool} {rs : List R} {n t : Nat} {c : List Int} (h : FoundE b rs n t (some c)) : IsCh b rs n t c :=
  Search.chain h (fun y hy => by
    obtain rfl : y = ⟨[], n⟩ := by simpa [startW] using hy
    exact ⟨fun _ => n, rfl, rfl, fun i hi => absurd hi (by simp)⟩) c rfl

/-- What was met stays so; what rules lead to is met; who is new stands in the next ring. -/
theorem one_S {b : Bool} {l : List Int} {m k : Nat} {r : R} {s : St} {x : Nat} (h : s.S x = true) : (one b l m k r s).S x = true := by
  unfold one
  split
  · split
    · split
      · exact h
      · exact updB_up _ _ _ h
    · exact h
  · exact h
theorem one_to {b : Bool} {l : List Int} {m k : Nat} {r : R} {s : St} {tq : Nat} (hl : r.left = (m : Int)) (hd : ldO b r = some tq) : (one b l m k r s).S tq = true := by
  unfold one
  rw [if_pos hl, hd]
  dsimp only
  split
  · assumption
  · exact updB_at _ _
theorem one_new {b : Bool} {l : List Int} {m k : Nat} {r : R} {s : St} {S0 : Nat → Bool} (h : ∀ x, s.S x = true → S0 x = true ∨ ∃ y ∈ s.nx, y.to = x) : ∀ x, (one b l m k r s).S x = true → S0 x = true ∨ ∃ y ∈ (one b l m k r s).nx, y.to = x := by
  unfold one
  split
  · split
    · rename_i tq hto
      split
      · exact h
      · intro x hx
        dsimp only at hx ⊢
        by_cases e : x = tq
        · subst e
          exact .inr ⟨⟨l ++ [(k : Int)], x⟩, List.mem_append_right _ (by simp), rfl⟩
        · rw [updB_ne _ e] at hx
          rcases h x hx with h | ⟨y, hy, h⟩
          · exact .inl h
          · exact .inr ⟨y, List.mem_append_left _ hy, h⟩
    · exact h
  · exact h
theorem goR_S {b : Bool} {l : List Int} {m x : Nat} : ∀ {rs : List R} {k : Nat} {s : St}, s.S x = true → (goR b l m k rs s).S x = true
  | [], _, _, h => h
  | r :: rs, k, s, h => goR_S (rs := rs) (one_S h)
theorem goR_to {b : Bool} {l : List Int} {m : Nat} : ∀ {rs : List R} {k : Nat} {s : St}, ∀ r ∈ rs, r.left = (m : Int) → ∀ tq, ldO b r = some tq → (goR b l m k rs s).S tq = true
  | [], _, _, r, hr, _, _, _ => by cases hr
  | x :: rs, k, s, r, hr, hl, tq, hd => by
    rcases List.mem_cons.1 hr with rfl | hr
    · exact goR_S (rs := rs) (one_to hl hd)
    · exact goR_to (rs := rs) r hr hl tq hd
theorem goR_new {b : Bool} {l : List Int} {m : Nat} {S0 : Nat → Bool} : ∀ {rs : List R} {k : Nat} {s : St}, (∀ x, s.S x = true → S0 x = true ∨ ∃ y ∈ s.nx, y.to = x) → ∀ x, (goR b l m k rs s).S x = true → S0 x = true ∨ ∃ y ∈ (goR b l m k rs s).nx, y.to = x
  | [], _, _, h => h
  | r :: rs, k, s, h => goR_new (rs := rs) (one_new h)
theorem goW_S {b : Bool} {rs : List R} {x : Nat} : ∀ {ys : List Wy} {s : St}, s.S x = true → (goW b rs ys s).S x = true
  | [], _, h => h
  | y :: ys, s, h => goW_S (ys := ys) (goR_S h)
theorem goW_to {b : Bool} {rs : List R} : ∀ {ys : List Wy} {s : St}, ∀ y ∈ ys, ∀ r ∈ rs, r.left = (y.to : Int) → ∀ tq, ldO b r = some tq → (goW b rs ys s).S tq = true
  | [], _, y, hy, _, _, _, _, _ => by cases hy
  | z :: ys, s, y, hy, r, hr, hl, tq, hd => by
    rcases List.mem_cons.1 hy with rfl | hy
    · exact goW_S (ys := ys) (goR_to r hr hl tq hd)
    · exact goW_to (ys := ys) y hy r hr hl tq hd
theorem goW_new {b : Bool} {rs : List R} {S0 : Nat → Bool} : ∀ {ys : List Wy} {s : St}, (∀ x, s.S x = true → S0 x = true ∨ ∃ y ∈ s.nx, y.to = x) → ∀ x, (goW b rs ys s).S x = true → S0 x = true ∨ ∃ y ∈ (goW b rs ys s).nx, y.to = x
  | [], _, h => h
  | y :: ys, s, h => goW_new (ys := ys) (goR_new h)

/-- A nonterminal that was done: its rules do not show the terminal, and lead to what was met. -/
def DoneE (b : Bool) (t : Nat) (rs : List R) (S : Nat → Bool) (x : Nat) : Prop := ∀ r ∈ rs, r.left = (x : Int) → shO b r ≠ some t ∧ ∀ m, ldO b r = some m → S m = true

theorem Search.none_no {b : Bool} {t : Nat} {rs : List R} (hl : ∀ r ∈ rs, 0 ≤ r.left) {ring : List Wy} {S : Nat → Bool} {o : Option (List Int)} (k : Search b t rs ring S o) : o = Option.none → (∀ x, S x = true → (∃ y ∈ ring, y.to = x) ∨ DoneE b t rs S x) → ∀ x, S x = true → ¬ Lft b rs x t := by
  induction k with
  | none S =>
    intro _ hI
    have key : ∀ {x u : Nat}, Lft b rs x u → u = t → S x = true → False := by
      intro x u hL
      induction hL with
      | shows hr h =>
        rintro rfl hx
        rcases hI _ hx with ⟨y, hy, _⟩ | hd
        · cases hy
        · exact (hd _ hr (by have := hl _ hr; omega)).1 h
      | leads hr h _ ih =>
        rintro rfl hx
        rcases hI _ hx with ⟨y, hy, _⟩ | hd
        · cases hy
        · exact ih rfl ((hd _ hr (by have := hl _ hr; omega)).2 _ h)
    exact fun x hx hL => key hL rfl hx
  | hit hh => intro h; cases h
  | @step ring S o hne hh _ ih =>
    intro ho hI x hx
    refine ih ho (fun z hz => ?_) x (goW_S hx)
    rcases goW_new (S0 := S) (fun x hx => .inl hx) z hz with hz | ⟨y, hy, h⟩
    · right
      rcases hI z hz with ⟨y, hy, rfl⟩ | hd
      · intro r hr hrl
        exact ⟨hitR_no (hitW_no hh y hy) r hr hrl, fun m hm => goW_to y hy r hr hrl m hm⟩
      · intro r hr hrl
        exact ⟨(hd r hr hrl).1, fun m hm => goW_S ((hd r hr hrl).2 m hm)⟩
    · exact .inl ⟨y, hy, h⟩

theorem FoundE.none_no {b : Bool} {g : G} (hg : GoodG g) {n t : Nat} (h : FoundE b g.rs n t none) : ¬ Lft b g.rs n t :=
  Search.none_no (fun r hr => (left_lt hg hr).1) h rfl (fun x hx => by
    left
    refine ⟨⟨[], n⟩, by simp [startW], ?_⟩
    by_cases e : x = n
    · exact e.symm
    · unfold startS at hx
      rw [updB_ne _ e] at hx
      cases hx) n (by unfold startS; exact updB_at _ _)

end Go.Proofs.YtigepihinflkdaaGreatDoor.EndsMath

namespace Go.Proofs.YtigepihinflkdaaGreatDoor.EndsTurn
open Go.Proofs.YtigepihinflkdaaGreatDoor.GramMath Go.Proofs.YtigepihinflkdaaGreatDoor.EndsMath Go.Proofs.YtigepihinflkdaaGreatDoor.GramLess Go.Proofs.YtigepihinflkdaaGreatDoor.EndsChain
set_option linter.unusedVariables false

def turn (r : R) : R := ⟨r.left, r.right.reverse⟩
def turnG (g : G) : G := withR g (g.rs.map turn)

end Go.Proofs.YtigepihinflkdaaGreatDoor.EndsTurn

namespace Go.Proofs.YtigepihinflkdaaGreatDoor.MatrixTurn
open Go.Proofs.YtigepihinflkdaaGreatDoor.GramMath Go.Proofs.YtigepihinflkdaaGreatDoor.EndsMath Go.Proofs.YtigepihinflkdaaGreatDoor.GramLess Go.Proofs.YtigepihinflkdaaGreatDoor.EndsTurn Go.Proofs.YtigepihinflkdaaGreatDoor.MatrixMath
set_option linter.unusedVariables false

theorem RelAt.mono {g g' : G} (h : ∀ b n t, Lft b g.rs n t → Lft b g'.rs n t) {l : List Int} {k : Nat} {x a b : Int} (hr : RelAt g l k x a b) : RelAt g' l k x a b := by
  cases hr with
  | yields h0 hk hn hb0 hb => exact .yields h0 hk hn hb0 (h _ _ _ hb)
  | equal h0 hk hb0 hb => exact .equal h0 hk hb0 hb
  | takes h0 hk hn ha0 ha => exact .takes h0 hk hn ha0 (h _ _ _ ha)

/-- The relation turned about. -/
def flip (x : Int) : Int := 4 - x

end Go.Proofs.YtigepihinflkdaaGreatDoor.MatrixTurn

namespace Go.Proofs.YtigepihinflkdaaGreatDoor.MatrixWhyMath
open Go.Proofs.YtigepihinflkdaaGreatDoor.GramMath Go.Proofs.YtigepihinflkdaaGreatDoor.SetsMath Go.Proofs.YtigepihinflkdaaGreatDoor.UsefulMath Go.Proofs.YtigepihinflkdaaGreatDoor.MatrixMath Go.Proofs.YtigepihinflkdaaGreatDoor.MatrixKeep Go.Proofs.YtigepihinflkdaaGreatDoor.EndsMath Go.Proofs.YtigepihinflkdaaGreatDoor.EndsChain
set_option linter.unusedVariables false

def InW (g : G) (a b x : Int) : Prop := (0 ≤ a ∧ a ≤ g.ts.length) ∧ (0 ≤ b ∧ b ≤ g.ts.length) ∧ (1 ≤ x ∧ x ≤ 3)

/-- What Why finds, and what is wrong. -/
def WhyR (g : G) (a b x : Int) (z : Nat × Option Nat) (rule at_ : Int) (o : Option (List Int)) : Prop :=
  ((checkG g).1 ≠ 0 ∧ z = checkG g ∧ rule = 0 ∧ at_ = 0 ∧ o = none) ∨
  ((checkG g).1 = 0 ∧ ¬ InW g a b x ∧ z = (1, none) ∧ rule = 0 ∧ at_ = 0 ∧ o = none) ∨
  ((checkG g).1 = 0 ∧ InW g a b x ∧ ∃ VL VR, IsEnds false g VL ∧ IsEnds true g VR ∧
    ((firstF x a b (findsF VL VR g) = none ∧ z = (15, none) ∧ rule = 0 ∧ at_ = 0 ∧ o = none) ∨
     ∃ f, firstF x a b (findsF VL VR g) = some f ∧ z = (0, none) ∧ rule = f.p.rule ∧ at_ = f.p.at_ ∧
       ((x = 2 ∧ o = none) ∨ (x = 1 ∧ ∃ c, o = some c ∧ ChainR g f.p.non b false (0, none) (some c)) ∨ (x = 3 ∧ ∃ c, o = some c ∧ ChainR g f.p.non a true (0, none) (some c)))))

theorem first_in {x a b : Int} {L : List Fnd} {f : Fnd} (h : firstF x a b L = some f) : f ∈ L ∧ f.rel = x ∧ f.a = a ∧ f.b = b := by
  unfold firstF at h
  have h1 := List.mem_of_find?_eq_some h
  have h2 := List.find?_some h
  unfold hitF at h2
  simp at h2
  exact ⟨h1, h2.1.1, h2.1.2, h2.2⟩
theorem first_not {x a b : Int} {L : List Fnd} (h : firstF x a b L = none) : ¬ ∃ f ∈ L, f.rel = x ∧ f.a = a ∧ f.b = b := by
  unfold firstF at h
  rw [List.find?_eq_none] at h
  rintro ⟨f, hf, h1, h2, h3⟩
  exact h f hf (by unfold hitF; simp [h1, h2, h3])

end Go.Proofs.YtigepihinflkdaaGreatDoor.MatrixWhyMath

namespace Go.Proofs.YtigepihinflkdaaGreatDoor.MatrixReasonsMath
open Go.Proofs.YtigepihinflkdaaGreatDoor.GramMath Go.Proofs.YtigepihinflkdaaGreatDoor.SetsMath Go.Proofs.YtigepihinflkdaaGreatDoor.UsefulMath Go.Proofs.YtigepihinflkdaaGreatDoor.MatrixMath Go.Proofs.YtigepihinflkdaaGreatDoor.MatrixKeep Go.Proofs.YtigepihinflkdaaGreatDoor.EndsMath Go.Proofs.YtigepihinflkdaaGreatDoor.EndsChain Go.Proofs.YtigepihinflkdaaGreatDoor.MatrixWhyMath
set_option linter.unusedVariables false

/-- The symbol at a place. -/
def symI (g : G) (rule at_ : Int) : Int := if 0 ≤ rule ∧ rule < g.rs.length ∧ 0 ≤ at_ ∧ at_ < (rightOf g.rs rule.toNat).length then (rightOf g.rs rule.toNat).getD at_.toNat 0 else g.ts.length

/-- The end is equal to nothing, takes nothing, and nothing yields to it. -/
theorem rel_end {g : G} (hg : GoodG g) {t : Int} : ¬ Rel g 2 g.ts.length t ∧ ¬ Rel g 3 g.ts.length t ∧ ¬ Rel g 1 t g.ts.length ∧ ¬ Rel g 2 t g.ts.length := by
  have key : ∀ {x a b : Int}, Rel g x a b → (x = 2 → a < g.ts.length ∧ b < g.ts.length) ∧ (x = 3 → a < g.ts.length) ∧ (x = 1 → b < g.ts.length) := by
    intro x a b h
    cases h with
    | @rule i k x a b hi hk h =>
      have hs := side_sym hg hi hk
      cases h with
      | @yields n b h0 hk1 hn hb0 hb =>
        have := (hb.lt hg).2
        exact ⟨fun h => by omega, fun h => by omega, fun _ => by omega⟩
      | @equal b h0 hk1 hb0 hb =>
        have h2 := side_sym hg hi hk1
        exact ⟨fun _ => by omega, fun h => by omega, fun h => by omega⟩
      | @takes n a h0 hk1 hn ha0 ha =>
        have := (ha.lt hg).2
        exact ⟨fun h => by omega, fun _ => by omega, fun h => by omega⟩
    | @first b hb0 hb =>
      have := (hb.lt hg).2
      exact ⟨fun h => by omega, fun h => by omega, fun _ => by omega⟩
    | @last a ha0 ha =>
      have := (ha.lt hg).2
      exact ⟨fun h => by omega, fun _ => by omega, fun h => by omega⟩
  exact ⟨fun h => by have := (key h).1 rfl; omega, fun h => by have := (key h).2.1 rfl; omega, fun h => by have := (key h).2.2 rfl; omega, fun h => by have := (key h).1 rfl; omega⟩

end Go.Proofs.YtigepihinflkdaaGreatDoor.MatrixReasonsMath

namespace Go.Proofs.YtigepihinflkdaaGreatDoor.MatrixRMath
open Go.Proofs.YtigepihinflkdaaGreatDoor.GramMath Go.Proofs.YtigepihinflkdaaGreatDoor.SetsMath Go.Proofs.YtigepihinflkdaaGreatDoor.UsefulMath Go.Proofs.YtigepihinflkdaaGreatDoor.MatrixMath Go.Proofs.YtigepihinflkdaaGreatDoor.MatrixKeep Go.Proofs.YtigepihinflkdaaGreatDoor.EndsMath Go.Proofs.YtigepihinflkdaaGreatDoor.EndsChain Go.Proofs.YtigepihinflkdaaGreatDoor.MatrixWhyMath Go.Proofs.YtigepihinflkdaaGreatDoor.MatrixReasonsMath
set_option linter.unusedVariables false

theorem first_app {x a b : Int} {L M : List Fnd} (h : firstF x a b L = none) : firstF x a b (L ++ M) = firstF x a b M := by
  unfold firstF at *
  rw [List.find?_append, h]
  rfl
theorem first_pre {x a b : Int} {L M : List Fnd} {f : Fnd} (h : firstF x a b L = some f) : firstF x a b (L ++ M) = some f := by
  unfold firstF at *
  rw [List.find?_append, h]
  rfl
theorem first_none_iff {x a b : Int} {L : List Fnd} : firstF x a b L = none ↔ ¬ ∃ f ∈ L, f.rel = x ∧ f.a = a ∧ f.b = b := by
  constructor
  · exact first_not
  · intro h
    unfold firstF
    rw [List.find?_eq_none]
    intro f hf hh
    unfold hitF at hh
    simp at hh
    exact h ⟨f, hf, hh.1.1, hh.1.2, hh.2⟩
theorem first_some_of {x a b : Int} {L : List Fnd} (h : ∃ f ∈ L, f.rel = x ∧ f.a = a ∧ f.b = b) : ∃ f, firstF x a b L = some f ∧ f ∈ L := by
  cases hf : firstF x a b L with
  | none => exact absurd h (first_none_iff.1 hf)
  | some f => exact ⟨f, rfl, (first_in hf).1⟩

/-- Near, as the document says it. -/
def nearP (l : List Int) (k : Nat) (b : Int) : Prop := (k + 1 < l.length ∧ l.getD (k + 1) 0 = b) ∨ (k + 2 < l.length ∧ l.getD (k + 1) 0 < 0 ∧ l.getD (k + 2) 0 = b)
/-- A relation by a place of a right side, as the document says it. -/
def atP (VL VR : Nat → Nat) (l : List Int) (k : Nat) (a b x : Int) : Prop :=
  (x = 1 ∧ l.getD k 0 = a ∧ k + 1 < l.length ∧ l.getD (k + 1) 0 < 0 ∧ hasB (VL (ntAt l (k + 1)).toNat) b = true) ∨
  (x = 2 ∧ l.getD k 0 = a ∧ nearP l k b) ∨
  (x = 3 ∧ l.getD k 0 = b ∧ 0 < k ∧ l.getD (k - 1) 0 < 0 ∧ hasB (VR (ntAt l (k - 1)).toNat) a = true)

theorem atP_iff {VL VR : Nat → Nat} {n : Int} {l : List Int} {k : Nat} {a b x : Int} (ha : 0 ≤ a) (hb : 0 ≤ b) : (∃ f ∈ atF VL VR n l k, f.rel = x ∧ f.a = a ∧ f.b = b) ↔ atP VL VR l k a b x := by
  constructor
  · rintro ⟨f, hf, rfl, rfl, rfl⟩
    unfold atF at hf
    split at hf
    · rename_i h0
      unfold aroundF at hf
      rcases List.mem_append.1 hf with hf | hf
      · rcases List.mem_append.1 hf with hf | hf
        · unfold aheadF at hf
          split at hf
          · rename_i hc
            obtain ⟨h1, h2, h3, h4⟩ := mem_takeF.1 hf
            exact .inr (.inr ⟨h1, h2.symm, hc.1, hc.2, h3⟩)
          · cases hf
        · unfold behF at hf
          split at hf
          · rename_i hc
            obtain ⟨h1, h2, h3, h4⟩ := mem_yieldF.1 hf
            exact .inl ⟨h1, h2.symm, hc.1, hc.2, h3⟩
          · cases hf
      · unfold eqF at hf
        split at hf
        · rename_i hc
          obtain rfl := List.mem_singleton.1 hf
          refine .inr (.inl ⟨rfl, rfl, ?_⟩)
          by_cases hB : behB l k
          · have e : eqK l k = k + 2 := by unfold eqK; rw [if_pos hB]
            rw [e] at hc ⊢
            exact .inr ⟨hc.1, hB.2, rfl⟩
          · have e : eqK l k = k + 1 := by unfold eqK; rw [if_neg hB]
            rw [e] at hc ⊢
            exact .inl ⟨hc.1, rfl⟩
        · cases hf
    · cases hf
  · rintro (⟨rfl, rfl, h1, h2, h3⟩ | ⟨rfl, rfl, h1⟩ | ⟨rfl, rfl, h1, h2, h3⟩)
    · refine ⟨⟨1, l.getD k 0, b, ⟨n, k, ntAt l (k + 1)⟩⟩, ?_, rfl, rfl, rfl⟩
      unfold atF aroundF behF
      rw [if_pos ha, if_pos (show behB l k from ⟨h1, h2⟩)]
      exact List.mem_append.2 (.inl (List.mem_append.2 (.inr (mem_yieldF.2 ⟨rfl, rfl, h3, rfl⟩))))
    · refine ⟨⟨2, l.getD k 0, b, ⟨n, k, 0⟩⟩, ?_, rfl, rfl, rfl⟩
      unfold atF aroundF eqF
      have hk : eqK l k < l.length ∧ l.getD (eqK l k) 0 = b := by
        rcases h1 with ⟨h1, rfl⟩ | ⟨h1, h2, rfl⟩
        · have e : eqK l k = k + 1 := by unfold eqK; rw [if_neg (fun h => by have := h.2; omega)]
          rw [e]
          exact ⟨h1, rfl⟩
        · have e : eqK l k = k + 2 := by unfold eqK; rw [if_pos ⟨by omega, h2⟩]
          rw [e]
          exact ⟨h1, rfl⟩
      rw [if_pos ha, if_pos ⟨hk.1, by rw [hk.2]; exact hb⟩, hk.2]
      exact List.mem_append.2 (.inr (List.mem_singleton.2 rfl))
    · refine ⟨⟨3, a, l.getD k 0, ⟨n, k, ntAt l (k - 1)⟩⟩, ?_, rfl, rfl, rfl⟩
      unfold atF aroundF aheadF
      rw [if_pos hb, if_pos ⟨h1, h2⟩]
      exact List.mem_append.2 (.inl (List.mem_append.2 (.inl (mem_takeF.2 ⟨rfl, rfl, h3, rfl⟩))))

theorem at_place {VL VR : Nat → Nat} {n : Int} {l : List Int} {k : Nat} {f : Fnd} (hf : f ∈ atF VL VR n l k) : f.p.rule = n ∧ f.p.at_ = k := by
  unfold atF at hf
  split at hf
  · unfold aroundF at hf
    rcases List.mem_append.1 hf with hf | hf
    · rcases List.mem_append.1 hf with hf | hf
      · unfold aheadF at hf
        split at hf
        · obtain ⟨_, _, _, h4⟩ := mem_takeF.1 hf
          rw [h4]
          exact ⟨rfl, rfl⟩
        · cases hf
      · unfold behF at hf
        split at hf
        · obtain ⟨_, _, _, h4⟩ := mem_yieldF.1 hf
          rw [h4]
          exact ⟨rfl, rfl⟩
        · cases hf
    · unfold eqF at hf
      split at hf
      · obtain rfl := List.mem_singleton.1 hf
        exact ⟨rfl, rfl⟩
      · cases hf
  · cases hf

theorem side_pre {VL VR : Nat → Nat} {n : Int} {l : List Int} {k m : Nat} (h : k ≤ m) : ∃ t, sideF VL VR n l m = sideF VL VR n l k ++ t := by
  induction m with
  | zero => obtain rfl : k = 0 := by omega
            exact ⟨[], by simp⟩
  | succ m ih =>
    by_cases e : k = m + 1
    · subst e; exact ⟨[], by simp⟩
    · obtain ⟨t, ht⟩ := ih (by omega)
      exact ⟨t ++ atF VL VR n l m, by rw [sideF, ht, List.append_assoc]⟩
theorem rules_pre {VL VR : Nat → Nat} {rs : List R} {k m : Nat} (h : k ≤ m) : ∃ t, rulesF VL VR rs m = rulesF VL VR rs k ++ t := by
  induction m with
  | zero => obtain rfl : k = 0 := by omega
            exact ⟨[], by simp⟩
  | succ m ih =>
    by_cases e : k = m + 1
    · subst e; exact ⟨[], by simp⟩
    · obtain ⟨t, ht⟩ := ih (by omega)
      exact ⟨t ++ sideF VL VR m (rightOf rs m) (rightOf rs m).length, by rw [rulesF, ht, List.append_assoc]⟩

/-- The first place: all ahead of it have nothing, and it has it. -/
theorem first_at {VL VR : Nat → Nat} {g : G} {i k : Nat} {a b x : Int} (ha : 0 ≤ a ∧ a < g.ts.length) (hb : 0 ≤ b ∧ b < g.ts.length) (hi : i < g.rs.length) (hk : k < (rightOf g.rs i).length) (h1 : firstF x a b (rulesF VL VR g.rs i) = none) (h2 : firstF x a b (sideF VL VR i (rightOf g.rs i) k) = none) (h3 : atP VL VR (rightOf g.rs i) k a b x) :
    ∃ f, firstF x a b (findsF VL VR g) = some f ∧ f.p.rule = i ∧ f.p.at_ = k := by
  have he : firstF x a b (endF VL VR g.ts.length g.ax) = none := by
    rw [first_none_iff]
    rintro ⟨f, hf, _, h5, h6⟩
    rcases List.mem_append.1 hf with hf | hf
    · have := (mem_yieldF.1 hf).2.1; omega
    · have := (mem_takeF.1 hf).2.1; omega
  obtain ⟨f, hf, hfm⟩ := first_some_of ((atP_iff (n := i) ha.1 hb.1).2 h3)
  refine ⟨f, ?_, at_place hfm⟩
  unfold findsF
  rw [first_app he]
  obtain ⟨t1, e1⟩ := rules_pre (VL := VL) (VR := VR) (rs := g.rs) (k := i + 1) (m := g.rs.length) (by omega)
  obtain ⟨t2, e2⟩ := side_pre (VL := VL) (VR := VR) (n := i) (l := rightOf g.rs i) (k := k + 1) (m := (rightOf g.rs i).length) (by omega)
  rw [e1, rulesF, e2, sideF]
  refine first_pre ?_
  rw [first_app h1]
  refine first_pre ?_
  rw [first_app h2]
  exact hf
theorem first_no {VL VR : Nat → Nat} {g : G} {a b x : Int} (ha : 0 ≤ a ∧ a < g.ts.length) (hb : 0 ≤ b ∧ b < g.ts.length) (h1 : firstF x a b (rulesF VL VR g.rs g.rs.length) = none) : firstF x a b (findsF VL VR g) = none := by
  rw [first_none_iff]
  rintro ⟨f, hf, h4, h5, h6⟩
  rcases List.mem_append.1 hf with hf | hf
  · rcases List.mem_append.1 hf with hf | hf
    · have := (mem_yieldF.1 hf).2.1; omega
    · have := (mem_takeF.1 hf).2.1; omega
  · exact first_none_iff.1 h1 ⟨f, hf, h4, h5, h6⟩

/-- Of the end: what the axiom begins or ends with. -/
theorem first_end {VL VR : Nat → Nat} {g : G} (hg : GoodG g) (hL : IsEnds false g VL) (hR : IsEnds true g VR) {a b x : Int} (he : a = g.ts.length ∨ b = g.ts.length) :
    (∃ f, firstF x a b (findsF VL VR g) = some f ∧ f.p = ⟨-1, 0, g.ax⟩ ∧ ((x = 1 ∧ a = g.ts.length ∧ hasB (VL g.ax.toNat) b = true) ∨ (x = 3 ∧ b = g.ts.length ∧ hasB (VR g.ax.toNat) a = true))) ∨
    (firstF x a b (findsF VL VR g) = none ∧ ¬ (x = 1 ∧ a = g.ts.length ∧ hasB (VL g.ax.toNat) b = true) ∧ ¬ (x = 3 ∧ b = g.ts.length ∧ hasB (VR g.ax.toNat) a = true)) := by
  have hrl : ∀ f ∈ rulesF VL VR g.rs g.rs.length, f.a < g.ts.length ∧ f.b < g.ts.length := fun f hf => by
    obtain ⟨i, hi, k, hk, hf⟩ := mem_rulesF.1 hf
    have hr := (atF_iff hg hL hR hi hk).1 ⟨f, hf, rfl, rfl, rfl⟩
    have hs := side_sym hg hi hk
    generalize f.rel = x' at *
    generalize f.a = a' at *
    generalize f.b = b' at *
    cases hr with
    | yields h0 hk1 hn hb0 hb => have := (hb.lt hg).2; omega
    | equal h0 hk1 hb0 hb => have := side_sym hg hi hk1; omega
    | takes h0 hk1 hn ha0 ha => have := (ha.lt hg).2; omega
  have hend : ∀ f, f ∈ findsF VL VR g → f.rel = x → f.a = a → f.b = b → (x = 1 ∧ a = g.ts.length ∧ hasB (VL g.ax.toNat) b = true ∧ f.p = ⟨-1, 0, g.ax⟩) ∨ (x = 3 ∧ b = g.ts.length ∧ hasB (VR g.ax.toNat) a = true ∧ f.p = ⟨-1, 0, g.ax⟩) := fun f hf h1 h2 h3 => by
    rcases List.mem_append.1 hf with hf | hf
    · rcases List.mem_append.1 hf with hf | hf
      · obtain ⟨e1, e2, e3, e4⟩ := mem_yieldF.1 hf
        exact .inl ⟨h1 ▸ e1, h2 ▸ e2, h3 ▸ e3, e4⟩
      · obtain ⟨e1, e2, e3, e4⟩ := mem_takeF.1 hf
        exact .inr ⟨h1 ▸ e1, h3 ▸ e2, h2 ▸ e3, e4⟩
    · have := hrl f hf
      omega
  cases hf : firstF x a b (findsF VL VR g) with
  | some f =>
    obtain ⟨hfm, h1, h2, h3⟩ := first_in hf
    rcases hend f hfm h1 h2 h3 with ⟨e1, e2, e3, e4⟩ | ⟨e1, e2, e3, e4⟩
    · exact .inl ⟨f, rfl, e4, .inl ⟨e1, e2, e3⟩⟩
    · exact .inl ⟨f, rfl, e4, .inr ⟨e1, e2, e3⟩⟩
  | none =>
    have hn := first_none_iff.1 hf
    refine .inr ⟨rfl, fun h => hn ?_, fun h => hn ?_⟩
    · obtain ⟨rfl, rfl, h3⟩ := h
      exact ⟨⟨1, g.ts.length, b, ⟨-1, 0, g.ax⟩⟩, List.mem_append.2 (.inl (List.mem_append.2 (.inl (mem_yieldF.2 ⟨rfl, rfl, h3, rfl⟩)))), rfl, rfl, rfl⟩
    · obtain ⟨rfl, rfl, h3⟩ := h
      exact ⟨⟨3, a, g.ts.length, ⟨-1, 0, g.ax⟩⟩, List.mem_append.2 (.inl (List.mem_append.2 (.inr (mem_takeF.2 ⟨rfl, rfl, h3, rfl⟩)))), rfl, rfl, rfl⟩

end Go.Proofs.YtigepihinflkdaaGreatDoor.MatrixRMath
