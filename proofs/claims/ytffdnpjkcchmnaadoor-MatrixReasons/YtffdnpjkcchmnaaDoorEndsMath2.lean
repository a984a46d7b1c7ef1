/-
  What is found is a chain, and where nothing is found there is none. No part of the program.
-/
import Derived.Test.YtffdnpjkcchmnaaDoorEndsWays
namespace Go.Proofs.YtffdnpjkcchmnaaDoor.EndsMath
open Go.Proofs.YtffdnpjkcchmnaaDoor.GramMath
set_option linter.unusedVariables false

/-- Rules that lead from a nonterminal to another. -/
def WayN (b : Bool) (rs : List R) (n : Nat) (y : Wy) : Prop :=
  ∃ N : Nat → Nat, N 0 = n ∧ N y.rules.length = y.to ∧ ∀ i, i < y.rules.length → ∃ (k : Nat) (r : R), y.rules[i]? = some (k : Int) ∧ rs[k]? = some r ∧ r.left = (N i : Int) ∧ ldO b r = some (N (i + 1))

/-- A chain. -/
def IsCh (b : Bool) (rs : List R) (n t : Nat) (c : List Int) : Prop :=
  ∃ N : Nat → Nat, N 0 = n ∧ ∀ i, i < c.length → ∃ (k : Nat) (r : R), c[i]? = some (k : Int) ∧ rs[k]? = some r ∧ r.left = (N i : Int) ∧ (i + 1 = c.length → shO b r = some t) ∧ (i + 1 < c.length → ldO b r = some (N (i + 1)))

theorem WayN.add {b : Bool} {rs : List R} {n : Nat} {y : Wy} (h : WayN b rs n y) {k : Nat} {r : R} {m : Nat} (hk : rs[k]? = some r) (hl : r.left = (y.to : Int)) (hd : ldO b r = some m) : WayN b rs n ⟨y.rules ++ [(k : Int)], m⟩ := by
  obtain ⟨N, h0, h1, h2⟩ := h
  refine ⟨fun j => if j ≤ y.rules.length then N j else m, by simp [h0], by show (if (y.rules ++ [(k : Int)]).length ≤ y.rules.length then _ else m) = m; rw [if_neg (by simp)], fun i hi => ?_⟩
  simp only [List.length_append, List.length_cons, List.length_nil] at hi
  by_cases e : i < y.rules.length
  · obtain ⟨k', r', a1, a2, a3, a4⟩ := h2 i e
    refine ⟨k', r', by rw [List.getElem?_append_left e]; exact a1, a2, ?_, ?_⟩
    · dsimp only; rw [if_pos (by omega)]; exact a3
    · dsimp only; rw [if_pos (by omega)]; exact a4
  · obtain rfl : i = y.rules.length := by omega
    refine ⟨k, r, by simp, hk, ?_, ?_⟩
    · dsimp only; rw [if_pos (by omega), h1]; exact hl
    · dsimp only; rw [if_neg (by omega)]; exact hd

theorem WayN.ch {b : Bool} {rs : List R} {n t : Nat} {y : Wy} (h : WayN b rs n y) {k : Nat} {r : R} (hk : rs[k]? = some r) (hl : r.left = (y.to : Int)) (hs : shO b r = some t) : IsCh b rs n t (y.rules ++ [(k : Int)]) := by
  obtain ⟨N, h0, h1, h2⟩ := h
  refine ⟨N, h0, fun i hi => ?_⟩
  simp only [List.length_append, List.length_cons, List.length_nil] at hi ⊢
  by_cases e : i < y.rules.length
  · obtain ⟨k', r', a1, a2, a3, a4⟩ := h2 i e
    exact ⟨k', r', by rw [List.getElem?_append_left e]; exact a1, a2, a3, fun h => by omega, fun _ => a4⟩
  · obtain rfl : i = y.rules.length := by omega
    exact ⟨k, r, by simp, hk, by rw [h1]; exact hl, fun _ => hs, fun h => by omega⟩

theorem IsCh.lft {b : Bool} {rs : List R} {n t : Nat} {c : List Int} (h : IsCh b rs n t c) (hc : 0 < c.length) : Lft b rs n t := by
  obtain ⟨N, h0, h2⟩ := h
  have key : ∀ d i, i + d + 1 = c.length → Lft b rs (N i) t := by
    intro d
    induction d with
    | zero =>
      intro i hi
      obtain ⟨k, r, _, a2, a3, a4, _⟩ := h2 i (by omega)
      have := Lft.shows (b := b) (List.mem_of_getElem? a2) (a4 (by omega))
      rwa [a3, Int.toNat_natCast] at this
    | succ d ih =>
      intro i hi
      obtain ⟨k, r, _, a2, a3, _, a5⟩ := h2 i (by omega)
      have := Lft.leads (b := b) (List.mem_of_getElem? a2) (a5 (by omega)) (ih (i + 1) (by omega))
      rwa [a3, Int.toNat_natCast] at this
  have := key (c.length - 1) 0 (by omega)
  rwa [h0] at this

theorem hitR_at {b : Bool} {t : Nat} {l : List Int} {m : Nat} {c : List Int} : ∀ {rs : List R} {k : Nat}, hitR b t l m k rs = some c → ∃ (j : Nat) (r : R), rs[j]? = some r ∧ r.left = (m : Int) ∧ shO b r = some t ∧ c = l ++ [((k + j : Nat) : Int)]
  | [], _, h => by cases h
  | r :: rs, k, h => by
    unfold hitR at h
    split at h
    · rename_i hx
      cases h
      exact ⟨0, r, rfl, hx.1, hx.2, rfl⟩
    · obtain ⟨j, r', a1, a2, a3, a4⟩ := hitR_at h
      exact ⟨j + 1, r', a1, a2, a3, by rw [a4, show k + 1 + j = k + (j + 1) by omega]⟩
theorem hitR_no {b : Bool} {t : Nat} {l : List Int} {m : Nat} : ∀ {rs : List R} {k : Nat}, hitR b t l m k rs = none → ∀ r ∈ rs, r.left = (m : Int) → shO b r ≠ some t
  | [], _, _, r, hr => by cases hr
  | x :: rs, k, h, r, hr => by
    unfold hitR at h
    split at h
    · cases h
    · rename_i hx
      rcases List.mem_cons.1 hr with rfl | hr
      · exact fun h1 h2 => hx ⟨h1, h2⟩
      · exact hitR_no h r hr
theorem hitW_at {b : Bool} {t : Nat} {rs : List R} {c : List Int} : ∀ {ys : List Wy}, hitW b t rs ys = some c → ∃ y ∈ ys, hitR b t y.rules y.to 0 rs = some c
  | [], h => by cases h
  | y :: ys, h => by
    unfold hitW at h
    cases hy : hitR b t y.rules y.to 0 rs with
    | some d => rw [hy] at h; cases h; exact ⟨y, by simp, hy⟩
    | none =>
      rw [hy] at h
      obtain ⟨z, hz, h2⟩ := hitW_at h
      exact ⟨z, List.mem_cons_of_mem _ hz, h2⟩
theorem hitW_no {b : Bool} {t : Nat} {rs : List R} : ∀ {ys : List Wy}, hitW b t rs ys = none → ∀ y ∈ ys, hitR b t y.rules y.to 0 rs = none
  | [], _, y, hy => by cases hy
  | x :: ys, h, y, hy => by
    unfold hitW at h
    cases hx : hitR b t x.rules x.to 0 rs with
    | some d => rw [hx] at h; cases h
    | none =>
      rw [hx] at h
      rcases List.mem_cons.1 hy with rfl | hy
      · exact hx
      · exact hitW_no h y hy

theorem one_all {b : Bool} {l : List Int} {m k : Nat} {r : R} {s : St} {P : Wy → Prop} (h : ∀ y ∈ s.nx, P y) (hn : ∀ to, r.left = (m : Int) → ldO b r = some to → P ⟨l ++ [(k : Int)], to⟩) : ∀ y ∈ (one b l m k r s).nx, P y := by
  unfold one
  split
  · rename_i hl
    split
    · rename_i to hto
      split
      · exact h
      · intro y hy
        rcases List.mem_append.1 hy with hy | hy
        · exact h y hy
        · obtain rfl : y = _ := by simpa using hy
          exact hn _ hl hto
    · exact h
  · exact h
theorem goR_all {b : Bool} {l : List Int} {m : Nat} {P : Wy → Prop} : ∀ {rs : List R} {k : Nat} {s : St}, (∀ y ∈ s.nx, P y) → (∀ (j : Nat) r to, rs[j]? = some r → r.left = (m : Int) → ldO b r = some to → P ⟨l ++ [((k + j : Nat) : Int)], to⟩) → ∀ y ∈ (goR b l m k rs s).nx, P y
  | [], _, _, h, _ => h
  | r :: rs, k, s, h, hn => goR_all (rs := rs) (one_all h (fun to h1 h2 => hn 0 r to rfl h1 h2)) (fun j r' to h1 h2 h3 => by
    have := hn (j + 1) r' to h1 h2 h3
    rwa [show k + (j + 1) = k + 1 + j by omega] at this)
theorem goW_all {b : Bool} {rs : List R} {P : Wy → Prop} : ∀ {ys : List Wy} {s : St}, (∀ y ∈ s.nx, P y) → (∀ y ∈ ys, ∀ (j : Nat) r to, rs[j]? = some r → r.left = (y.to : Int) → ldO b r = some to → P ⟨y.rules ++ [(j : Int)], to⟩) → ∀ y ∈ (goW b rs ys s).nx, P y
  | [], _, h, _ => h
  | y :: ys, s, h, hn => goW_all (ys := ys) (goR_all h (fun j r to h1 h2 h3 => by rw [Nat.zero_add]; exact hn y (by simp) j r to h1 h2 h3)) (fun z hz => hn z (List.mem_cons_of_mem _ hz))

theorem Search.chain {b : Bool} {t n : Nat} {rs : List R} {ring : List Wy} {S : Nat → Bool} {o : Option (List Int)} (k : Search b t rs ring S o) : (∀ y ∈ ring, WayN b rs n y) → ∀ c, o = some c → IsCh b rs n t c := by
  induction k with
  | none S => intro _ c hc; cases hc
  | hit hh =>
    intro hw c hc
    cases hc
    obtain ⟨y, hy, h2⟩ := hitW_at hh
    obtain ⟨j, r, a1, a2, a3, rfl⟩ := hitR_at h2
    rw [Nat.zero_add]
    exact (hw y hy).ch a1 a2 a3
  | step _ hh _ ih =>
    intro hw c hc
    exact ih (goW_all (fun y hy => by cases hy) (fun y hy j r to h1 h2 h3 => (hw y hy).add h1 h2 h3)) c hc

theorem FoundE.chain {b : Bool} {rs : List R} {n t : Nat} {c : List Int} (h : FoundE b rs n t (some c)) : IsCh b rs n t c :=
  Search.chain h (fun y hy => by
    obtain rfl : y = ⟨[], n⟩ := by simpa [startW] using hy
    exact ⟨fun _ => n, rfl, rfl, fun i hi => absurd hi (by simp)⟩) c rfl

/-- What was met stays so; what rules lead to is met; who is new stands in the next ring. -/
theorem one_S {b : Bool} {l : List Int} {m k : Nat} {r : R} {s : St} {x : Nat} (h : s.S x = true) : (one b l m k r s).S x = true := by
  unfold one
  split
  · split
    · split
      · exact h
      · exact updB_up _ _ _ h
    · exact h
  · exact h
theorem one_to {b : Bool} {l : List Int} {m k : Nat} {r : R} {s : St} {to : Nat} (hl : r.left = (m : Int)) (hd : ldO b r = some to) : (one b l m k r s).S to = true := by
  unfold one
  rw [if_pos hl, hd]
  dsimp only
  split
  · assumption
  · exact updB_at _ _
theorem one_new {b : Bool} {l : List Int} {m k : Nat} {r : R} {s : St} {S0 : Nat → Bool} (h : ∀ x, s.S x = true → S0 x = true ∨ ∃ y ∈ s.nx, y.to = x) : ∀ x, (one b l m k r s).S x = true → S0 x = true ∨ ∃ y ∈ (one b l m k r s).nx, y.to = x := by
  unfold one
  split
  · split
    · rename_i to hto
      split
      · exact h
      · intro x hx
        dsimp only at hx ⊢
        by_cases e : x = to
        · subst e
          exact .inr ⟨⟨l ++ [(k : Int)], x⟩, List.mem_append_right _ (by simp), rfl⟩
        · rw [updB_ne _ e] at hx
          rcases h x hx with h | ⟨y, hy, h⟩
          · exact .inl h
          · exact .inr ⟨y, List.mem_append_left _ hy, h⟩
    · exact h
  · exact h
theorem goR_S {b : Bool} {l : List Int} {m x : Nat} : ∀ {rs : List R} {k : Nat} {s : St}, s.S x = true → (goR b l m k rs s).S x = true
  | [], _, _, h => h
  | r :: rs, k, s, h => goR_S (rs := rs) (one_S h)
theorem goR_to {b : Bool} {l : List Int} {m : Nat} : ∀ {rs : List R} {k : Nat} {s : St}, ∀ r ∈ rs, r.left = (m : Int) → ∀ to, ldO b r = some to → (goR b l m k rs s).S to = true
  | [], _, _, r, hr, _, _, _ => by cases hr
  | x :: rs, k, s, r, hr, hl, to, hd => by
    rcases List.mem_cons.1 hr with rfl | hr
    · exact goR_S (rs := rs) (one_to hl hd)
    · exact goR_to (rs := rs) r hr hl to hd
theorem goR_new {b : Bool} {l : List Int} {m : Nat} {S0 : Nat → Bool} : ∀ {rs : List R} {k : Nat} {s : St}, (∀ x, s.S x = true → S0 x = true ∨ ∃ y ∈ s.nx, y.to = x) → ∀ x, (goR b l m k rs s).S x = true → S0 x = true ∨ ∃ y ∈ (goR b l m k rs s).nx, y.to = x
  | [], _, _, h => h
  | r :: rs, k, s, h => goR_new (rs := rs) (one_new h)
theorem goW_S {b : Bool} {rs : List R} {x : Nat} : ∀ {ys : List Wy} {s : St}, s.S x = true → (goW b rs ys s).S x = true
  | [], _, h => h
  | y :: ys, s, h => goW_S (ys := ys) (goR_S h)
theorem goW_to {b : Bool} {rs : List R} : ∀ {ys : List Wy} {s : St}, ∀ y ∈ ys, ∀ r ∈ rs, r.left = (y.to : Int) → ∀ to, ldO b r = some to → (goW b rs ys s).S to = true
  | [], _, y, hy, _, _, _, _, _ => by cases hy
  | z :: ys, s, y, hy, r, hr, hl, to, hd => by
    rcases List.mem_cons.1 hy with rfl | hy
    · exact goW_S (ys := ys) (goR_to r hr hl to hd)
    · exact goW_to (ys := ys) y hy r hr hl to hd
theorem goW_new {b : Bool} {rs : List R} {S0 : Nat → Bool} : ∀ {ys : List Wy} {s : St}, (∀ x, s.S x = true → S0 x = true ∨ ∃ y ∈ s.nx, y.to = x) → ∀ x, (goW b rs ys s).S x = true → S0 x = true ∨ ∃ y ∈ (goW b rs ys s).nx, y.to = x
  | [], _, h => h
  | y :: ys, s, h => goW_new (ys := ys) (goR_new h)

/-- A nonterminal that was done: its rules do not show the terminal, and lead to what was met. -/
def DoneE (b : Bool) (t : Nat) (rs : List R) (S : Nat → Bool) (x : Nat) : Prop := ∀ r ∈ rs, r.left = (x : Int) → shO b r ≠ some t ∧ ∀ m, ldO b r = some m → S m = true

theorem Search.none_no {b : Bool} {t : Nat} {rs : List R} (hl : ∀ r ∈ rs, 0 ≤ r.left) {ring : List Wy} {S : Nat → Bool} {o : Option (List Int)} (k : Search b t rs ring S o) : o = Option.none → (∀ x, S x = true → (∃ y ∈ ring, y.to = x) ∨ DoneE b t rs S x) → ∀ x, S x = true → ¬ Lft b rs x t := by
  induction k with
  | none S =>
    intro _ hI
    have key : ∀ {x u : Nat}, Lft b rs x u → u = t → S x = true → False := by
      intro x u hL
      induction hL with
      | shows hr h =>
        rintro rfl hx
        rcases hI _ hx with ⟨y, hy, _⟩ | hd
        · cases hy
        · exact (hd _ hr (by have := hl _ hr; omega)).1 h
      | leads hr h _ ih =>
        rintro rfl hx
        rcases hI _ hx with ⟨y, hy, _⟩ | hd
        · cases hy
        · exact ih rfl ((hd _ hr (by have := hl _ hr; omega)).2 _ h)
    exact fun x hx hL => key hL rfl hx
  | hit hh => intro h; cases h
  | @step ring S o hne hh _ ih =>
    intro ho hI x hx
    refine ih ho (fun z hz => ?_) x (goW_S hx)
    rcases goW_new (S0 := S) (fun x hx => .inl hx) z hz with hz | ⟨y, hy, h⟩
    · right
      rcases hI z hz with ⟨y, hy, rfl⟩ | hd
      · intro r hr hrl
        exact ⟨hitR_no (hitW_no hh y hy) r hr hrl, fun m hm => goW_to y hy r hr hrl m hm⟩
      · intro r hr hrl
        exact ⟨(hd r hr hrl).1, fun m hm => goW_S ((hd r hr hrl).2 m hm)⟩
    · exact .inl ⟨y, hy, h⟩

theorem FoundE.none_no {b : Bool} {g : G} (hg : GoodG g) {n t : Nat} (h : FoundE b g.rs n t none) : ¬ Lft b g.rs n t :=
  Search.none_no (fun r hr => (left_lt hg hr).1) h rfl (fun x hx => by
    left
    refine ⟨⟨[], n⟩, by simp [startW], ?_⟩
    by_cases e : x = n
    · exact e.symm
    · unfold startS at hx
      rw [updB_ne _ e] at hx
      cases hx) n (by unfold startS; exact updB_at _ _)

end Go.Proofs.YtffdnpjkcchmnaaDoor.EndsMath
