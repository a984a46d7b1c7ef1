/-
  Lines in plain Lean: places, and what stands behind a blank. No part of the program.
-/
import Derived.Test.YtbhgbfkepagnbaaDoorWordsMath
namespace Go.Proofs.YtbhgbfkepagnbaaDoor.WordsMath

/-- The ways of a line at its first byte. -/
theorem lineL_ways (c : UInt8) (r : List UInt8) (i : Nat) (out : List W) :
    (blankN c.toNat = true ∧ lineL (c :: r) i out = lineL r (i + 1) out) ∨
    (c.toNat = 35 ∧ lineL (c :: r) i out = .ok out) ∨
    (c.toNat = 34 ∧ ∃ p, unqE r (i + 1) = .error p ∧ lineL (c :: r) i out = .error p) ∨
    (c.toNat = 34 ∧ ∃ t e, unqE r (i + 1) = .ok (t, e) ∧ lineL (c :: r) i out = lineL (r.drop (e - (i + 1))) e (out ++ [⟨t, true, i⟩])) ∨
    (plainN c.toNat = true ∧ c.toNat ≠ 35 ∧ endsL (r.drop (plainLen r)) = true ∧ lineL (c :: r) i out = lineL (r.drop (plainLen r)) (i + 1 + plainLen r) (out ++ [⟨c :: r.take (plainLen r), false, i⟩])) ∨
    (∃ k, k ≤ r.length + 1 ∧ lineL (c :: r) i out = .error (i + k)) := by
  cases hb : blankN c.toNat with
  | true => exact .inl ⟨rfl, lineL_blank hb r i out⟩
  | false =>
    by_cases h35 : c.toNat = 35
    · exact .inr (.inl ⟨h35, lineL_comment h35 r i out⟩)
    · by_cases h34 : c.toNat = 34
      · cases hu : unqE r (i + 1) with
        | error p => exact .inr (.inr (.inl ⟨h34, p, rfl, lineL_bad h34 hu out⟩))
        | ok x =>
          obtain ⟨t, e⟩ := x
          exact .inr (.inr (.inr (.inl ⟨h34, t, e, rfl, lineL_quoted h34 hu out⟩)))
      · cases hp : plainN c.toNat with
        | true =>
          cases he : endsL (r.drop (plainLen r)) with
          | true => exact .inr (.inr (.inr (.inr (.inl ⟨rfl, h35, rfl, lineL_plain hp h35 he i out⟩))))
          | false => exact .inr (.inr (.inr (.inr (.inr ⟨1 + plainLen r, by have := plainLen_le r; omega, by rw [lineL_cut hp h35 he, Nat.add_assoc]⟩))))
        | false => exact .inr (.inr (.inr (.inr (.inr ⟨0, by omega, by rw [lineL_wrong hp hb h34, Nat.add_zero]⟩))))

theorem lineL_ok (n : Nat) : ∀ (l : List UInt8) (i : Nat) (out us : List W), l.length ≤ n → lineL l i out = .ok us →
    ∃ more, us = out ++ more ∧ more.Pairwise (fun a b => a.place < b.place) ∧ ∀ x ∈ more, i ≤ x.place ∧ x.place < i + l.length := by
  induction n with
  | zero =>
    intro l i out us hl h
    obtain rfl : l = [] := List.eq_nil_of_length_eq_zero (by omega)
    rw [lineL_nil] at h
    cases h
    exact ⟨[], by simp, List.Pairwise.nil, fun x hx => by cases hx⟩
  | succ n ih =>
    intro l i out us hl h
    cases l with
    | nil =>
      rw [lineL_nil] at h
      cases h
      exact ⟨[], by simp, List.Pairwise.nil, fun x hx => by cases hx⟩
    | cons c r =>
      simp only [List.length_cons] at hl ⊢
      have step : ∀ (k e : Nat) (x : W), x.place = i → e = i + 1 + k → k ≤ r.length → lineL (r.drop k) e (out ++ [x]) = .ok us →
          ∃ more, us = out ++ more ∧ more.Pairwise (fun a b => a.place < b.place) ∧ ∀ x ∈ more, i ≤ x.place ∧ x.place < i + (r.length + 1) := by
        intro k e x hx he hk h2
        have hlen : (r.drop k).length = r.length - k := List.length_drop
        obtain ⟨more, h3, h4, h5⟩ := ih (r.drop k) e (out ++ [x]) us (by omega) h2
        refine ⟨x :: more, by rw [h3]; simp, List.pairwise_cons.2 ⟨fun y hy => ?_, h4⟩, fun y hy => ?_⟩
        · have := h5 y hy; omega
        · rcases List.mem_cons.1 hy with rfl | hy
          · omega
          · have := h5 y hy; omega
      rcases lineL_ways c r i out with ⟨_, w⟩ | ⟨_, w⟩ | ⟨_, p, _, w⟩ | ⟨_, t, e, hu, w⟩ | ⟨_, _, _, w⟩ | ⟨k, _, w⟩
      · rw [w] at h
        obtain ⟨more, h3, h4, h5⟩ := ih r (i + 1) out us (by omega) h
        exact ⟨more, h3, h4, fun x hx => by have := h5 x hx; omega⟩
      · rw [w] at h
        cases h
        exact ⟨[], by simp, List.Pairwise.nil, fun x hx => by cases hx⟩
      · rw [w] at h; cases h
      · rw [w] at h
        have hb := unqE_bound.1 _ _ hu
        exact step (e - (i + 1)) e _ rfl (by omega) (by omega) h
      · rw [w] at h
        exact step (plainLen r) _ _ rfl rfl (plainLen_le r) h
      · rw [w] at h; cases h

theorem rise_len : ∀ (ws : List W) (a b : Nat), ws.Pairwise (fun a b => a.place < b.place) → (∀ x ∈ ws, a ≤ x.place ∧ x.place < b) → ws.length ≤ b - a
  | [], _, _, _, _ => by simp
  | x :: r, a, b, h, hb => by
    obtain ⟨h1, h2⟩ := List.pairwise_cons.1 h
    have hx := hb x (by simp)
    have := rise_len r (x.place + 1) b h2 (fun y hy => ⟨h1 y hy, (hb y (by simp [hy])).2⟩)
    simp only [List.length_cons]
    omega

theorem lineL_err (n : Nat) : ∀ (l : List UInt8) (i : Nat) (out : List W) (p : Nat), l.length ≤ n → lineL l i out = .error p → i ≤ p ∧ p ≤ i + l.length := by
  induction n with
  | zero =>
    intro l i out p hl h
    obtain rfl : l = [] := List.eq_nil_of_length_eq_zero (by omega)
    rw [lineL_nil] at h
    cases h
  | succ n ih =>
    intro l i out p hl h
    cases l with
    | nil => rw [lineL_nil] at h; cases h
    | cons c r =>
      simp only [List.length_cons] at hl ⊢
      rcases lineL_ways c r i out with ⟨_, w⟩ | ⟨_, w⟩ | ⟨_, q, hu, w⟩ | ⟨_, t, e, hu, w⟩ | ⟨_, _, _, w⟩ | ⟨k, hk, w⟩
      · rw [w] at h
        have := ih r (i + 1) out p (by omega) h
        omega
      · rw [w] at h; cases h
      · rw [w] at h
        cases h
        have := unqE_bound.2 _ hu
        omega
      · rw [w] at h
        have hb := unqE_bound.1 _ _ hu
        have hlen : (r.drop (e - (i + 1))).length = r.length - (e - (i + 1)) := List.length_drop
        have := ih _ e _ p (by omega) h
        omega
      · rw [w] at h
        have hb := plainLen_le r
        have hlen : (r.drop (plainLen r)).length = r.length - plainLen r := List.length_drop
        have := ih _ _ _ p (by omega) h
        omega
      · rw [w] at h
        cases h
        omega

theorem sixL_app {l : List UInt8} {b : UInt8} (h : sixL l = some b) (X : List UInt8) : sixL (l ++ X) = some b := by
  match l, h with
  | x :: y :: r, h => exact h

theorem escL_app {l : List UInt8} {x : UInt8 × Nat} (h : escL l = some x) (X : List UInt8) : escL (l ++ X) = some x := by
  cases l with
  | nil => cases h
  | cons d r =>
    rw [List.cons_append]
    unfold escL at h ⊢
    dsimp only at h ⊢
    by_cases h1 : d.toNat = 34 ∨ d.toNat = 92
    · rw [if_pos h1] at h ⊢; exact h
    · rw [if_neg h1] at h ⊢
      by_cases h2 : d.toNat = 110
      · rw [if_pos h2] at h ⊢; exact h
      · rw [if_neg h2] at h ⊢
        by_cases h3 : d.toNat = 120
        · rw [if_pos h3] at h ⊢
          cases h4 : sixL r with
          | none => rw [h4] at h; cases h
          | some b => rw [h4] at h; rw [sixL_app h4]; exact h
        · rw [if_neg h3] at h; cases h

theorem pieceL_app {c : UInt8} {r : List UInt8} {x : UInt8 × Nat} (h : pieceL c r = some x) (X : List UInt8) : pieceL c (r ++ X) = some x := by
  unfold pieceL at h ⊢
  by_cases h1 : c.toNat = 92
  · rw [if_pos h1] at h ⊢; exact escL_app h X
  · rw [if_neg h1] at h ⊢; exact h

theorem unqL_app (n : Nat) : ∀ (l : List UInt8) (i : Nat) (acc t : List UInt8) (e : Nat) (X : List UInt8), l.length ≤ n → unqL l i acc = .ok (t, e) → unqL (l ++ X) i acc = .ok (t, e) := by
  induction n with
  | zero =>
    intro l i acc t e X hl h
    obtain rfl : l = [] := List.eq_nil_of_length_eq_zero (by omega)
    rw [unqL_nil] at h; cases h
  | succ n ih =>
    intro l i acc t e X hl h
    cases l with
    | nil => rw [unqL_nil] at h; cases h
    | cons c r =>
      rw [List.cons_append]
      by_cases h34 : c.toNat = 34
      · rw [unqL_end h34] at h ⊢; exact h
      · cases hp : pieceL c r with
        | none => rw [unqL_none h34 hp] at h; cases h
        | some x =>
          obtain ⟨b, k⟩ := x
          have hk := pieceL_len hp
          rw [unqL_some h34 hp] at h
          rw [unqL_some h34 (pieceL_app hp X), List.drop_append_of_le_length hk]
          have hlen : (r.drop k).length = r.length - k := List.length_drop
          exact ih _ _ _ _ _ X (by simp only [List.length_cons] at hl; omega) h

theorem ends_app {l : List UInt8} (h : endsL l = true) (B : List UInt8) : endsL (l ++ 32 :: B) = true := by
  cases l with
  | nil => rfl
  | cons c r => exact h

theorem unqE_app {l : List UInt8} {i : Nat} {t : List UInt8} {e : Nat} (h : unqE l i = .ok (t, e)) (B : List UInt8) : unqE (l ++ 32 :: B) i = .ok (t, e) := by
  obtain ⟨h1, h2⟩ := unqE_ok h
  have hb := unqE_bound.1 _ _ h
  unfold unqE
  rw [unqL_app l.length l i [] t e (32 :: B) (Nat.le_refl _) h1]
  dsimp only
  rw [List.drop_append_of_le_length (by omega), if_pos (ends_app h2 B)]

theorem plainLen_app (B : List UInt8) : ∀ r : List UInt8, plainLen (r ++ 32 :: B) = plainLen r
  | [] => rfl
  | c :: r => by
    rw [List.cons_append]
    unfold plainLen
    rw [plainLen_app B r]

/-- What stands behind a blank changes nothing of the words ahead. -/
theorem lineL_app (B : List UInt8) (n : Nat) : ∀ (l : List UInt8) (i : Nat) (out ws : List W), l.length ≤ n → lineL l i out = .ok ws →
    lineL (l ++ 32 :: B) i out = lineL B (i + l.length + 1) ws ∨ lineL (l ++ 32 :: B) i out = .ok ws := by
  induction n with
  | zero =>
    intro l i out ws hl h
    obtain rfl : l = [] := List.eq_nil_of_length_eq_zero (by omega)
    rw [lineL_nil] at h
    cases h
    exact .inl (lineL_blank (by decide) B i _)
  | succ n ih =>
    intro l i out ws hl h
    cases l with
    | nil =>
      rw [lineL_nil] at h
      cases h
      exact .inl (lineL_blank (by decide) B i _)
    | cons c r =>
      simp only [List.length_cons] at hl ⊢
      rw [List.cons_append]
      rcases lineL_ways c r i out with ⟨hb, w⟩ | ⟨h35, w⟩ | ⟨_, q, hu, w⟩ | ⟨h34, t, e, hu, w⟩ | ⟨hp, h35, he, w⟩ | ⟨k, hk, w⟩
      · rw [w] at h
        rw [lineL_blank hb]
        have := ih r (i + 1) out ws (by omega) h
        rwa [show i + 1 + r.length + 1 = i + (r.length + 1) + 1 by omega] at this
      · rw [w] at h
        cases h
        exact .inr (lineL_comment h35 _ _ _)
      · rw [w] at h; cases h
      · rw [w] at h
        have hb := unqE_bound.1 _ _ hu
        have hlen : (r.drop (e - (i + 1))).length = r.length - (e - (i + 1)) := List.length_drop
        rw [lineL_quoted h34 (unqE_app hu B), List.drop_append_of_le_length (by omega)]
        have := ih _ e _ ws (by omega) h
        rwa [show e + (r.drop (e - (i + 1))).length + 1 = i + (r.length + 1) + 1 by omega] at this
      · rw [w] at h
        have hb := plainLen_le r
        have hlen : (r.drop (plainLen r)).length = r.length - plainLen r := List.length_drop
        rw [lineL_plain hp h35 (by rw [plainLen_app, List.drop_append_of_le_length hb]; exact ends_app he B), plainLen_app, List.drop_append_of_le_length hb, List.take_append_of_le_length hb]
        have := ih _ _ _ ws (by omega) h
        rwa [show i + 1 + plainLen r + (r.drop (plainLen r)).length + 1 = i + (r.length + 1) + 1 by omega] at this
      · rw [w] at h; cases h

/-- What the two lines come to, all in one. -/
theorem lines_two (l B : List UInt8) (ws : List W) (h : lineL l 0 [] = .ok ws) :
    (∀ us, lineL (l ++ 32 :: B) 0 [] = .ok us → ∃ more, us = ws ++ more) ∧ ∀ p, lineL (l ++ 32 :: B) 0 [] = .error p → l.length < p := by
  rcases lineL_app B l.length l 0 [] ws (Nat.le_refl _) h with w | w
  · rw [w]
    refine ⟨fun us hu => ?_, fun p hp => ?_⟩
    · obtain ⟨more, h1, _⟩ := lineL_ok B.length B _ ws us (Nat.le_refl _) hu
      exact ⟨more, h1⟩
    · have := lineL_err B.length B _ ws p (Nat.le_refl _) hp
      omega
  · rw [w]
    exact ⟨fun us hu => by cases hu; exact ⟨[], by simp⟩, fun p hp => by cases hp⟩

end Go.Proofs.YtbhgbfkepagnbaaDoor.WordsMath
