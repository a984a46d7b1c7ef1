/-
  Orders, levels and rounds of a graph. No part of the program.
-/
import Derived.Test.YtgllcbajgndldaaDoorGraphBfs
import Derived.Test.YtgllcbajgndldaaDoorGraphPartsM
namespace Go.Proofs.YtgllcbajgndldaaDoor.GraphNet
open Go.RowKit Go.Proofs.YtgllcbajgndldaaDoor.GramMath Go.Proofs.YtgllcbajgndldaaDoor.GraphMath Go.Proofs.YtgllcbajgndldaaDoor.GraphFn
set_option linter.unusedVariables false

/-- Nodes in an order: those that lead to one stand ahead of it. -/
def Topo (m : Nat) (A : Nat → List Nat) (P : List Nat) : Prop := ∀ (i x : Nat), P[i]? = some x → ∀ a, a < m → x ∈ A a → a ∈ P.take i

theorem Topo.nil (m : Nat) (A : Nat → List Nat) : Topo m A [] := fun i x h => by simp at h
theorem Topo.add {m : Nat} {A : Nat → List Nat} {P : List Nat} {x : Nat} (h : Topo m A P) (hf : freeB m A P x = true) : Topo m A (P ++ [x]) := fun i y hy a ha hya => by
  obtain ⟨h1, h2⟩ := freeB_iff.1 hf
  by_cases hi : i < P.length
  · rw [List.getElem?_append_left hi] at hy
    rw [List.take_append_of_le_length (by omega)]
    exact h i y hy a ha hya
  · have := (List.getElem?_eq_some_iff.1 hy).1
    simp at this
    obtain rfl : i = P.length := by omega
    rw [List.getElem?_append_right (Nat.le_refl _)] at hy
    obtain rfl : x = y := by simpa using hy
    rw [List.take_left]
    exact h2 a ha hya
theorem ordR_topo {m : Nat} {A : Nat → List Nat} : ∀ (k : Nat) (P : List Nat), Topo m A P → ∀ L, ordR m A k P = some L → Topo m A L
  | 0, P, h, L, e => by
    obtain rfl : P = L := by simpa [ordR] using e
    exact h
  | k + 1, P, h, L, e => by
    simp only [ordR] at e
    cases hx : nxt m A P with
    | none => rw [hx] at e; cases e
    | some x =>
      rw [hx] at e
      exact ordR_topo k _ (h.add (nxt_some hx).2.1) L e

theorem stood_all {m : Nat} {A : Nat → List Nat} {L : List Nat} (h : Stood m A L) (hl : L.length = m) : ∀ x, x < m → x ∈ L := fun x hx => by
  apply Classical.byContradiction
  intro hc
  have h1 : (x :: L).Nodup := List.nodup_cons.2 ⟨hc, h.nodup⟩
  have h2 := nodup_le (m := m) h1 (fun y hy => by
    rcases List.mem_cons.1 hy with rfl | hy
    · exact hx
    · exact h.lt y hy)
  simp at h2
  omega

theorem levOne_spec {x : Nat} : ∀ (ys : List Nat) (f : Nat → Int), x ∉ ys → (∀ z, z ≠ x → levOne x f ys z = f z) ∧ f x ≤ levOne x f ys x ∧ (∀ y ∈ ys, f y + 1 ≤ levOne x f ys x) ∧ (levOne x f ys x = f x ∨ ∃ y ∈ ys, levOne x f ys x = f y + 1)
  | [], f, _ => ⟨fun _ _ => rfl, Int.le_refl _, by simp, .inl rfl⟩
  | y :: ys, f, h => by
    have hy : y ≠ x := fun e => h (by rw [e]; exact List.mem_cons_self)
    have hys : x ∉ ys := fun e => h (List.mem_cons_of_mem _ e)
    have e : levOne x f (y :: ys) = levOne x (updA f x (max (f x) (f y + 1))) ys := rfl
    rw [e]
    obtain ⟨h1, h2, h3, h4⟩ := levOne_spec ys (updA f x (max (f x) (f y + 1))) hys
    rw [updA_at] at h2 h4
    refine ⟨fun z hz => by rw [h1 z hz, updA_ne _ _ hz], by omega, fun z hz => ?_, ?_⟩
    · rcases List.mem_cons.1 hz with rfl | hz
      · omega
      · have := h3 z hz
        rw [updA_ne _ _ (fun e => hys (by rw [← e]; exact hz))] at this
        exact this
    · rcases h4 with h4 | ⟨z, hz, h4⟩
      · rw [h4]
        by_cases hm : f y + 1 ≤ f x
        · left; omega
        · right; exact ⟨y, List.mem_cons_self, by omega⟩
      · right
        rw [updA_ne _ _ (fun e => hys (by rw [← e]; exact hz))] at h4
        exact ⟨z, List.mem_cons_of_mem _ hz, h4⟩

/-- Levels: they fall along each edge, by one somewhere. -/
structure Lev (A : Nat → List Nat) (S : Nat → Prop) (f : Nat → Int) : Prop where
  falls : ∀ x, S x → ∀ y ∈ A x, f y + 1 ≤ f x
  one : ∀ x, S x → f x = 0 ∨ ∃ y ∈ A x, f x = f y + 1
  pos : ∀ x, 0 ≤ f x

theorem Lev.of {m : Nat} {A : Nat → List Nat} {L : List Nat} (hT : Topo m A L) (hn : L.Nodup) (hA : ∀ a y, y ∈ A a → y ∈ L) (hL : ∀ x ∈ L, x < m) : ∀ k, k ≤ L.length → Lev A (fun x => x ∈ L.drop (L.length - k)) (levF A (L.drop (L.length - k)).reverse)
  | 0, _ => by
    rw [Nat.sub_zero, List.drop_length]
    exact ⟨fun x h => (by cases h), fun x h => (by cases h), fun x => Int.le_refl _⟩
  | k + 1, hk => by
    have ih := Lev.of hT hn hA hL k (by omega)
    obtain ⟨i, hi⟩ : ∃ i, i = L.length - (k + 1) := ⟨_, rfl⟩
    have hil : i < L.length := by omega
    obtain ⟨x, hx⟩ : ∃ x, L[i]? = some x := ⟨L[i], List.getElem?_eq_getElem hil⟩
    rw [← hi]
    rw [show L.length - k = i + 1 by omega] at ih
    have hd : L.drop i = x :: L.drop (i + 1) := by
      rw [List.drop_eq_getElem_cons hil]
      obtain ⟨_, e⟩ := List.getElem?_eq_some_iff.1 hx
      rw [e]
    rw [hd, List.reverse_cons, levF_snoc]
    generalize hg : levF A (L.drop (i + 1)).reverse = g at ih ⊢
    have hsplit : L = L.take i ++ x :: L.drop (i + 1) := by rw [← hd, List.take_append_drop]
    have hnd : (L.take i ++ x :: L.drop (i + 1)).Nodup := by rw [← hsplit]; exact hn
    rw [List.nodup_append] at hnd
    obtain ⟨n1, n2, n3⟩ := hnd
    have hxm : x < m := hL x (List.mem_of_getElem? hx)
    have hxx : x ∉ A x := fun hc => n3 x (hT i x hx x hxm hc) x List.mem_cons_self rfl
    have hsucc : ∀ y ∈ A x, y ∈ L.drop (i + 1) := fun y hy => by
      have hyL := hA x y hy
      obtain ⟨j, hj, ej⟩ := List.mem_iff_getElem.1 hyL
      have hj2 : L[j]? = some y := by rw [List.getElem?_eq_getElem hj, ej]
      have h1 := hT j y hj2 x hxm hy
      obtain ⟨q, hq, eq⟩ := List.mem_iff_getElem.1 h1
      rw [List.length_take] at hq
      rw [List.getElem_take] at eq
      have e : q = i := nodup_idx hn (by rw [List.getElem?_eq_getElem (by omega), eq]) hx
      rw [List.mem_iff_getElem?]
      exact ⟨j - (i + 1), by rw [List.getElem?_drop, show i + 1 + (j - (i + 1)) = j by omega]; exact hj2⟩
    have hpre : ∀ z ∈ L.drop (i + 1), x ∉ A z := fun z hz hc => by
      have hzL := List.mem_of_mem_drop hz
      have h1 := hT i x hx z (hL z hzL) hc
      exact n3 z h1 z (List.mem_cons_of_mem _ hz) rfl
    have hxd : x ∉ L.drop (i + 1) := (List.nodup_cons.1 n2).1
    obtain ⟨s1, s2, s3, s4⟩ := levOne_spec (A x) g hxx
    have hgx : g x = 0 := by
      rw [← hg]
      have key : ∀ (xs : List Nat) (f : Nat → Int), x ∉ xs → f x = 0 → xs.foldl (fun f x => levOne x f (A x)) f x = 0 := by
        intro xs
        induction xs with
        | nil => intro f _ h; exact h
        | cons z xs ihz =>
          intro f h1 h2
          rw [List.foldl_cons]
          refine ihz _ (fun e => h1 (List.mem_cons_of_mem _ e)) ?_
          have hz : x ≠ z := fun e => h1 (by rw [e]; exact List.mem_cons_self)
          have : ∀ (ys : List Nat) (f : Nat → Int), levOne z f ys x = f x := by
            intro ys
            induction ys with
            | nil => intro f; rfl
            | cons y ys ihy =>
              intro f
              show levOne z (updA f z _) ys x = f x
              rw [ihy, updA_ne _ _ hz]
          rw [this]
          exact h2
      exact key _ _ (by rw [List.mem_reverse]; exact hxd) rfl
    refine ⟨fun z hz y hy => ?_, fun z hz => ?_, fun z => ?_⟩
    · rcases List.mem_cons.1 hz with rfl | hz
      · rw [s1 y (fun e => hxx (by rw [e] at hy; exact hy))]
        exact s3 y hy
      · rw [s1 z (fun e => hxd (by rw [← e]; exact hz)), s1 y (fun e => hpre z hz (by rw [← e]; exact hy))]
        exact ih.falls z hz y hy
    · rcases List.mem_cons.1 hz with rfl | hz
      · rcases s4 with s4 | ⟨y, hy, s4⟩
        · left; omega
        · right; exact ⟨y, hy, by rw [s1 y (fun e => hxx (by rw [e] at hy; exact hy))]; exact s4⟩
      · rw [s1 z (fun e => hxd (by rw [← e]; exact hz))]
        rcases ih.one z hz with h1 | ⟨y, hy, h1⟩
        · exact .inl h1
        · exact .inr ⟨y, hy, by rw [s1 y (fun e => hpre z hz (by rw [← e]; exact hy))]; exact h1⟩
    · by_cases e : z = x
      · subst e; have := ih.pos z; omega
      · rw [s1 z e]; exact ih.pos z

/-- What an order that was found tells. -/
structure Ord (m : Nat) (E : List (Nat × Nat)) (L : List Nat) : Prop where
  len : L.length = m
  nodup : L.Nodup
  lt : ∀ x ∈ L, x < m
  all : ∀ x, x < m → x ∈ L
  topo : Topo m (adj m E) L
  lev : Lev (adj m E) (fun x => x < m) (levL (adj m E) L)

theorem ord_of {m : Nat} {E : List (Nat × Nat)} {L : List Nat} (h : ordR m (adj m E) m [] = some L) : Ord m E L := by
  obtain ⟨h1, h2⟩ := ordR_facts m [] (Stood.nil m _) L h
  have h3 := ordR_topo m [] (Topo.nil m _) L h
  have hl : L.length = m := by simpa using h2
  have hall := stood_all h1 hl
  refine ⟨hl, h1.nodup, h1.lt, hall, h3, ?_⟩
  have h4 := Lev.of h3 h1.nodup (fun a y hy => hall y (mem_adj.1 hy).1) h1.lt L.length (Nat.le_refl _)
  rw [Nat.sub_self, List.drop_zero] at h4
  exact ⟨fun x hx => h4.falls x (hall x hx), fun x hx => h4.one x (hall x hx), h4.pos⟩

theorem Ord.edge {m : Nat} {E : List (Nat × Nat)} {L : List Nat} (h : Ord m E L) (hE : ∀ e ∈ E, e.1 < m ∧ e.2 < m) {a b : Nat} (he : (a, b) ∈ E) : levL (adj m E) L b + 1 ≤ levL (adj m E) L a := h.lev.falls a (hE _ he).1 b (mem_adj.2 ⟨(hE _ he).2, he⟩)
theorem Ord.place {m : Nat} {E : List (Nat × Nat)} {L : List Nat} (h : Ord m E L) (hE : ∀ e ∈ E, e.1 < m ∧ e.2 < m) {a b i j : Nat} (he : (a, b) ∈ E) (hi : L[i]? = some a) (hj : L[j]? = some b) : i < j := by
  have h1 := h.topo j b hj a (hE _ he).1 (mem_adj.2 ⟨(hE _ he).2, he⟩)
  obtain ⟨q, hq, eq⟩ := List.mem_iff_getElem.1 h1
  rw [List.length_take] at hq
  rw [List.getElem_take] at eq
  have e : q = i := nodup_idx h.nodup (by rw [List.getElem?_eq_getElem (by omega), eq]) hi
  omega
theorem Ord.wl {m : Nat} {E : List (Nat × Nat)} {L : List Nat} (h : Ord m E L) (hE : ∀ e ∈ E, e.1 < m ∧ e.2 < m) {s x : Nat} {l : List Nat} (hw : Wl E s l x) : levL (adj m E) L x ≤ levL (adj m E) L s := by
  induction hw with
  | one => exact Int.le_refl _
  | snoc _ he ih => have := h.edge hE he; omega
theorem Ord.no {m : Nat} {E : List (Nat × Nat)} {L : List Nat} (h : Ord m E L) (hE : ∀ e ∈ E, e.1 < m ∧ e.2 < m) {s : Nat} {l : List Nat} (hw : Rnd E s l) : False := by
  obtain ⟨x, h1, h2⟩ := hw
  have h3 := h.wl hE h1
  have h4 := h.edge hE h2
  omega
theorem Ord.way {m : Nat} {E : List (Nat × Nat)} {L : List Nat} (h : Ord m E L) (hE : ∀ e ∈ E, e.1 < m ∧ e.2 < m) {a b : Nat} (hw : GraphMath.Way E a b) : a = b ∨ levL (adj m E) L b + 1 ≤ levL (adj m E) L a := by
  induction hw with
  | none => exact .inl rfl
  | more _ he ih =>
    right
    have := h.edge hE he
    rcases ih with e | ih
    · rw [e]; exact this
    · omega

/-- Where no order is found there is a round. -/
theorem round_of {m : Nat} {E : List (Nat × Nat)} (hE : ∀ e ∈ E, e.1 < m ∧ e.2 < m) : ∀ (k : Nat) (P : List Nat), Stood m (adj m E) P → P.length + k = m → ordR m (adj m E) k P = none → ∃ s l, s < m ∧ Rnd E s l
  | 0, P, _, _, h => by simp [ordR] at h
  | k + 1, P, hP, hl, h => by
    simp only [ordR] at h
    cases hx : nxt m (adj m E) P with
    | some x =>
      rw [hx] at h
      obtain ⟨h1, h2, _⟩ := nxt_some hx
      exact round_of hE k _ (hP.add h1 h2) (by simp; omega) h
    | none =>
      have hno := nxt_none hx
      have hpred : ∀ y, y < m ∧ y ∉ P → ∃ a, (a < m ∧ a ∉ P) ∧ (a, y) ∈ E := fun y ⟨hy, hyP⟩ => by
        have h1 := hno y hy
        apply Classical.byContradiction
        intro hc
        have : freeB m (adj m E) P y = true := freeB_iff.2 ⟨hyP, fun a ha hya => by
          apply Classical.byContradiction
          intro haP
          exact hc ⟨a, ⟨ha, haP⟩, (mem_adj.1 hya).2⟩⟩
        rw [this] at h1
        cases h1
      obtain ⟨y0, hy0⟩ : ∃ y, y < m ∧ y ∉ P := by
        apply Classical.byContradiction
        intro hc
        have h1 : (List.range m).length ≤ P.length := List.Nodup.length_le_of_subset List.nodup_range (fun y hy => by
          apply Classical.byContradiction
          intro hyP
          exact hc ⟨y, List.mem_range.1 hy, hyP⟩)
        simp at h1
        omega
      -- a way backwards, of any length, among those that do not stand
      have hback : ∀ n, ∃ l : List Nat, l.length = n + 1 ∧ (∀ x ∈ l, x < m) ∧ ∃ s x, (s < m ∧ s ∉ P) ∧ Wl E s l x := fun n => by
        induction n with
        | zero => exact ⟨[y0], rfl, by simpa using hy0.1, y0, y0, hy0, .one⟩
        | succ n ih =>
          obtain ⟨l, h1, h2, s, x, h3, h4⟩ := ih
          obtain ⟨a, h5, h6⟩ := hpred s h3
          refine ⟨a :: l, by simp [h1], fun z hz => ?_, a, x, h5, ?_⟩
          · rcases List.mem_cons.1 hz with rfl | hz
            · exact h5.1
            · exact h2 z hz
          · exact (Wl.one : Wl E a [a] a).append h6 h4
      obtain ⟨l, h1, h2, s, x, h3, h4⟩ := hback m
      have hnd : ¬ l.Nodup := fun hc => by have := nodup_le hc h2; omega
      -- a node that is met twice
      have hdup : ∀ (l : List Nat), ¬ l.Nodup → ∃ v w1 w2 w3, l = w1 ++ v :: w2 ++ v :: w3 := by
        intro l
        induction l with
        | nil => intro h; exact absurd List.nodup_nil h
        | cons a l ih =>
          intro h
          by_cases ha : a ∈ l
          · obtain ⟨w2, w3, rfl⟩ := List.append_of_mem ha
            exact ⟨a, [], w2, w3, by simp⟩
          · obtain ⟨v, w1, w2, w3, rfl⟩ := ih (fun hc => h (List.nodup_cons.2 ⟨ha, hc⟩))
            exact ⟨v, a :: w1, w2, w3, by simp⟩
      obtain ⟨v, w1, w2, w3, rfl⟩ := hdup l hnd
      have h5 : Wl E s (w1 ++ v :: (w2 ++ v :: w3)) x := by simpa using h4
      have h6 := h5.split.2
      rw [show v :: (w2 ++ v :: w3) = (v :: w2) ++ v :: w3 by simp] at h6
      obtain ⟨h7, _⟩ := h6.split
      rcases h7 with h7 | ⟨u, h7, h8⟩
      · cases h7
      · exact ⟨v, v :: w2, h2 v (by simp), u, h7, h8⟩

theorem rd_of {m : Nat} {E : List (Nat × Nat)} (hE : ∀ e ∈ E, e.1 < m ∧ e.2 < m) (h : ordR m (adj m E) m [] = none) : ∃ s L, roundR m E = some L ∧ Rd m E s L := by
  obtain ⟨s, l, h1, h2⟩ := round_of hE m [] (Stood.nil m _) (by simp) h
  cases hr : roundR m E with
  | none => exact absurd h2 (roundR_none hE hr s l h1)
  | some L =>
    obtain ⟨s', h3⟩ := roundR_some hE hr
    exact ⟨s', L, rfl, h3⟩
theorem ord_no {m : Nat} {E : List (Nat × Nat)} (hE : ∀ e ∈ E, e.1 < m ∧ e.2 < m) {L : List Nat} (h : ordR m (adj m E) m [] = some L) : roundR m E = none := by
  cases hr : roundR m E with
  | none => rfl
  | some l =>
    obtain ⟨s, h1⟩ := roundR_some hE hr
    exact ((ord_of h).no hE h1.rnd).elim

theorem Rd.nth {m : Nat} {E : List (Nat × Nat)} {s : Nat} {L : List Nat} (hE : ∀ e ∈ E, e.1 < m ∧ e.2 < m) (h : Rd m E s L) : 0 < L.length ∧ L.length ≤ m ∧ L[0]? = some s ∧ (∀ (i x : Nat), L[i]? = some x → x < m ∧ s ≤ x) ∧ ∀ (i x y : Nat), L[i]? = some x → L[(i + 1) % L.length]? = some y → (x, y) ∈ E := by
  obtain ⟨e, h1, h2⟩ := h.rnd
  have hp := h1.pos
  obtain ⟨l, hl⟩ := h1.first
  refine ⟨hp, nodup_le h.nodup (fun x hx => (h1.lt hE h.lt).2 x hx), by rw [hl]; rfl, fun i x hx => ⟨(h1.lt hE h.lt).2 x (List.mem_of_getElem? hx), h.ge hE (List.mem_of_getElem? hx)⟩, fun i x y hx hy => ?_⟩
  have hi := (List.getElem?_eq_some_iff.1 hx).1
  by_cases hlast : i + 1 = L.length
  · rw [hlast, Nat.mod_self, hl] at hy
    obtain rfl : s = y := by simpa using hy
    rw [show i = L.length - 1 by omega, h1.at.2] at hx
    obtain rfl := Option.some.inj hx
    exact h2
  · rw [Nat.mod_eq_of_lt (by omega)] at hy
    exact h1.at.1 i x y hx hy

theorem wl_way {E : List (Nat × Nat)} {s x : Nat} {L : List Nat} (h : Wl E s L x) : GraphMath.Way E s x := by
  induction h with
  | one => exact .none _
  | snoc _ he ih => exact ih.more he
theorem heads_lt {same : Nat → Nat → Bool} {m a b : Nat} (hab : a < b) (hb : b < m) (h : same a b = true) : (heads same m).length < m := by
  unfold heads
  have h1 : ∃ x ∈ List.range m, ¬ headB same x = true := ⟨b, List.mem_range.2 hb, fun hc => by rw [headB_iff.1 hc a hab] at h; cases h⟩
  have := (List.length_filter_lt_length_iff_exists (p := headB same) (l := List.range m)).2 (by simpa using h1)
  simpa using this
theorem heads_all {same : Nat → Nat → Bool} {m : Nat} (h : ∀ a b, a < b → b < m → same a b = false) : (heads same m).length = m := by
  unfold heads
  rw [List.filter_eq_self.2 (fun x hx => headB_iff.2 (fun i hi => h i x hi (List.mem_range.1 hx)))]
  simp
theorem parts_lt {m : Nat} {E : List (Nat × Nat)} {s : Nat} {L : List Nat} (hE : ∀ e ∈ E, e.1 < m ∧ e.2 < m) (h : Rd m E s L) (h1 : L.length ≠ 1) : (heads (sameT m E) m).length < m := by
  obtain ⟨hp, hm, h0, hall, hnext⟩ := h.nth hE
  obtain ⟨x, hw, he⟩ := h.rnd
  have hx : L[L.length - 1]? = some x := hw.at.2
  have hxs : s ≤ x := (hall _ _ hx).2
  have hxm := (hall _ _ hx).1
  have hne : s ≠ x := fun e => by
    subst e
    have := nodup_idx h.nodup h0 hx
    omega
  exact heads_lt (a := s) (b := x) (by omega) hxm ((sameT_iff hE h.lt hxm).2 ⟨wl_way hw, (GraphMath.Way.none x).more he⟩)
theorem parts_all {m : Nat} {E : List (Nat × Nat)} {L : List Nat} (hE : ∀ e ∈ E, e.1 < m ∧ e.2 < m) (h : Ord m E L) : (heads (sameT m E) m).length = m := heads_all fun a b hab hb => by
  rw [Bool.eq_false_iff]
  intro hc
  obtain ⟨h1, h2⟩ := (sameT_iff hE (by omega) hb).1 hc
  rcases h.way hE h1 with e | e
  · omega
  · rcases h.way hE h2 with e2 | e2
    · omega
    · omega

end Go.Proofs.YtgllcbajgndldaaDoor.GraphNet
