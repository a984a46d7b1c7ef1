/-
  Tours of a graph: the way to each node is the least of all ways to it; rounds. No part of the program.
-/
import Derived.Test.YtgllcbajgndldaaDoorGraphTops
namespace Go.Proofs.YtgllcbajgndldaaDoor.GraphNet
open Go.RowKit Go.Proofs.YtgllcbajgndldaaDoor.GramMath Go.Proofs.YtgllcbajgndldaaDoor.GraphMath Go.Proofs.YtgllcbajgndldaaDoor.GraphFn
set_option linter.unusedVariables false

/-- Ways as lists of nodes, from a node on. -/
inductive Wl (E : List (Nat × Nat)) (s : Nat) : List Nat → Nat → Prop
  | one : Wl E s [s] s
  | snoc {L : List Nat} {y x : Nat} : Wl E s L y → (y, x) ∈ E → Wl E s (L ++ [x]) x

theorem Wl.pos {E : List (Nat × Nat)} {s x : Nat} {L : List Nat} (h : Wl E s L x) : 0 < L.length := by cases h <;> simp
theorem Wl.lt {E : List (Nat × Nat)} {m s x : Nat} {L : List Nat} (hE : ∀ e ∈ E, e.1 < m ∧ e.2 < m) (hs : s < m) (h : Wl E s L x) : x < m ∧ ∀ y ∈ L, y < m := by
  induction h with
  | one => exact ⟨hs, by simpa using hs⟩
  | snoc _ he ih => exact ⟨(hE _ he).2, fun z hz => by
      rcases List.mem_append.1 hz with h1 | h1
      · exact ih.2 z h1
      · rw [List.mem_singleton.1 h1]; exact (hE _ he).2⟩
theorem Wl.append {E : List (Nat × Nat)} {a b c d : Nat} {L L2 : List Nat} (h : Wl E a L b) (he : (b, c) ∈ E) (h2 : Wl E c L2 d) : Wl E a (L ++ L2) d := by
  induction h2 with
  | one => exact h.snoc he
  | snoc _ he2 ih => rw [← List.append_assoc]; exact ih.snoc he2
theorem Wl.first {E : List (Nat × Nat)} {s x : Nat} {L : List Nat} (h : Wl E s L x) : ∃ l, L = s :: l := by
  induction h with
  | one => exact ⟨[], rfl⟩
  | snoc _ _ ih => obtain ⟨l, rfl⟩ := ih; exact ⟨_, rfl⟩
theorem Wl.split {E : List (Nat × Nat)} {s x v : Nat} : ∀ {w2 w1 : List Nat}, Wl E s (w1 ++ v :: w2) x → (w1 = [] ∨ ∃ u, Wl E s w1 u ∧ (u, v) ∈ E) ∧ Wl E v (v :: w2) x := by
  intro w2 w1 h
  generalize hL : w1 ++ v :: w2 = L at h
  induction h generalizing w2 with
  | one =>
    rw [List.append_eq_singleton_iff] at hL
    rcases hL with ⟨rfl, h2⟩ | ⟨_, h2⟩
    · cases h2; exact ⟨.inl rfl, .one⟩
    · cases h2
  | @snoc L0 y x hw he ih =>
    rcases List.eq_nil_or_concat w2 with rfl | ⟨w3, z, rfl⟩
    · obtain ⟨rfl, h2⟩ := List.append_inj' hL rfl
      obtain rfl : v = x := by simpa using h2
      exact ⟨.inr ⟨y, hw, he⟩, .one⟩
    · rw [List.concat_eq_append, ← List.cons_append, ← List.append_assoc] at hL
      obtain ⟨h1, h2⟩ := List.append_inj' hL rfl
      obtain rfl : z = x := by simpa using h2
      obtain ⟨h3, h4⟩ := ih h1
      exact ⟨h3, by rw [List.concat_eq_append, ← List.cons_append]; exact h4.snoc he⟩
theorem Wl.turn {E : List (Nat × Nat)} {s x v : Nat} {L : List Nat} (h : Wl E s L x) (he : (x, s) ∈ E) (hv : v ∈ L) : ∃ L' x', Wl E v L' x' ∧ (x', v) ∈ E ∧ L'.length = L.length := by
  obtain ⟨w1, w2, rfl⟩ := List.append_of_mem hv
  obtain ⟨h1, h2⟩ := h.split
  rcases h1 with rfl | ⟨u, h1, h3⟩
  · obtain ⟨l, hl⟩ := h.first
    obtain ⟨rfl, rfl⟩ : v = s ∧ w2 = l := by simpa using hl
    exact ⟨_, x, h, he, rfl⟩
  · exact ⟨_, u, h2.append he h1, h3, by simp; omega⟩
theorem Wl.at {E : List (Nat × Nat)} {s x : Nat} {L : List Nat} (h : Wl E s L x) : (∀ (i a b : Nat), L[i]? = some a → L[i + 1]? = some b → (a, b) ∈ E) ∧ L[L.length - 1]? = some x := by
  induction h with
  | one => exact ⟨fun i a b h1 h2 => by simp at h2, rfl⟩
  | @snoc L y x hw he ih =>
    have hp := hw.pos
    refine ⟨fun i a b h1 h2 => ?_, by simp⟩
    rcases Nat.lt_trichotomy (i + 1) L.length with h3 | h3 | h3
    · rw [List.getElem?_append_left (by omega)] at h1 h2
      exact ih.1 i a b h1 h2
    · rw [List.getElem?_append_left (by omega)] at h1
      rw [show i = L.length - 1 by omega, ih.2] at h1
      rw [h3, List.getElem?_append_right (Nat.le_refl _)] at h2
      obtain rfl := Option.some.inj h1
      obtain rfl : x = b := by simpa using h2
      exact he
    · have := (List.getElem?_eq_some_iff.1 h2).1
      simp at this
      omega

theorem snoc_ind {P : List Nat → Prop} (h0 : P []) (h1 : ∀ L x, P L → P (L ++ [x])) (L : List Nat) : P L := by
  have key : ∀ n (L : List Nat), L.length = n → P L := by
    intro n
    induction n with
    | zero => intro L h; rw [List.length_eq_zero_iff.1 h]; exact h0
    | succ n ih =>
      intro L h
      rcases List.eq_nil_or_concat L with rfl | ⟨l, x, rfl⟩
      · exact h0
      · rw [List.concat_eq_append] at h ⊢
        exact h1 l x (ih l (by simpa using h))
  exact key _ L rfl

/-- Lists in order of their length, then as words, told by one number. -/
def rkL (M : Nat) (L : List Nat) : Nat := L.foldl (fun a x => a * M + (x + 1)) 0
theorem rkL_snoc (M : Nat) (L : List Nat) (x : Nat) : rkL M (L ++ [x]) = rkL M L * M + (x + 1) := by simp [rkL]
theorem rkL_bound {M : Nat} (hM : 0 < M) : ∀ (L : List Nat), (∀ x ∈ L, x + 1 < M) → rkL M L < M ^ L.length := by
  intro L
  induction L using snoc_ind with
  | h0 => intro _; simp [rkL]
  | h1 L x ih =>
    intro h
    have h1 := ih (fun y hy => h y (List.mem_append.2 (.inl hy)))
    have h2 := h x (by simp)
    rw [rkL_snoc, List.length_append, List.length_singleton, Nat.pow_succ]
    have : (rkL M L + 1) * M ≤ M ^ L.length * M := Nat.mul_le_mul_right _ h1
    rw [Nat.add_mul, Nat.one_mul] at this
    omega
theorem rkL_low {M : Nat} (hM : 0 < M) : ∀ (L : List Nat), M ^ L.length ≤ rkL M L * M + 1 := by
  intro L
  induction L using snoc_ind with
  | h0 => simp [rkL]
  | h1 L x ih =>
    rw [rkL_snoc, List.length_append, List.length_singleton, Nat.pow_succ]
    have h1 : M ^ L.length ≤ rkL M L * M + (x + 1) := by omega
    exact Nat.le_trans (Nat.mul_le_mul_right M h1) (Nat.le_succ _)
theorem rkL_len {M : Nat} (hM : 0 < M) {L L' : List Nat} (hL' : ∀ x ∈ L', x + 1 < M) (h : rkL M L ≤ rkL M L') : L.length ≤ L'.length := by
  apply Nat.le_of_not_lt
  intro hc
  rcases List.eq_nil_or_concat L with rfl | ⟨L0, x, rfl⟩
  · simp at hc
  rw [List.concat_eq_append] at h hc
  have h1 := rkL_low hM L0
  have h2 := rkL_bound hM L' hL'
  rw [rkL_snoc] at h
  simp at hc
  have h3 : M ^ L'.length ≤ M ^ L0.length := Nat.pow_le_pow_right hM (by omega)
  omega
theorem rkL_inj {M : Nat} : ∀ (L L' : List Nat), (∀ x ∈ L, x + 1 < M) → (∀ x ∈ L', x + 1 < M) → rkL M L = rkL M L' → L = L' := by
  intro L
  induction L using snoc_ind with
  | h0 =>
    intro L' _ h2 h
    rcases List.eq_nil_or_concat L' with rfl | ⟨L0, x, rfl⟩
    · rfl
    · rw [List.concat_eq_append, rkL_snoc] at h; simp [rkL] at h
  | h1 L x ih =>
    intro L' h1 h2 h
    rcases List.eq_nil_or_concat L' with rfl | ⟨L0, y, rfl⟩
    · rw [rkL_snoc] at h; simp [rkL] at h
    · rw [List.concat_eq_append] at h2 h ⊢
      rw [rkL_snoc, rkL_snoc] at h
      have hx := h1 x (by simp)
      have hy := h2 y (by simp)
      have hd : ∀ a b : Nat, a * M + (x + 1) = b * M + (y + 1) → a = b := fun a b e => by
        have e1 : (a * M + (x + 1)) / M = (b * M + (y + 1)) / M := by rw [e]
        rw [Nat.add_comm (a * M), Nat.add_comm (b * M), Nat.add_mul_div_right _ _ (by omega), Nat.add_mul_div_right _ _ (by omega), Nat.div_eq_of_lt hx, Nat.div_eq_of_lt hy] at e1
        omega
      have e := hd _ _ h
      rw [e] at h
      rw [ih L0 (fun z hz => h1 z (List.mem_append.2 (.inl hz))) (fun z hz => h2 z (List.mem_append.2 (.inl hz))) e, show x = y by omega]
theorem rkL_mul {M p q a b : Nat} (ha : a + 1 < M) (h : p < q) : p * M + (a + 1) < q * M + (b + 1) := by
  have : (p + 1) * M ≤ q * M := Nat.mul_le_mul_right _ h
  rw [Nat.add_mul, Nat.one_mul] at this
  omega

/-- How a tour stands while the edges of its node number k are gone along, those to nodes below lo already. -/
structure Bf (E : List (Nat × Nat)) (s k lo : Nat) (t : Tr) : Prop where
  first : t.nodes[0]? = some s
  root : t.ahead s = (s : Int)
  par : ∀ (i x : Nat), t.nodes[i + 1]? = some x → ∃ (j y : Nat), j ≤ i ∧ t.nodes[j]? = some y ∧ t.ahead x = (y : Int) ∧ (y, x) ∈ E ∧ (j < k ∨ (j = k ∧ x < lo))
  ord : ∀ (i i' x x' j j' y y' : Nat), i < i' → t.nodes[i + 1]? = some x → t.nodes[i' + 1]? = some x' → t.nodes[j]? = some y → t.nodes[j']? = some y' → t.ahead x = (y : Int) → t.ahead x' = (y' : Int) → j < j' ∨ (j = j' ∧ x < x')
  seen : ∀ (j y z : Nat), t.nodes[j]? = some y → (y, z) ∈ E → (j < k ∨ (j = k ∧ z < lo)) → z ∈ t.nodes ∧ (z = s ∨ ∃ (j' y' : Nat), j' ≤ j ∧ t.nodes[j']? = some y' ∧ t.ahead z = (y' : Int))

theorem nodup_idx {l : List Nat} (hn : l.Nodup) {i j x : Nat} (h1 : l[i]? = some x) (h2 : l[j]? = some x) : i = j := by
  obtain ⟨a1, a2⟩ := List.getElem?_eq_some_iff.1 h1
  obtain ⟨b1, b2⟩ := List.getElem?_eq_some_iff.1 h2
  exact (List.getElem_inj hn).1 (a2.trans b2.symm)

theorem Bf.start {E : List (Nat × Nat)} (s : Nat) : Bf E s 0 0 (GraphMath.start [s]) := by
  have e : GraphMath.start [s] = ⟨[s], updA (fun _ => -1) s (s : Int)⟩ := by simp [GraphMath.start, GraphMath.meet]
  rw [e]
  refine ⟨rfl, show updA (fun _ => -1) s (s : Int) s = (s : Int) from updA_at _ _ _, fun i x h => by simp at h, fun i i' x x' j j' y y' _ h => by simp at h, fun j y z _ _ h => by omega⟩

theorem Bf.met {E : List (Nat × Nat)} {m s k lo y x : Nat} {t : Tr} (h : Bf E s k lo t) (ho : Ok m t) (hy : t.nodes[k]? = some y) (hlo : lo ≤ x) (hx : (y, x) ∈ E) (hno : ∀ z, (y, z) ∈ E → lo ≤ z → x ≤ z) : Bf E s k (x + 1) (GraphMath.meet t x y) := by
  have hseen : ∀ (j u z : Nat), t.nodes[j]? = some u → (u, z) ∈ E → (j < k ∨ (j = k ∧ z < x + 1)) → (z ∈ t.nodes ∧ (z = s ∨ ∃ (j' y' : Nat), j' ≤ j ∧ t.nodes[j']? = some y' ∧ t.ahead z = (y' : Int))) ∨ (z = x ∧ j = k) := fun j u z hu hz hj => by
    rcases hj with hj | ⟨hj, hzx⟩
    · exact .inl (h.seen j u z hu hz (.inl hj))
    · subst hj
      rw [hy] at hu
      obtain rfl := Option.some.inj hu
      by_cases e : z < lo
      · exact .inl (h.seen j _ z hy hz (.inr ⟨rfl, e⟩))
      · exact .inr ⟨by have := hno z hz (by omega); omega, rfl⟩
  have hpark : ∀ (i z : Nat), t.nodes[i]? = some z → z = s ∨ ∃ (j' y' : Nat), j' ≤ k ∧ t.nodes[j']? = some y' ∧ t.ahead z = (y' : Int) := fun i z hz => by
    cases i with
    | zero => rw [h.first] at hz; exact .inl (Option.some.inj hz).symm
    | succ i =>
      obtain ⟨j, u, _, h2, h3, _, h4⟩ := h.par i z hz
      exact .inr ⟨j, u, by omega, h2, h3⟩
  unfold GraphMath.meet
  by_cases hm : t.ahead x = -1
  · rw [if_pos hm]
    have hxn : x ∉ t.nodes := fun hc => (ho.met x).1 hc hm
    have hold : ∀ (i z : Nat), (t.nodes ++ [x])[i]? = some z → (t.nodes[i]? = some z ∧ z ≠ x ∧ i < t.nodes.length) ∨ (i = t.nodes.length ∧ z = x) := fun i z hz => by
      by_cases hi : i < t.nodes.length
      · rw [List.getElem?_append_left hi] at hz
        exact .inl ⟨hz, fun e => hxn (by rw [← e]; exact List.mem_of_getElem? hz), hi⟩
      · rw [List.getElem?_append_right (by omega)] at hz
        have := (List.getElem?_eq_some_iff.1 hz).1
        simp at this
        have e : i - t.nodes.length = 0 := by omega
        rw [e] at hz
        exact .inr ⟨by omega, by simpa using hz.symm⟩
    have hup : ∀ (i z : Nat), t.nodes[i]? = some z → (t.nodes ++ [x])[i]? = some z := fun i z hz => by rw [List.getElem?_append_left (List.getElem?_eq_some_iff.1 hz).1]; exact hz
    have hsx : s ≠ x := fun e => hxn (by rw [← e]; exact List.mem_of_getElem? h.first)
    have hkl := (List.getElem?_eq_some_iff.1 hy).1
    have hpn : ∀ (i z : Nat), t.nodes[i + 1]? = some z → ∃ (j u : Nat), j ≤ i ∧ t.nodes[j]? = some u ∧ t.ahead z = (u : Int) ∧ (u, z) ∈ E ∧ (j < k ∨ (j = k ∧ z < x + 1)) := fun i z hz => by
      obtain ⟨j, u, h1, h2, h3, h4, h5⟩ := h.par i z hz
      exact ⟨j, u, h1, h2, h3, h4, by omega⟩
    refine ⟨hup 0 s h.first, by dsimp only; rw [updA_ne _ _ hsx]; exact h.root, fun i z hz => ?_, fun i i' z z' j j' u u' hii hz hz' hj hj' ha ha' => ?_, fun j u z hu hz hj => ?_⟩
    · rcases hold _ _ hz with ⟨h1, h2, h3⟩ | ⟨h1, rfl⟩
      · obtain ⟨j, u, p1, p2, p3, p4, p5⟩ := hpn i z h1
        exact ⟨j, u, p1, hup j u p2, by dsimp only; rw [updA_ne _ _ h2]; exact p3, p4, p5⟩
      · exact ⟨k, y, by omega, hup k y hy, updA_at .., hx, .inr ⟨rfl, by omega⟩⟩
    · dsimp only at ha ha'
      rcases hold _ _ hz with ⟨h1, h2, h3⟩ | ⟨h1, rfl⟩
      · rw [updA_ne _ _ h2] at ha
        rcases hold _ _ hz' with ⟨g1, g2, g3⟩ | ⟨g1, rfl⟩
        · rw [updA_ne _ _ g2] at ha'
          obtain ⟨j0, u0, q1, q2, q3, _⟩ := h.par i z h1
          obtain ⟨j1, u1, r1, r2, r3, _⟩ := h.par i' z' g1
          obtain rfl : u0 = u := by omega
          obtain rfl : u1 = u' := by omega
          rcases hold _ _ hj with ⟨e1, _, _⟩ | ⟨_, rfl⟩
          · rcases hold _ _ hj' with ⟨e2, _, _⟩ | ⟨_, rfl⟩
            · exact h.ord i i' z z' j j' _ _ hii h1 g1 e1 e2 ha ha'
            · exact absurd (List.mem_of_getElem? r2) hxn
          · exact absurd (List.mem_of_getElem? q2) hxn
        · rw [updA_at] at ha'
          obtain rfl : y = u' := by omega
          obtain ⟨j0, u0, q1, q2, q3, _, q5⟩ := h.par i z h1
          obtain rfl : u0 = u := by omega
          have e1 : j = j0 := by
            rcases hold _ _ hj with ⟨e1, _, _⟩ | ⟨_, rfl⟩
            · exact nodup_idx ho.nodup e1 q2
            · exact absurd (List.mem_of_getElem? q2) hxn
          have e2 : j' = k := by
            rcases hold _ _ hj' with ⟨e1, _, _⟩ | ⟨_, rfl⟩
            · exact nodup_idx ho.nodup e1 hy
            · exact absurd (List.mem_of_getElem? hy) hxn
          subst e1 e2
          rcases q5 with q5 | ⟨q5, q6⟩
          · exact .inl q5
          · exact .inr ⟨q5, by omega⟩
      · have := (List.getElem?_eq_some_iff.1 hz').1
        simp at this
        omega
    · rcases hold _ _ hu with ⟨h1, h2, h3⟩ | ⟨h1, rfl⟩
      · rcases hseen j u z h1 hz hj with ⟨g1, g2⟩ | ⟨rfl, rfl⟩
        · refine ⟨List.mem_append.2 (.inl g1), ?_⟩
          rcases g2 with g2 | ⟨j', y', g3, g4, g5⟩
          · exact .inl g2
          · exact .inr ⟨j', y', g3, hup _ _ g4, by dsimp only; rw [updA_ne _ _ (fun e => hxn (by rw [← e]; exact g1))]; exact g5⟩
        · exact ⟨by simp, .inr ⟨j, y, Nat.le_refl _, hup _ _ hy, updA_at ..⟩⟩
      · omega
  · rw [if_neg hm]
    have hxn : x ∈ t.nodes := (ho.met x).2 hm
    refine ⟨h.first, h.root, fun i z hz => ?_, h.ord, fun j u z hu hz hj => ?_⟩
    · obtain ⟨j, u, h1, h2, h3, h4, h5⟩ := h.par i z hz
      exact ⟨j, u, h1, h2, h3, h4, by omega⟩
    · rcases hseen j u z hu hz hj with h1 | ⟨rfl, rfl⟩
      · exact h1
      · obtain ⟨i, hi, e⟩ := List.mem_iff_getElem.1 hxn
        exact ⟨hxn, hpark i z (by rw [List.getElem?_eq_getElem hi, e])⟩

theorem Bf.mets {E : List (Nat × Nat)} {m s k y : Nat} : ∀ (xs : List Nat) (t : Tr) (lo : Nat), Bf E s k lo t → Ok m t → t.nodes[k]? = some y → lo ≤ m → xs.Pairwise (· < ·) → (∀ x ∈ xs, lo ≤ x ∧ x < m ∧ (y, x) ∈ E) → (∀ z, (y, z) ∈ E → lo ≤ z → z ∈ xs) → Bf E s k m (meets t y xs)
  | [], t, lo, h, ho, hy, hlo, _, _, hno => by
    refine ⟨h.first, h.root, fun i z hz => ?_, h.ord, fun j u z hu hz hj => ?_⟩
    · obtain ⟨j, u, h1, h2, h3, h4, h5⟩ := h.par i z hz
      exact ⟨j, u, h1, h2, h3, h4, by omega⟩
    · refine h.seen j u z hu hz ?_
      rcases hj with hj | ⟨rfl, hj⟩
      · exact .inl hj
      · refine .inr ⟨rfl, Nat.lt_of_not_le fun hc => ?_⟩
        have hu' : t.nodes[j]? = some u := hu
        rw [hy] at hu'
        obtain rfl := Option.some.inj hu'
        have := hno z hz hc
        cases this
  | x :: xs, t, lo, h, ho, hy, hlo, hp, hx, hno => by
    rw [meets_cons]
    rw [List.pairwise_cons] at hp
    obtain ⟨x1, x2, x3⟩ := hx x List.mem_cons_self
    have hle : ∀ z, (y, z) ∈ E → lo ≤ z → x ≤ z := fun z hz hl => by
      rcases List.mem_cons.1 (hno z hz hl) with e | e
      · omega
      · exact Nat.le_of_lt (hp.1 z e)
    refine Bf.mets xs _ (x + 1) (h.met ho hy x1 x3 hle) (ho.meet x2 (.inl (List.mem_of_getElem? hy))) ?_ (by omega) hp.2 (fun z hz => ⟨hp.1 z hz, (hx z (List.mem_cons_of_mem _ hz)).2⟩) (fun z hz hl => ?_)
    · obtain ⟨l, hl⟩ := meet_pre (t := t) (x := x) (a := (y : Int))
      rw [← hl, List.getElem?_append_left (List.getElem?_eq_some_iff.1 hy).1]
      exact hy
    · rcases List.mem_cons.1 (hno z hz (by omega)) with e | e
      · omega
      · exact e

theorem Bf.run {m : Nat} {E : List (Nat × Nat)} (hE : ∀ e ∈ E, e.1 < m ∧ e.2 < m) {s : Nat} : ∀ (f k : Nat) (t : Tr), Bf E s k 0 t → Ok m t → m + 1 ≤ f + k → k ≤ t.nodes.length → ∃ k', (GraphMath.run m E f k t).nodes.length ≤ k' ∧ Bf E s k' 0 (GraphMath.run m E f k t)
  | 0, k, t, h, ho, hf, hk => by have := ho.len; omega
  | f + 1, k, t, h, ho, hf, hk => by
    cases hx : t.nodes[k]? with
    | none =>
      rw [show GraphMath.run m E (f + 1) k t = t by simp only [GraphMath.run, hx]]
      exact ⟨k, List.getElem?_eq_none_iff.1 hx, h⟩
    | some y =>
      rw [show GraphMath.run m E (f + 1) k t = GraphMath.run m E f (k + 1) (meets t y (adj m E y)) by simp only [GraphMath.run, hx]]
      have hym := List.mem_of_getElem? hx
      obtain ⟨h1, h2, _, _⟩ := meets_facts (m := m) (a := y) (adj m E y) t ho (fun z hz => (mem_adj.1 hz).1) hym
      have h3 := Bf.mets (m := m) (adj m E y) t 0 h ho hx (Nat.zero_le _) (adj_rising m E y) (fun z hz => ⟨Nat.zero_le _, mem_adj.1 hz⟩) (fun z hz _ => mem_adj.2 ⟨(hE _ hz).2, hz⟩)
      have hkl := (List.getElem?_eq_some_iff.1 hx).1
      refine Bf.run hE f (k + 1) _ ⟨h3.first, h3.root, fun i z hz => ?_, h3.ord, fun j u z hu hz hj => ?_⟩ h1 (by omega) (by have := h2.length_le; omega)
      · obtain ⟨j, u, p1, p2, p3, p4, p5⟩ := h3.par i z hz
        exact ⟨j, u, p1, p2, p3, p4, by omega⟩
      · exact h3.seen j u z hu hz (by have := (hE _ hz).2; omega)

theorem tour_bf {m : Nat} {E : List (Nat × Nat)} (hE : ∀ e ∈ E, e.1 < m ∧ e.2 < m) {s : Nat} (hs : s < m) : ∃ k', (GraphMath.tour m E [s]).nodes.length ≤ k' ∧ Bf E s k' 0 (GraphMath.tour m E [s]) :=
  Bf.run hE (m + 1) 0 _ (Bf.start s) (start_facts [s] (by simpa using hs)).1 (by omega) (by omega)

theorem Chain.uniq {f : Nat → Int} {x : Nat} {L : List Nat} (h : Chain f x L) : ∀ {L' : List Nat}, Chain f x L' → L = L' := by
  induction h with
  | root h0 =>
    intro L' h'
    cases h' with
    | root _ => rfl
    | step h1 h2 _ => omega
  | step h1 h2 _ ih =>
    intro L' h'
    cases h' with
    | root _ => omega
    | @step _ y' L2 g1 g2 g3 =>
      have e : y' = _ := Int.ofNat_inj.1 (g1.symm.trans h1)
      subst e
      rw [ih g3]

/-- Of a tour: what is ahead of each, by the chain's list. -/
theorem Bf.chain {E : List (Nat × Nat)} {s k : Nat} {t : Tr} (h : Bf E s k 0 t) (hn : t.nodes.Nodup) {i x : Nat} (hx : t.nodes[i + 1]? = some x) {L : List Nat} (hL : Chain t.ahead x L) : ∃ (j y : Nat) (L0 : List Nat), j ≤ i ∧ t.nodes[j]? = some y ∧ t.ahead x = (y : Int) ∧ (y, x) ∈ E ∧ Chain t.ahead y L0 ∧ L = L0 ++ [x] := by
  obtain ⟨j, y, h1, h2, h3, h4, _⟩ := h.par i x hx
  cases hL with
  | root h0 =>
    exfalso
    have e : y = x := by omega
    subst e
    have := nodup_idx hn h2 hx
    omega
  | @step _ y' L0 g1 g2 g3 =>
    have e : y' = y := by omega
    subst e
    exact ⟨j, y', L0, h1, h2, h3, h4, g3, rfl⟩
theorem Bf.chain0 {E : List (Nat × Nat)} {s k : Nat} {t : Tr} (h : Bf E s k 0 t) {L : List Nat} (hL : Chain t.ahead s L) : L = [s] := hL.uniq (.root h.root)

theorem Bf.lt {m : Nat} {E : List (Nat × Nat)} {s k : Nat} {t : Tr} (h : Bf E s k 0 t) (ho : Ok m t) : ∀ (n i i' x x' : Nat) (L L' : List Nat), i' ≤ n → i < i' → t.nodes[i]? = some x → t.nodes[i']? = some x' → Chain t.ahead x L → Chain t.ahead x' L' → rkL (m + 1) L < rkL (m + 1) L'
  | 0, i, i', _, _, _, _, h1, h2, _, _, _, _ => by omega
  | n + 1, i, i', x, x', L, L', hn, hi, hx, hx', hL, hL' => by
    obtain ⟨i1, rfl⟩ : ∃ i1, i' = i1 + 1 := ⟨i' - 1, by omega⟩
    obtain ⟨j', y', L0', p1, p2, p3, p4, p5, rfl⟩ := h.chain ho.nodup hx' hL'
    have hxm := ho.lt x (List.mem_of_getElem? hx)
    rw [rkL_snoc]
    cases i with
    | zero =>
      rw [h.first] at hx
      obtain rfl := Option.some.inj hx
      rw [h.chain0 hL]
      have hpos : 0 < rkL (m + 1) L0' := by
        rcases List.eq_nil_or_concat L0' with rfl | ⟨l, z, rfl⟩
        · have := p5.last
          simp at this
        · rw [List.concat_eq_append, rkL_snoc]; omega
      have h1 : 1 * (m + 1) ≤ rkL (m + 1) L0' * (m + 1) := Nat.mul_le_mul_right _ hpos
      have h2 : rkL (m + 1) [s] = s + 1 := by simp [rkL]
      omega
    | succ i =>
      obtain ⟨j, y, L0, q1, q2, q3, q4, q5, rfl⟩ := h.chain ho.nodup hx hL
      rw [rkL_snoc]
      rcases h.ord i i1 x x' j j' y y' (by omega) hx hx' q2 p2 q3 p3 with h1 | ⟨h1, h2⟩
      · exact rkL_mul (by omega) (Bf.lt h ho n j j' y y' L0 L0' (by omega) h1 q2 p2 q5 p5)
      · subst h1
        rw [q2] at p2
        obtain rfl := Option.some.inj p2
        rw [q5.uniq p5]
        omega

theorem tour_chain {m : Nat} {E : List (Nat × Nat)} (hE : ∀ e ∈ E, e.1 < m ∧ e.2 < m) {s x : Nat} (hs : s < m) (hx : x ∈ (GraphMath.tour m E [s]).nodes) : Chain (GraphMath.tour m E [s]).ahead x (wayF (GraphMath.tour m E [s]).ahead m x) := by
  obtain ⟨i, hi, e⟩ := List.mem_iff_getElem.1 hx
  exact (backWay_facts hE hs (i := i) (by rw [List.getElem?_eq_getElem hi, e])).1

/-- The tour's way to a node is the least of all ways to it. -/
theorem tour_least {m : Nat} {E : List (Nat × Nat)} (hE : ∀ e ∈ E, e.1 < m ∧ e.2 < m) {s x : Nat} {L : List Nat} (hs : s < m) (h : Wl E s L x) : x ∈ (GraphMath.tour m E [s]).nodes ∧ rkL (m + 1) (wayF (GraphMath.tour m E [s]).ahead m x) ≤ rkL (m + 1) L := by
  obtain ⟨k, hk, hb⟩ := tour_bf hE hs
  obtain ⟨ho, _⟩ := tour_facts hE [s] (by simpa using hs)
  induction h with
  | one =>
    have hin := List.mem_of_getElem? hb.first
    refine ⟨hin, ?_⟩
    rw [hb.chain0 (tour_chain hE hs hin)]
    exact Nat.le_refl _
  | @snoc L y x hw he ih =>
    obtain ⟨h1, h2⟩ := ih
    obtain ⟨j, hj, ej⟩ := List.mem_iff_getElem.1 h1
    have hj2 : (GraphMath.tour m E [s]).nodes[j]? = some y := by rw [List.getElem?_eq_getElem hj, ej]
    obtain ⟨g1, g2⟩ := hb.seen j y x hj2 he (.inl (by omega))
    refine ⟨g1, ?_⟩
    rw [rkL_snoc]
    have hc := tour_chain hE hs g1
    obtain ⟨i, hi, ei⟩ := List.mem_iff_getElem.1 g1
    have hi2 : (GraphMath.tour m E [s]).nodes[i]? = some x := by rw [List.getElem?_eq_getElem hi, ei]
    have hle : rkL (m + 1) (wayF (GraphMath.tour m E [s]).ahead m y) * (m + 1) ≤ rkL (m + 1) L * (m + 1) := Nat.mul_le_mul_right _ h2
    cases i with
    | zero =>
      rw [hb.first] at hi2
      obtain rfl := Option.some.inj hi2
      rw [hb.chain0 hc]
      have : rkL (m + 1) [s] = s + 1 := by simp [rkL]
      omega
    | succ i =>
      obtain ⟨j1, y1, L0, q1, q2, q3, q4, q5, q6⟩ := hb.chain ho.nodup hi2 hc
      rw [q6, rkL_snoc]
      have hle2 : rkL (m + 1) L0 ≤ rkL (m + 1) (wayF (GraphMath.tour m E [s]).ahead m y) := by
        rcases g2 with g2 | ⟨j', y', g3, g4, g5⟩
        · subst g2
          have := nodup_idx ho.nodup hb.first hi2
          omega
        · obtain rfl : y1 = y' := by omega
          have e := nodup_idx ho.nodup q2 g4
          subst e
          by_cases e2 : j1 = j
          · subst e2
            rw [hj2] at g4
            obtain rfl := Option.some.inj g4
            rw [q5.uniq (tour_chain hE hs h1)]
            exact Nat.le_refl _
          · exact Nat.le_of_lt (hb.lt ho j j1 j y1 y L0 _ (Nat.le_refl _) (by omega) g4 hj2 q5 (tour_chain hE hs h1))
      have := Nat.mul_le_mul_right (m + 1) hle2
      omega

theorem tour_wl {m : Nat} {E : List (Nat × Nat)} (hE : ∀ e ∈ E, e.1 < m ∧ e.2 < m) {s : Nat} (hs : s < m) : ∀ (n i x : Nat) (L : List Nat), i ≤ n → (GraphMath.tour m E [s]).nodes[i]? = some x → Chain (GraphMath.tour m E [s]).ahead x L → Wl E s L x ∧ L.Nodup ∧ ∀ y ∈ L, ∃ j, j ≤ i ∧ (GraphMath.tour m E [s]).nodes[j]? = some y := by
  obtain ⟨k, hk, hb⟩ := tour_bf hE hs
  obtain ⟨ho, _⟩ := tour_facts hE [s] (by simpa using hs)
  intro n
  induction n with
  | zero =>
    intro i x L hi hx hL
    obtain rfl : i = 0 := by omega
    rw [hb.first] at hx
    obtain rfl := Option.some.inj hx
    rw [hb.chain0 hL]
    exact ⟨.one, by simp, fun y hy => ⟨0, Nat.le_refl _, by rw [List.mem_singleton.1 hy]; exact hb.first⟩⟩
  | succ n ih =>
    intro i x L hi hx hL
    cases i with
    | zero => exact ih 0 x L (Nat.zero_le _) hx hL
    | succ i =>
      obtain ⟨j, y, L0, q1, q2, q3, q4, q5, rfl⟩ := hb.chain ho.nodup hx hL
      obtain ⟨h1, h2, h3⟩ := ih j y L0 (by omega) q2 q5
      refine ⟨h1.snoc q4, ?_, fun z hz => ?_⟩
      · rw [List.nodup_append]
        refine ⟨h2, by simp, fun a ha b hb2 e => ?_⟩
        rw [List.mem_singleton.1 hb2] at e
        subst e
        obtain ⟨j0, g1, g2⟩ := h3 a ha
        have := nodup_idx ho.nodup g2 hx
        omega
      · rcases List.mem_append.1 hz with h4 | h4
        · obtain ⟨j0, g1, g2⟩ := h3 z h4
          exact ⟨j0, by omega, g2⟩
        · exact ⟨i + 1, Nat.le_refl _, by rw [List.mem_singleton.1 h4]; exact hx⟩

/-- A list that goes round from a node. -/
def Rnd (E : List (Nat × Nat)) (s : Nat) (L : List Nat) : Prop := ∃ x, Wl E s L x ∧ (x, s) ∈ E

theorem backWay_some {m : Nat} {E : List (Nat × Nat)} (hE : ∀ e ∈ E, e.1 < m ∧ e.2 < m) {s : Nat} {L : List Nat} (hs : s < m) (h : backWay m E s = some L) : Rnd E s L ∧ L.Nodup ∧ ∀ L', Rnd E s L' → rkL (m + 1) L ≤ rkL (m + 1) L' := by
  obtain ⟨k, hk, hb⟩ := tour_bf hE hs
  obtain ⟨ho, _⟩ := tour_facts hE [s] (by simpa using hs)
  unfold backWay at h
  obtain ⟨x, hx, rfl⟩ := Option.map_eq_some_iff.1 h
  obtain ⟨hp, pre, bs, e, hno⟩ := List.find?_eq_some_iff_append.1 hx
  have hin := List.mem_of_find?_eq_some hx
  have hxi : (GraphMath.tour m E [s]).nodes[pre.length]? = some x := by rw [e, List.getElem?_append_right (Nat.le_refl _)]; simp
  obtain ⟨h1, h2, _⟩ := tour_wl hE hs pre.length pre.length x _ (Nat.le_refl _) hxi (tour_chain hE hs hin)
  refine ⟨⟨x, h1, (mem_adj.1 (by simpa using hp)).2⟩, h2, fun L' hL' => ?_⟩
  obtain ⟨x', h3, h4⟩ := hL'
  obtain ⟨h5, h6⟩ := tour_least hE hs h3
  obtain ⟨i, hi, ei⟩ := List.mem_iff_getElem.1 h5
  have hi2 : (GraphMath.tour m E [s]).nodes[i]? = some x' := by rw [List.getElem?_eq_getElem hi, ei]
  refine Nat.le_trans ?_ h6
  rcases Nat.lt_trichotomy pre.length i with h7 | h7 | h7
  · exact Nat.le_of_lt (hb.lt ho i pre.length i x x' _ _ (Nat.le_refl _) h7 hxi hi2 (tour_chain hE hs hin) (tour_chain hE hs h5))
  · subst h7
    rw [hxi] at hi2
    obtain rfl := Option.some.inj hi2
    exact Nat.le_refl _
  · exfalso
    have : x' ∈ pre := by
      rw [e, List.getElem?_append_left h7] at hi2
      exact List.mem_of_getElem? hi2
    have := hno x' this
    have h8 : s ∈ adj m E x' := mem_adj.2 ⟨hs, h4⟩
    simp [h8] at this
theorem backWay_none {m : Nat} {E : List (Nat × Nat)} (hE : ∀ e ∈ E, e.1 < m ∧ e.2 < m) {s : Nat} (hs : s < m) (h : backWay m E s = none) : ∀ L', ¬ Rnd E s L' := by
  rintro L' ⟨x', h3, h4⟩
  obtain ⟨h5, h6⟩ := tour_least hE hs h3
  unfold backWay at h
  rw [Option.map_eq_none_iff, List.find?_eq_none] at h
  exact h x' h5 (by simpa using mem_adj.2 ⟨hs, h4⟩)

theorem roundK_facts {m : Nat} {E : List (Nat × Nat)} : ∀ k, (roundK m E k = none → ∀ s, s < k → backWay m E s = none) ∧ ∀ w, roundK m E k = some w → ∃ s, s < k ∧ backWay m E s = some w ∧ (∀ s' w', s' < k → backWay m E s' = some w' → w.length ≤ w'.length) ∧ ∀ s' w', s' < s → backWay m E s' = some w' → w.length < w'.length
  | 0 => ⟨fun _ s hs => by omega, fun w h => by simp [roundK] at h⟩
  | k + 1 => by
    obtain ⟨ih1, ih2⟩ := roundK_facts (m := m) (E := E) k
    rw [roundK_succ]
    cases hw : backWay m E k with
    | none =>
      have hb : better (roundK m E k) none = roundK m E k := by cases roundK m E k <;> rfl
      rw [hb]
      refine ⟨fun h s hs => ?_, fun w h => ?_⟩
      · by_cases e : s = k
        · rw [e]; exact hw
        · exact ih1 h s (by omega)
      · obtain ⟨s, h1, h2, h3, h4⟩ := ih2 w h
        refine ⟨s, by omega, h2, fun s' w' hs' hw' => ?_, h4⟩
        by_cases e : s' = k
        · rw [e, hw] at hw'; cases hw'
        · exact h3 s' w' (by omega) hw'
    | some R =>
      cases hr : roundK m E k with
      | none =>
        refine ⟨fun h => by simp [better] at h, fun w h => ?_⟩
        obtain rfl : R = w := by simpa [better] using h
        refine ⟨k, by omega, hw, fun s' w' hs' hw' => ?_, fun s' w' hs' hw' => ?_⟩
        · by_cases e : s' = k
          · rw [e, hw] at hw'; obtain rfl := Option.some.inj hw'; exact Nat.le_refl _
          · rw [ih1 hr s' (by omega)] at hw'; cases hw'
        · rw [ih1 hr s' (by omega)] at hw'; cases hw'
      | some b =>
        obtain ⟨s, h1, h2, h3, h4⟩ := ih2 b hr
        by_cases hlt : R.length < b.length
        · have e : better (some b) (some R) = some R := by simp [better, hlt]
          rw [e]
          refine ⟨fun h => (by cases h), fun w h => ?_⟩
          obtain rfl := Option.some.inj h
          refine ⟨k, by omega, hw, fun s' w' hs' hw' => ?_, fun s' w' hs' hw' => ?_⟩
          · by_cases e : s' = k
            · rw [e, hw] at hw'; obtain rfl := Option.some.inj hw'; exact Nat.le_refl _
            · have := h3 s' w' (by omega) hw'; omega
          · have := h3 s' w' (by omega) hw'; omega
        · have e : better (some b) (some R) = some b := by simp [better, hlt]
          rw [e]
          refine ⟨fun h => (by cases h), fun w h => ?_⟩
          obtain rfl := Option.some.inj h
          refine ⟨s, by omega, h2, fun s' w' hs' hw' => ?_, h4⟩
          by_cases e : s' = k
          · rw [e, hw] at hw'; obtain rfl := Option.some.inj hw'; omega
          · exact h3 s' w' (by omega) hw'

/-- The round that is told: a round, its first node the least, no node twice, no round shorter; of those of its length from that node the least. -/
structure Rd (m : Nat) (E : List (Nat × Nat)) (s : Nat) (L : List Nat) : Prop where
  lt : s < m
  rnd : Rnd E s L
  nodup : L.Nodup
  least : ∀ L', Rnd E s L' → rkL (m + 1) L ≤ rkL (m + 1) L'
  short : ∀ s' L', s' < m → Rnd E s' L' → L.length ≤ L'.length
  low : ∀ s' L', s' < s → Rnd E s' L' → L.length < L'.length

theorem Rnd.all {m : Nat} {E : List (Nat × Nat)} (hE : ∀ e ∈ E, e.1 < m ∧ e.2 < m) {s : Nat} {L : List Nat} (hs : s < m) (h : Rnd E s L) : ∀ x ∈ L, x + 1 < m + 1 := fun x hx => by
  obtain ⟨y, h1, _⟩ := h
  have := (h1.lt hE hs).2 x hx
  omega
theorem roundR_some {m : Nat} {E : List (Nat × Nat)} (hE : ∀ e ∈ E, e.1 < m ∧ e.2 < m) {L : List Nat} (h : roundR m E = some L) : ∃ s, Rd m E s L := by
  obtain ⟨s, h1, h2, h3, h4⟩ := (roundK_facts (m := m) (E := E) m).2 L h
  obtain ⟨g1, g2, g3⟩ := backWay_some hE h1 h2
  have hsh : ∀ s' L', s' < m → Rnd E s' L' → ∃ w', backWay m E s' = some w' ∧ w'.length ≤ L'.length := fun s' L' hs' hL' => by
    cases hb : backWay m E s' with
    | none => exact absurd hL' (backWay_none hE hs' hb L')
    | some w' => exact ⟨w', rfl, rkL_len (by omega) (hL'.all hE hs') ((backWay_some hE hs' hb).2.2 L' hL')⟩
  refine ⟨s, h1, g1, g2, g3, fun s' L' hs' hL' => ?_, fun s' L' hs' hL' => ?_⟩
  · obtain ⟨w', e1, e2⟩ := hsh s' L' hs' hL'
    have := h3 s' w' hs' e1
    omega
  · obtain ⟨w', e1, e2⟩ := hsh s' L' (by omega) hL'
    have := h4 s' w' hs' e1
    omega
theorem roundR_none {m : Nat} {E : List (Nat × Nat)} (hE : ∀ e ∈ E, e.1 < m ∧ e.2 < m) (h : roundR m E = none) : ∀ s L, s < m → ¬ Rnd E s L := fun s L hs => backWay_none hE hs ((roundK_facts (m := m) (E := E) m).1 h s hs) L
theorem Rd.ge {m : Nat} {E : List (Nat × Nat)} (hE : ∀ e ∈ E, e.1 < m ∧ e.2 < m) {s v : Nat} {L : List Nat} (h : Rd m E s L) (hv : v ∈ L) : s ≤ v := by
  obtain ⟨x, h1, h2⟩ := h.rnd
  obtain ⟨L', x', h3, h4, h5⟩ := h1.turn h2 hv
  apply Nat.le_of_not_lt
  intro hc
  have := h.low v L' hc ⟨x', h3, h4⟩
  omega

end Go.Proofs.YtgllcbajgndldaaDoor.GraphNet
