/-
  Graphs of numbered nodes, as lists: what the program's tours come to, and what is reached. No part of the program.
-/
import Derived.Lib.SlicesCompact
namespace Go.Proofs.YtgllcbajgndldaaDoor.GraphMath
set_option linter.unusedVariables false

/-- Two rising lists with the same numbers are one. -/
theorem rising_ext : ∀ {l l' : List Nat}, l.Pairwise (· < ·) → l'.Pairwise (· < ·) → (∀ x, x ∈ l ↔ x ∈ l') → l = l'
  | [], [], _, _, _ => rfl
  | [], y :: l', _, _, h => by have := (h y).2 List.mem_cons_self; cases this
  | x :: l, [], _, _, h => by have := (h x).1 List.mem_cons_self; cases this
  | x :: l, y :: l', h1, h2, h => by
    rw [List.pairwise_cons] at h1 h2
    have e : x = y := by
      rcases List.mem_cons.1 ((h x).1 List.mem_cons_self) with e | e
      · exact e
      · rcases List.mem_cons.1 ((h y).2 List.mem_cons_self) with e2 | e2
        · exact e2.symm
        · have a := h2.1 x e
          have b := h1.1 y e2
          omega
    subst e
    congr 1
    refine rising_ext h1.2 h2.2 fun z => ⟨fun hz => ?_, fun hz => ?_⟩
    · rcases List.mem_cons.1 ((h z).1 (List.mem_cons_of_mem _ hz)) with e | e
      · subst e; have := h1.1 z hz; omega
      · exact e
    · rcases List.mem_cons.1 ((h z).2 (List.mem_cons_of_mem _ hz)) with e | e
      · subst e; have := h2.1 z hz; omega
      · exact e

/-- Numbers as the program has them. -/
def ints (l : List Nat) : List Int := l.map (fun (x : Nat) => (x : Int))
theorem ints_length (l : List Nat) : (ints l).length = l.length := by simp [ints]
theorem ints_get (l : List Nat) (i : Nat) : (ints l)[i]? = (l[i]?).map (fun (x : Nat) => (x : Int)) := by simp [ints]
theorem ints_append (l m : List Nat) : ints (l ++ m) = ints l ++ ints m := by simp [ints]
theorem mem_ints {l : List Nat} {x : Nat} : (x : Int) ∈ ints l ↔ x ∈ l := by
  unfold ints
  rw [List.mem_map]
  constructor
  · rintro ⟨a, ha, e⟩
    obtain rfl : a = x := by omega
    exact ha
  · intro h; exact ⟨x, h, rfl⟩
theorem ints_inj {l m : List Nat} (h : ints l = ints m) : l = m := by
  unfold ints at h
  exact (List.map_inj_right (fun x y e => by exact Int.ofNat_inj.1 e)).1 h
theorem ints_nats {zs : List Int} (h : ∀ x ∈ zs, 0 ≤ x) : ∃ l, zs = ints l := ⟨zs.map Int.toNat, by
  unfold ints
  rw [List.map_map]
  conv => lhs; rw [← List.map_id zs]
  refine List.map_congr_left fun x hx => ?_
  have := h x hx
  simp; omega⟩

theorem compact_inv (d : Array Int) (hs : d.toList.Pairwise (· ≤ ·)) : ∀ m, m ≤ d.size → (Lib.compactUpTo d m).Pairwise (· < ·) ∧ (∀ x, x ∈ Lib.compactUpTo d m ↔ ∃ j, j < m ∧ d[j]! = x)
  | 0, _ => by simp [Lib.compactUpTo]
  | m + 1, hm => by
    obtain ⟨h1, h2⟩ := compact_inv d hs m (by omega)
    rw [Lib.compactUpTo_succ]
    have hle : ∀ j, j ≤ m → d[j]! ≤ d[m]! := fun j hj => by
      rw [getElem!_pos d j (by omega), getElem!_pos d m (by omega)]
      rcases Nat.lt_or_ge j m with h | h
      · exact List.pairwise_iff_getElem.1 hs j m (by simp; omega) (by simp; omega) h
      · obtain rfl : j = m := by omega
        exact Int.le_refl _
    by_cases hk : Lib.keeps d m = true
    · rw [if_pos hk]
      refine ⟨?_, fun x => ?_⟩
      · rw [List.pairwise_append]
        refine ⟨h1, by simp, fun a ha b hb => ?_⟩
        obtain rfl : b = d[m]! := by simpa using hb
        obtain ⟨j, hj, rfl⟩ := (h2 a).1 ha
        have h0 : m ≠ 0 := by omega
        have hne : d[m]! ≠ d[m - 1]! := by simpa [Lib.keeps, h0] using hk
        have hlt : d[m - 1]! ≤ d[m]! := hle (m - 1) (by omega)
        have hj1 : d[j]! ≤ d[m - 1]! := by
          rw [getElem!_pos d j (by omega), getElem!_pos d (m - 1) (by omega)]
          rcases Nat.lt_or_ge j (m - 1) with h | h
          · exact List.pairwise_iff_getElem.1 hs j (m - 1) (by simp; omega) (by simp; omega) h
          · have e : j = m - 1 := by omega
            subst e
            exact Int.le_refl _
        omega
      · rw [List.mem_append, h2]
        constructor
        · rintro (⟨j, hj, e⟩ | h)
          · exact ⟨j, by omega, e⟩
          · exact ⟨m, by omega, by simpa using (by simpa using h : x = d[m]!).symm⟩
        · rintro ⟨j, hj, e⟩
          rcases Nat.lt_or_ge j m with h | h
          · exact .inl ⟨j, h, e⟩
          · obtain rfl : j = m := by omega
            exact .inr (by simp [e])
    · rw [if_neg hk, List.append_nil]
      have h0 : m ≠ 0 := by intro e; subst e; simp [Lib.keeps] at hk
      have heq : d[m]! = d[m - 1]! := by
        have : ¬ (d[m]! ≠ d[m - 1]!) := fun hne => hk (Lib.keeps_pos hne)
        omega
      refine ⟨h1, fun x => ?_⟩
      rw [h2]
      constructor
      · rintro ⟨j, hj, e⟩; exact ⟨j, by omega, e⟩
      · rintro ⟨j, hj, e⟩
        rcases Nat.lt_or_ge j m with h | h
        · exact ⟨j, h, e⟩
        · obtain rfl : j = m := by omega
          exact ⟨j - 1, by omega, by rw [← heq]; exact e⟩

/-- Edges of a graph of m nodes: the nodes that a node's edges lead to, rising, each once. -/
def adj (m : Nat) (es : List (Nat × Nat)) (a : Nat) : List Nat := (List.range m).filter (fun b => decide ((a, b) ∈ es))
theorem mem_adj {m : Nat} {es : List (Nat × Nat)} {a b : Nat} : b ∈ adj m es a ↔ b < m ∧ (a, b) ∈ es := by simp [adj]
theorem adj_rising (m : Nat) (es : List (Nat × Nat)) (a : Nat) : (adj m es a).Pairwise (· < ·) := List.Pairwise.filter _ List.pairwise_lt_range
/-- The ends of a node's edges, as they come. -/
def raw (es : List (Nat × Nat)) (a : Nat) : List Nat := (es.filter (fun e => decide (e.1 = a))).map (·.2)
theorem mem_raw {es : List (Nat × Nat)} {a b : Nat} : b ∈ raw es a ↔ (a, b) ∈ es := by
  simp only [raw, List.mem_map, List.mem_filter, decide_eq_true_eq]
  constructor
  · rintro ⟨⟨x, y⟩, ⟨h1, rfl⟩, rfl⟩; exact h1
  · intro h; exact ⟨(a, b), ⟨h, rfl⟩, rfl⟩
theorem raw_append (es : List (Nat × Nat)) (x y a : Nat) : raw (es ++ [(x, y)]) a = if x = a then raw es a ++ [y] else raw es a := by
  unfold raw
  rw [List.filter_append, List.map_append]
  by_cases h : x = a
  · simp [h]
  · simp [h]
theorem raw_length (es : List (Nat × Nat)) (a : Nat) : (raw es a).length ≤ es.length := by
  unfold raw
  rw [List.length_map]
  exact List.length_filter_le _ _

theorem sorted_perm (zs : List Int) : (zs.mergeSort fun x y => decide (x ≤ y)).Pairwise (· ≤ ·) := by
  have h := List.pairwise_mergeSort (le := fun (x y : Int) => decide (x ≤ y)) (fun a b c h1 h2 => by simp at *; omega) (fun a b => by simp; omega) zs
  exact h.imp (by simp)

/-- What sorting and compacting leaves of any numbers that are the ones of a rising list. -/
theorem sort_compact {zs : List Int} {l : List Nat} (hl : l.Pairwise (· < ·)) (h : ∀ x : Int, x ∈ zs ↔ x ∈ ints l) : Lib.compact (zs.mergeSort fun x y => decide (x ≤ y)) = ints l := by
  have hp := sorted_perm zs
  have hm : ∀ x, x ∈ (zs.mergeSort fun x y => decide (x ≤ y)) ↔ x ∈ zs := fun x => List.mem_mergeSort
  generalize (zs.mergeSort fun x y => decide (x ≤ y)) = s at *
  obtain ⟨h1, h2⟩ := compact_inv s.toArray (by simpa using hp) s.length (by simp)
  have h3 : ∀ x, x ∈ Lib.compact s ↔ x ∈ ints l := fun x => by
    unfold Lib.compact
    rw [h2, ← h, ← hm, List.mem_iff_getElem]
    constructor
    · rintro ⟨j, hj, e⟩; exact ⟨j, hj, by rw [getElem!_pos s.toArray j (by simpa using hj)] at e; simpa using e⟩
    · rintro ⟨j, hj, e⟩; exact ⟨j, hj, by rw [getElem!_pos s.toArray j (by simpa using hj)]; simpa using e⟩
  obtain ⟨k, hk⟩ := ints_nats (zs := Lib.compact s) (fun x hx => by
    obtain ⟨y, _, rfl⟩ := List.mem_map.1 ((h3 x).1 hx)
    exact Int.natCast_nonneg y)
  have h4 : (Lib.compact s).Pairwise (· < ·) := h1
  rw [hk] at h3 h4 ⊢
  have h5 : k.Pairwise (· < ·) := by
    unfold ints at h4
    rw [List.pairwise_map] at h4
    exact h4.imp (by intro a b h; omega)
  rw [rising_ext h5 hl (fun x => by
    have := h3 (x : Int)
    rwa [mem_ints, mem_ints] at this)]

theorem sort_ints {l l' : List Nat} (hn : l.Nodup) (hl : l'.Pairwise (· < ·)) (h : ∀ x, x ∈ l ↔ x ∈ l') : ((ints l).mergeSort fun x y => decide (x ≤ y)) = ints l' := by
  have hp := sorted_perm (ints l)
  have hperm : ((ints l).mergeSort fun x y => decide (x ≤ y)).Perm (ints l) := List.mergeSort_perm _ _
  generalize ((ints l).mergeSort fun x y => decide (x ≤ y)) = s at *
  have hnd : (ints l).Nodup := by
    unfold ints
    unfold List.Nodup at hn ⊢
    rw [List.pairwise_map]
    exact hn.imp (by intro a b h e; exact h (by omega))
  have hs : s.Pairwise (· < ·) := by
    have h1 := hperm.nodup_iff.2 hnd
    exact (hp.and h1).imp (by intro a b ⟨h1, h2⟩; omega)
  obtain ⟨k, rfl⟩ := ints_nats (zs := s) (fun x hx => by
    obtain ⟨y, _, rfl⟩ := List.mem_map.1 (hperm.mem_iff.1 hx)
    exact Int.natCast_nonneg y)
  have h5 : k.Pairwise (· < ·) := by
    unfold ints at hs
    rw [List.pairwise_map] at hs
    exact hs.imp (by intro a b h; omega)
  rw [rising_ext h5 hl (fun x => by
    rw [← h]
    have := hperm.mem_iff (a := (x : Int))
    rwa [mem_ints, mem_ints] at this)]

/-- Where ways lead from some nodes: the nodes that are met, and what is ahead of each. -/
structure Tr where
  nodes : List Nat
  ahead : Nat → Int

def updA (f : Nat → Int) (x : Nat) (v : Int) : Nat → Int := fun y => if y = x then v else f y
theorem updA_at (f : Nat → Int) (x : Nat) (v : Int) : updA f x v x = v := by simp [updA]
theorem updA_ne (f : Nat → Int) {x y : Nat} (v : Int) (h : y ≠ x) : updA f x v y = f y := by simp [updA, h]

def meet (t : Tr) (x : Nat) (a : Int) : Tr := if t.ahead x = -1 then ⟨t.nodes ++ [x], updA t.ahead x a⟩ else t
def meets (t : Tr) (a : Nat) (xs : List Nat) : Tr := xs.foldl (fun t x => meet t x a) t
def start (xs : List Nat) : Tr := xs.foldl (fun t x => meet t x x) ⟨[], fun _ => -1⟩
def run (m : Nat) (es : List (Nat × Nat)) : Nat → Nat → Tr → Tr
  | 0, _, t => t
  | f + 1, k, t => match t.nodes[k]? with
    | none => t
    | some x => run m es f (k + 1) (meets t x (adj m es x))
def tour (m : Nat) (es : List (Nat × Nat)) (xs : List Nat) : Tr := run m es (m + 1) 0 (start xs)

/-- A tour that may be. -/
structure Ok (m : Nat) (t : Tr) : Prop where
  nodup : t.nodes.Nodup
  lt : ∀ x ∈ t.nodes, x < m
  met : ∀ x, x ∈ t.nodes ↔ t.ahead x ≠ -1
  val : ∀ x ∈ t.nodes, ∃ y ∈ t.nodes, t.ahead x = (y : Int)

theorem nodup_le {m : Nat} {l : List Nat} (hn : l.Nodup) (h : ∀ x ∈ l, x < m) : l.length ≤ m := by
  have := List.Nodup.length_le_of_subset (l₁ := l) (l₂ := List.range m) hn (fun x hx => List.mem_range.2 (h x hx))
  simpa using this
theorem Ok.len {m : Nat} {t : Tr} (h : Ok m t) : t.nodes.length ≤ m := nodup_le h.nodup h.lt

theorem Ok.nil (m : Nat) : Ok m ⟨[], fun _ => -1⟩ := ⟨by simp, by simp, by simp, by simp⟩
theorem Ok.meet {m : Nat} {t : Tr} (h : Ok m t) {x a : Nat} (hx : x < m) (ha : a ∈ t.nodes ∨ a = x) : Ok m (meet t x a) := by
  unfold GraphMath.meet
  by_cases hm : t.ahead x = -1
  · rw [if_pos hm]
    have hno : x ∉ t.nodes := fun hc => (h.met x).1 hc hm
    refine ⟨?_, ?_, ?_, ?_⟩
    · rw [List.nodup_append]
      exact ⟨h.nodup, by simp, fun a ha b hb e => hno (by rw [List.mem_singleton.1 hb] at e; rw [← e]; exact ha)⟩
    · intro y hy
      rcases List.mem_append.1 hy with h1 | h1
      · exact h.lt y h1
      · rw [List.mem_singleton.1 h1]; exact hx
    · intro y
      dsimp only
      rw [List.mem_append, List.mem_singleton]
      by_cases e : y = x
      · subst e
        rw [updA_at]
        exact ⟨fun _ => by omega, fun _ => .inr rfl⟩
      · rw [updA_ne _ _ e, ← h.met]
        exact ⟨fun h => h.resolve_right e, .inl⟩
    · intro y hy
      dsimp only at *
      by_cases e : y = x
      · subst e
        rw [updA_at]
        refine ⟨a, ?_, rfl⟩
        rcases ha with h1 | h1
        · exact List.mem_append.2 (.inl h1)
        · rw [h1]; simp
      · rw [updA_ne _ _ e]
        obtain ⟨z, hz, e2⟩ := h.val y ((List.mem_append.1 hy).resolve_right (by simpa using e))
        exact ⟨z, List.mem_append.2 (.inl hz), e2⟩
  · rw [if_neg hm]; exact h
theorem meet_mem {t : Tr} {x : Nat} {a : Int} {y : Nat} (hy : y ∈ t.nodes) : y ∈ (GraphMath.meet t x a).nodes := by
  unfold GraphMath.meet
  split
  · exact List.mem_append.2 (.inl hy)
  · exact hy
theorem meet_pre {t : Tr} {x : Nat} {a : Int} : t.nodes <+: (GraphMath.meet t x a).nodes := by
  unfold GraphMath.meet
  split
  · exact List.prefix_append _ _
  · exact List.prefix_refl _
theorem meet_self {m : Nat} {t : Tr} (h : Ok m t) {x : Nat} {a : Int} : x ∈ (GraphMath.meet t x a).nodes := by
  unfold GraphMath.meet
  by_cases hm : t.ahead x = -1
  · rw [if_pos hm]; simp
  · rw [if_neg hm]; exact (h.met x).2 hm
theorem meet_new {t : Tr} {x : Nat} {a : Int} {y : Nat} (hy : y ∈ (GraphMath.meet t x a).nodes) : y ∈ t.nodes ∨ y = x := by
  unfold GraphMath.meet at hy
  by_cases hm : t.ahead x = -1
  · rw [if_pos hm] at hy; simpa using hy
  · rw [if_neg hm] at hy; exact .inl hy

theorem meets_cons (t : Tr) (a x : Nat) (xs : List Nat) : meets t a (x :: xs) = meets (GraphMath.meet t x a) a xs := rfl
theorem meets_snoc (t : Tr) (a x : Nat) (xs : List Nat) : meets t a (xs ++ [x]) = GraphMath.meet (meets t a xs) x a := by simp [meets]
theorem start_snoc (x : Nat) (xs : List Nat) : start (xs ++ [x]) = GraphMath.meet (start xs) x x := by simp [start]

theorem meets_facts {m a : Nat} : ∀ (xs : List Nat) (t : Tr), Ok m t → (∀ x ∈ xs, x < m) → a ∈ t.nodes → Ok m (meets t a xs) ∧ t.nodes <+: (meets t a xs).nodes ∧ (∀ x ∈ xs, x ∈ (meets t a xs).nodes) ∧ ∀ y ∈ (meets t a xs).nodes, y ∈ t.nodes ∨ y ∈ xs
  | [], t, h, _, _ => ⟨h, List.prefix_refl _, by simp, fun y hy => .inl hy⟩
  | x :: xs, t, h, hx, ha => by
    rw [meets_cons]
    obtain ⟨h1, h2, h3, h4⟩ := meets_facts xs (GraphMath.meet t x a) (h.meet (hx x List.mem_cons_self) (.inl ha)) (fun y hy => hx y (List.mem_cons_of_mem _ hy)) (meet_mem ha)
    refine ⟨h1, meet_pre.trans h2, fun y hy => ?_, fun y hy => ?_⟩
    · rcases List.mem_cons.1 hy with rfl | hy
      · exact h2.subset (meet_self h)
      · exact h3 y hy
    · rcases h4 y hy with h5 | h5
      · rcases meet_new h5 with h6 | rfl
        · exact .inl h6
        · exact .inr List.mem_cons_self
      · exact .inr (List.mem_cons_of_mem _ h5)

theorem start_facts {m : Nat} (xs : List Nat) (hx : ∀ x ∈ xs, x < m) : Ok m (start xs) ∧ ∀ y, y ∈ (start xs).nodes ↔ y ∈ xs := by
  unfold start
  have key : ∀ (xs : List Nat) (t : Tr), Ok m t → (∀ x ∈ xs, x < m) → Ok m (xs.foldl (fun t x => GraphMath.meet t x x) t) ∧ ∀ y, y ∈ (xs.foldl (fun t x => GraphMath.meet t x x) t).nodes ↔ y ∈ t.nodes ∨ y ∈ xs := by
    intro xs
    induction xs with
    | nil => intro t h _; exact ⟨h, fun y => by simp⟩
    | cons x xs ih =>
      intro t h hx
      obtain ⟨h1, h2⟩ := ih (GraphMath.meet t x x) (h.meet (hx x List.mem_cons_self) (.inr rfl)) (fun y hy => hx y (List.mem_cons_of_mem _ hy))
      refine ⟨h1, fun y => ?_⟩
      rw [List.foldl_cons, h2, List.mem_cons]
      constructor
      · rintro (h3 | h3)
        · rcases meet_new h3 with h4 | h4
          · exact .inl h4
          · exact .inr (.inl h4)
        · exact .inr (.inr h3)
      · rintro (h3 | rfl | h3)
        · exact .inl (meet_mem h3)
        · exact .inl (meet_self h)
        · exact .inr h3
  obtain ⟨h1, h2⟩ := key xs ⟨[], fun _ => -1⟩ (Ok.nil m) hx
  exact ⟨h1, fun y => by rw [h2]; simp⟩

/-- Ways. -/
inductive Way (es : List (Nat × Nat)) : Nat → Nat → Prop
  | none (a : Nat) : Way es a a
  | more {a b c : Nat} : Way es a b → (b, c) ∈ es → Way es a c

theorem run_facts {m : Nat} {es : List (Nat × Nat)} (hes : ∀ e ∈ es, e.1 < m ∧ e.2 < m) {R : Nat → Prop} (hR : ∀ a b, R a → (a, b) ∈ es → R b) : ∀ (f k : Nat) (t : Tr), Ok m t → m + 1 ≤ f + k → k ≤ t.nodes.length →
    (∀ j x, j < k → t.nodes[j]? = some x → ∀ y, (x, y) ∈ es → y ∈ t.nodes) → (∀ x ∈ t.nodes, R x) →
    Ok m (run m es f k t) ∧ t.nodes <+: (run m es f k t).nodes ∧ (∀ x ∈ (run m es f k t).nodes, ∀ y, (x, y) ∈ es → y ∈ (run m es f k t).nodes) ∧ ∀ x ∈ (run m es f k t).nodes, R x
  | 0, k, t, h, hf, hk, hc, hr => by have := h.len; omega
  | f + 1, k, t, h, hf, hk, hc, hr => by
    cases hx : t.nodes[k]? with
    | none =>
      have e0 : run m es (f + 1) k t = t := by simp only [run, hx]
      rw [e0]
      have hlen : t.nodes.length ≤ k := List.getElem?_eq_none_iff.1 hx
      refine ⟨h, List.prefix_refl _, fun x hx y hy => ?_, hr⟩
      obtain ⟨j, hj, e⟩ := List.mem_iff_getElem.1 hx
      exact hc j x (by omega) (by rw [List.getElem?_eq_getElem hj, e]) y hy
    | some x =>
      have e0 : run m es (f + 1) k t = run m es f (k + 1) (meets t x (adj m es x)) := by simp only [run, hx]
      rw [e0]
      have hxm := List.mem_of_getElem? hx
      obtain ⟨h1, h2, h3, h4⟩ := meets_facts (m := m) (a := x) (adj m es x) t h (fun y hy => (mem_adj.1 hy).1) hxm
      obtain ⟨hk2, _⟩ := List.getElem?_eq_some_iff.1 hx
      obtain ⟨g1, g2, g3, g4⟩ := run_facts hes hR f (k + 1) (meets t x (adj m es x)) h1 (by omega) (by have := h2.length_le; omega) (fun j z hj hz y hy => by
        have hjl : j < t.nodes.length := by omega
        have hz2 : t.nodes[j]? = some z := by
          rw [← hz]
          obtain ⟨s, hs⟩ := h2
          rw [← hs, List.getElem?_append_left hjl]
        by_cases e : j = k
        · subst e
          rw [hx] at hz2
          obtain rfl := Option.some.inj hz2
          exact h3 y (mem_adj.2 ⟨(hes _ hy).2, hy⟩)
        · exact h2.subset (hc j z (by omega) hz2 y hy)) (fun y hy => by
        rcases h4 y hy with h5 | h5
        · exact hr y h5
        · exact hR x y (hr x hxm) (mem_adj.1 h5).2)
      exact ⟨g1, h2.trans g2, g3, g4⟩

theorem tour_facts {m : Nat} {es : List (Nat × Nat)} (hes : ∀ e ∈ es, e.1 < m ∧ e.2 < m) (xs : List Nat) (hx : ∀ x ∈ xs, x < m) : Ok m (tour m es xs) ∧ ∀ y, y ∈ (tour m es xs).nodes ↔ ∃ x ∈ xs, Way es x y := by
  obtain ⟨h1, h2⟩ := start_facts xs hx
  obtain ⟨g1, g2, g3, g4⟩ := run_facts hes (R := fun y => ∃ x ∈ xs, Way es x y) (fun a b ⟨x, hx, hw⟩ he => ⟨x, hx, hw.more he⟩) (m + 1) 0 (start xs) h1 (by omega) (by omega) (by omega) (fun y hy => ⟨y, (h2 y).1 hy, .none y⟩)
  refine ⟨g1, fun y => ⟨g4 y, ?_⟩⟩
  rintro ⟨x, hx, hw⟩
  induction hw with
  | none => exact g2.subset ((h2 _).2 hx)
  | more _ he ih => exact g3 _ ih _ he

/-- Which nodes are reached, rising. -/
noncomputable def reach (m : Nat) (es : List (Nat × Nat)) (xs : List Nat) : List Nat := (List.range m).filter (fun y => decide (y ∈ (tour m es xs).nodes))
theorem reach_rising (m : Nat) (es : List (Nat × Nat)) (xs : List Nat) : (reach m es xs).Pairwise (· < ·) := List.Pairwise.filter _ List.pairwise_lt_range
theorem mem_reach {m : Nat} {es : List (Nat × Nat)} {xs : List Nat} {y : Nat} : y ∈ reach m es xs ↔ y < m ∧ y ∈ (tour m es xs).nodes := by simp [reach]

end Go.Proofs.YtgllcbajgndldaaDoor.GraphMath
