/-
  The document's round, levels and order are those of the program: the mathematics. No part of the program.
-/
import Derived.Test.YtgllcbajgndldaaDoorGraphLevM
import Derived.Test.YtgllcbajgndldaaDoorGraphFar
namespace Go.Proofs.YtgllcbajgndldaaDoor.GraphNet
open Go.RowKit Go.Proofs.YtgllcbajgndldaaDoor.GramMath Go.Proofs.YtgllcbajgndldaaDoor.GraphMath Go.Proofs.YtgllcbajgndldaaDoor.GraphFn Go.Proofs.YtgllcbajgndldaaDoor.GraphRef
set_option linter.unusedVariables false

/-- The edges between nodes that are not below one. -/
def lowE (E : List (Nat × Nat)) (k : Nat) : List (Nat × Nat) := E.filter (fun e => decide (k ≤ e.1) && decide (k ≤ e.2))
theorem mem_low {E : List (Nat × Nat)} {k a b : Nat} : (a, b) ∈ lowE E k ↔ (a, b) ∈ E ∧ k ≤ a ∧ k ≤ b := by simp [lowE]
theorem low_lt {E : List (Nat × Nat)} {m : Nat} (hE : ∀ e ∈ E, e.1 < m ∧ e.2 < m) (k : Nat) : ∀ e ∈ lowE E k, e.1 < m ∧ e.2 < m := fun e he => hE e (List.mem_filter.1 he).1
theorem Wl.sub {E F : List (Nat × Nat)} (h : ∀ e ∈ F, e ∈ E) {s x : Nat} {L : List Nat} (hw : Wl F s L x) : Wl E s L x := by
  induction hw with
  | one => exact .one
  | snoc _ he ih => exact ih.snoc (h _ he)
theorem Rnd.sub {E F : List (Nat × Nat)} (h : ∀ e ∈ F, e ∈ E) {s : Nat} {L : List Nat} (hw : Rnd F s L) : Rnd E s L := by
  obtain ⟨x, h1, h2⟩ := hw
  exact ⟨x, h1.sub h, h _ h2⟩
theorem low_sub {E : List (Nat × Nat)} {k : Nat} : ∀ e ∈ lowE E k, e ∈ E := fun e he => (List.mem_filter.1 he).1
theorem Wl.low {E : List (Nat × Nat)} {k s x : Nat} {L : List Nat} (hw : Wl E s L x) (h : ∀ v ∈ L, k ≤ v) : Wl (lowE E k) s L x ∧ k ≤ x := by
  induction hw with
  | one => exact ⟨.one, h _ (by simp)⟩
  | @snoc L y x _ he ih =>
    obtain ⟨h1, h2⟩ := ih (fun v hv => h v (List.mem_append.2 (.inl hv)))
    have h3 := h x (by simp)
    exact ⟨h1.snoc (mem_low.2 ⟨he, h2, h3⟩), h3⟩
theorem Rnd.low {E : List (Nat × Nat)} {k : Nat} {L : List Nat} (hw : Rnd E k L) (h : ∀ v ∈ L, k ≤ v) : Rnd (lowE E k) k L := by
  obtain ⟨x, h1, h2⟩ := hw
  obtain ⟨h3, h4⟩ := h1.low h
  exact ⟨x, h3, mem_low.2 ⟨h2, h4, Nat.le_refl _⟩⟩

/-- The best of lists that are told one by one. -/
def bestK (bw : Nat → Option (List Nat)) (k : Nat) : Option (List Nat) := (List.range k).foldl (fun b s => better b (bw s)) none
theorem bestK_succ (bw : Nat → Option (List Nat)) (k : Nat) : bestK bw (k + 1) = better (bestK bw k) (bw k) := by unfold bestK; rw [List.range_succ, List.foldl_append]; rfl
theorem bestK_facts {bw : Nat → Option (List Nat)} : ∀ k, (bestK bw k = none → ∀ s, s < k → bw s = none) ∧ ∀ w, bestK bw k = some w → ∃ s, s < k ∧ bw s = some w ∧ (∀ s' w', s' < k → bw s' = some w' → w.length ≤ w'.length) ∧ ∀ s' w', s' < s → bw s' = some w' → w.length < w'.length
  | 0 => ⟨fun _ s hs => by omega, fun w h => by simp [bestK] at h⟩
  | k + 1 => by
    obtain ⟨ih1, ih2⟩ := bestK_facts (bw := bw) k
    rw [bestK_succ]
    cases hw : bw k with
    | none =>
      have hb : better (bestK bw k) none = bestK bw k := by cases bestK bw k <;> rfl
      rw [hb]
      refine ⟨fun h s hs => ?_, fun w h => ?_⟩
      · by_cases e : s = k
        · rw [e]; exact hw
        · exact ih1 h s (by omega)
      · obtain ⟨s, h1, h2, h3, h4⟩ := ih2 w h
        refine ⟨s, by omega, h2, fun s' w' hs' hw' => ?_, h4⟩
        by_cases e : s' = k
        · rw [e, hw] at hw'; cases hw'
        · exact h3 s' w' (by omega) hw'
    | some R =>
      cases hr : bestK bw k with
      | none =>
        refine ⟨fun h => by simp [better] at h, fun w h => ?_⟩
        obtain rfl : R = w := by simpa [better] using h
        refine ⟨k, by omega, hw, fun s' w' hs' hw' => ?_, fun s' w' hs' hw' => ?_⟩
        · by_cases e : s' = k
          · rw [e, hw] at hw'; obtain rfl := Option.some.inj hw'; exact Nat.le_refl _
          · rw [ih1 hr s' (by omega)] at hw'; cases hw'
        · rw [ih1 hr s' (by omega)] at hw'; cases hw'
      | some b =>
        obtain ⟨s, h1, h2, h3, h4⟩ := ih2 b hr
        by_cases hlt : R.length < b.length
        · have e : better (some b) (some R) = some R := by simp [better, hlt]
          rw [e]
          refine ⟨fun h => (by cases h), fun w h => ?_⟩
          obtain rfl := Option.some.inj h
          refine ⟨k, by omega, hw, fun s' w' hs' hw' => ?_, fun s' w' hs' hw' => ?_⟩
          · by_cases e : s' = k
            · rw [e, hw] at hw'; obtain rfl := Option.some.inj hw'; exact Nat.le_refl _
            · have := h3 s' w' (by omega) hw'; omega
          · have := h3 s' w' (by omega) hw'; omega
        · have e : better (some b) (some R) = some b := by simp [better, hlt]
          rw [e]
          refine ⟨fun h => (by cases h), fun w h => ?_⟩
          obtain rfl := Option.some.inj h
          refine ⟨s, by omega, h2, fun s' w' hs' hw' => ?_, h4⟩
          by_cases e : s' = k
          · rw [e, hw] at hw'; obtain rfl := Option.some.inj hw'; omega
          · exact h3 s' w' (by omega) hw'

/-- The way back to a node over nodes that are not below it. -/
def lowW (m : Nat) (E : List (Nat × Nat)) (k : Nat) : Option (List Nat) := backWay m (lowE E k) k

theorem best_round {m : Nat} {E : List (Nat × Nat)} (hE : ∀ e ∈ E, e.1 < m ∧ e.2 < m) : bestK (lowW m E) m = roundR m E := by
  obtain ⟨f1, f2⟩ := bestK_facts (bw := lowW m E) m
  have hin : ∀ s w, s < m → lowW m E s = some w → Rnd E s w ∧ ∀ L', Rnd (lowE E s) s L' → rkL (m + 1) w ≤ rkL (m + 1) L' := fun s w hs hw => by
    obtain ⟨h1, _, h3⟩ := backWay_some (low_lt hE s) hs hw
    exact ⟨h1.sub low_sub, h3⟩
  cases hr : roundR m E with
  | none =>
    cases hb : bestK (lowW m E) m with
    | none => rfl
    | some w =>
      obtain ⟨s, hs, h1, _⟩ := f2 w hb
      exact absurd (hin s w hs h1).1 (roundR_none hE hr s w hs)
  | some L =>
    obtain ⟨s, hR⟩ := roundR_some hE hr
    have hlow : Rnd (lowE E s) s L := hR.rnd.low (fun v hv => hR.ge hE hv)
    have hsw : lowW m E s = some L := by
      cases hb : lowW m E s with
      | none => exact absurd hlow (backWay_none (low_lt hE s) hR.lt hb L)
      | some w =>
        obtain ⟨h1, h2⟩ := hin s w hR.lt hb
        rw [rkL_inj w L (h1.all hE hR.lt) (hR.rnd.all hE hR.lt) (Nat.le_antisymm (h2 L hlow) (hR.least w h1))]
    cases hb : bestK (lowW m E) m with
    | none => rw [f1 hb s hR.lt] at hsw; cases hsw
    | some w0 =>
      obtain ⟨s0, g1, g2, g3, g4⟩ := f2 w0 hb
      obtain ⟨h1, _⟩ := hin s0 w0 g1 g2
      have hle := g3 s L hR.lt hsw
      rcases Nat.lt_trichotomy s s0 with h | h | h
      · have := g4 s L h hsw
        have := hR.short s0 w0 g1 h1
        omega
      · subst h; rw [hsw] at g2; rw [Option.some.inj g2]
      · have := hR.low s0 w0 h h1
        omega

/-- Lists of one length: what comes first decides. -/
theorem rkL_app {M : Nat} : ∀ (x y A B : List Nat), x.length = y.length → (∀ z ∈ x, z + 1 < M) → rkL M A < rkL M B → rkL M (A ++ x) < rkL M (B ++ y) := by
  intro x
  induction x using snoc_ind with
  | h0 =>
    intro y A B hl _ h
    obtain rfl : y = [] := List.length_eq_zero_iff.1 hl.symm
    simpa using h
  | h1 x z ih =>
    intro y A B hl hx h
    rcases List.eq_nil_or_concat y with rfl | ⟨y, u, rfl⟩
    · simp at hl
    · rw [List.concat_eq_append] at hl ⊢
      rw [← List.append_assoc, ← List.append_assoc, rkL_snoc, rkL_snoc]
      exact rkL_mul (hx z (by simp)) (ih y A B (by simpa using hl) (fun v hv => hx v (List.mem_append.2 (.inl hv))) h)
theorem rkL_less {M c b : Nat} {P x y : List Nat} (hl : x.length = y.length) (hx : ∀ z ∈ x, z + 1 < M) (h : c < b) : rkL M (P ++ c :: x) < rkL M (P ++ b :: y) := by
  have h1 : rkL M (P ++ [c]) < rkL M (P ++ [b]) := by rw [rkL_snoc, rkL_snoc]; omega
  have := rkL_app x y (P ++ [c]) (P ++ [b]) hl hx h1
  simpa using this

/-- A way on from a node back to the first one, as a list. -/
theorem wk_tail {E : List (Nat × Nat)} {k : Nat} : ∀ (d c : Nat), Wk E k k d c → (d = 0 ∧ c = k) ∨ ∃ T x, (c :: T).length = d ∧ Wl (lowE E k) c (c :: T) x ∧ (x, k) ∈ lowE E k
  | 0, c, h => .inl ⟨rfl, h⟩
  | d + 1, c, ⟨b, h1, h2, h3, h4⟩ => by
    right
    rcases wk_tail d b h4 with ⟨rfl, rfl⟩ | ⟨T, x, g1, g2, g3⟩
    · exact ⟨[], c, rfl, .one, mem_low.2 ⟨h1, h2, h3⟩⟩
    · exact ⟨b :: T, x, by simp at g1 ⊢; omega, (Wl.one : Wl (lowE E k) c [c] c).append (mem_low.2 ⟨h1, h2, h3⟩) g2, g3⟩
theorem wl_wk {E : List (Nat × Nat)} {k s x : Nat} {L : List Nat} (h : Wl (lowE E k) s L x) : ∀ d, Wk E k k d x → Wk E k k (L.length - 1 + d) s := by
  induction h with
  | one => intro d h; simpa using h
  | @snoc L y x hw he ih =>
    intro d hd
    have hp := hw.pos
    obtain ⟨h1, h2, h3⟩ := mem_low.1 he
    have := ih (d + 1) ⟨x, h1, h2, h3, hd⟩
    rw [show (L ++ [x]).length - 1 + d = L.length - 1 + (d + 1) by simp; omega]
    exact this

/-- Where a node's next one may be: it is so far from the end. -/
def Cand (E : List (Nat × Nat)) (k a : Nat) (want : Int) (f : Nat → Int) (c : Nat) : Prop := (a, c) ∈ E ∧ k ≤ c ∧ f c = want
/-- The least such node, or none. -/
def LeastC (P : Nat → Prop) (z : Int) : Prop := (z = -1 ∧ ∀ c, ¬ P c) ∨ ∃ c : Nat, z = (c : Int) ∧ P c ∧ ∀ c', P c' → c ≤ c'

/-- A round is made of what is found so far, a node that may be next and a way on from it. -/
theorem cand_rnd {m : Nat} {E : List (Nat × Nat)} {k : Nat} {f : Nat → Int} (hE : ∀ e ∈ E, e.1 < m ∧ e.2 < m) (hf : FarA m E k k f) {q : List Nat} {a c d : Nat} (hq : Wl (lowE E k) k q a) (ha : k ≤ a) (hc : Cand E k a (d : Int) f c) : (d = 0 ∧ c = k ∧ Rnd (lowE E k) k q) ∨ ∃ T, (c :: T).length = d ∧ Rnd (lowE E k) k (q ++ c :: T) := by
  obtain ⟨h1, h2, h3⟩ := hc
  have he : (a, c) ∈ lowE E k := mem_low.2 ⟨h1, ha, h2⟩
  rcases hf c (hE _ h1).2 with ⟨e, _⟩ | ⟨d', e, hw, _⟩
  · omega
  · obtain rfl : d' = d := by omega
    rcases wk_tail d' c hw with ⟨rfl, rfl⟩ | ⟨T, x, g1, g2, g3⟩
    · exact .inl ⟨rfl, rfl, a, hq, he⟩
    · exact .inr ⟨T, g1, x, hq.append he g2, g3⟩

/-- The list that is found, step by step. -/
theorem low_step {m : Nat} {E : List (Nat × Nat)} {k : Nat} {f : Nat → Int} (hE : ∀ e ∈ E, e.1 < m ∧ e.2 < m) (hk : k < m) (hf : FarA m E k k f) {w : List Nat} (hw : lowW m E k = some w) : ∀ (j a : Nat), 0 < j → j < w.length → w[j - 1]? = some a → ∃ b, w[j]? = some b ∧ Cand E k a ((w.length - j : Nat) : Int) f b ∧ ∀ c, Cand E k a ((w.length - j : Nat) : Int) f c → b ≤ c := by
  intro j a hj hjl ha
  obtain ⟨⟨x, hx1, hx2⟩, hnd, hmin⟩ := backWay_some (low_lt hE k) hk hw
  have hall := (hx1.lt (low_lt hE k) hk).2
  have hsplit : w = w.take j ++ w[j] :: w.drop (j + 1) := by rw [← List.drop_eq_getElem_cons hjl, List.take_append_drop]
  have hb : w[j]? = some w[j] := List.getElem?_eq_getElem hjl
  generalize w[j] = b at hsplit hb
  have hx1' : Wl (lowE E k) k (w.take j ++ b :: w.drop (j + 1)) x := by rw [← hsplit]; exact hx1
  obtain ⟨s1, s2⟩ := hx1'.split
  rcases s1 with s1 | ⟨u, s1, s3⟩
  · have := congrArg List.length s1
    rw [List.length_take, List.length_nil] at this
    omega
  have hlt : (w.take j).length = j := by simp; omega
  obtain rfl : u = a := by
    have h1 := s1.at.2
    rw [hlt, List.getElem?_take_of_lt (by omega), ha] at h1
    exact (Option.some.inj h1).symm
  obtain ⟨e1, e2, e3⟩ := mem_low.1 s3
  obtain ⟨y1, y2, y3⟩ := mem_low.1 hx2
  have hwb : Wk E k k (w.length - j) b := by
    have h1 := wl_wk s2 1 ⟨k, y1, y2, y3, rfl⟩
    have h2 : (b :: w.drop (j + 1)).length - 1 + 1 = w.length - j := by simp; omega
    rw [h2] at h1
    exact h1
  have hfb : f b = ((w.length - j : Nat) : Int) := by
    rcases hf b (hE _ e1).2 with ⟨_, h⟩ | ⟨d, h1, h2, h3⟩
    · exact absurd hwb (h _)
    · have hd : d ≤ w.length - j := Nat.le_of_not_lt fun hc => h3 _ hc hwb
      by_cases hd2 : d = w.length - j
      · rw [h1, hd2]
      · exfalso
        have hc : Cand E k u (d : Int) f b := ⟨e1, e3, h1⟩
        rcases cand_rnd hE hf s1 e2 hc with ⟨_, _, hr⟩ | ⟨T, hT, hr⟩
        · have := rkL_len (by omega) (hr.all (low_lt hE k) hk) (hmin _ hr)
          omega
        · have := rkL_len (by omega) (hr.all (low_lt hE k) hk) (hmin _ hr)
          rw [List.length_append, hT] at this
          omega
  refine ⟨b, hb, ⟨e1, e3, hfb⟩, fun c hc => Nat.le_of_not_lt fun hcb => ?_⟩
  rcases cand_rnd hE hf s1 e2 hc with ⟨h0, _⟩ | ⟨T, hT, hr⟩
  · omega
  · have h1 := hmin _ hr
    have h2 : rkL (m + 1) (w.take j ++ c :: T) < rkL (m + 1) (w.take j ++ b :: w.drop (j + 1)) := rkL_less (by simp at hT ⊢; omega) (fun z hz => hr.all (low_lt hE k) hk z (List.mem_append.2 (.inr (List.mem_cons_of_mem _ hz)))) hcb
    rw [← hsplit] at h2
    omega

/-- How many nodes the round has: as the document counts. -/
theorem low_size {m : Nat} {E : List (Nat × Nat)} {k : Nat} {f : Nat → Int} (hE : ∀ e ∈ E, e.1 < m ∧ e.2 < m) (hk : k < m) (hf : FarA m E k k f) {w : List Nat} (hw : lowW m E k = some w) : 0 < w.length ∧ w.length ≤ m ∧ w[0]? = some k ∧ (∃ c, Cand E k k ((w.length - 1 : Nat) : Int) f c) ∧ ∀ (s c : Nat), s + 1 < w.length → ¬ Cand E k k (s : Int) f c := by
  obtain ⟨⟨x, hx1, hx2⟩, hnd, hmin⟩ := backWay_some (low_lt hE k) hk hw
  have hp := hx1.pos
  obtain ⟨l, hl⟩ := hx1.first
  have h0 : w[0]? = some k := by rw [hl]; rfl
  refine ⟨hp, nodup_le hnd (fun z hz => (hx1.lt (low_lt hE k) hk).2 z hz), h0, ?_, fun s c hs hc => ?_⟩
  · by_cases h1 : w.length = 1
    · have h2 := hx1.at.2
      rw [h1, h0] at h2
      obtain rfl := Option.some.inj h2
      obtain ⟨y1, y2, y3⟩ := mem_low.1 hx2
      refine ⟨k, y1, Nat.le_refl _, ?_⟩
      rw [h1]
      rcases hf k hk with ⟨_, h⟩ | ⟨d, h1, h2, h3⟩
      · exact absurd rfl (h 0)
      · rw [h1]
        have : d = 0 := Nat.eq_zero_of_not_pos fun hd => h3 0 hd rfl
        rw [this]
        try rfl
    · obtain ⟨b, _, h2, _⟩ := low_step hE hk hf hw 1 k (by omega) (by omega) h0
      exact ⟨b, h2⟩
  · rcases cand_rnd hE hf (.one : Wl (lowE E k) k [k] k) (Nat.le_refl _) hc with ⟨_, _, hr⟩ | ⟨T, hT, hr⟩
    · have := rkL_len (by omega) (hr.all (low_lt hE k) hk) (hmin _ hr)
      simp at this
      omega
    · have := rkL_len (by omega) (hr.all (low_lt hE k) hk) (hmin _ hr)
      rw [List.length_append, hT] at this
      simp at this
      omega
theorem low_none {m : Nat} {E : List (Nat × Nat)} {k : Nat} {f : Nat → Int} (hE : ∀ e ∈ E, e.1 < m ∧ e.2 < m) (hk : k < m) (hf : FarA m E k k f) (hw : lowW m E k = none) : ∀ (s c : Nat), ¬ Cand E k k (s : Int) f c := fun s c hc => by
  have hno := backWay_none (low_lt hE k) hk hw
  rcases cand_rnd hE hf (.one : Wl (lowE E k) k [k] k) (Nat.le_refl _) hc with ⟨_, _, hr⟩ | ⟨T, hT, hr⟩
  · exact hno _ hr
  · exact hno _ hr

/-- Levels are bounded by the nodes. -/
theorem lev_lt {m : Nat} {A : Nat → List Nat} {f : Nat → Int} (hA : ∀ a y, y ∈ A a → y < m) (h : Lev A (fun x => x < m) f) {a : Nat} (ha : a < m) : f a < (m : Int) := by
  have key : ∀ (n a : Nat), a < m → f a = (n : Int) → ∀ v, v ≤ n → ∃ x, x < m ∧ f x = (v : Int) := by
    intro n
    induction n with
    | zero => intro a ha e v hv; exact ⟨a, ha, by rw [e]; omega⟩
    | succ n ih =>
      intro a ha e v hv
      by_cases hvn : v = n + 1
      · exact ⟨a, ha, by rw [e, hvn]⟩
      · rcases h.one a ha with h0 | ⟨y, hy, h1⟩
        · omega
        · exact ih y (hA a y hy) (by omega) v (by omega)
  have hp := h.pos a
  obtain ⟨n, hn⟩ : ∃ n : Nat, f a = (n : Int) := ⟨(f a).toNat, by omega⟩
  have hsub : ∀ v ∈ List.range (n + 1), v ∈ (List.range m).map (fun x => (f x).toNat) := fun v hv => by
    obtain ⟨x, hx, e⟩ := key n a ha hn v (by have := List.mem_range.1 hv; omega)
    exact List.mem_map.2 ⟨x, List.mem_range.2 hx, by rw [e]; simp⟩
  have := List.Nodup.length_le_of_subset List.nodup_range hsub
  simp at this
  omega

/-- Levels that are worked out by going along the edges again and again. -/
structure Relax (m : Nat) (E : List (Nat × Nat)) (lv : Nat → Int) (t : Nat) (f : Nat → Int) : Prop where
  pos : ∀ a, a < m → 0 ≤ f a
  le : ∀ a, a < m → f a ≤ lv a
  ge : ∀ a, a < m → min (lv a) (t : Int) ≤ f a
/-- Within a round, so many edges done. -/
structure RelaxI (m : Nat) (E : List (Nat × Nat)) (lv : Nat → Int) (t i : Nat) (f : Nat → Int) (more : Bool) : Prop where
  rel : Relax m E lv t f
  done : ∀ (j a b : Nat), j < i → E[j]? = some (a, b) → min (lv b) (t : Int) + 1 ≤ f a
  still : more = false → ∀ (j a b : Nat), j < i → E[j]? = some (a, b) → f b + 1 ≤ f a

theorem Relax.start {m : Nat} {E : List (Nat × Nat)} {A : Nat → List Nat} {lv : Nat → Int} (h : Lev A (fun x => x < m) lv) : Relax m E lv 0 (fun _ => 0) := ⟨fun _ _ => Int.le_refl _, fun a _ => h.pos a, fun a _ => by have := h.pos a; simp; omega⟩
theorem RelaxI.start {m : Nat} {E : List (Nat × Nat)} {lv : Nat → Int} {t : Nat} {f : Nat → Int} (h : Relax m E lv t f) : RelaxI m E lv t 0 f false := ⟨h, fun j _ _ hj => by omega, fun _ j _ _ hj => by omega⟩
theorem RelaxI.put {m : Nat} {E : List (Nat × Nat)} (hE : ∀ e ∈ E, e.1 < m ∧ e.2 < m) {lv : Nat → Int} (hlv : ∀ a b, (a, b) ∈ E → lv b + 1 ≤ lv a) {t i : Nat} {f : Nat → Int} {more : Bool} (h : RelaxI m E lv t i f more) {a b : Nat} (he : E[i]? = some (a, b)) (hlt : f a < f b + 1) : RelaxI m E lv t (i + 1) (updA f a (f b + 1)) true := by
  have hin := List.mem_of_getElem? he
  obtain ⟨ha, hb⟩ := hE _ hin
  dsimp only at ha hb
  have h1 := h.rel.le b hb
  have h2 := hlv a b hin
  have h3 := h.rel.pos b hb
  have h4 := h.rel.ge b hb
  have h5 := h.rel.ge a ha
  have hup : ∀ x, f x ≤ updA f a (f b + 1) x := fun x => by
    by_cases e : x = a
    · subst e; rw [updA_at]; omega
    · rw [updA_ne _ _ e]; exact Int.le_refl _
  refine ⟨⟨fun x hx => ?_, fun x hx => ?_, fun x hx => ?_⟩, fun j x y hj hxy => ?_, fun h => by cases h⟩
  · have := h.rel.pos x hx; have := hup x; omega
  · by_cases e : x = a
    · subst e; rw [updA_at]; omega
    · rw [updA_ne _ _ e]; exact h.rel.le x hx
  · have := h.rel.ge x hx; have := hup x; omega
  · by_cases e : j = i
    · subst e
      rw [he] at hxy
      cases hxy
      rw [updA_at]
      omega
    · have := h.done j x y (by omega) hxy; have := hup x; omega
theorem RelaxI.skip {m : Nat} {E : List (Nat × Nat)} (hE : ∀ e ∈ E, e.1 < m ∧ e.2 < m) {lv : Nat → Int} {t i : Nat} {f : Nat → Int} {more : Bool} (h : RelaxI m E lv t i f more) {a b : Nat} (he : E[i]? = some (a, b)) (hlt : ¬ f a < f b + 1) : RelaxI m E lv t (i + 1) f more := by
  have hin := List.mem_of_getElem? he
  obtain ⟨ha, hb⟩ := hE _ hin
  dsimp only at ha hb
  have h4 := h.rel.ge b hb
  refine ⟨h.rel, fun j x y hj hxy => ?_, fun hm j x y hj hxy => ?_⟩
  · by_cases e : j = i
    · subst e
      rw [he] at hxy
      cases hxy
      omega
    · exact h.done j x y (by omega) hxy
  · by_cases e : j = i
    · subst e
      rw [he] at hxy
      cases hxy
      omega
    · exact h.still hm j x y (by omega) hxy
theorem RelaxI.next {m : Nat} {E : List (Nat × Nat)} {lv : Nat → Int} (hl : Lev (adj m E) (fun x => x < m) lv) {t : Nat} {f : Nat → Int} {more : Bool} (h : RelaxI m E lv t E.length f more) : Relax m E lv (t + 1) f := ⟨h.rel.pos, h.rel.le, fun a ha => by
  rcases hl.one a ha with h0 | ⟨y, hy, h1⟩
  · have := h.rel.pos a ha; rw [h0]; omega
  · obtain ⟨hym, hin⟩ := mem_adj.1 hy
    obtain ⟨j, hj, ej⟩ := List.mem_iff_getElem.1 hin
    have := h.done j a y hj (by rw [List.getElem?_eq_getElem hj, ej])
    rw [h1]
    push_cast
    omega⟩
theorem RelaxI.stop {m : Nat} {E : List (Nat × Nat)} {lv : Nat → Int} (hl : Lev (adj m E) (fun x => x < m) lv) {t : Nat} {f : Nat → Int} (h : RelaxI m E lv t E.length f false) : ∀ a, a < m → f a = lv a := fun a ha => by
  have key : ∀ (n a : Nat), a < m → lv a = (n : Int) → lv a ≤ f a := by
    intro n
    induction n with
    | zero => intro a ha e; have := h.rel.pos a ha; omega
    | succ n ih =>
      intro a ha e
      rcases hl.one a ha with h0 | ⟨y, hy, h1⟩
      · omega
      · obtain ⟨hym, hin⟩ := mem_adj.1 hy
        obtain ⟨j, hj, ej⟩ := List.mem_iff_getElem.1 hin
        have h2 := h.still rfl j a y hj (by rw [List.getElem?_eq_getElem hj, ej])
        have h3 := ih y hym (by omega)
        omega
  have hp := hl.pos a
  have h1 := key (lv a).toNat a ha (by omega)
  have h2 := h.rel.le a ha
  omega
theorem Relax.all {m : Nat} {E : List (Nat × Nat)} {lv : Nat → Int} (hl : Lev (adj m E) (fun x => x < m) lv) {t : Nat} {f : Nat → Int} (h : Relax m E lv t f) (ht : m ≤ t) : ∀ a, a < m → f a = lv a := fun a ha => by
  have h1 := lev_lt (fun a y hy => (mem_adj.1 hy).1) hl ha
  have h2 := h.ge a ha
  have h3 := h.le a ha
  omega

end Go.Proofs.YtgllcbajgndldaaDoor.GraphNet
