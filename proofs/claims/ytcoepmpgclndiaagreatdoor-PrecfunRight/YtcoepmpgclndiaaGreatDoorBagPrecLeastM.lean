/-
  Texts that stand together: PrecLeastM, PrecRightM, PrecRightF.
-/
import Derived.Test.YtcoepmpgclndiaaGreatDoorBPrecFn7
namespace Go.Proofs.YtcoepmpgclndiaaGreatDoor.PrecFn
open Go.RowKit Go.Proofs.YtcoepmpgclndiaaGreatDoor.GramMath Go.Proofs.YtcoepmpgclndiaaGreatDoor.GramRow Go.Proofs.YtcoepmpgclndiaaGreatDoor.GramApart Go.Proofs.YtcoepmpgclndiaaGreatDoor.GraphMath Go.Proofs.YtcoepmpgclndiaaGreatDoor.GraphNet Go.Proofs.YtcoepmpgclndiaaGreatDoor.GramErrs Go.Proofs.YtcoepmpgclndiaaGreatDoor.MatrixClash
set_option linter.unusedVariables false
set_option linter.unusedSimpArgs false

theorem mem_of_toE {es : List (Int × Int)} (h0 : ∀ e ∈ es, 0 ≤ e.1 ∧ 0 ≤ e.2) {a b : Nat} (h : (a, b) ∈ toE es) : ((a : Int), (b : Int)) ∈ es := by
  obtain ⟨⟨x, y⟩, h1, h2⟩ := List.mem_map.1 h
  have := h0 _ h1
  simp only [Prod.mk.injEq] at h2
  obtain ⟨rfl, rfl⟩ := h2
  have e1 : ((x.toNat : Nat) : Int) = x := Int.toNat_of_nonneg this.1
  have e2 : ((y.toNat : Nat) : Int) = y := Int.toNat_of_nonneg this.2
  rw [e1, e2]
  exact h1
theorem toE_mem {es : List (Int × Int)} {a b : Nat} (h : ((a : Int), (b : Int)) ∈ es) : (a, b) ∈ toE es := List.mem_map.2 ⟨_, h, by simp⟩

/-- Levels of classes. -/
structure LvC (m : Nat) (es : List (Int × Int)) (lv : Nat → Int) : Prop where
  falls : ∀ c d : Nat, ((c : Int), (d : Int)) ∈ es → lv d + 1 ≤ lv c
  one : ∀ c, c < m → lv c = 0 ∨ ∃ d : Nat, d < m ∧ ((c : Int), (d : Int)) ∈ es ∧ lv c = lv d + 1
  pos : ∀ c, 0 ≤ lv c
  few : ∀ c, lv c ≤ 65536

theorem lvc_of {m : Nat} {es : List (Int × Int)} (hm : m ≤ 256) (h0 : mayE (m : Int) es = 0) (hr : rdL (m : Int) es = []) : LvC m es (fun c => (lvL (m : Int) es).getD c 0) := by
  obtain ⟨L, hL, hO, hlv⟩ := lv_full h0 hr
  obtain ⟨m', hm', _, _, h5, hE⟩ := mayE_zero h0
  obtain rfl : m = m' := by omega
  have hget : ∀ c, c < m → (lvL (m : Int) es).getD c 0 = levL (adj m (toE es)) L c := fun c hc => by
    rw [hlv, List.getD_eq_getElem?_getD, rowOf_get _ hc]; rfl
  have hge : ∀ c, m ≤ c → (lvL (m : Int) es).getD c 0 = 0 := fun c hc => by
    rw [hlv, List.getD_eq_getElem?_getD, List.getElem?_eq_none (by rw [rowOf_length]; exact hc)]; rfl
  refine ⟨fun c d h => ?_, fun c hc => ?_, fun c => ?_, fun c => ?_⟩
  · have h1 := h5 _ h
    dsimp only at h1 ⊢
    rw [hget c (by omega), hget d (by omega)]
    exact hO.edge hE (toE_mem h)
  · show _
    rw [hget c hc]
    rcases hO.lev.one c hc with h | ⟨y, hy, h⟩
    · exact .inl h
    · obtain ⟨h1, h2⟩ := mem_adj.1 hy
      refine .inr ⟨y, h1, mem_of_toE (fun e he => ⟨(h5 e he).1, (h5 e he).2.2.1⟩) h2, ?_⟩
      rw [hget y h1]
      exact h
  · show _
    by_cases hc : c < m
    · rw [hget c hc]; exact hO.lev.pos c
    · rw [hge c (by omega)]; exact Int.le_refl _
  · show _
    by_cases hc : c < m
    · rw [hget c hc]
      have h9 := levF_bnd (A := adj m (toE es)) (m := m) (fun a => (adj_ok m (toE es) a).2.2) L.reverse c
      have e : (L.reverse).length = m := by rw [List.length_reverse]; exact hO.len
      rw [e] at h9
      have h10 : m * m ≤ 256 * 256 := Nat.mul_le_mul hm hm
      have := h9.2
      show levF (adj m (toE es)) L.reverse c ≤ 65536
      omega
    · rw [hge c (by omega)]; omega

/-- What is told of nodes: their classes, the edges, the levels. -/
structure LvN (n2 : Nat) (es : List (Int × Int)) (cl : Nat → Nat) (lv : Nat → Int) : Prop where
  falls : ∀ e ∈ es, ∀ i j, i < n2 → j < n2 → (cl i : Int) = e.1 → (cl j : Int) = e.2 → lv j + 1 ≤ lv i
  one : ∀ i, i < n2 → lv i = 0 ∨ ∃ e ∈ es, (cl i : Int) = e.1 ∧ ∃ j, j < n2 ∧ (cl j : Int) = e.2 ∧ lv j = lv i - 1
  same : ∀ i j, cl i = cl j → lv i = lv j
  pos : ∀ i, 0 ≤ lv i
  few : ∀ i, lv i ≤ 65536

def clN (t : Nat) (S : Nat → Nat → Int) (i : Nat) : Nat := (clS t S).getD i 0
def lvN (t : Nat) (S : Nat → Nat → Int) (i : Nat) : Int := (lvL ((2 * t : Nat) : Int) (edS t S)).getD (clN t S i) 0

theorem clN_at {t : Nat} {S : Nat → Nat → Int} {i : Nat} (hi : i < 2 * t) : (clS t S)[i]? = some (clN t S i) := by
  unfold clN
  rw [List.getD_eq_getElem?_getD, List.getElem?_eq_getElem (by rw [classL_len]; exact hi)]
  rfl

theorem lvn_of {t : Nat} {S : Nat → Nat → Int} (ht : t ≤ 60) (hT : Tame t S) (hc : clL t S = []) (hr : rdL ((2 * t : Nat) : Int) (edS t S) = []) : LvN (2 * t) (edS t S) (clN t S) (lvN t S) := by
  have h0 := edgeL_may ht hT hc
  have H := lvc_of (m := 2 * t) (by omega) h0 hr
  have hlt : ∀ i, i < 2 * t → clN t S i < 2 * t := fun i hi => Nat.lt_of_lt_of_le (classL_lt _ _ _ (List.mem_of_getElem? (clN_at (S := S) hi))) (cntC_le _ _)
  refine ⟨fun e he i j hi hj h1 h2 => ?_, fun i hi => ?_, fun i j h => ?_, fun i => H.pos _, fun i => H.few _⟩
  · refine H.falls (clN t S i) (clN t S j) ?_
    rw [h1, h2]
    exact he
  · rcases H.one (clN t S i) (hlt i hi) with h | ⟨d, hd, he, h⟩
    · exact .inl h
    · refine .inr ⟨_, he, rfl, ?_⟩
      obtain ⟨i', j', _, hj', hB, e⟩ := mem_edgeA.1 he
      simp only [Prod.mk.injEq] at e
      obtain ⟨e1, e2⟩ := e
      have e1' : clN t S i = i' := by omega
      have e2' : d = j' := by omega
      subst e2'
      unfold edgeB at hB
      obtain ⟨x, hx, hz⟩ := List.any_eq_true.1 hB
      obtain ⟨z, hz1, hz2⟩ := List.any_eq_true.1 hz
      obtain ⟨z1, z2⟩ := mem_nodesK.1 hz1
      have e3 : clN t S z = d := z2
      refine ⟨z, z1, by dsimp only; rw [e3], ?_⟩
      have : lvN t S z = (lvL ((2 * t : Nat) : Int) (edS t S)).getD d 0 := by unfold lvN; rw [e3]
      rw [this]
      have h' : lvN t S i = (lvL ((2 * t : Nat) : Int) (edS t S)).getD d 0 + 1 := h
      omega
  · unfold lvN; rw [h]

theorem fnL_take {t : Nat} {S : Nat → Nat → Int} {i : Nat} (hi : i < t) : (fnL t S ((clS t S).take t))[i]? = some (lvN t S i) := by
  unfold fnL
  rw [List.getElem?_map, List.getElem?_take, if_pos hi, clN_at (by omega)]
  rfl
theorem fnL_drop {t : Nat} {S : Nat → Nat → Int} {i : Nat} (hi : i < t) : (fnL t S ((clS t S).drop t))[i]? = some (lvN t S (t + i)) := by
  unfold fnL
  rw [List.getElem?_map, List.getElem?_drop, clN_at (by omega)]
  rfl

/-- Is there one below, among the first so many nodes, edges? -/
def hitJ (cl : Nat → Nat) (lv : Nat → Int) (i : Nat) (d : Int) (j : Nat) : Bool := (List.range j).any (fun j => decide ((cl j : Int) = d) && decide (lv j = lv i - 1))
def hitE (n2 : Nat) (cl : Nat → Nat) (lv : Nat → Int) (es : List (Int × Int)) (i k : Nat) : Bool := decide (lv i = 0) || (es.take k).any (fun e => decide ((cl i : Int) = e.1) && hitJ cl lv i e.2 n2)
theorem hitJ_zero (cl : Nat → Nat) (lv : Nat → Int) (i : Nat) (d : Int) : hitJ cl lv i d 0 = false := rfl
theorem hitJ_succ (cl : Nat → Nat) (lv : Nat → Int) (i : Nat) (d : Int) (j : Nat) : hitJ cl lv i d (j + 1) = (hitJ cl lv i d j || (decide ((cl j : Int) = d) && decide (lv j = lv i - 1))) := by
  unfold hitJ; rw [List.range_succ, List.any_append]; simp
theorem hitE_zero (n2 : Nat) (cl : Nat → Nat) (lv : Nat → Int) (es : List (Int × Int)) (i : Nat) : hitE n2 cl lv es i 0 = decide (lv i = 0) := by simp [hitE]
theorem hitE_succ {n2 : Nat} {cl : Nat → Nat} {lv : Nat → Int} {es : List (Int × Int)} {i k : Nat} {c d : Int} (h : es[k]? = some (c, d)) : hitE n2 cl lv es i (k + 1) = (hitE n2 cl lv es i k || (decide ((cl i : Int) = c) && hitJ cl lv i d n2)) := by
  unfold hitE
  rw [List.take_add_one, h, List.any_append, Bool.or_assoc]
  simp
theorem LvN.hit {n2 : Nat} {es : List (Int × Int)} {cl : Nat → Nat} {lv : Nat → Int} (h : LvN n2 es cl lv) {i : Nat} (hi : i < n2) : hitE n2 cl lv es i es.length = true := by
  unfold hitE
  rw [List.take_length]
  rcases h.one i hi with h1 | ⟨e, he, h1, j, hj, h2, h3⟩
  · simp [h1]
  · rw [Bool.or_eq_true]
    refine .inr (List.any_eq_true.2 ⟨e, he, ?_⟩)
    rw [Bool.and_eq_true]
    refine ⟨by simpa using h1, ?_⟩
    unfold hitJ
    refine List.any_eq_true.2 ⟨j, List.mem_range.2 hj, ?_⟩
    rw [Bool.and_eq_true]
    exact ⟨by simpa using h2, by simpa using h3⟩

end Go.Proofs.YtcoepmpgclndiaaGreatDoor.PrecFn

namespace Go.Proofs.YtcoepmpgclndiaaGreatDoor.PrecFn
open Go.RowKit Go.Proofs.YtcoepmpgclndiaaGreatDoor.GramMath Go.Proofs.YtcoepmpgclndiaaGreatDoor.GramRow Go.Proofs.YtcoepmpgclndiaaGreatDoor.GramApart Go.Proofs.YtcoepmpgclndiaaGreatDoor.GraphMath Go.Proofs.YtcoepmpgclndiaaGreatDoor.GraphNet Go.Proofs.YtcoepmpgclndiaaGreatDoor.GramErrs Go.Proofs.YtcoepmpgclndiaaGreatDoor.MatrixClash
set_option linter.unusedVariables false
set_option linter.unusedSimpArgs false

/-- What two classes' joining keeps. -/
structure Jn (q : Int → Int → Bool) (t : Nat) (A : Nat → Nat → Prop) (f : Nat → Nat) : Prop where
  le : ∀ k, f k ≤ k
  eq : ∀ a b, A a b → q (a : Int) (b : Int) = true → f a = f (t + b)
  only : ∀ φ : Nat → Int, (∀ a b, a < t → b < t → q (a : Int) (b : Int) = true → φ a = φ (t + b)) → ∀ k, φ (f k) = φ k

theorem joinF_left (f : Nat → Nat) (a b : Nat) : joinF f a b a = min (f a) (f b) := by
  unfold joinF; split <;> omega
theorem joinF_right (f : Nat → Nat) (a b : Nat) : joinF f a b b = min (f a) (f b) := by
  unfold joinF; split <;> omega
theorem joinF_same {f : Nat → Nat} {a b x y : Nat} (h : f x = f y) : joinF f a b x = joinF f a b y := by
  unfold joinF; rw [h]

theorem Jn.start (q : Int → Int → Bool) (t : Nat) : Jn q t (fun _ _ => False) id :=
  ⟨fun k => Nat.le_refl _, fun _ _ h _ => h.elim, fun φ _ k => rfl⟩
theorem Jn.step {q : Int → Int → Bool} {t : Nat} {A : Nat → Nat → Prop} {f : Nat → Nat} (h : Jn q t A f) {a b : Nat} (ha : a < t) (hb : b < t) : Jn q t (fun x y => A x y ∨ (x = a ∧ y = b)) (stepF q t f a b) := by
  unfold stepF
  by_cases hq : q (a : Int) (b : Int) = true
  · rw [if_pos hq]
    refine ⟨fun k => ?_, fun x y hA hxy => ?_, fun φ hφ k => ?_⟩
    · have := h.le k
      unfold joinF
      split <;> omega
    · rcases hA with hA | ⟨rfl, rfl⟩
      · exact joinF_same (h.eq x y hA hxy)
      · rw [joinF_left, joinF_right]
    · have e := hφ a b ha hb hq
      have e1 := h.only φ hφ a
      have e2 := h.only φ hφ (t + b)
      have e3 := h.only φ hφ k
      unfold joinF
      split
      · next hk =>
        rw [← e3, hk]
        rcases Nat.le_total (f a) (f (t + b)) with h1 | h1
        · rw [Nat.min_eq_left h1, Nat.max_eq_right h1, e1, e2, e]
        · rw [Nat.min_eq_right h1, Nat.max_eq_left h1, e1, e2, e]
      · exact e3
  · rw [if_neg hq]
    refine ⟨h.le, fun x y hA hxy => ?_, h.only⟩
    rcases hA with hA | ⟨rfl, rfl⟩
    · exact h.eq x y hA hxy
    · exact absurd hxy hq
theorem Jn.weak {q : Int → Int → Bool} {t : Nat} {A B : Nat → Nat → Prop} {f : Nat → Nat} (h : Jn q t A f) (hB : ∀ x y, B x y → A x y) : Jn q t B f := ⟨h.le, fun a b h1 h2 => h.eq a b (hB _ _ h1) h2, h.only⟩
theorem Jn.row {q : Int → Int → Bool} {t : Nat} {A : Nat → Nat → Prop} {f : Nat → Nat} (h : Jn q t A f) {a : Nat} (ha : a < t) : ∀ n, n ≤ t → Jn q t (fun x y => A x y ∨ (x = a ∧ y < n)) (rowF q t f a n)
  | 0, _ => h.weak (fun x y hxy => by rcases hxy with hxy | ⟨_, hxy⟩; exact hxy; omega)
  | n + 1, hn => by
    rw [rowF_succ]
    refine ((h.row ha n (by omega)).step ha (b := n) (by omega)).weak (fun x y hxy => ?_)
    rcases hxy with hxy | ⟨rfl, hxy⟩
    · exact .inl (.inl hxy)
    · by_cases e : y = n
      · exact .inr ⟨rfl, e⟩
      · exact .inl (.inr ⟨rfl, by omega⟩)
theorem Jn.all (q : Int → Int → Bool) (t : Nat) : ∀ n, n ≤ t → Jn q t (fun x y => x < n ∧ y < t) (allF q t n)
  | 0, _ => (Jn.start q t).weak (fun x y hxy => by omega)
  | n + 1, hn => by
    rw [allF_succ]
    refine ((Jn.all q t n (by omega)).row (a := n) (by omega) t (Nat.le_refl _)).weak (fun x y hxy => ?_)
    by_cases e : x = n
    · exact .inr ⟨e, hxy.2⟩
    · exact .inl ⟨by omega, hxy.2⟩
theorem Jn.least (q : Int → Int → Bool) (t : Nat) : Jn q t (fun x y => x < t ∧ y < t) (leastF q t) := Jn.all q t t (Nat.le_refl _)

/-- A node's number is that of the least one of its class. -/
theorem numL_least {f : Nat → Nat} (hf : ∀ k, f k ≤ k) {n k : Nat} (hk : k < n) : (numL f n).1.getD k 0 = (numL f n).1.getD (f k) 0 := by
  have hfk := hf k
  rw [List.getD_eq_getElem?_getD, List.getD_eq_getElem?_getD, numL_at f n hk, numL_at f n (Nat.lt_of_le_of_lt hfk hk)]
  by_cases hlt : f k < k
  · conv => lhs; unfold numL
    rw [if_pos hlt]
    dsimp only
    have hl := numL_len f k
    rw [List.getElem?_append_right (by omega), hl, Nat.sub_self]
    have h1 := numL_at f k hlt
    rw [List.getD_eq_getElem?_getD, h1]
    rfl
  · rw [show f k = k by omega]
theorem numL_only {f : Nat → Nat} (hf : ∀ k, f k ≤ k) {φ : Nat → Int} (hφ : ∀ k, φ (f k) = φ k) {n : Nat} : ∀ k, k ≤ n → ∀ i j, i < k → j < k → (numL f n).1.getD i 0 = (numL f n).1.getD j 0 → φ i = φ j
  | 0, _, i, j, hi, _, _ => by omega
  | k + 1, hk, i, j, hi, hj, h => by
    have ih := numL_only (n := n) hf hφ k (by omega)
    have key : ∀ i, i < k → (numL f n).1.getD i 0 = (numL f n).1.getD k 0 → φ i = φ k := fun i hi h => by
      by_cases hlt : f k < k
      · rw [← hφ k]
        refine ih i (f k) hi hlt ?_
        rw [h]
        exact numL_least hf (by omega)
      · exfalso
        have e1 : (numL f n).1.getD k 0 = (numL f k).2 := by
          rw [List.getD_eq_getElem?_getD, numL_at f n (by omega)]
          conv => lhs; unfold numL
          rw [if_neg hlt]
          dsimp only
          have hl := numL_len f k
          rw [List.getElem?_append_right (by omega), hl, Nat.sub_self]
          rfl
        have e2 : (numL f n).1.getD i 0 < (numL f k).2 := by
          rw [List.getD_eq_getElem?_getD, numL_at f n (by omega), ← numL_at f k hi, List.getElem?_eq_getElem (by rw [numL_len]; exact hi)]
          exact (numL_cnt f k).2 _ (List.getElem_mem _)
        omega
    by_cases e1 : i = k
    · by_cases e2 : j = k
      · rw [e1, e2]
      · rw [e1] at h ⊢
        exact (key j (by omega) h.symm).symm
    · by_cases e2 : j = k
      · rw [e2] at h ⊢
        exact key i (by omega) h
      · exact ih i j (by omega) (by omega) h

/-- Equal ones are of one class. -/
theorem cl_eq {t : Nat} {S : Nat → Nat → Int} {a b : Nat} (ha : a < t) (hb : b < t) (h : rQ t S (a : Int) (b : Int) = true) : clN t S a = clN t S (t + b) := by
  have H := Jn.least (rQ t S) t
  unfold clN
  show (numL (leastF (rQ t S) t) (2 * t)).1.getD a 0 = (numL (leastF (rQ t S) t) (2 * t)).1.getD (t + b) 0
  rw [numL_least H.le (show a < 2 * t by omega), numL_least H.le (show t + b < 2 * t by omega), H.eq a b ⟨ha, hb⟩ h]
/-- What is one of equal ones is one of a class. -/
theorem cl_only {t : Nat} {S : Nat → Nat → Int} {φ : Nat → Int} (hφ : ∀ a b, a < t → b < t → rQ t S (a : Int) (b : Int) = true → φ a = φ (t + b)) {i j : Nat} (hi : i < 2 * t) (hj : j < 2 * t) (h : clN t S i = clN t S j) : φ i = φ j :=
  numL_only (Jn.least (rQ t S) t).le ((Jn.least (rQ t S) t).only φ hφ) (2 * t) (Nat.le_refl _) i j hi hj h

/-- Numbers that fit, as one function of the nodes. -/
structure Fit (t : Nat) (S : Nat → Nat → Int) (φ : Nat → Int) : Prop where
  y : ∀ a b, a < t → b < t → rY t S (a : Int) (b : Int) = true → φ a < φ (t + b)
  q : ∀ a b, a < t → b < t → rQ t S (a : Int) (b : Int) = true → φ a = φ (t + b)
  k : ∀ a b, a < t → b < t → rK t S (a : Int) (b : Int) = true → φ (t + b) < φ a

def phi (t : Nat) (F G : List Int) (i : Nat) : Int := if i < t then F.getD i 0 else G.getD (i - t) 0
theorem phi_lo {t i : Nat} (F G : List Int) (h : i < t) : phi t F G i = F.getD i 0 := if_pos h
theorem phi_hi {t b : Nat} (F G : List Int) : phi t F G (t + b) = G.getD b 0 := by unfold phi; rw [if_neg (by omega), show t + b - t = b by omega]

theorem fits_iff {t : Nat} {S : Nat → Nat → Int} {F G : List Int} : fitsB (rY t S) (rQ t S) (rK t S) t F G = true ↔ F.length = t ∧ G.length = t ∧ Fit t S (phi t F G) := by
  unfold fitsB fitAll fitRow saysB
  simp only [Bool.and_eq_true, decide_eq_true_eq, List.all_eq_true, List.mem_range, Bool.or_eq_true, Bool.not_eq_true']
  constructor
  · rintro ⟨⟨h1, h2⟩, h⟩
    refine ⟨h1, h2, fun a b ha hb hr => ?_, fun a b ha hb hr => ?_, fun a b ha hb hr => ?_⟩
    · rw [phi_lo F G ha, phi_hi]
      rcases (h a ha b hb).1.1 with h3 | h3
      · exact h3
      · rw [hr] at h3; cases h3
    · rw [phi_lo F G ha, phi_hi]
      rcases (h a ha b hb).1.2 with h3 | h3
      · exact h3
      · rw [hr] at h3; cases h3
    · rw [phi_lo F G ha, phi_hi]
      rcases (h a ha b hb).2 with h3 | h3
      · exact h3
      · rw [hr] at h3; cases h3
  · rintro ⟨h1, h2, hF⟩
    refine ⟨⟨h1, h2⟩, fun a ha b hb => ⟨⟨?_, ?_⟩, ?_⟩⟩
    · cases hr : rY t S (a : Int) (b : Int) with
      | false => exact .inr rfl
      | true => have := hF.y a b ha hb hr; rw [phi_lo F G ha, phi_hi] at this; exact .inl this
    · cases hr : rQ t S (a : Int) (b : Int) with
      | false => exact .inr rfl
      | true => have := hF.q a b ha hb hr; rw [phi_lo F G ha, phi_hi] at this; exact .inl this
    · cases hr : rK t S (a : Int) (b : Int) with
      | false => exact .inr rfl
      | true => have := hF.k a b ha hb hr; rw [phi_lo F G ha, phi_hi] at this; exact .inl this

/-- Along an edge of classes numbers that fit fall. -/
theorem Fit.falls {t : Nat} {S : Nat → Nat → Int} {φ : Nat → Int} (h : Fit t S φ) (hT : Tame t S) {e : Int × Int} (he : e ∈ edS t S) {i j : Nat} (hi : i < 2 * t) (hj : j < 2 * t) (h1 : (clN t S i : Int) = e.1) (h2 : (clN t S j : Int) = e.2) : φ j + 1 ≤ φ i := by
  obtain ⟨i', j', _, _, hB, rfl⟩ := mem_edgeA.1 he
  dsimp only at h1 h2
  obtain ⟨a, b, ha, hb, ⟨hr, e1, e2⟩ | ⟨hr, e1, e2⟩⟩ := edge_why hT hB
  · have e1' : clN t S a = i' := e1
    have e2' : clN t S (t + b) = j' := e2
    have q1 := cl_only h.q hi (show a < 2 * t by omega) (by omega)
    have q2 := cl_only h.q hj (show t + b < 2 * t by omega) (by omega)
    have := h.k a b ha hb hr
    omega
  · have e1' : clN t S (t + b) = i' := e1
    have e2' : clN t S a = j' := e2
    have q1 := cl_only h.q hi (show t + b < 2 * t by omega) (by omega)
    have q2 := cl_only h.q hj (show a < 2 * t by omega) (by omega)
    have := h.y a b ha hb hr
    omega

/-- Numbers that fit and are 0 or above are no less than the levels. -/
theorem Fit.least {t : Nat} {S : Nat → Nat → Int} {φ : Nat → Int} (h : Fit t S φ) (hT : Tame t S) (h0 : ∀ i, i < 2 * t → 0 ≤ φ i) (hL : LvN (2 * t) (edS t S) (clN t S) (lvN t S)) : ∀ (n : Nat) (i : Nat), i < 2 * t → lvN t S i ≤ n → lvN t S i ≤ φ i
  | 0, i, hi, hn => by have := h0 i hi; omega
  | n + 1, i, hi, hn => by
    rcases hL.one i hi with h1 | ⟨e, he, h1, j, hj, h2, h3⟩
    · have := h0 i hi; omega
    · have h4 := h.falls hT he hi hj h1 h2
      have h5 := Fit.least h hT h0 hL n j hj (by omega)
      omega

/-- The levels fit. -/
theorem lv_fit {t : Nat} {S : Nat → Nat → Int} (hL : LvN (2 * t) (edS t S) (clN t S) (lvN t S)) : Fit t S (lvN t S) := by
  have hcnt : ∀ i, i < 2 * t → clN t S i < cntC (rQ t S) t := fun i hi => classL_lt _ _ _ (List.mem_of_getElem? (clN_at (S := S) hi))
  have hed : ∀ x z, x < 2 * t → z < 2 * t → aboveB (rY t S) (rK t S) t x z = true → (((clN t S x : Nat) : Int), ((clN t S z : Nat) : Int)) ∈ edS t S := fun x z hx hz h => by
    refine mem_edgeA.2 ⟨_, _, hcnt x hx, hcnt z hz, ?_, rfl⟩
    unfold edgeB
    refine List.any_eq_true.2 ⟨x, mem_nodesK.2 ⟨hx, rfl⟩, List.any_eq_true.2 ⟨z, mem_nodesK.2 ⟨hz, rfl⟩, h⟩⟩
  refine ⟨fun a b ha hb hr => ?_, fun a b ha hb hr => hL.same _ _ (cl_eq ha hb hr), fun a b ha hb hr => ?_⟩
  · have h1 := hed (t + b) a (by omega) (by omega) (by unfold aboveB; rw [show ((t + b : Nat) : Int) - (t : Int) = (b : Int) by omega, hr, Bool.or_true])
    have := hL.falls _ h1 (t + b) a (by omega) (by omega) rfl rfl
    omega
  · have h1 := hed a (t + b) (by omega) (by omega) (by unfold aboveB; rw [show ((t + b : Nat) : Int) - (t : Int) = (b : Int) by omega, hr, Bool.true_or])
    have := hL.falls _ h1 a (t + b) (by omega) (by omega) rfl rfl
    omega

/-- Where there is a round no numbers fit. -/
theorem Fit.no {t : Nat} {S : Nat → Nat → Int} {φ : Nat → Int} (h : Fit t S φ) (hT : Tame t S) {s : Nat} {L : List Nat} (hw : Rnd (toE (edS t S)) s L) : False := by
  have hnode : ∀ c d : Nat, (c, d) ∈ toE (edS t S) → ∃ e ∈ edS t S, e = ((c : Int), (d : Int)) ∧ (∃ i, i < 2 * t ∧ clN t S i = c) ∧ ∃ j, j < 2 * t ∧ clN t S j = d := fun c d hcd => by
    obtain ⟨e, he, e2⟩ := List.mem_map.1 hcd
    obtain ⟨i', j', _, _, hB, rfl⟩ := mem_edgeA.1 he
    simp only [Int.toNat_natCast, Prod.mk.injEq] at e2
    obtain ⟨rfl, rfl⟩ := e2
    refine ⟨_, he, rfl, ?_⟩
    obtain ⟨a, b, ha, hb, ⟨hr, e1, e2⟩ | ⟨hr, e1, e2⟩⟩ := edge_why hT hB
    · exact ⟨⟨a, by omega, e1⟩, ⟨t + b, by omega, e2⟩⟩
    · exact ⟨⟨t + b, by omega, e1⟩, ⟨a, by omega, e2⟩⟩
  have hfall : ∀ c d i j : Nat, (c, d) ∈ toE (edS t S) → i < 2 * t → j < 2 * t → clN t S i = c → clN t S j = d → φ j + 1 ≤ φ i := fun c d i j hcd hi hj h1 h2 => by
    obtain ⟨e, he, rfl, _⟩ := hnode c d hcd
    exact h.falls hT he hi hj (by rw [h1]) (by rw [h2])
  obtain ⟨x, h1, h2⟩ := hw
  obtain ⟨_, _, _, ⟨ix, hix, ex⟩, ⟨is, his, es⟩⟩ := hnode x s h2
  have key : ∀ {l : List Nat} {y : Nat}, Wl (toE (edS t S)) s l y → ∀ iy, iy < 2 * t → clN t S iy = y → φ iy ≤ φ is := by
    intro l y hw
    induction hw with
    | one => intro iy hiy ey; rw [cl_only h.q hiy his (by rw [ey, es])]; exact Int.le_refl _
    | @snoc l z y _ he ih =>
      intro iy hiy ey
      obtain ⟨_, _, _, ⟨iz, hiz, ez⟩, _⟩ := hnode z y he
      have h3 := ih iz hiz ez
      have h4 := hfall z y iz iy he hiz hiy ez ey
      omega
  have h3 := key h1 ix hix ex
  have h4 := hfall x s ix is h2 hix his ex es
  omega

end Go.Proofs.YtcoepmpgclndiaaGreatDoor.PrecFn

namespace Go.Proofs.YtcoepmpgclndiaaGreatDoor.PrecFn
open Go.RowKit Go.Proofs.YtcoepmpgclndiaaGreatDoor.GramMath Go.Proofs.YtcoepmpgclndiaaGreatDoor.GramRow Go.Proofs.YtcoepmpgclndiaaGreatDoor.GramApart Go.Proofs.YtcoepmpgclndiaaGreatDoor.GraphMath Go.Proofs.YtcoepmpgclndiaaGreatDoor.GraphNet Go.Proofs.YtcoepmpgclndiaaGreatDoor.OpRow Go.Proofs.YtcoepmpgclndiaaGreatDoor.GramErrs Go.Proofs.YtcoepmpgclndiaaGreatDoor.MatrixClash
set_option linter.unusedVariables false
set_option linter.unusedSimpArgs false

theorem Fit.clash {t : Nat} {S : Nat → Nat → Int} {φ : Nat → Int} (h : Fit t S φ) {x : Pr} {l : List Pr} (hc : clL t S = x :: l) : False := by
  obtain ⟨a, b, r, ha, hb, hr, h1, h2⟩ := clash_some hc
  obtain rfl | rfl | rfl : r = 0 ∨ r = 1 ∨ r = 2 := by omega
  · have k1 := h.y a b ha hb h1
    have k2 := h.q a b ha hb h2
    omega
  · have k1 := h.y a b ha hb h1
    have k2 := h.k a b ha hb h2
    omega
  · have k1 := h.q a b ha hb h1
    have k2 := h.k a b ha hb h2
    omega

def nonnB (l : List Int) : Bool := l.all (fun x => decide (0 ≤ x))
theorem nonnB_take_succ {l : List Int} {k : Nat} {x : Int} (h : l[k]? = some x) : nonnB (l.take (k + 1)) = (nonnB (l.take k) && decide (0 ≤ x)) := by
  unfold nonnB
  rw [List.take_add_one, h, List.all_append]
  simp
theorem nonnB_no {l : List Int} {k : Nat} {x : Int} (h : l[k]? = some x) (hx : x < 0) : nonnB l = false := by
  unfold nonnB
  rw [List.all_eq_false]
  exact ⟨x, List.mem_of_getElem? h, by simp; omega⟩

set_option maxRecDepth 100000 in
set_option maxHeartbeats 4000000 in
theorem nonnegative_any (a : Option Addr) (c : Nat) (zs : List Int) (w : World) (hz : IRow w a zs) (hl : zs.length ≤ 1125899906842624) :
    Calls Tryz.prog 18 #[.slice a zs.length c] w fun e w' => e = .returned (.bool (nonnB zs)) ∧ w' = w := by
  have HZ : Hid (IRow w a zs) := hz
  clear hz
  go_enter Tryz.func18, Tryz.ntmps18
  go_wp2
  go_loopw [3] (fun s wr => ∃ k : Nat, k ≤ zs.length ∧ s = .int .i64 (k : Int) ∧ wr = w ∧ Hid (nonnB (zs.take k) = true)) (fun s _ => zs.length - (intOf s).toNat)
  case atStart => exact ⟨0, by omega, rfl, rfl, by show _ = _; simp [nonnB]⟩
  case round =>
    obtain ⟨k, hk, rfl, hwr, hI⟩ := hrel
    replace hwr := hwr.symm
    subst hwr
    by_cases hlk : k < zs.length
    · have hlk2 : (k : Int) < (zs.length : Int) := by omega
      obtain ⟨x, hx⟩ : ∃ x, zs[k]? = some x := ⟨zs[k], List.getElem?_eq_getElem hlk⟩
      obtain ⟨b, off, rfl, d0⟩ := HZ.out k x hx
      by_cases hx0 : x < 0
      · have HN : Hid (nonnB zs = false) := nonnB_no hx hx0
        clear hx hI
        go_wp2
        go_ret
        exact ⟨by rw [HN.out]; rfl, rfl⟩
      · have HN : Hid (nonnB (zs.take (k + 1)) = true) := by show _ = _; rw [nonnB_take_succ hx, hI.out, decide_eq_true (by omega)]; rfl
        clear hx hI
        go_wp2
        go_roundw
        case rel => exact ⟨k + 1, by omega, by go_num, trivial, HN⟩
        case measure => simp [intOf]; omega
    · obtain rfl : k = zs.length := by omega
      have HN : Hid (nonnB zs = true) := by have := hI.out; rw [List.take_length] at this; exact this
      clear hI hlk
      go_wp2
      go_ret
      exact ⟨by rw [HN.out]; rfl, rfl⟩

end Go.Proofs.YtcoepmpgclndiaaGreatDoor.PrecFn
