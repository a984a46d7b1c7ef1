/-
  Texts that stand together: PrecLeastM.
-/
import Derived.Test.YtigepihinflkdaaGreatDoorLPrecFn7
namespace Go.Proofs.YtigepihinflkdaaGreatDoor.PrecFn
open Go.RowKit Go.Proofs.YtigepihinflkdaaGreatDoor.GramMath Go.Proofs.YtigepihinflkdaaGreatDoor.GramRow Go.Proofs.YtigepihinflkdaaGreatDoor.GramApart Go.Proofs.YtigepihinflkdaaGreatDoor.GraphMath Go.Proofs.YtigepihinflkdaaGreatDoor.GraphNet Go.Proofs.YtigepihinflkdaaGreatDoor.GramErrs Go.Proofs.YtigepihinflkdaaGreatDoor.MatrixClash
set_option linter.unusedVariables false
set_option linter.unusedSimpArgs false

theorem mem_of_toE {es : List (Int × Int)} (h0 : ∀ e ∈ es, 0 ≤ e.1 ∧ 0 ≤ e.2) {a b : Nat} (h : (a, b) ∈ toE es) : ((a : Int), (b : Int)) ∈ es := by
  obtain ⟨⟨x, y⟩, h1, h2⟩ := List.mem_map.1 h
  have := h0 _ h1
  simp only [Prod.mk.injEq] at h2
  obtain ⟨rfl, rfl⟩ := h2
  have e1 : ((x.toNat : Nat) : Int) = x := Int.toNat_of_nonneg this.1
  have e2 : ((y.toNat : Nat) : Int) = y := Int.toNat_of_nonneg this.2
  rw [e1, e2]
  exact h1
theorem toE_mem {es : List (Int × Int)} {a b : Nat} (h : ((a : Int), (b : Int)) ∈ es) : (a, b) ∈ toE es := List.mem_map.2 ⟨_, h, by simp⟩

/-- Levels of classes. -/
structure LvC (m : Nat) (es : List (Int × Int)) (lv : Nat → Int) : Prop where
  falls : ∀ c d : Nat, ((c : Int), (d : Int)) ∈ es → lv d + 1 ≤ lv c
  one : ∀ c, c < m → lv c = 0 ∨ ∃ d : Nat, d < m ∧ ((c : Int), (d : Int)) ∈ es ∧ lv c = lv d + 1
  pos : ∀ c, 0 ≤ lv c
  few : ∀ c, lv c ≤ 65536

theorem lvc_of {m : Nat} {es : List (Int × Int)} (hm : m ≤ 256) (h0 : mayE (m : Int) es = 0) (hr : rdL (m : Int) es = []) : LvC m es (fun c => (lvL (m : Int) es).getD c 0) := by
  obtain ⟨L, hL, hO, hlv⟩ := lv_full h0 hr
  obtain ⟨m', hm', _, _, h5, hE⟩ := mayE_zero h0
  obtain rfl : m = m' := by omega
  have hget : ∀ c, c < m → (lvL (m : Int) es).getD c 0 = levL (adj m (toE es)) L c := fun c hc => by
    rw [hlv, List.getD_eq_getElem?_getD, rowOf_get _ hc]; rfl
  have hge : ∀ c, m ≤ c → (lvL (m : Int) es).getD c 0 = 0 := fun c hc => by
    rw [hlv, List.getD_eq_getElem?_getD, List.getElem?_eq_none (by rw [rowOf_length]; exact hc)]; rfl
  refine ⟨fun c d h => ?_, fun c hc => ?_, fun c => ?_, fun c => ?_⟩
  · have h1 := h5 _ h
    dsimp only at h1 ⊢
    rw [hget c (by omega), hget d (by omega)]
    exact hO.edge hE (toE_mem h)
  · show _
    rw [hget c hc]
    rcases hO.lev.one c hc with h | ⟨y, hy, h⟩
    · exact .inl h
    · obtain ⟨h1, h2⟩ := mem_adj.1 hy
      refine .inr ⟨y, h1, mem_of_toE (fun e he => ⟨(h5 e he).1, (h5 e he).2.2.1⟩) h2, ?_⟩
      rw [hget y h1]
      exact h
  · show _
    by_cases hc : c < m
    · rw [hget c hc]; exact hO.lev.pos c
    · rw [hge c (by omega)]; exact Int.le_refl _
  · show _
    by_cases hc : c < m
    · rw [hget c hc]
      have h9 := levF_bnd (A := adj m (toE es)) (m := m) (fun a => (adj_ok m (toE es) a).2.2) L.reverse c
      have e : (L.reverse).length = m := by rw [List.length_reverse]; exact hO.len
      rw [e] at h9
      have h10 : m * m ≤ 256 * 256 := Nat.mul_le_mul hm hm
      have := h9.2
      show levF (adj m (toE es)) L.reverse c ≤ 65536
      omega
    · rw [hge c (by omega)]; omega

/-- What is told of nodes: their classes, the edges, the levels. -/
structure LvN (n2 : Nat) (es : List (Int × Int)) (cl : Nat → Nat) (lv : Nat → Int) : Prop where
  falls : ∀ e ∈ es, ∀ i j, i < n2 → j < n2 → (cl i : Int) = e.1 → (cl j : Int) = e.2 → lv j + 1 ≤ lv i
  one : ∀ i, i < n2 → lv i = 0 ∨ ∃ e ∈ es, (cl i : Int) = e.1 ∧ ∃ j, j < n2 ∧ (cl j : Int) = e.2 ∧ lv j = lv i - 1
  same : ∀ i j, cl i = cl j → lv i = lv j
  pos : ∀ i, 0 ≤ lv i
  few : ∀ i, lv i ≤ 65536

def clN (t : Nat) (S : Nat → Nat → Int) (i : Nat) : Nat := (clS t S).getD i 0
def lvN (t : Nat) (S : Nat → Nat → Int) (i : Nat) : Int := (lvL ((2 * t : Nat) : Int) (edS t S)).getD (clN t S i) 0

theorem clN_at {t : Nat} {S : Nat → Nat → Int} {i : Nat} (hi : i < 2 * t) : (clS t S)[i]? = some (clN t S i) := by
  unfold clN
  rw [List.getD_eq_getElem?_getD, List.getElem?_eq_getElem (by rw [classL_len]; exact hi)]
  rfl

theorem lvn_of {t : Nat} {S : Nat → Nat → Int} (ht : t ≤ 60) (hT : Tame t S) (hc : clL t S = []) (hr : rdL ((2 * t : Nat) : Int) (edS t S) = []) : LvN (2 * t) (edS t S) (clN t S) (lvN t S) := by
  have h0 := edgeL_may ht hT hc
  have H := lvc_of (m := 2 * t) (by omega) h0 hr
  have hlt : ∀ i, i < 2 * t → clN t S i < 2 * t := fun i hi => Nat.lt_of_lt_of_le (classL_lt _ _ _ (List.mem_of_getElem? (clN_at (S := S) hi))) (cntC_le _ _)
  refine ⟨fun e he i j hi hj h1 h2 => ?_, fun i hi => ?_, fun i j h => ?_, fun i => H.pos _, fun i => H.few _⟩
  · refine H.falls (clN t S i) (clN t S j) ?_
    rw [h1, h2]
    exact he
  · rcases H.one (clN t S i) (hlt i hi) with h | ⟨d, hd, he, h⟩
    · exact .inl h
    · refine .inr ⟨_, he, rfl, ?_⟩
      obtain ⟨i', j', _, hj', hB, e⟩ := mem_edgeA.1 he
      simp only [Prod.mk.injEq] at e
      obtain ⟨e1, e2⟩ := e
      have e1' : clN t S i = i' := by omega
      have e2' : d = j' := by omega
      subst e2'
      unfold edgeB at hB
      obtain ⟨x, hx, hz⟩ := List.any_eq_true.1 hB
      obtain ⟨z, hz1, hz2⟩ := List.any_eq_true.1 hz
      obtain ⟨z1, z2⟩ := mem_nodesK.1 hz1
      have e3 : clN t S z = d := z2
      refine ⟨z, z1, by dsimp only; rw [e3], ?_⟩
      have : lvN t S z = (lvL ((2 * t : Nat) : Int) (edS t S)).getD d 0 := by unfold lvN; rw [e3]
      rw [this]
      have h' : lvN t S i = (lvL ((2 * t : Nat) : Int) (edS t S)).getD d 0 + 1 := h
      omega
  · unfold lvN; rw [h]

theorem fnL_take {t : Nat} {S : Nat → Nat → Int} {i : Nat} (hi : i < t) : (fnL t S ((clS t S).take t))[i]? = some (lvN t S i) := by
  unfold fnL
  rw [List.getElem?_map, List.getElem?_take, if_pos hi, clN_at (by omega)]
  rfl
theorem fnL_drop {t : Nat} {S : Nat → Nat → Int} {i : Nat} (hi : i < t) : (fnL t S ((clS t S).drop t))[i]? = some (lvN t S (t + i)) := by
  unfold fnL
  rw [List.getElem?_map, List.getElem?_drop, clN_at (by omega)]
  rfl

/-- Is there one below, among the first so many nodes, edges? -/
def hitJ (cl : Nat → Nat) (lv : Nat → Int) (i : Nat) (d : Int) (j : Nat) : Bool := (List.range j).any (fun j => decide ((cl j : Int) = d) && decide (lv j = lv i - 1))
def hitE (n2 : Nat) (cl : Nat → Nat) (lv : Nat → Int) (es : List (Int × Int)) (i k : Nat) : Bool := decide (lv i = 0) || (es.take k).any (fun e => decide ((cl i : Int) = e.1) && hitJ cl lv i e.2 n2)
theorem hitJ_zero (cl : Nat → Nat) (lv : Nat → Int) (i : Nat) (d : Int) : hitJ cl lv i d 0 = false := rfl
theorem hitJ_succ (cl : Nat → Nat) (lv : Nat → Int) (i : Nat) (d : Int) (j : Nat) : hitJ cl lv i d (j + 1) = (hitJ cl lv i d j || (decide ((cl j : Int) = d) && decide (lv j = lv i - 1))) := by
  unfold hitJ; rw [List.range_succ, List.any_append]; simp
theorem hitE_zero (n2 : Nat) (cl : Nat → Nat) (lv : Nat → Int) (es : List (Int × Int)) (i : Nat) : hitE n2 cl lv es i 0 = decide (lv i = 0) := by simp [hitE]
theorem hitE_succ {n2 : Nat} {cl : Nat → Nat} {lv : Nat → Int} {es : List (Int × Int)} {i k : Nat} {c d : Int} (h : es[k]? = some (c, d)) : hitE n2 cl lv es i (k + 1) = (hitE n2 cl lv es i k || (decide ((cl i : Int) = c) && hitJ cl lv i d n2)) := by
  unfold hitE
  rw [List.take_add_one, h, List.any_append, Bool.or_assoc]
  simp
theorem LvN.hit {n2 : Nat} {es : List (Int × Int)} {cl : Nat → Nat} {lv : Nat → Int} (h : LvN n2 es cl lv) {i : Nat} (hi : i < n2) : hitE n2 cl lv es i es.length = true := by
  unfold hitE
  rw [List.take_length]
  rcases h.one i hi with h1 | ⟨e, he, h1, j, hj, h2, h3⟩
  · simp [h1]
  · rw [Bool.or_eq_true]
    refine .inr (List.any_eq_true.2 ⟨e, he, ?_⟩)
    rw [Bool.and_eq_true]
    refine ⟨by simpa using h1, ?_⟩
    unfold hitJ
    refine List.any_eq_true.2 ⟨j, List.mem_range.2 hj, ?_⟩
    rw [Bool.and_eq_true]
    exact ⟨by simpa using h2, by simpa using h3⟩

end Go.Proofs.YtigepihinflkdaaGreatDoor.PrecFn
