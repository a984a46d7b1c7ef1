/-
  Texts that stand together: PrecMath2.
-/
import Derived.Test.YtcoepmpgclndiaaGreatDoorBPrecFn6
namespace Go.Proofs.YtcoepmpgclndiaaGreatDoor.PrecFn
open Go.RowKit Go.Proofs.YtcoepmpgclndiaaGreatDoor.GraphMath Go.Proofs.YtcoepmpgclndiaaGreatDoor.GraphNet Go.Proofs.YtcoepmpgclndiaaGreatDoor.MatrixClash
set_option linter.unusedVariables false

/-- Relations hold of terminals alone. -/
def Tame (t : Nat) (S : Nat → Nat → Int) : Prop := ∀ (a b x : Int), 1 ≤ x → x ≤ 3 → MatrixPut.holdsB (t : Int) S a b x = true → 0 ≤ b ∧ b < (t : Int)
theorem holds_low {t : Nat} {S : Nat → Nat → Int} {a b x : Int} (h : MatrixPut.holdsB (t : Int) S a b x = true) : 0 ≤ a ∧ a < (t : Int) := by
  unfold MatrixPut.holdsB at h
  simp only [Bool.and_eq_true, decide_eq_true_eq] at h
  exact ⟨h.1.1.1.1, h.1.1.1.2⟩

theorem clash_none {t : Nat} {S : Nat → Nat → Int} (h : clL t S = []) {a b : Nat} (ha : a < t) (hb : b < t) : ∀ r, r < 3 → ¬ (MatrixPut.holdsB (t : Int) S (a : Int) (b : Int) (unl1 r) = true ∧ MatrixPut.holdsB (t : Int) S (a : Int) (b : Int) (unl2 r) = true) := fun r hr hc => by
  unfold clL clTo at h
  rw [List.filterMap_eq_nil_iff] at h
  have hq : 3 * (a * t + b) + r < 3 * (t * t) := by
    have h1 : (a + 1) * t ≤ t * t := Nat.mul_le_mul_right t ha
    rw [Nat.add_mul, Nat.one_mul] at h1
    omega
  have h2 := h (3 * (a * t + b) + r) (List.mem_range.2 hq)
  unfold hitP at h2
  have e1 : (3 * (a * t + b) + r) / 3 = a * t + b := by omega
  have e2 : (3 * (a * t + b) + r) % 3 = r := by omega
  have e3 : (a * t + b) / t = a := by rw [Nat.add_comm, Nat.add_mul_div_right _ _ (by omega), Nat.div_eq_of_lt hb, Nat.zero_add]
  have e4 : (a * t + b) % t = b := by rw [Nat.add_comm, Nat.add_mul_mod_self_right, Nat.mod_eq_of_lt hb]
  rw [e1, e2, e3, e4, hc.1, hc.2] at h2
  simp at h2
theorem one_yk {t : Nat} {S : Nat → Nat → Int} (h : clL t S = []) {a b : Nat} (ha : a < t) (hb : b < t) (h1 : rY t S (a : Int) (b : Int) = true) (h3 : rK t S (a : Int) (b : Int) = true) : False := clash_none h ha hb 1 (by omega) ⟨h1, h3⟩
/-- An edge, by what makes it. -/
theorem edge_why {t : Nat} {S : Nat → Nat → Int} (hT : Tame t S) {cl : List Nat} {i j : Nat} (h : edgeB (rY t S) (rK t S) t cl i j = true) : ∃ a b : Nat, a < t ∧ b < t ∧ ((rK t S (a : Int) (b : Int) = true ∧ cl.getD a 0 = i ∧ cl.getD (t + b) 0 = j) ∨ (rY t S (a : Int) (b : Int) = true ∧ cl.getD (t + b) 0 = i ∧ cl.getD a 0 = j)) := by
  unfold edgeB at h
  obtain ⟨x, hx, h2⟩ := List.any_eq_true.1 h
  obtain ⟨z, hz, h3⟩ := List.any_eq_true.1 h2
  obtain ⟨x1, x2⟩ := mem_nodesK.1 hx
  obtain ⟨z1, z2⟩ := mem_nodesK.1 hz
  unfold aboveB at h3
  rcases Bool.or_eq_true_iff.1 h3 with h4 | h4
  · have a1 := holds_low h4
    have a2 := hT _ _ _ (by omega) (by omega) h4
    refine ⟨x, z - t, by omega, by omega, .inl ⟨?_, x2, by rw [show t + (z - t) = z by omega]; exact z2⟩⟩
    rw [show ((z - t : Nat) : Int) = (z : Int) - (t : Int) by omega]
    exact h4
  · have a1 := holds_low h4
    have a2 := hT _ _ _ (by omega) (by omega) h4
    refine ⟨z, x - t, by omega, by omega, .inr ⟨?_, by rw [show t + (x - t) = x by omega]; exact x2, z2⟩⟩
    rw [show ((x - t : Nat) : Int) = (x : Int) - (t : Int) by omega]
    exact h4
theorem edgeR_nodup (B : Nat → Nat → Bool) (i n : Nat) : (edgeR B i n).Nodup := by
  unfold edgeR List.Nodup
  rw [List.pairwise_map]
  have h : ((List.range n).filter (B i)).Pairwise (· < ·) := List.Pairwise.filter _ List.pairwise_lt_range
  exact h.imp (fun {a b} hab e => by
    have e2 : (a : Int) = (b : Int) := congrArg Prod.snd e
    omega)
theorem edgeA_nodup (B : Nat → Nat → Bool) (c : Nat) : ∀ n, (edgeA B c n).Nodup
  | 0 => by simp [edgeA]
  | n + 1 => by
    rw [edgeA_succ, List.nodup_append]
    refine ⟨edgeA_nodup B c n, edgeR_nodup B n c, fun a ha b hb e => ?_⟩
    obtain ⟨i, j, h1, _, _, h2⟩ := mem_edgeA.1 ha
    obtain ⟨j', _, _, h4⟩ := mem_edgeR.1 hb
    rw [h2, h4] at e
    have e2 : (i : Int) = (n : Int) := congrArg Prod.fst e
    omega
theorem edgeL_few {t : Nat} {S : Nat → Nat → Int} (hT : Tame t S) (h : clL t S = []) : (edgeL (rY t S) (rQ t S) (rK t S) t).length ≤ t * t := by
  have hsub : edgeL (rY t S) (rQ t S) (rK t S) t ⊆ ((List.range t).flatMap (fun (a : Nat) => (List.range t).map (fun (b : Nat) => if rK t S (a : Int) (b : Int) = true then ((((classL (rQ t S) t).getD a 0 : Nat) : Int), (((classL (rQ t S) t).getD (t + b) 0 : Nat) : Int)) else ((((classL (rQ t S) t).getD (t + b) 0 : Nat) : Int), (((classL (rQ t S) t).getD a 0 : Nat) : Int))))) := fun e he => by
    obtain ⟨i, j, _, _, hB, rfl⟩ := mem_edgeA.1 he
    obtain ⟨a, b, ha, hb, hw⟩ := edge_why hT hB
    refine List.mem_flatMap.2 ⟨a, List.mem_range.2 ha, List.mem_map.2 ⟨b, List.mem_range.2 hb, ?_⟩⟩
    rcases hw with ⟨w1, w2, w3⟩ | ⟨w1, w2, w3⟩
    · rw [if_pos w1, w2, w3]
    · rw [if_neg (fun hk => one_yk h ha hb w1 hk), w2, w3]
  have hl := List.Nodup.length_le_of_subset (edgeA_nodup _ _ _) hsub
  have hlen : ∀ (n : Nat) (f : Nat → Nat → Int × Int), ((List.range n).flatMap (fun a => (List.range t).map (fun b => f a b))).length = n * t := by
    intro n f
    induction n with
    | zero => simp
    | succ n ih => rw [List.range_succ, List.flatMap_append, List.length_append, ih]; simp [Nat.add_mul]
  rw [hlen] at hl
  exact hl
theorem edgeL_may {t : Nat} {S : Nat → Nat → Int} (ht : t ≤ 60) (hT : Tame t S) (h : clL t S = []) : mayE ((2 * t : Nat) : Int) (edgeL (rY t S) (rQ t S) (rK t S) t) = 0 := by
  have h1 := edgeL_few hT h
  have h2 : t * t ≤ 60 * 60 := Nat.mul_le_mul ht ht
  unfold mayE
  rw [if_neg (by omega), if_neg (by omega), if_pos]
  rw [List.all_eq_true]
  intro e he
  obtain ⟨i, j, hi, hj, _, rfl⟩ := mem_edgeA.1 he
  have h3 := cntC_le (rQ t S) t
  rw [GraphFn.hasB_iff]
  intro x hx
  rw [Int.toNat_natCast]
  simp at hx
  rcases hx with rfl | rfl <;> omega
theorem edgeL_i64 {t : Nat} {y q k : Int → Int → Bool} (ht : t ≤ 60) : ∀ e ∈ edgeL y q k t, GramMath.I64 e.1 ∧ GramMath.I64 e.2 := fun e he => by
  obtain ⟨i, j, hi, hj, _, rfl⟩ := mem_edgeA.1 he
  have h3 := cntC_le q t
  unfold GramMath.I64
  dsimp only
  omega

end Go.Proofs.YtcoepmpgclndiaaGreatDoor.PrecFn
