/-
  The first place at which a relation is found, place by place. No part of the program.
-/
import Derived.Test.YtpdkjblmpgmcjaaGreatDoorMatrixTurnM
namespace Go.Proofs.YtpdkjblmpgmcjaaGreatDoor.MatrixRMath
open Go.Proofs.YtpdkjblmpgmcjaaGreatDoor.GramMath Go.Proofs.YtpdkjblmpgmcjaaGreatDoor.SetsMath Go.Proofs.YtpdkjblmpgmcjaaGreatDoor.UsefulMath Go.Proofs.YtpdkjblmpgmcjaaGreatDoor.MatrixMath Go.Proofs.YtpdkjblmpgmcjaaGreatDoor.MatrixKeep Go.Proofs.YtpdkjblmpgmcjaaGreatDoor.EndsMath Go.Proofs.YtpdkjblmpgmcjaaGreatDoor.EndsChain Go.Proofs.YtpdkjblmpgmcjaaGreatDoor.MatrixWhyMath Go.Proofs.YtpdkjblmpgmcjaaGreatDoor.MatrixReasonsMath
set_option linter.unusedVariables false

theorem first_app {x a b : Int} {L M : List Fnd} (h : firstF x a b L = none) : firstF x a b (L ++ M) = firstF x a b M := by
  unfold firstF at *
  rw [List.find?_append, h]
  rfl
theorem first_pre {x a b : Int} {L M : List Fnd} {f : Fnd} (h : firstF x a b L = some f) : firstF x a b (L ++ M) = some f := by
  unfold firstF at *
  rw [List.find?_append, h]
  rfl
theorem first_none_iff {x a b : Int} {L : List Fnd} : firstF x a b L = none ↔ ¬ ∃ f ∈ L, f.rel = x ∧ f.a = a ∧ f.b = b := by
  constructor
  · exact first_not
  · intro h
    unfold firstF
    rw [List.find?_eq_none]
    intro f hf hh
    unfold hitF at hh
    simp at hh
    exact h ⟨f, hf, hh.1.1, hh.1.2, hh.2⟩
theorem first_some_of {x a b : Int} {L : List Fnd} (h : ∃ f ∈ L, f.rel = x ∧ f.a = a ∧ f.b = b) : ∃ f, firstF x a b L = some f ∧ f ∈ L := by
  cases hf : firstF x a b L with
  | none => exact absurd h (first_none_iff.1 hf)
  | some f => exact ⟨f, rfl, (first_in hf).1⟩

/-- Near, as the document says it. -/
def nearP (l : List Int) (k : Nat) (b : Int) : Prop := (k + 1 < l.length ∧ l.getD (k + 1) 0 = b) ∨ (k + 2 < l.length ∧ l.getD (k + 1) 0 < 0 ∧ l.getD (k + 2) 0 = b)
/-- A relation by a place of a right side, as the document says it. -/
def atP (VL VR : Nat → Nat) (l : List Int) (k : Nat) (a b x : Int) : Prop :=
  (x = 1 ∧ l.getD k 0 = a ∧ k + 1 < l.length ∧ l.getD (k + 1) 0 < 0 ∧ hasB (VL (ntAt l (k + 1)).toNat) b = true) ∨
  (x = 2 ∧ l.getD k 0 = a ∧ nearP l k b) ∨
  (x = 3 ∧ l.getD k 0 = b ∧ 0 < k ∧ l.getD (k - 1) 0 < 0 ∧ hasB (VR (ntAt l (k - 1)).toNat) a = true)

theorem atP_iff {VL VR : Nat → Nat} {n : Int} {l : List Int} {k : Nat} {a b x : Int} (ha : 0 ≤ a) (hb : 0 ≤ b) : (∃ f ∈ atF VL VR n l k, f.rel = x ∧ f.a = a ∧ f.b = b) ↔ atP VL VR l k a b x := by
  constructor
  · rintro ⟨f, hf, rfl, rfl, rfl⟩
    unfold atF at hf
    split at hf
    · rename_i h0
      unfold aroundF at hf
      rcases List.mem_append.1 hf with hf | hf
      · rcases List.mem_append.1 hf with hf | hf
        · unfold aheadF at hf
          split at hf
          · rename_i hc
            obtain ⟨h1, h2, h3, h4⟩ := mem_takeF.1 hf
            exact .inr (.inr ⟨h1, h2.symm, hc.1, hc.2, h3⟩)
          · cases hf
        · unfold behF at hf
          split at hf
          · rename_i hc
            obtain ⟨h1, h2, h3, h4⟩ := mem_yieldF.1 hf
            exact .inl ⟨h1, h2.symm, hc.1, hc.2, h3⟩
          · cases hf
      · unfold eqF at hf
        split at hf
        · rename_i hc
          obtain rfl := List.mem_singleton.1 hf
          refine .inr (.inl ⟨rfl, rfl, ?_⟩)
          by_cases hB : behB l k
          · have e : eqK l k = k + 2 := by unfold eqK; rw [if_pos hB]
            rw [e] at hc ⊢
            exact .inr ⟨hc.1, hB.2, rfl⟩
          · have e : eqK l k = k + 1 := by unfold eqK; rw [if_neg hB]
            rw [e] at hc ⊢
            exact .inl ⟨hc.1, rfl⟩
        · cases hf
    · cases hf
  · rintro (⟨rfl, rfl, h1, h2, h3⟩ | ⟨rfl, rfl, h1⟩ | ⟨rfl, rfl, h1, h2, h3⟩)
    · refine ⟨⟨1, l.getD k 0, b, ⟨n, k, ntAt l (k + 1)⟩⟩, ?_, rfl, rfl, rfl⟩
      unfold atF aroundF behF
      rw [if_pos ha, if_pos (show behB l k from ⟨h1, h2⟩)]
      exact List.mem_append.2 (.inl (List.mem_append.2 (.inr (mem_yieldF.2 ⟨rfl, rfl, h3, rfl⟩))))
    · refine ⟨⟨2, l.getD k 0, b, ⟨n, k, 0⟩⟩, ?_, rfl, rfl, rfl⟩
      unfold atF aroundF eqF
      have hk : eqK l k < l.length ∧ l.getD (eqK l k) 0 = b := by
        rcases h1 with ⟨h1, rfl⟩ | ⟨h1, h2, rfl⟩
        · have e : eqK l k = k + 1 := by unfold eqK; rw [if_neg (fun h => by have := h.2; omega)]
          rw [e]
          exact ⟨h1, rfl⟩
        · have e : eqK l k = k + 2 := by unfold eqK; rw [if_pos ⟨by omega, h2⟩]
          rw [e]
          exact ⟨h1, rfl⟩
      rw [if_pos ha, if_pos ⟨hk.1, by rw [hk.2]; exact hb⟩, hk.2]
      exact List.mem_append.2 (.inr (List.mem_singleton.2 rfl))
    · refine ⟨⟨3, a, l.getD k 0, ⟨n, k, ntAt l (k - 1)⟩⟩, ?_, rfl, rfl, rfl⟩
      unfold atF aroundF aheadF
      rw [if_pos hb, if_pos ⟨h1, h2⟩]
      exact List.mem_append.2 (.inl (List.mem_append.2 (.inl (mem_takeF.2 ⟨rfl, rfl, h3, rfl⟩))))

theorem at_place {VL VR : Nat → Nat} {n : Int} {l : List Int} {k : Nat} {f : Fnd} (hf : f ∈ atF VL VR n l k) : f.p.rule = n ∧ f.p.at_ = k := by
  unfold atF at hf
  split at hf
  · unfold aroundF at hf
    rcases List.mem_append.1 hf with hf | hf
    · rcases List.mem_append.1 hf with hf | hf
      · unfold aheadF at hf
        split at hf
        · obtain ⟨_, _, _, h4⟩ := mem_takeF.1 hf
          rw [h4]
          exact ⟨rfl, rfl⟩
        · cases hf
      · unfold behF at hf
        split at hf
        · obtain ⟨_, _, _, h4⟩ := mem_yieldF.1 hf
          rw [h4]
          exact ⟨rfl, rfl⟩
        · cases hf
    · unfold eqF at hf
      split at hf
      · obtain rfl := List.mem_singleton.1 hf
        exact ⟨rfl, rfl⟩
      · cases hf
  · cases hf

theorem side_pre {VL VR : Nat → Nat} {n : Int} {l : List Int} {k m : Nat} (h : k ≤ m) : ∃ t, sideF VL VR n l m = sideF VL VR n l k ++ t := by
  induction m with
  | zero => obtain rfl : k = 0 := by omega
            exact ⟨[], by simp⟩
  | succ m ih =>
    by_cases e : k = m + 1
    · subst e; exact ⟨[], by simp⟩
    · obtain ⟨t, ht⟩ := ih (by omega)
      exact ⟨t ++ atF VL VR n l m, by rw [sideF, ht, List.append_assoc]⟩
theorem rules_pre {VL VR : Nat → Nat} {rs : List R} {k m : Nat} (h : k ≤ m) : ∃ t, rulesF VL VR rs m = rulesF VL VR rs k ++ t := by
  induction m with
  | zero => obtain rfl : k = 0 := by omega
            exact ⟨[], by simp⟩
  | succ m ih =>
    by_cases e : k = m + 1
    · subst e; exact ⟨[], by simp⟩
    · obtain ⟨t, ht⟩ := ih (by omega)
      exact ⟨t ++ sideF VL VR m (rightOf rs m) (rightOf rs m).length, by rw [rulesF, ht, List.append_assoc]⟩

/-- The first place: all ahead of it have nothing, and it has it. -/
theorem first_at {VL VR : Nat → Nat} {g : G} {i k : Nat} {a b x : Int} (ha : 0 ≤ a ∧ a < g.ts.length) (hb : 0 ≤ b ∧ b < g.ts.length) (hi : i < g.rs.length) (hk : k < (rightOf g.rs i).length) (h1 : firstF x a b (rulesF VL VR g.rs i) = none) (h2 : firstF x a b (sideF VL VR i (rightOf g.rs i) k) = none) (h3 : atP VL VR (rightOf g.rs i) k a b x) :
    ∃ f, firstF x a b (findsF VL VR g) = some f ∧ f.p.rule = i ∧ f.p.at_ = k := by
  have he : firstF x a b (endF VL VR g.ts.length g.ax) = none := by
    rw [first_none_iff]
    rintro ⟨f, hf, _, h5, h6⟩
    rcases List.mem_append.1 hf with hf | hf
    · have := (mem_yieldF.1 hf).2.1; omega
    · have := (mem_takeF.1 hf).2.1; omega
  obtain ⟨f, hf, hfm⟩ := first_some_of ((atP_iff (n := i) ha.1 hb.1).2 h3)
  refine ⟨f, ?_, at_place hfm⟩
  unfold findsF
  rw [first_app he]
  obtain ⟨t1, e1⟩ := rules_pre (VL := VL) (VR := VR) (rs := g.rs) (k := i + 1) (m := g.rs.length) (by omega)
  obtain ⟨t2, e2⟩ := side_pre (VL := VL) (VR := VR) (n := i) (l := rightOf g.rs i) (k := k + 1) (m := (rightOf g.rs i).length) (by omega)
  rw [e1, rulesF, e2, sideF]
  refine first_pre ?_
  rw [first_app h1]
  refine first_pre ?_
  rw [first_app h2]
  exact hf
theorem first_no {VL VR : Nat → Nat} {g : G} {a b x : Int} (ha : 0 ≤ a ∧ a < g.ts.length) (hb : 0 ≤ b ∧ b < g.ts.length) (h1 : firstF x a b (rulesF VL VR g.rs g.rs.length) = none) : firstF x a b (findsF VL VR g) = none := by
  rw [first_none_iff]
  rintro ⟨f, hf, h4, h5, h6⟩
  rcases List.mem_append.1 hf with hf | hf
  · rcases List.mem_append.1 hf with hf | hf
    · have := (mem_yieldF.1 hf).2.1; omega
    · have := (mem_takeF.1 hf).2.1; omega
  · exact first_none_iff.1 h1 ⟨f, hf, h4, h5, h6⟩

/-- Of the end: what the axiom begins or ends with. -/
theorem first_end {VL VR : Nat → Nat} {g : G} (hg : GoodG g) (hL : IsEnds false g VL) (hR : IsEnds true g VR) {a b x : Int} (he : a = g.ts.length ∨ b = g.ts.length) :
    (∃ f, firstF x a b (findsF VL VR g) = some f ∧ f.p = ⟨-1, 0, g.ax⟩ ∧ ((x = 1 ∧ a = g.ts.length ∧ hasB (VL g.ax.toNat) b = true) ∨ (x = 3 ∧ b = g.ts.length ∧ hasB (VR g.ax.toNat) a = true))) ∨
    (firstF x a b (findsF VL VR g) = none ∧ ¬ (x = 1 ∧ a = g.ts.length ∧ hasB (VL g.ax.toNat) b = true) ∧ ¬ (x = 3 ∧ b = g.ts.length ∧ hasB (VR g.ax.toNat) a = true)) := by
  have hrl : ∀ f ∈ rulesF VL VR g.rs g.rs.length, f.a < g.ts.length ∧ f.b < g.ts.length := fun f hf => by
    obtain ⟨i, hi, k, hk, hf⟩ := mem_rulesF.1 hf
    have hr := (atF_iff hg hL hR hi hk).1 ⟨f, hf, rfl, rfl, rfl⟩
    have hs := side_sym hg hi hk
    generalize f.rel = x' at *
    generalize f.a = a' at *
    generalize f.b = b' at *
    cases hr with
    | yields h0 hk1 hn hb0 hb => have := (hb.lt hg).2; omega
    | equal h0 hk1 hb0 hb => have := side_sym hg hi hk1; omega
    | takes h0 hk1 hn ha0 ha => have := (ha.lt hg).2; omega
  have hend : ∀ f, f ∈ findsF VL VR g → f.rel = x → f.a = a → f.b = b → (x = 1 ∧ a = g.ts.length ∧ hasB (VL g.ax.toNat) b = true ∧ f.p = ⟨-1, 0, g.ax⟩) ∨ (x = 3 ∧ b = g.ts.length ∧ hasB (VR g.ax.toNat) a = true ∧ f.p = ⟨-1, 0, g.ax⟩) := fun f hf h1 h2 h3 => by
    rcases List.mem_append.1 hf with hf | hf
    · rcases List.mem_append.1 hf with hf | hf
      · obtain ⟨e1, e2, e3, e4⟩ := mem_yieldF.1 hf
        exact .inl ⟨h1 ▸ e1, h2 ▸ e2, h3 ▸ e3, e4⟩
      · obtain ⟨e1, e2, e3, e4⟩ := mem_takeF.1 hf
        exact .inr ⟨h1 ▸ e1, h3 ▸ e2, h2 ▸ e3, e4⟩
    · have := hrl f hf
      omega
  cases hf : firstF x a b (findsF VL VR g) with
  | some f =>
    obtain ⟨hfm, h1, h2, h3⟩ := first_in hf
    rcases hend f hfm h1 h2 h3 with ⟨e1, e2, e3, e4⟩ | ⟨e1, e2, e3, e4⟩
    · exact .inl ⟨f, rfl, e4, .inl ⟨e1, e2, e3⟩⟩
    · exact .inl ⟨f, rfl, e4, .inr ⟨e1, e2, e3⟩⟩
  | none =>
    have hn := first_none_iff.1 hf
    refine .inr ⟨rfl, fun h => hn ?_, fun h => hn ?_⟩
    · obtain ⟨rfl, rfl, h3⟩ := h
      exact ⟨⟨1, g.ts.length, b, ⟨-1, 0, g.ax⟩⟩, List.mem_append.2 (.inl (List.mem_append.2 (.inl (mem_yieldF.2 ⟨rfl, rfl, h3, rfl⟩)))), rfl, rfl, rfl⟩
    · obtain ⟨rfl, rfl, h3⟩ := h
      exact ⟨⟨3, a, g.ts.length, ⟨-1, 0, g.ax⟩⟩, List.mem_append.2 (.inl (List.mem_append.2 (.inr (mem_takeF.2 ⟨rfl, rfl, h3, rfl⟩)))), rfl, rfl, rfl⟩

/-- What is found hangs on the sets of the grammar's nonterminals alone. -/
theorem finds_congr {g : G} (hg : GoodG g) {VL VR VL' VR' : Nat → Nat} (hL : ∀ i, i < g.ns.length → VL i = VL' i) (hR : ∀ i, i < g.ns.length → VR i = VR' i) : findsF VL VR g = findsF VL' VR' g := by
  have hax : g.ax.toNat < g.ns.length := by have := hg.ax0; have := hg.ax1; omega
  have hat : ∀ i, i < g.rs.length → ∀ k, k < (rightOf g.rs i).length → atF VL VR i (rightOf g.rs i) k = atF VL' VR' i (rightOf g.rs i) k := fun i hi k hk => by
    have hsym := fun {j : Nat} (hj : j < (rightOf g.rs i).length) => side_sym hg hi hj
    generalize rightOf g.rs i = l at *
    have e1 : aheadF VR i l k = aheadF VR' i l k := by
      unfold aheadF
      by_cases hc : 0 < k ∧ l.getD (k - 1) 0 < 0
      · rw [if_pos hc, if_pos hc, hR _ (by have := hsym (j := k - 1) (by omega); unfold ntAt; omega)]
      · rw [if_neg hc, if_neg hc]
    have e2 : behF VL i l k = behF VL' i l k := by
      unfold behF
      by_cases hc : behB l k
      · rw [if_pos hc, if_pos hc, hL _ (by have := hsym hc.1; have := hc.2; unfold ntAt; omega)]
      · rw [if_neg hc, if_neg hc]
    unfold atF aroundF
    rw [e1, e2]
  have hsd : ∀ i, i < g.rs.length → ∀ k, k ≤ (rightOf g.rs i).length → sideF VL VR i (rightOf g.rs i) k = sideF VL' VR' i (rightOf g.rs i) k := fun i hi k => by
    induction k with
    | zero => intro _; rfl
    | succ k ih => intro hk; rw [sideF, sideF, ih (by omega), hat i hi k (by omega)]
  have hrs : ∀ i, i ≤ g.rs.length → rulesF VL VR g.rs i = rulesF VL' VR' g.rs i := fun i => by
    induction i with
    | zero => intro _; rfl
    | succ i ih => intro hi; rw [rulesF, rulesF, ih (by omega), hsd i (by omega) _ (Nat.le_refl _)]
  unfold findsF endF
  rw [hL _ hax, hR _ hax, hrs _ (Nat.le_refl _)]

theorem whyR_det {g : G} {a b x : Int} {z z' : Nat × Option Nat} {rule rule' at_ at_' : Int} {o o' : Option (List Int)} (h : WhyR g a b x z rule at_ o) (h' : WhyR g a b x z' rule' at_' o') : z = z' ∧ rule = rule' ∧ at_ = at_' ∧ o = o' := by
  rcases h with ⟨h1, rfl, rfl, rfl, rfl⟩ | ⟨h1, h2, rfl, rfl, rfl, rfl⟩ | ⟨h1, h2, VL, VR, hL, hR, h3⟩
  · rcases h' with ⟨k1, rfl, rfl, rfl, rfl⟩ | ⟨k1, _⟩ | ⟨k1, _⟩
    · exact ⟨rfl, rfl, rfl, rfl⟩
    · exact absurd k1 h1
    · exact absurd k1 h1
  · rcases h' with ⟨k1, _⟩ | ⟨k1, k2, rfl, rfl, rfl, rfl⟩ | ⟨k1, k2, _⟩
    · exact absurd h1 k1
    · exact ⟨rfl, rfl, rfl, rfl⟩
    · exact absurd k2 h2
  · rcases h' with ⟨k1, _⟩ | ⟨k1, k2, _⟩ | ⟨k1, k2, VL', VR', hL', hR', k3⟩
    · exact absurd h1 k1
    · exact absurd h2 k2
    · have hg := good_of h1
      have e : findsF VL VR g = findsF VL' VR' g := finds_congr hg (fun i hi => hL.eq hL' hi hi (fun _ => Iff.rfl)) (fun i hi => hR.eq hR' hi hi (fun _ => Iff.rfl))
      rw [← e] at k3
      rcases h3 with ⟨h4, rfl, rfl, rfl, rfl⟩ | ⟨f, h4, rfl, rfl, rfl, h5⟩
      · rcases k3 with ⟨k4, rfl, rfl, rfl, rfl⟩ | ⟨f', k4, _⟩
        · exact ⟨rfl, rfl, rfl, rfl⟩
        · rw [h4] at k4; cases k4
      · rcases k3 with ⟨k4, _⟩ | ⟨f', k4, rfl, rfl, rfl, k5⟩
        · rw [h4] at k4; cases k4
        · rw [h4] at k4
          obtain rfl := Option.some.inj k4
          refine ⟨rfl, rfl, rfl, ?_⟩
          rcases h5 with ⟨hx, rfl⟩ | ⟨hx, c, rfl, hc⟩ | ⟨hx, c, rfl, hc⟩
          · rcases k5 with ⟨_, rfl⟩ | ⟨hy, _⟩ | ⟨hy, _⟩
            · rfl
            · omega
            · omega
          · rcases k5 with ⟨hy, _⟩ | ⟨_, c', rfl, hc'⟩ | ⟨hy, _⟩
            · omega
            · exact (hc.det hc').2
            · omega
          · rcases k5 with ⟨hy, _⟩ | ⟨hy, _⟩ | ⟨_, c', rfl, hc'⟩
            · omega
            · omega
            · exact (hc.det hc').2

end Go.Proofs.YtpdkjblmpgmcjaaGreatDoor.MatrixRMath
