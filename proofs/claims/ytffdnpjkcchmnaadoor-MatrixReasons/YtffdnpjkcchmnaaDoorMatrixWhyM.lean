/-
  Reasons as plain notions. No part of the program.
-/
import Derived.Test.YtffdnpjkcchmnaaDoorMatrixKeep
import Derived.Test.YtffdnpjkcchmnaaDoorEndsChain
import Derived.Test.YtffdnpjkcchmnaaDoorEndsMath2
import Derived.Test.YtffdnpjkcchmnaaDoorMatrixTurnMath
namespace Go.Proofs.YtffdnpjkcchmnaaDoor.MatrixWhyMath
open Go.Proofs.YtffdnpjkcchmnaaDoor.GramMath Go.Proofs.YtffdnpjkcchmnaaDoor.SetsMath Go.Proofs.YtffdnpjkcchmnaaDoor.UsefulMath Go.Proofs.YtffdnpjkcchmnaaDoor.MatrixMath Go.Proofs.YtffdnpjkcchmnaaDoor.MatrixKeep Go.Proofs.YtffdnpjkcchmnaaDoor.EndsMath Go.Proofs.YtffdnpjkcchmnaaDoor.EndsChain
set_option linter.unusedVariables false

def InW (g : G) (a b x : Int) : Prop := (0 ≤ a ∧ a ≤ g.ts.length) ∧ (0 ≤ b ∧ b ≤ g.ts.length) ∧ (1 ≤ x ∧ x ≤ 3)

/-- What Why finds, and what is wrong. -/
def WhyR (g : G) (a b x : Int) (z : Nat × Option Nat) (rule at_ : Int) (o : Option (List Int)) : Prop :=
  ((checkG g).1 ≠ 0 ∧ z = checkG g ∧ rule = 0 ∧ at_ = 0 ∧ o = none) ∨
  ((checkG g).1 = 0 ∧ ¬ InW g a b x ∧ z = (1, none) ∧ rule = 0 ∧ at_ = 0 ∧ o = none) ∨
  ((checkG g).1 = 0 ∧ InW g a b x ∧ ∃ VL VR, IsEnds false g VL ∧ IsEnds true g VR ∧
    ((firstF x a b (findsF VL VR g) = none ∧ z = (15, none) ∧ rule = 0 ∧ at_ = 0 ∧ o = none) ∨
     ∃ f, firstF x a b (findsF VL VR g) = some f ∧ z = (0, none) ∧ rule = f.p.rule ∧ at_ = f.p.at_ ∧
       ((x = 2 ∧ o = none) ∨ (x = 1 ∧ ∃ c, o = some c ∧ ChainR g f.p.non b false (0, none) (some c)) ∨ (x = 3 ∧ ∃ c, o = some c ∧ ChainR g f.p.non a true (0, none) (some c)))))

theorem first_in {x a b : Int} {L : List Fnd} {f : Fnd} (h : firstF x a b L = some f) : f ∈ L ∧ f.rel = x ∧ f.a = a ∧ f.b = b := by
  unfold firstF at h
  have h1 := List.mem_of_find?_eq_some h
  have h2 := List.find?_some h
  unfold hitF at h2
  simp at h2
  exact ⟨h1, h2.1.1, h2.1.2, h2.2⟩
theorem first_not {x a b : Int} {L : List Fnd} (h : firstF x a b L = none) : ¬ ∃ f ∈ L, f.rel = x ∧ f.a = a ∧ f.b = b := by
  unfold firstF at h
  rw [List.find?_eq_none] at h
  rintro ⟨f, hf, h1, h2, h3⟩
  exact h f hf (by unfold hitF; simp [h1, h2, h3])

/-- The nonterminal beside a relation that was found. -/
theorem finds_non {g : G} (hg : GoodG g) {VL VR : Nat → Nat} (hL : IsEnds false g VL) (hR : IsEnds true g VR) {f : Fnd} (hf : f ∈ findsF VL VR g) :
    (f.rel = 1 → InG g f.p.non f.b ∧ Lft false g.rs f.p.non.toNat f.b.toNat) ∧ (f.rel = 3 → InG g f.p.non f.a ∧ Lft true g.rs f.p.non.toNat f.a.toNat) := by
  have hax0 := hg.ax0
  have hax1 := hg.ax1
  have hax : g.ax.toNat < g.ns.length := by omega
  unfold findsF endF at hf
  rcases List.mem_append.1 hf with hf | hf
  · rcases List.mem_append.1 hf with hf | hf
    · obtain ⟨h1, h2, h3, h4⟩ := mem_yieldF.1 hf
      obtain ⟨h5, h6⟩ := (ends_has hg hL hax).1 h3
      have := (h6.lt hg).2
      rw [h1, h4]
      exact ⟨fun _ => ⟨⟨hax0, hax1, h5, by omega⟩, h6⟩, fun h => by omega⟩
    · obtain ⟨h1, h2, h3, h4⟩ := mem_takeF.1 hf
      obtain ⟨h5, h6⟩ := (ends_has hg hR hax).1 h3
      have := (h6.lt hg).2
      rw [h1, h4]
      exact ⟨fun h => by omega, fun _ => ⟨⟨hax0, hax1, h5, by omega⟩, h6⟩⟩
  · obtain ⟨i, hi, k, hk, hf⟩ := mem_rulesF.1 hf
    have hsym := fun {j : Nat} (hj : j < (rightOf g.rs i).length) => side_sym hg hi hj
    generalize rightOf g.rs i = l at *
    unfold atF at hf
    split at hf
    · rename_i h0
      unfold aroundF at hf
      rcases List.mem_append.1 hf with hf | hf
      · rcases List.mem_append.1 hf with hf | hf
        · unfold aheadF at hf
          split at hf
          · rename_i hc
            obtain ⟨h1, h2, h3, h4⟩ := mem_takeF.1 hf
            have hs := hsym (j := k - 1) (by omega)
            have hn : (ntAt l (k - 1)).toNat < g.ns.length := by unfold ntAt; omega
            obtain ⟨h5, h6⟩ := (ends_has hg hR hn).1 h3
            have := (h6.lt hg).2
            rw [h1, h4]
            exact ⟨fun h => by omega, fun _ => ⟨⟨by show 0 ≤ ntAt l (k - 1); unfold ntAt; omega, by show ntAt l (k - 1) < _; unfold ntAt; omega, h5, by omega⟩, h6⟩⟩
          · cases hf
        · unfold behF at hf
          split at hf
          · rename_i hc
            obtain ⟨h1, h2, h3, h4⟩ := mem_yieldF.1 hf
            have hc1 := hc.1
            have hc2 := hc.2
            have hs := hsym hc1
            have hn : (ntAt l (k + 1)).toNat < g.ns.length := by unfold ntAt; omega
            obtain ⟨h5, h6⟩ := (ends_has hg hL hn).1 h3
            have := (h6.lt hg).2
            rw [h1, h4]
            exact ⟨fun _ => ⟨⟨by show 0 ≤ ntAt l (k + 1); unfold ntAt; omega, by show ntAt l (k + 1) < _; unfold ntAt; omega, h5, by omega⟩, h6⟩, fun h => by omega⟩
          · cases hf
      · unfold eqF at hf
        split at hf
        · rename_i hc
          obtain rfl := List.mem_singleton.1 hf
          exact ⟨fun h => by simp at h, fun h => by simp at h⟩
        · cases hf
    · cases hf

theorem chain_there {g : G} (h0 : (checkG g).1 = 0) {n t : Int} {b : Bool} (hin : InG g n t) (hl : Lft b g.rs n.toNat t.toNat) {z : Nat × Option Nat} {o : Option (List Int)} (h : ChainR g n t b z o) : z = (0, none) ∧ ∃ c, o = some c := by
  rcases h with ⟨h1, _⟩ | ⟨_, h2, _⟩ | ⟨_, _, hF, rfl⟩
  · exact absurd h0 h1
  · exact absurd hin h2
  · cases o with
    | none => exact absurd hl (FoundE.none_no (good_of h0) hF)
    | some c => exact ⟨rfl, c, rfl⟩

end Go.Proofs.YtffdnpjkcchmnaaDoor.MatrixWhyMath

namespace Go.Proofs.YtffdnpjkcchmnaaDoor.MatrixReasonsMath
open Go.Proofs.YtffdnpjkcchmnaaDoor.GramMath Go.Proofs.YtffdnpjkcchmnaaDoor.SetsMath Go.Proofs.YtffdnpjkcchmnaaDoor.UsefulMath Go.Proofs.YtffdnpjkcchmnaaDoor.MatrixMath Go.Proofs.YtffdnpjkcchmnaaDoor.MatrixKeep Go.Proofs.YtffdnpjkcchmnaaDoor.EndsMath Go.Proofs.YtffdnpjkcchmnaaDoor.EndsChain Go.Proofs.YtffdnpjkcchmnaaDoor.MatrixWhyMath
set_option linter.unusedVariables false

/-- The symbol at a place. -/
def symI (g : G) (rule at_ : Int) : Int := if 0 ≤ rule ∧ rule < g.rs.length ∧ 0 ≤ at_ ∧ at_ < (rightOf g.rs rule.toNat).length then (rightOf g.rs rule.toNat).getD at_.toNat 0 else g.ts.length

theorem symI_in {g : G} {i k : Nat} (hi : i < g.rs.length) (hk : k < (rightOf g.rs i).length) : symI g i k = (rightOf g.rs i).getD k 0 := by
  unfold symI
  rw [Int.toNat_natCast, Int.toNat_natCast, if_pos ⟨by omega, by omega, by omega, by omega⟩]

/-- What is found at a place. -/
theorem finds_place {g : G} (hg : GoodG g) {VL VR : Nat → Nat} (hL : IsEnds false g VL) (hR : IsEnds true g VR) {f : Fnd} (hf : f ∈ findsF VL VR g) :
    (f.rel = 1 → (f.a = g.ts.length ∧ f.p = ⟨-1, 0, g.ax⟩) ∨ (f.a < g.ts.length ∧ symI g f.p.rule f.p.at_ = f.a ∧ symI g f.p.rule (f.p.at_ + 1) < 0 ∧ -1 - symI g f.p.rule (f.p.at_ + 1) = f.p.non)) ∧
    (f.rel = 2 → symI g f.p.rule f.p.at_ = f.a ∧ ((0 ≤ symI g f.p.rule (f.p.at_ + 1) ∧ symI g f.p.rule (f.p.at_ + 1) = f.b) ∨ (symI g f.p.rule (f.p.at_ + 1) < 0 ∧ symI g f.p.rule (f.p.at_ + 2) = f.b))) ∧
    (f.rel = 3 → (f.b = g.ts.length ∧ f.p = ⟨-1, 0, g.ax⟩) ∨ (f.b < g.ts.length ∧ symI g f.p.rule f.p.at_ = f.b ∧ symI g f.p.rule (f.p.at_ - 1) < 0 ∧ -1 - symI g f.p.rule (f.p.at_ - 1) = f.p.non)) ∧
    (-1 ≤ f.p.rule ∧ f.p.rule < 120) ∧ (0 ≤ f.p.at_ ∧ f.p.at_ < 32) := by
  have h120 := hg.rules
  unfold findsF endF at hf
  rcases List.mem_append.1 hf with hf | hf
  · rcases List.mem_append.1 hf with hf | hf
    · obtain ⟨h1, h2, h3, h4⟩ := mem_yieldF.1 hf
      rw [h1, h2, h4]
      exact ⟨fun _ => .inl ⟨rfl, rfl⟩, fun h => by omega, fun h => by omega, by simp, by simp⟩
    · obtain ⟨h1, h2, h3, h4⟩ := mem_takeF.1 hf
      rw [h1, h2, h4]
      exact ⟨fun h => by omega, fun h => by omega, fun _ => .inl ⟨rfl, rfl⟩, by simp, by simp⟩
  · obtain ⟨i, hi, k, hk, hf⟩ := mem_rulesF.1 hf
    have hsym := fun {j : Nat} (hj : j < (rightOf g.rs i).length) => side_sym hg hi hj
    have hin := fun {j : Nat} (hj : j < (rightOf g.rs i).length) => symI_in hi hj
    obtain ⟨r, hr, _, er⟩ := rightOf_mem hi
    have h32 := (ruleK_ok (hg.each r hr)).1
    rw [← er] at h32
    have hb : (-1 ≤ (i : Int) ∧ (i : Int) < 120) ∧ (0 ≤ (k : Int) ∧ (k : Int) < 32) := by omega
    generalize rightOf g.rs i = l at *
    unfold atF at hf
    split at hf
    · rename_i h0
      unfold aroundF at hf
      rcases List.mem_append.1 hf with hf | hf
      · rcases List.mem_append.1 hf with hf | hf
        · unfold aheadF at hf
          split at hf
          · rename_i hc
            obtain ⟨h1, h2, h3, h4⟩ := mem_takeF.1 hf
            rw [h1, h2, h4]
            have e1 := hin hk
            have e2 := hin (j := k - 1) (by omega)
            have hs := hsym hk
            refine ⟨fun h => by omega, fun h => by omega, fun _ => .inr ⟨hs.2, e1, ?_, ?_⟩, hb⟩
            · show symI g i ((k : Int) - 1) < 0
              rw [show (k : Int) - 1 = ((k - 1 : Nat) : Int) by omega, e2]
              exact hc.2
            · show -1 - symI g i ((k : Int) - 1) = ntAt l (k - 1)
              rw [show (k : Int) - 1 = ((k - 1 : Nat) : Int) by omega, e2]
              rfl
          · cases hf
        · unfold behF at hf
          split at hf
          · rename_i hc
            obtain ⟨h1, h2, h3, h4⟩ := mem_yieldF.1 hf
            rw [h1, h2, h4]
            have e1 := hin hk
            have e2 := hin hc.1
            have hs := hsym hk
            refine ⟨fun _ => .inr ⟨hs.2, e1, ?_, ?_⟩, fun h => by omega, fun h => by omega, hb⟩
            · show symI g i ((k : Int) + 1) < 0
              rw [show (k : Int) + 1 = ((k + 1 : Nat) : Int) by omega, e2]
              exact hc.2
            · show -1 - symI g i ((k : Int) + 1) = ntAt l (k + 1)
              rw [show (k : Int) + 1 = ((k + 1 : Nat) : Int) by omega, e2]
              rfl
          · cases hf
      · unfold eqF at hf
        split at hf
        · rename_i hc
          obtain rfl := List.mem_singleton.1 hf
          have e1 := hin hk
          refine ⟨fun h => by simp at h, fun _ => ⟨e1, ?_⟩, fun h => by simp at h, hb⟩
          by_cases hB : behB l k
          · have e : eqK l k = k + 2 := by unfold eqK; rw [if_pos hB]
            rw [e] at hc ⊢
            right
            refine ⟨?_, ?_⟩
            · show symI g i ((k : Int) + 1) < 0
              rw [show (k : Int) + 1 = ((k + 1 : Nat) : Int) by omega, hin hB.1]
              exact hB.2
            · show symI g i ((k : Int) + 2) = l.getD (k + 2) 0
              rw [show (k : Int) + 2 = ((k + 2 : Nat) : Int) by omega, hin hc.1]
          · have e : eqK l k = k + 1 := by unfold eqK; rw [if_neg hB]
            rw [e] at hc ⊢
            left
            refine ⟨?_, ?_⟩
            · show 0 ≤ symI g i ((k : Int) + 1)
              rw [show (k : Int) + 1 = ((k + 1 : Nat) : Int) by omega, hin hc.1]
              exact hc.2
            · show symI g i ((k : Int) + 1) = l.getD (k + 1) 0
              rw [show (k : Int) + 1 = ((k + 1 : Nat) : Int) by omega, hin hc.1]
        · cases hf
    · cases hf

/-- The end is equal to nothing, takes nothing, and nothing yields to it. -/
theorem rel_end {g : G} (hg : GoodG g) {t : Int} : ¬ Rel g 2 g.ts.length t ∧ ¬ Rel g 3 g.ts.length t ∧ ¬ Rel g 1 t g.ts.length ∧ ¬ Rel g 2 t g.ts.length := by
  have key : ∀ {x a b : Int}, Rel g x a b → (x = 2 → a < g.ts.length ∧ b < g.ts.length) ∧ (x = 3 → a < g.ts.length) ∧ (x = 1 → b < g.ts.length) := by
    intro x a b h
    cases h with
    | @rule i k x a b hi hk h =>
      have hs := side_sym hg hi hk
      cases h with
      | @yields n b h0 hk1 hn hb0 hb =>
        have := (hb.lt hg).2
        exact ⟨fun h => by omega, fun h => by omega, fun _ => by omega⟩
      | @equal b h0 hk1 hb0 hb =>
        have h2 := side_sym hg hi hk1
        exact ⟨fun _ => by omega, fun h => by omega, fun h => by omega⟩
      | @takes n a h0 hk1 hn ha0 ha =>
        have := (ha.lt hg).2
        exact ⟨fun h => by omega, fun _ => by omega, fun h => by omega⟩
    | @first b hb0 hb =>
      have := (hb.lt hg).2
      exact ⟨fun h => by omega, fun h => by omega, fun _ => by omega⟩
    | @last a ha0 ha =>
      have := (ha.lt hg).2
      exact ⟨fun h => by omega, fun _ => by omega, fun h => by omega⟩
  exact ⟨fun h => by have := (key h).1 rfl; omega, fun h => by have := (key h).2.1 rfl; omega, fun h => by have := (key h).2.2 rfl; omega, fun h => by have := (key h).1 rfl; omega⟩

end Go.Proofs.YtffdnpjkcchmnaaDoor.MatrixReasonsMath
