/-
  The walk of EndsChains: it answers true for every grammar, nonterminal and terminal, and writes nothing that was there; told with what the helper answers that writes into the lists.
-/
import Derived.Test.YtpdkjblmpgmcjaaDoorEndsRChain
import Derived.Test.YtpdkjblmpgmcjaaDoorEndsAwake
import Derived.Test.YtpdkjblmpgmcjaaDoorMatrixTurnM
import Derived.Test.YtpdkjblmpgmcjaaDoorGramLentG
import Derived.Test.YtpdkjblmpgmcjaaDoorGramOpens
import Derived.Test.YtpdkjblmpgmcjaaDoorGramKinds
import Derived.Test.YtpdkjblmpgmcjaaDoorGramEq
import Derived.Test.YtpdkjblmpgmcjaaDoorUsefulOpen
namespace Go.Proofs.YtpdkjblmpgmcjaaDoor.EndsChainsW
open Go.RowKit Go.Proofs.YtpdkjblmpgmcjaaDoor.GramMath Go.Proofs.YtpdkjblmpgmcjaaDoor.GramRow Go.Proofs.YtpdkjblmpgmcjaaDoor.GramCheck Go.Proofs.YtpdkjblmpgmcjaaDoor.GramErrs Go.Proofs.YtpdkjblmpgmcjaaDoor.GramAwake Go.Proofs.YtpdkjblmpgmcjaaDoor.GramAboveFn Go.Proofs.YtpdkjblmpgmcjaaDoor.GramApart Go.Proofs.YtpdkjblmpgmcjaaDoor.GramLent Go.Proofs.YtpdkjblmpgmcjaaDoor.EndsMath Go.Proofs.YtpdkjblmpgmcjaaDoor.EndsFn Go.Proofs.YtpdkjblmpgmcjaaDoor.EndsRef Go.Proofs.YtpdkjblmpgmcjaaDoor.EndsAwake Go.Proofs.YtpdkjblmpgmcjaaDoor.GramRef Go.Proofs.YtpdkjblmpgmcjaaDoor.EndsSearch Go.Proofs.YtpdkjblmpgmcjaaDoor.EndsChain Go.Proofs.YtpdkjblmpgmcjaaDoor.EndsRRing Go.Proofs.YtpdkjblmpgmcjaaDoor.EndsWays
set_option linter.unusedVariables false

theorem chv_row {base : Nat} {w : World} {v : Value} {o : Option (List Int)} (h : ChV base w v o) : ∃ a c, v = .slice a (o.getD []).length c ∧ IRow w a (o.getD []) := by
  match o, h with
  | none, h => exact ⟨none, 0, h, fun i x hx => by simp at hx⟩
  | some l, ⟨g, cap, h1, h2⟩ => exact ⟨_, _, h1, GramLent.lent_rowI h2 rfl⟩
theorem found_small {g : G} {n t : Int} {b : Bool} {z : Nat × Option Nat} {o : Option (List Int)} (h : ChainR g n t b z o) : (o.getD []).length ≤ 60 := by
  rcases h with ⟨_, _, rfl⟩ | ⟨_, _, _, rfl⟩ | ⟨h0, hin, hF, _⟩
  · simp
  · simp
  · cases o with
    | none => simp
    | some c =>
      have hg := good_of h0
      have := FoundE.len hg (by have := hin.1; have := hin.2.1; omega) hF
      have := hg.few
      simp
      omega
theorem chainR_z {g : G} {n t : Int} {b : Bool} {z : Nat × Option Nat} {o : Option (List Int)} (h : ChainR g n t b z o) : z.1 ≤ 15 := by
  rcases h with ⟨_, rfl, _⟩ | ⟨_, _, rfl, _⟩ | ⟨_, _, _, rfl⟩
  · exact UsefulTop.check_le g
  · decide
  · dsimp only
    split <;> decide
theorem eqI_self (l : List Int) : GramSame.eqI l l = true := by unfold GramSame.eqI; simp


theorem chv_below {base B : Nat} {w w' : World} {v : Value} {o : Option (List Int)} (h : ChV base w v o) (hb : Below B w w') (hB : w.heap.size ≤ B) : ChV base w' v o := by
  match o, h with
  | none, h => exact h
  | some l, ⟨g, cap, h1, h2⟩ => exact ⟨g, cap, h1, GramLent.own_below h2 (hb.mono hB)⟩
theorem chv_lt {base : Nat} {w : World} {v : Value} {o : Option (List Int)} (h : ChV base w v o) : ∀ j, v.ownBlock = some j → j < w.heap.size := by
  match o, h with
  | none, h => intro j hj; subst h; cases hj
  | some l, ⟨g, cap, h1, h2⟩ => intro j hj; subst h1; exact (h2.lt j hj).2
theorem ruleZ_any {g : G} {n t : Int} {b : Bool} {z : Nat × Option Nat} {o : Option (List Int)} (h : ChainR g n t b z o) : ruleZ z = ruI z.2 := by
  rcases h with ⟨hne, rfl, _⟩ | ⟨_, _, rfl, _⟩ | ⟨_, _, _, rfl⟩
  · revert hne
    generalize checkG g = zz
    intro hne
    obtain ⟨k, r⟩ := zz
    cases k with
    | zero => exact absurd rfl hne
    | succ k => cases r <;> rfl
  · rfl
  · split <;> rfl
theorem chain_lens {g : G} {n t : Int} {b : Bool} {z : Nat × Option Nat} {o : Option (List Int)} (h : ChainR g n t b z o) : ∀ c, o = some c → 0 < c.length ∧ c.length ≤ 60 := fun c hc => by
  have h2 := found_small h
  rw [hc] at h2
  rcases h with ⟨_, _, rfl⟩ | ⟨_, _, _, rfl⟩ | ⟨_, _, hF, _⟩
  · cases hc
  · cases hc
  · exact ⟨found_pos hF c hc, h2⟩

/-- What the helper answers that writes into three lists which lie apart, with room to spare or without. -/
def Apart3 : Prop := ∀ (W : World) (A B s1 s2 : Nat) (v0 v1 v2 : Value) (o0 o1 o2 : Option (List Int)), RowAt W A 27 #[v0, v1, v2] → B ≤ s1 → s1 ≤ s2 → s2 ≤ A → ChV B W v0 o0 → ChV s1 W v1 o1 → ChV s2 W v2 o2 →
  (∀ j, v0.ownBlock = some j → j < s1) → (∀ j, v1.ownBlock = some j → j < s2) → (∀ j, v2.ownBlock = some j → j < A) → (∀ c, o0 = some c → 0 < c.length ∧ c.length ≤ 60) → (∀ c, o1 = some c → 0 < c.length ∧ c.length ≤ 60) → (∀ c, o2 = some c → 0 < c.length ∧ c.length ≤ 60) →
  Calls Tryd.prog 14 #[.slice (some ⟨A, 0, none⟩) 3 3] W fun e w' => e = .returned (.bool true) ∧ Below B W w'

end Go.Proofs.YtpdkjblmpgmcjaaDoor.EndsChainsW
