/-
  Texts that stand together: EndsSearch.
-/
import Derived.Test.YtcoepmpgclndiaaGreatDoorBEndsConcats
import Derived.Deep.AppendLies
namespace Go.Proofs.YtcoepmpgclndiaaGreatDoor.EndsSearch
open Go.RowKit Go.Proofs.YtcoepmpgclndiaaGreatDoor.GramMath Go.Proofs.YtcoepmpgclndiaaGreatDoor.GramRow Go.Proofs.YtcoepmpgclndiaaGreatDoor.EndsMath Go.Proofs.YtcoepmpgclndiaaGreatDoor.EndsConcat Go.Proofs.YtcoepmpgclndiaaGreatDoor.EndsFn Go.Proofs.YtcoepmpgclndiaaGreatDoor.EndsWays Go.Proofs.YtcoepmpgclndiaaGreatDoor.GramApart Go.Proofs.YtcoepmpgclndiaaGreatDoor.GramAboveFn
set_option linter.unusedVariables false

/-- What search answers. -/
def ChV (base : Nat) (w : World) (v : Value) : Option (List Int) → Prop
  | none => v = .slice none 0 0
  | some c => ∃ g cap, v = .slice (some ⟨g, 0, none⟩) c.length cap ∧ w.ownsRow base 3 1 (.slice (some ⟨g, 0, none⟩) c.length cap) c.length (intsL c)

theorem take_succ {α : Type} {l : List α} {k : Nat} {r : α} (h : l[k]? = some r) : l.take (k + 1) = l.take k ++ [r] := by
  obtain ⟨hk, he⟩ := List.getElem?_eq_some_iff.1 h
  rw [List.take_succ_eq_append_getElem hk, he]
theorem take_len {α : Type} {l : List α} {k : Nat} {r : α} (h : l[k]? = some r) : (l.take k).length = k := by
  obtain ⟨hk, _⟩ := List.getElem?_eq_some_iff.1 h
  simp
  omega

theorem nx_few {b : Bool} {g : G} (hg : GoodG g) {l : List Int} {m k : Nat} {ys : List Wy} {S : Nat → Bool} {s0 : St} (hs0 : goW b g.rs ys ⟨[], S⟩ = s0) : (goR b l m 0 (g.rs.take k) s0).nx.length ≤ g.ns.length := by
  have hld : ∀ r ∈ g.rs, ∀ t, ldO b r = some t → t < g.ns.length := fun r hr t ht => ld_lt hg hr ht
  have h1 := goW_cnt (b := b) (ys := ys) (s := ⟨[], S⟩) hld
  rw [hs0] at h1
  have h2 := goR_cnt (b := b) (l := l) (m := m) (k := 0) (s := s0) (rs := g.rs.take k) (n := g.ns.length) (fun r hr => hld r (List.mem_of_mem_take hr))
  have h3 := cnt_le g.ns.length (goR b l m 0 (g.rs.take k) s0).S
  simp only [List.length_nil] at h1
  omega

theorem met_shr {M m : Nat} {S : Nat → Bool} (h : Go.Proofs.YtcoepmpgclndiaaGreatDoor.EndsWays.Met M S) (hm : m < 60) : (bits .and .u64 ((M : Int) / 2 ^ m) 1 == 0) = !S m := by
  have e : (M : Int) / 2 ^ m = ((M / 2 ^ m : Nat) : Int) := by simp
  have hlt : M / 2 ^ m < 18446744073709551616 := Nat.lt_of_le_of_lt (Nat.div_le_self _ _) (by have := h.lt; omega)
  rw [e, ← h.bit, Nat.testBit_eq_decide_div_mod_eq]
  generalize M / 2 ^ m = z at *
  have e2 : bits .and .u64 (z : Int) 1 = ((z % 2 : Nat) : Int) := by
    rw [u64_and (z : Int) 1 (by omega) (by omega) (by omega) (by omega)]
    simp
  rw [e2]
  rcases Nat.mod_two_eq_zero_or_one z with h | h <;> simp [h]

end Go.Proofs.YtcoepmpgclndiaaGreatDoor.EndsSearch
