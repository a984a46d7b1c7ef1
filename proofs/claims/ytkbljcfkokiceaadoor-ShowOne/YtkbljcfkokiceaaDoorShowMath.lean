/-
  Grammars, rules and symbols as texts, in plain Lean. No part of the program.
-/
import Derived.Test.YtkbljcfkokiceaaDoorWordsMath
import Derived.Test.YtkbljcfkokiceaaDoorGramMath
namespace Go.Proofs.YtkbljcfkokiceaaDoor.ShowMath
open Go.Proofs.YtkbljcfkokiceaaDoor.WordsMath Go.Proofs.YtkbljcfkokiceaaDoor.GramMath

def colon : ByteArray := ⟨#[58]⟩
def bar : ByteArray := ⟨#[124]⟩

/-- Plain, and no mark. -/
def isW (s : ByteArray) : Bool := plainW s.data.toList && (!eqB s colon && !eqB s bar)
def quoteS (s : ByteArray) : ByteArray := ⟨(quoteL s.data.toList).toArray⟩
def angS (s : ByteArray) : ByteArray := ⟨#[60]⟩ ++ quoteS s ++ ⟨#[62]⟩
def ntS (s : ByteArray) : ByteArray := if isW s = true then s else angS s
def tmB (g : G) (s : ByteArray) : Bool := !memB s g.ns && isW s
def tmS (g : G) (s : ByteArray) : ByteArray := if tmB g s = true then s else quoteS s
def symS (g : G) (x : Int) : ByteArray :=
  if x = (g.ts.length : Int) then ⟨#[36]⟩
  else if leftB g.ts.length x = true then tmS g (g.ts.getD x.toNat ⟨#[]⟩)
  else if leftB g.ns.length (-1 - x) = true then ntS (g.ns.getD (-1 - x).toNat ⟨#[]⟩)
  else ⟨#[63]⟩

theorem isW_plain {s : ByteArray} (h : plainW s.data.toList = false) : isW s = false := by unfold isW; rw [h]; rfl
theorem isW_colon : isW colon = false := by
  unfold isW
  rw [(eqB_iff colon colon).2 rfl]
  simp
theorem isW_bar : isW bar = false := by
  unfold isW
  rw [(eqB_iff bar bar).2 rfl]
  simp
theorem eqB_ne {a b : ByteArray} (h : a ≠ b) : eqB a b = false := by
  cases e : eqB a b with
  | false => rfl
  | true => exact absurd ((eqB_iff a b).1 e) h
theorem isW_true {s : ByteArray} (h : plainW s.data.toList = true) (h1 : s ≠ colon) (h2 : s ≠ bar) : isW s = true := by
  unfold isW
  rw [h, eqB_ne h1, eqB_ne h2]
  rfl

theorem quoteS_size (s : ByteArray) : (quoteS s).size ≤ 4 * s.size + 2 := by
  have := quoteL_len s.data.toList
  have e : s.data.toList.length = s.size := by cases s; simp [ByteArray.size]
  unfold quoteS
  simp only [ByteArray.size, List.size_toArray]
  simp only [ByteArray.size] at e
  omega

theorem angS_size (s : ByteArray) : (angS s).size ≤ 4 * s.size + 4 := by
  have := quoteS_size s
  unfold angS
  rw [ByteArray.size_append, ByteArray.size_append]
  have e1 : (⟨#[60]⟩ : ByteArray).size = 1 := rfl
  have e2 : (⟨#[62]⟩ : ByteArray).size = 1 := rfl
  omega

theorem ntS_size (s : ByteArray) : (ntS s).size ≤ 4 * s.size + 4 := by
  unfold ntS
  split
  · omega
  · exact angS_size s

theorem tmS_size (g : G) (s : ByteArray) : (tmS g s).size ≤ 4 * s.size + 4 := by
  have := quoteS_size s
  unfold tmS
  split <;> omega

theorem symS_size {g : G} {N : Nat} (x : Int) (h : ∀ s ∈ g.ts, s.size ≤ N) (h2 : ∀ s ∈ g.ns, s.size ≤ N) : (symS g x).size ≤ 4 * N + 4 := by
  unfold symS
  split
  · show 1 ≤ _; omega
  · split
    · rename_i hl
      have := tmS_size g (g.ts.getD x.toNat ⟨#[]⟩)
      have hm : (g.ts.getD x.toNat ⟨#[]⟩).size ≤ N := by
        rw [List.getD_eq_getElem?_getD]
        cases e : g.ts[x.toNat]? with
        | none => exact Nat.zero_le _
        | some y => exact h y (List.mem_of_getElem? e)
      omega
    · split
      · have := ntS_size (g.ns.getD (-1 - x).toNat ⟨#[]⟩)
        have hm : (g.ns.getD (-1 - x).toNat ⟨#[]⟩).size ≤ N := by
          rw [List.getD_eq_getElem?_getD]
          cases e : g.ns[(-1 - x).toNat]? with
          | none => exact Nat.zero_le _
          | some y => exact h2 y (List.mem_of_getElem? e)
        omega
      · show 1 ≤ _; omega

end Go.Proofs.YtkbljcfkokiceaaDoor.ShowMath
