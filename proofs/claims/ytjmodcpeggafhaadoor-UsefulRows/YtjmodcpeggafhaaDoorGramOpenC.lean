/-
  The caps of the right sides of a grammar that is handed in: none is less than its length.
-/
import Derived.Test.YtjmodcpeggafhaaDoorGramOpenL
namespace Go.Proofs.YtjmodcpeggafhaaDoor.GramOpen
open Go.Deep Go.Joins Go.ChangeShapes Go.WideShapes Go.ChangeAt Go.RowKit Go.Proofs.YtjmodcpeggafhaaDoor.GramMath Go.Proofs.YtjmodcpeggafhaaDoor.GramRow
set_option linter.unusedVariables false

/-- No list of a row of rules has a cap that is less than its length. -/
def Caps (W : World) (ra : Option Addr) (m : Nat) : Prop := ∀ i, i < m → ∀ b off, ra = some ⟨b, off, none⟩ → ∀ qa n qc, W.cell? ⟨b, off + i * 2 + 1, none⟩ = some (.slice qa n qc) → n ≤ qc

section
variable {H : Type} {enc : TypeId × Value → H} {W : World} {sp : Nat → Bool} {hd : Bool}

theorem cap_ints {n : Nat} {v : Value} {y : DataW H × List MemPlace} (h : DataW.trod enc Tryd.prog W 0 sp hd n 42 [v] = some y) : ∀ a l c, v = .slice a l c → l ≤ c := by
  rintro a l c rfl
  rcases open_ints Tryd.underlying42 Tryd.underlying3 (by kernel_rfl) h with ⟨hcs, _⟩ | ⟨x, l', c', ss, hcs, _, hl, _⟩
  · obtain ⟨_, rfl, rfl⟩ : a = none ∧ l = 0 ∧ c = 0 := by simpa using hcs
    exact Nat.le_refl _
  · obtain ⟨_, rfl, rfl⟩ : a = some x ∧ l = l' ∧ c = c' := by simpa using hcs
    exact hl

theorem cap_rule {n : Nat} {cs : List Value} {y : DataW H × List MemPlace} (h : DataW.trod enc Tryd.prog W 0 sp hd n 56 cs = some y) : ∀ u a l c, cs = [u, .slice a l c] → l ≤ c := by
  obtain ⟨f0, f1, hf, t0, o0, t1, o1⟩ := rule_parts
  have hu := ruleFields
  rw [hf] at hu
  obtain ⟨y0, y1, m, rfl, hl, h0, h1⟩ := trod_struct2 hu h
  rw [cellsR] at hl
  obtain ⟨c0, c1, rfl⟩ := list2 hl
  rw [t1, o1, show Tryd.prog.cellsOf 42 = 1 by kernel_rfl] at h1
  have h1' : DataW.trod enc Tryd.prog W 0 sp hd m 42 [c1] = some y1 := h1
  intro u a l c he
  have : c1 = .slice a l c := by simpa using (List.cons.inj (List.cons.inj he).2).1
  exact cap_ints h1' a l c this

theorem cap_rules {n : Nat} {ra : Option Addr} {m c : Nat} {y : DataW H × List MemPlace} (h : DataW.trod enc Tryd.prog W 0 sp hd n 23 [.slice ra m c] = some y) : Caps W ra m := by
  rcases open_slice Tryd.underlying23 h with ⟨hcs, _⟩ | ⟨x, l, c', m', n', D, Pl, hcs, _, hl, hm, hmm, rfl, hall⟩
  · obtain ⟨rfl, rfl, rfl⟩ : ra = none ∧ m = 0 ∧ c = 0 := by simpa using hcs
    intro i hi
    omega
  · obtain ⟨rfl, rfl, rfl⟩ : ra = some x ∧ m = l ∧ c = c' := by simpa using hcs
    have hz2 : m ≤ m' := by rw [hmm]; split <;> omega
    rw [cellsR] at hall
    intro i hi b off he qa k qc hq
    obtain rfl := Option.some.inj he
    obtain ⟨cs', h1, h2⟩ := hall i (by omega)
    obtain ⟨_, hlen, h4⟩ := World.cells?_some h1
    have c1 := h4 1 (by omega)
    rw [Go.Deep.add_add, Addr.add_lit] at c1
    rw [show off + (i * 2 + 1) = off + i * 2 + 1 by omega, hq] at c1
    have hl2 : cs'.length = 2 := by simpa using hlen
    obtain ⟨u0, u1, rfl⟩ := list2 hl2
    refine cap_rule h2 u0 qa k qc ?_
    simp at c1
    rw [← c1]

set_option maxRecDepth 100000 in
theorem gram_caps {base : Nat} {v0 v1 v2 : Value} {ra : Option Addr} {m c : Nat} {d : DataW H} {p : List MemPlace} (hval : Value.okWide Tryd.prog W .any base 25 (.agg #[v0, v1, v2, .slice ra m c])) (h : DataW.Trod enc Tryd.prog W 0 sp hd 25 (.agg #[v0, v1, v2, .slice ra m c]) d p) : Caps W ra m := by
  obtain ⟨f0, f1, f2, f3, hf, t0, t1, t2, t3, hone⟩ := gram_parts
  have hu := gramFields
  rw [hf] at hu
  obtain ⟨u0, u1, u2, u3, y0, y1, y2, y3, n, hv, _, _, h0, h1, h2, h3⟩ := open_agg4 hu hone cellsG hval h
  have e : u3 = .slice ra m c := by
    have := congrArg Value.cells hv
    simp [Value.cells] at this
    exact this.2.2.2.symm
  subst e
  rw [t3] at h3
  exact cap_rules h3

end
end Go.Proofs.YtjmodcpeggafhaaDoor.GramOpen
