/-
  A rule that is handed in, to be lent.
-/
import Derived.Test.YtjmodcpeggafhaaDoorGramOpenL
namespace Go.Proofs.YtjmodcpeggafhaaDoor.GramOpen
open Go.ChangeShapes Go.WideShapes Go.ChangeAt Go.RowKit Go.Proofs.YtjmodcpeggafhaaDoor.GramMath Go.Proofs.YtjmodcpeggafhaaDoor.GramRow
set_option linter.unusedVariables false

section
variable {H : Type} {enc : TypeId × Value → H} {W : World} {sp : Nat → Bool} {hd : Bool}

set_option maxRecDepth 100000 in
theorem open_rule_arg2 {base : Nat} {v : Value} {d : DataW H} {p : List MemPlace} (hval : Value.okWide Tryd.prog W .any base 56 v) (h : DataW.Trod enc Tryd.prog W 0 sp hd 56 v d p) (hw : ∀ k ∈ d.weights Tryd.prog 56, k ≤ reachBytes) :
    ∃ a c r, v = .agg #[.int .i64 r.left, .slice a r.right.length c] ∧ okR r ∧ IRow W a r.right ∧ r.right.length * 8 ≤ 140737488351232 ∧ (a = none → r.right.length = 0 ∧ c = 0) := by
  obtain ⟨cs, rfl, hsz⟩ := okWide_struct ruleFields hval
  obtain ⟨n, hn⟩ := h
  obtain ⟨r, a, c, hcs, hr, hl, hrow, hnil⟩ := open_rule2 hn hw
  refine ⟨a, c, r, ?_, hr, hrow, hl, hnil⟩
  have e : cs.toList = [.int .i64 r.left, .slice a r.right.length c] := by simpa [Value.cells] using hcs
  rw [show cs = #[.int .i64 r.left, .slice a r.right.length c] from Array.toList_inj.1 (by rw [e])]

end
end Go.Proofs.YtjmodcpeggafhaaDoor.GramOpen
