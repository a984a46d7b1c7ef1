/-
  A rule as it came in; a list of rules that is none.
-/
import Derived.Test.YtjcagdbepcjbiabDoorGramOpen
namespace Go.Proofs.YtjcagdbepcjbiabDoor.GramOpen
open Go.Deep Go.Joins Go.ChangeShapes Go.WideShapes Go.ChangeAt Go.RowKit Go.Proofs.YtjcagdbepcjbiabDoor.GramMath Go.Proofs.YtjcagdbepcjbiabDoor.GramRow
set_option linter.unusedVariables false

section
variable {H : Type} {enc : TypeId × Value → H} {W : World} {sp : Nat → Bool} {hd : Bool}

set_option maxRecDepth 100000 in
theorem open_rule_arg {base : Nat} {v : Value} {d : DataW H} {p : List MemPlace} (hval : Value.okWide Tryd.prog W .any base 28 v) (h : DataW.Trod enc Tryd.prog W 0 sp hd 28 v d p) (hw : ∀ k ∈ d.weights Tryd.prog 28, k ≤ reachBytes) :
    ∃ a c r, v = .agg #[.int .i64 r.left, .slice a r.right.length c] ∧ okR r ∧ IRow W a r.right := by
  obtain ⟨cs, rfl, hsz⟩ := okWide_struct ruleFields hval
  obtain ⟨n, hn⟩ := h
  obtain ⟨r, a, c, hcs, hr, _, hrow⟩ := open_rule hn hw
  refine ⟨a, c, r, ?_, hr, hrow⟩
  have e : cs.toList = [.int .i64 r.left, .slice a r.right.length c] := by simpa [Value.cells] using hcs
  rw [show cs = #[.int .i64 r.left, .slice a r.right.length c] from Array.toList_inj.1 (by rw [e])]

set_option maxRecDepth 100000 in
theorem gram_nil {base : Nat} {v0 v1 v2 : Value} {ra : Option Addr} {m c : Nat} {d : DataW H} {p : List MemPlace} (hval : Value.okWide Tryd.prog W .any base 25 (.agg #[v0, v1, v2, .slice ra m c])) (h : DataW.Trod enc Tryd.prog W 0 sp hd 25 (.agg #[v0, v1, v2, .slice ra m c]) d p) : ra = none → m = 0 ∧ c = 0 := by
  obtain ⟨f0, f1, f2, f3, hf, t0, t1, t2, t3, hone⟩ := gram_parts
  have hu := gramFields
  rw [hf] at hu
  obtain ⟨u0, u1, u2, u3, y0, y1, y2, y3, n, hv, _, _, h0, h1, h2, h3⟩ := open_agg4 hu hone cellsG hval h
  have e : u3 = .slice ra m c := by
    have := congrArg Value.cells hv
    simp [Value.cells] at this
    exact this.2.2.2.symm
  subst e
  rw [t3] at h3
  intro hra
  subst hra
  rcases open_slice Tryd.underlying23 h3 with ⟨hcs, _⟩ | ⟨x, l, c', m', n', D, Pl, hcs, _⟩
  · simpa using hcs
  · simp at hcs

end
end Go.Proofs.YtjcagdbepcjbiabDoor.GramOpen
