/-
  A range over a function whose iterator may keep a state of its own in a box: the statement's two halves, with the loop's record told outright. No part of the program.
-/
import Derived.RangeFuncBox
import Derived.RangeFuncNested
namespace Go.Proofs.YtgepbophnbbbpaaGreatDoor.RangeOwn
open Go.RowKit
set_option linter.unusedVariables false

variable {F : Fence} {n : Nat} {P : Program}

/-- The record that the statement lays for its loop. -/
def recOf (fn : FuncId) (a : Act) (ps : Array Tmp) (assign body : Code) (D : Nat) : Loop :=
  { state := .ready, pending := none, fn := fn, tmps := a.tmps, params := ps, assign := assign, body := body, defers := D }

/-- THE STATEMENT: what is left to show is the iterator's own call, the record and the block for deferred calls lying behind all that lay there. -/
theorem enter {g : Operand} {ps : Array Tmp} {assign body : Code} {Q : Exit → Act → World → Prop} {a : Act} {w : World}
    (hro : F.round = none) (h1 : 1 ≤ n) {gf : Nat} {lb : Array Value} (hg : a.eval g = .func (.func gf) #[] lb) (hFg : F.fn gf) (eg : ∀ args w, (callFunc gf args).run P w = .ok (.enter gf args) w)
    (h : ∀ fn, F.fn fn → CallsIn F (n - 1) P gf (#[.func (.yield (w.heap.size + 1)) #[] #[]] ++ lb) ((w.alloc (.deferred (some []))).alloc (.loop (recOf fn a ps assign body w.heap.size)))
      (rangePost F n P (w.heap.size + 1) Q { a with defers := [{ target := .collected w.heap.size, args := #[] }] ++ a.defers })) :
    (Code.rangeFunc g ps assign body).wpIn F n P Q a w := by
  refine wpIn_rangeFunc ?_
  intro fn hfn
  have hc := h fn hfn
  have he : (Instr.enterLoop fn a.tmps ps assign body F.round).run P w = .ok (w.heap.size + 1, [{ target := .collected w.heap.size, args := #[] }]) ((w.alloc (.deferred (some []))).alloc (.loop (recOf fn a ps assign body w.heap.size))) := by
    rw [hro]
    exact run_enterLoop_outer _ _ _ _ _
  generalize (w.alloc (.deferred (some []))).alloc (.loop (recOf fn a ps assign body w.heap.size)) = W1 at hc he
  refine ⟨w.heap.size + 1, [{ target := .collected w.heap.size, args := #[] }], W1, { target := .fn (.func gf) lb, args := #[.func (.yield (w.heap.size + 1)) #[] #[]] }, W1, gf, #[.func (.yield (w.heap.size + 1)) #[] #[]] ++ lb, W1, he, ?_, ?_, ?_, fun _ => h1, ?_⟩
  · simp only [resolve, hg]
    simp [go_sem]
  · intro f' hf'
    simp [Target.leads] at hf'
    subst hf'
    exact hFg
  · simp [invoke, go_sem, eg]
  · exact hc

/-- A ROUND: the assignments, then the body, from the record that is ready. -/
theorem round {l : Nat} {r : Loop} {args : Array Value} {W : World} {R : Ending → World → Prop} (hl : W.heap[l]? = some (.loop r)) (hs : args.size = r.params.size) (hF : F.fn r.fn)
    (h : r.assign.wpIn (F.inRound l) n P (Exit.then (fun a₁ w₁ => ∃ r1 : Loop, w₁.heap[l]? = some (.loop r1) ∧ r1.state = .ready ∧ r.body.wpIn (F.inRound l) n P (roundPost P l R) a₁ (w₁.putObj l (.loop { r1 with state := .busy }))) (fun _ _ _ => False))
      { tmps := (r.params.zip args).foldl (fun tmps (t, a) => tmps.setIfInBounds t a) r.tmps, defers := [] } W) : YieldAt F n P l args W R := by
  refine ⟨r.fn, _, r.assign, r.body, run_yield hl hs, roundIn_of_wpIn hF (wpIn_mono h ?_)⟩
  intro e a₁ w₁ hq
  cases e with
  | normal =>
    obtain ⟨r1, h1, h2, h3⟩ := hq
    exact ⟨_, run_beginRound h1 h2, h3⟩
  | exit id => exact hq
  | goto t => exact hq
  | ret => exact hq
  | panic c => exact hq
  | outgrown => exact hq

theorem goes_on {l : Nat} {r : Loop} {a : Act} {W : World} {R : Ending → World → Prop} (hl : W.heap[l]? = some (.loop r)) (h : R (.returned (.bool true)) (W.putObj l (.loop { r with state := .ready, pending := none }))) : roundPost P l R .normal a W :=
  ⟨_, _, run_endRound none hl, h⟩
theorem leaves {l : Nat} {r : Loop} {a : Act} {W : World} {R : Ending → World → Prop} (hl : W.heap[l]? = some (.loop r)) (h : R (.returned (.bool false)) (W.putObj l (.loop { r with state := .done, pending := some .ret }))) : roundPost P l R .ret a W :=
  ⟨_, _, run_endRound (some .ret) hl, h⟩

/-- BEHIND THE ITERATOR: it ran out. -/
theorem ran_out {l : Nat} {r : Loop} {Q : Exit → Act → World → Prop} {a : Act} {W : World} {v : Value} (hl : W.heap[l]? = some (.loop r)) (hr : r.state = .ready) (hp : r.pending = none) (h : Q .normal a (W.putObj l (.loop { r with state := .exhausted }))) : rangePost F n P l Q a (.returned v) W := by
  refine ⟨_, _, run_endLoop hl (by rw [hr]; simp), ?_⟩
  have h' := h
  rw [hp] at h' ⊢
  exact h'
/-- BEHIND THE ITERATOR: the body returned. -/
theorem was_left {l : Nat} {r : Loop} {c : Code} {Q : Exit → Act → World → Prop} {a : Act} {W : World} {v : Value} (hl : W.heap[l]? = some (.loop r)) (hr : r.state = .done) (hp : r.pending = some c) (h : c.wpIn F n P Q a (W.putObj l (.loop { r with state := .exhausted }))) : rangePost F n P l Q a (.returned v) W := by
  refine ⟨_, _, run_endLoop hl (by rw [hr]; simp), ?_⟩
  have h' := h
  rw [hp] at h' ⊢
  exact h'

end Go.Proofs.YtgepbophnbbbpaaGreatDoor.RangeOwn
