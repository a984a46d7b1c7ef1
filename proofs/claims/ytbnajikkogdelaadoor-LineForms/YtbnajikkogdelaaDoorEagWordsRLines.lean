/-
  Texts that stand together: WordsRLines, RangeOwn.
-/
import Derived.Test.YtbnajikkogdelaaDoorEagLineSt
import Derived.RangeFuncBox
import Derived.RangeFuncNested
namespace Go.Proofs.YtbnajikkogdelaaDoor.WordsCutM
open Go.RowKit Go.Proofs.YtbnajikkogdelaaDoor.WordsMath Go.Proofs.YtbnajikkogdelaaDoor.WordsOne Go.Proofs.YtbnajikkogdelaaDoor.WordsBytes

theorem piece (s : ByteArray) (f k : Nat) : s.extract f k = ⟨((s.data.toList.drop f).take (k - f)).toArray⟩ := by
  rw [← Lib.extract_data]

theorem take_more {l : List UInt8} {f k : Nat} {c : UInt8} (hf : f ≤ k) (hc : l[k]? = some c) : (l.drop f).take (k - f) ++ [c] = (l.drop f).take (k + 1 - f) := by
  obtain ⟨hk, he⟩ := List.getElem?_eq_some_iff.1 hc
  have e : k + 1 - f = (k - f) + 1 := by omega
  rw [e, List.take_succ_eq_append_getElem (by rw [List.length_drop]; omega), List.getElem_drop]
  congr 2
  have : f + (k - f) = k := by omega
  simp only [this, he]

set_option maxRecDepth 100000 in
set_option maxHeartbeats 4000000 in
theorem rlines_any (s : ByteArray) (w : World) (hs : s.size ≤ 1048576) :
    Calls Tryd.prog 27 #[.string s] w fun e w' => ∃ v, e = .returned v ∧ w'.ownsRow w.heap.size 9 1 v (cutGo [] s.data.toList).length (cellsL (cutGo [] s.data.toList)) ∧ Below w.heap.size w w' := by
  obtain ⟨i0, hi, hz0, hz1, hz2⟩ := info_parts info9
  have hL : s.data.toList.length = s.size := list_size s
  go_enter Tryd.func27, Tryd.ntmps27
  go_wp2
  go_loopw [3, 4, 5] (fun v f i wr => ∃ (k g : Nat) (ls : List (List UInt8)), k ≤ s.size ∧ g ≤ k ∧ i = .int .i64 k ∧ f = .int .i64 g ∧ ls.length ≤ k ∧ Hid (ls ++ cutGo ((s.data.toList.drop g).take (k - g)) (s.data.toList.drop k) = cutGo [] s.data.toList) ∧ wr.ownsRow w.heap.size 9 1 v ls.length (cellsL ls) ∧ Below w.heap.size w wr) (fun _ _ i _ => s.size - (intOf i).toNat)
  case atStart => exact ⟨0, 0, [], by omega, by omega, rfl, rfl, by simp, by show _ = _; simp, World.ownsRow_nil _ _ _ _, Below.refl _ _⟩
  case round =>
    obtain ⟨k, g, ls, hk, hg, rfl, rfl, hls, hX, hrow, hB⟩ := hrel
    have hsB := hB.size
    by_cases hlt : k < s.size
    · have hd := drop_cons s hlt
      have hgc : s.data.toList[k]? = some s[k] := by
        have h9 := congrArg List.head? hd
        rw [List.head?_drop, List.head?_cons] at h9
        exact h9
      obtain ⟨c, hc⟩ : ∃ c, s[k] = c := ⟨_, rfl⟩
      rw [hc] at hd hgc
      have kk : (k : Int) < (s.size : Int) := by omega
      by_cases h10 : c = 10
      · have hX2 : Hid ((ls ++ [(s.data.toList.drop g).take (k - g)]) ++ cutGo ((s.data.toList.drop (k + 1)).take (k + 1 - (k + 1))) (s.data.toList.drop (k + 1)) = cutGo [] s.data.toList) := by
          show _ = _
          rw [← hX.out, hd, h10, cutGo_nl]
          simp
        have E : Hid (Value.string (s.extract g k) = .string ⟨((s.data.toList.drop g).take (k - g)).toArray⟩) := by show _ = _; rw [piece]
        have k1 : ((c.toNat : Int) == 10) = true := by subst h10; rfl
        clear hX hd hgc h10
        go_wp2_with (at_builtin; refine wpList_append_own _ rfl _ _ 22 rfl w.heap.size 9 i0 (.string ⟨#[]⟩) 1 16 Tryd.underlying22 hi hz0 hz1 hz2 rfl (by decide) _ _ _ rfl (hrow.alloc _) ⟨wr.heap.size, 0, none⟩ 1 1 [.string (s.extract g k)] rfl rfl (cells_new _ #[_] _) (by simp [Value.oneCell']) (by unfold maxLen; omega) (by omega) (by simp; omega) ?_; intro v1 w1 hown1 hgrow1 _; have hr1 := rowL hown1 E.out; have hB1 := Below.app hB hsB hrow hgrow1)
        go_roundw
        case rel => exact ⟨k + 1, k + 1, _, by omega, by omega, by go_num, by go_num, by rw [List.length_append]; simp; omega, hX2, hr1, hB1⟩
        case measure => simp [intOf]; omega
      · have hX2 : Hid (ls ++ cutGo ((s.data.toList.drop g).take (k + 1 - g)) (s.data.toList.drop (k + 1)) = cutGo [] s.data.toList) := by
          show _ = _
          rw [← hX.out, hd, cutGo_other _ _ h10, take_more hg hgc]
        have k1 : ((c.toNat : Int) == 10) = false := by
          have : c.toNat ≠ 10 := fun h => h10 (UInt8.toNat_inj.1 h)
          simp; omega
        clear hX hd hgc h10
        go_wp2
        go_roundw
        case rel => exact ⟨k + 1, g, ls, by omega, by omega, by go_num, rfl, by omega, hX2, hrow, hB⟩
        case measure => simp [intOf]; omega
    · obtain rfl : k = s.size := by omega
      have hdn : s.data.toList.drop s.size = [] := List.drop_eq_nil_of_le (by omega)
      by_cases hgs : g < s.size
      · have hX2 : Hid (cutGo [] s.data.toList = ls ++ [(s.data.toList.drop g).take (s.size - g)]) := by
          show _ = _
          rw [← hX.out, hdn, cutGo_last]
          intro h
          have h9 := congrArg List.length h
          rw [List.length_take, List.length_drop] at h9
          simp at h9
          omega
        have E : Hid (Value.string (s.extract g s.size) = .string ⟨((s.data.toList.drop g).take (s.size - g)).toArray⟩) := by show _ = _; rw [piece]
        have kk : (g : Int) < (s.size : Int) := by omega
        clear hX hdn
        go_wp2_with (at_builtin; refine wpList_append_own _ rfl _ _ 22 rfl w.heap.size 9 i0 (.string ⟨#[]⟩) 1 16 Tryd.underlying22 hi hz0 hz1 hz2 rfl (by decide) _ _ _ rfl (hrow.alloc _) ⟨wr.heap.size, 0, none⟩ 1 1 [.string (s.extract g s.size)] rfl rfl (cells_new _ #[_] _) (by simp [Value.oneCell']) (by unfold maxLen; omega) (by omega) (by simp; omega) ?_; intro v1 w1 hown1 hgrow1 _; have hr1 := rowL hown1 E.out; have hB1 := Below.app hB hsB hrow hgrow1)
        go_ret
        rw [hX2.out]
        exact ⟨_, rfl, hr1, hB1⟩
      · have hX2 : Hid (cutGo [] s.data.toList = ls) := by
          show _ = _
          obtain rfl : g = s.size := by omega
          rw [← hX.out, hdn]
          simp [cutGo]
        have kk : ¬ (g : Int) < (s.size : Int) := by omega
        clear hX hdn
        go_wp2
        go_ret
        rw [hX2.out]
        exact ⟨_, rfl, hrow, hB⟩

end Go.Proofs.YtbnajikkogdelaaDoor.WordsCutM

namespace Go.Proofs.YtbnajikkogdelaaDoor.RangeOwn
open Go.RowKit
set_option linter.unusedVariables false

variable {F : Fence} {n : Nat} {P : Program}

/-- The record that the statement lays for its loop. -/
def recOf (fn : FuncId) (a : Act) (ps : Array Tmp) (assign body : Code) (D : Nat) : Loop :=
  { state := .ready, pending := none, fn := fn, tmps := a.tmps, params := ps, assign := assign, body := body, defers := D }

/-- THE STATEMENT: what is left to show is the iterator's own call, the record and the block for deferred calls lying behind all that lay there. -/
theorem enter {g : Operand} {ps : Array Tmp} {assign body : Code} {Q : Exit → Act → World → Prop} {a : Act} {w : World}
    (hro : F.round = none) (h1 : 1 ≤ n) {gf : Nat} {lb : Array Value} (hg : a.eval g = .func (.func gf) #[] lb) (hFg : F.fn gf) (eg : ∀ args w, (callFunc gf args).run P w = .ok (.enter gf args) w)
    (h : ∀ fn, F.fn fn → CallsIn F (n - 1) P gf (#[.func (.yield (w.heap.size + 1)) #[] #[]] ++ lb) ((w.alloc (.deferred (some []))).alloc (.loop (recOf fn a ps assign body w.heap.size)))
      (rangePost F n P (w.heap.size + 1) Q { a with defers := [{ target := .collected w.heap.size, args := #[] }] ++ a.defers })) :
    (Code.rangeFunc g ps assign body).wpIn F n P Q a w := by
  refine wpIn_rangeFunc ?_
  intro fn hfn
  have hc := h fn hfn
  have he : (Instr.enterLoop fn a.tmps ps assign body F.round).run P w = .ok (w.heap.size + 1, [{ target := .collected w.heap.size, args := #[] }]) ((w.alloc (.deferred (some []))).alloc (.loop (recOf fn a ps assign body w.heap.size))) := by
    rw [hro]
    exact run_enterLoop_outer _ _ _ _ _
  generalize (w.alloc (.deferred (some []))).alloc (.loop (recOf fn a ps assign body w.heap.size)) = W1 at hc he
  refine ⟨w.heap.size + 1, [{ target := .collected w.heap.size, args := #[] }], W1, { target := .fn (.func gf) lb, args := #[.func (.yield (w.heap.size + 1)) #[] #[]] }, W1, gf, #[.func (.yield (w.heap.size + 1)) #[] #[]] ++ lb, W1, he, ?_, ?_, ?_, fun _ => h1, ?_⟩
  · simp only [resolve, hg]
    simp [go_sem]
  · intro f' hf'
    simp [Target.leads] at hf'
    subst hf'
    exact hFg
  · simp [invoke, go_sem, eg]
  · exact hc

/-- A ROUND: the assignments, then the body, from the record that is ready. -/
theorem round {l : Nat} {r : Loop} {args : Array Value} {W : World} {R : Ending → World → Prop} (hl : W.heap[l]? = some (.loop r)) (hs : args.size = r.params.size) (hF : F.fn r.fn)
    (h : r.assign.wpIn (F.inRound l) n P (Exit.then (fun a₁ w₁ => ∃ r1 : Loop, w₁.heap[l]? = some (.loop r1) ∧ r1.state = .ready ∧ r.body.wpIn (F.inRound l) n P (roundPost P l R) a₁ (w₁.putObj l (.loop { r1 with state := .busy }))) (fun _ _ _ => False))
      { tmps := (r.params.zip args).foldl (fun tmps (t, a) => tmps.setIfInBounds t a) r.tmps, defers := [] } W) : YieldAt F n P l args W R := by
  refine ⟨r.fn, _, r.assign, r.body, run_yield hl hs, roundIn_of_wpIn hF (wpIn_mono h ?_)⟩
  intro e a₁ w₁ hq
  cases e with
  | normal =>
    obtain ⟨r1, h1, h2, h3⟩ := hq
    exact ⟨_, run_beginRound h1 h2, h3⟩
  | exit id => exact hq
  | goto t => exact hq
  | ret => exact hq
  | panic c => exact hq
  | outgrown => exact hq

theorem goes_on {l : Nat} {r : Loop} {a : Act} {W : World} {R : Ending → World → Prop} (hl : W.heap[l]? = some (.loop r)) (h : R (.returned (.bool true)) (W.putObj l (.loop { r with state := .ready, pending := none }))) : roundPost P l R .normal a W :=
  ⟨_, _, run_endRound none hl, h⟩
theorem leaves {l : Nat} {r : Loop} {a : Act} {W : World} {R : Ending → World → Prop} (hl : W.heap[l]? = some (.loop r)) (h : R (.returned (.bool false)) (W.putObj l (.loop { r with state := .done, pending := some .ret }))) : roundPost P l R .ret a W :=
  ⟨_, _, run_endRound (some .ret) hl, h⟩

/-- BEHIND THE ITERATOR: it ran out. -/
theorem ran_out {l : Nat} {r : Loop} {Q : Exit → Act → World → Prop} {a : Act} {W : World} {v : Value} (hl : W.heap[l]? = some (.loop r)) (hr : r.state = .ready) (hp : r.pending = none) (h : Q .normal a (W.putObj l (.loop { r with state := .exhausted }))) : rangePost F n P l Q a (.returned v) W := by
  refine ⟨_, _, run_endLoop hl (by rw [hr]; simp), ?_⟩
  have h' := h
  rw [hp] at h' ⊢
  exact h'
/-- BEHIND THE ITERATOR: the body returned. -/
theorem was_left {l : Nat} {r : Loop} {c : Code} {Q : Exit → Act → World → Prop} {a : Act} {W : World} {v : Value} (hl : W.heap[l]? = some (.loop r)) (hr : r.state = .done) (hp : r.pending = some c) (h : c.wpIn F n P Q a (W.putObj l (.loop { r with state := .exhausted }))) : rangePost F n P l Q a (.returned v) W := by
  refine ⟨_, _, run_endLoop hl (by rw [hr]; simp), ?_⟩
  have h' := h
  rw [hp] at h' ⊢
  exact h'

end Go.Proofs.YtbnajikkogdelaaDoor.RangeOwn
