/-
  The library's Backward: whatever loop goes over it, the list's numbers come from the last one on.
-/
import Derived.Test.YtgllcbajgndldaaDoorRoundAny
import Derived.Test.YtgllcbajgndldaaDoorGraphOrder
namespace Go.Proofs.YtgllcbajgndldaaDoor.GraphBack
open Go.RowKit Go.Shelf Go.Proofs.YtgllcbajgndldaaDoor.GramMath Go.Proofs.YtgllcbajgndldaaDoor.GramRow Go.Proofs.YtgllcbajgndldaaDoor.GramApart Go.Proofs.YtgllcbajgndldaaDoor.RoundAny
set_option linter.unusedVariables false
attribute [local go_sem] Oper.semAt_some

set_option maxHeartbeats 1000000 in
theorem backward_any (a : Option Addr) (n c : Nat) (w : World) : Calls Tryd.prog 32 #[.slice a n c] w fun e w' => e = .returned (.func (.func 44) #[] #[.pointer (some ⟨w.heap.size, 0, none⟩)]) ∧ w' = w.alloc (.cells #[.slice a n c] 24) := by
  go_enter Tryd.func32, Tryd.ntmps32
  go_wp2
  go_ret
  exact ⟨rfl, rfl⟩

set_option maxRecDepth 100000 in
set_option maxHeartbeats 2000000 in
theorem back1_in (n : Nat) (hn : 1 ≤ n) (l Bn : Nat) (oa : Option Addr) (oc : Nat) (xs : List Int) (hl : xs.length ≤ 1000000) (J : Nat → World → Prop)
    (hJ : ∀ j W, J j W → W.cell? ⟨Bn, 0, none⟩ = some (.slice oa xs.length oc) ∧ IRow W oa xs)
    (hY : ∀ (j i : Nat) (x : Int) W, J j W → j + i + 1 = xs.length → xs[i]? = some x → YieldAt Fence.wide (n - 1) Tryd.prog l #[.int .i64 (i : Int), .int .i64 x] W fun e W' => e = .returned (.bool true) ∧ J (j + 1) W')
    (W : World) (h0 : J 0 W) :
    CallsIn Fence.wide n Tryd.prog 44 #[.func (.yield l) #[] #[], .pointer (some ⟨Bn, 0, none⟩)] W fun e W' => (∃ v, e = .returned v) ∧ J xs.length W' := by
  refine callsIn_of_wp Tryd.func44 rfl trivial ?_ rfl
  simp only [Tryd.ntmps44, List.size_toArray, List.length_cons, List.length_nil, Nat.reduceAdd, Nat.reduceSub, Array.replicate_succ, Array.replicate_zero, List.push_toArray, List.append_toArray, List.nil_append, List.cons_append]
  have c0 := (hJ 0 W h0).1
  gi_wp2
  gi_loopw [3] (fun p wr => ∃ j : Nat, j ≤ xs.length ∧ p = .int .i64 ((xs.length : Int) - 1 - (j : Int)) ∧ J j wr) (fun p _ => (intOf p + 1).toNat)
  case atStart => exact ⟨0, by omega, by simp, h0⟩
  case round =>
    obtain ⟨j, hj, rfl, hJj⟩ := hrel
    clear c0
    by_cases hlt : j < xs.length
    · obtain ⟨i, hi⟩ : ∃ i, j + i + 1 = xs.length := ⟨xs.length - 1 - j, by omega⟩
      have ei : (xs.length : Int) - 1 - (j : Int) = (i : Int) := by omega
      have hil : (i : Int) < (xs.length : Int) := by omega
      obtain ⟨x, hx⟩ : ∃ x, xs[i]? = some x := ⟨xs[i]'(by omega), List.getElem?_eq_getElem _⟩
      obtain ⟨c0, hr⟩ := hJ j wr hJj
      obtain ⟨xb, xo, rfl, hc⟩ := hr i x hx
      obtain ⟨fn, tmps, assign, body, hy, hR⟩ := hY j i x wr hJj hi hx
      rw [ei]
      have HI : Hid (j + i + 1 = xs.length) := hi
      have hge : decide ((0 : Int) ≤ (i : Int)) = true := by simp
      clear hr hx hi ei
      gi_wp2
      refine hR.mono ?_
      rintro e W3 ⟨rfl, hJ3⟩
      clear hy hR hJj hc c0
      gi_wp2
      go_roundw
      case rel => exact ⟨j + 1, by have := HI.out; omega, by have := HI.out; go_num, hJ3⟩
      case measure => have := HI.out; simp [intOf]
    · obtain rfl : j = xs.length := by omega
      have ei : (xs.length : Int) - 1 - (xs.length : Int) = -1 := by omega
      rw [ei]
      gi_wp2
      go_end0
      exact ⟨⟨_, rfl⟩, hJj⟩

/-- Behind a round. -/
def postB (I : Nat → World → Prop) (j : Nat) (W : World) : Exit → Act → World → Prop
  | .normal, _, W3 => KeepsLo W W3 ∧ I j W3
  | _, _, _ => False

theorem range_back {g : Operand} {ps : Array Tmp} {assign body : Code} {Q : Exit → Act → World → Prop} {a : Act} {w : World} (n : Nat) (hn : 2 ≤ n) (Bn : Nat) (oa : Option Addr) (oc : Nat) (xs : List Int) (hl : xs.length ≤ 1000000)
    (hg : a.eval g = .func (.func 44) #[] #[.pointer (some ⟨Bn, 0, none⟩)]) (hps : ps.size = 2)
    (I : Nat → World → Prop) (hIr : ∀ j W, I j W → W.cell? ⟨Bn, 0, none⟩ = some (.slice oa xs.length oc) ∧ IRow W oa xs) (hI : ∀ j W W', I j W → KeepsCM W W' → Below w.heap.size W W' → I j W') (h0 : I 0 w) (a₁ : Nat → Int → Act)
    (hassign : ∀ (l i : Nat) (x : Int) (W : World) (K : Act → World → Prop), K (a₁ i x) W →
      assign.wpIn (Fence.wide.inRound l) (n - 1 - 1) Tryd.prog (Exit.then K (fun _ _ _ => False)) { tmps := (ps.zip #[Value.int .i64 (i : Int), Value.int .i64 x]).foldl (fun t (p, v) => t.setIfInBounds p v) a.tmps, defers := [] } W)
    (hbody : ∀ (l j i : Nat) (x : Int) (W : World), I j W → j + i + 1 = xs.length → xs[i]? = some x → body.wpIn (Fence.wide.inRound l) (n - 1 - 1) Tryd.prog (postB I (j + 1) W) (a₁ i x) W)
    (hdone : ∀ (D : Nat) (W : World), w.heap.size ≤ D → I xs.length W → W.heap[D]? = some (.deferred (some [])) → Q .normal { a with defers := { target := .collected D, args := #[] } :: a.defers } W) :
    (Code.rangeFunc g ps assign body).wpIn Fence.wide n Tryd.prog Q a w := by
  refine RangeOwn.enter rfl (by omega) hg trivial (enters_of Tryd.func44 (by kernel_rfl) rfl) ?_
  intro fn hfn
  have hL1 : ((w.alloc (.deferred (some []))).alloc (.loop (RangeOwn.recOf fn a ps assign body w.heap.size))).heap[w.heap.size + 1]? = some (.loop (RangeOwn.recOf fn a ps assign body w.heap.size)) := by
    have := World.alloc_heap_new (w.alloc (.deferred (some []))) (.loop (RangeOwn.recOf fn a ps assign body w.heap.size))
    rwa [World.size_alloc] at this
  have hK1 : ((w.alloc (.deferred (some []))).alloc (.loop (RangeOwn.recOf fn a ps assign body w.heap.size))).heap[w.heap.size]? = some (.deferred (some [])) :=
    (Below.heap_alloc _ _ _ (by simp)).trans (World.alloc_heap_new w _)
  have hCM1 : KeepsCM w ((w.alloc (.deferred (some []))).alloc (.loop (RangeOwn.recOf fn a ps assign body w.heap.size))) := (KeepsCM.alloc w _).trans (KeepsCM.alloc _ _)
  have hB1 : Below w.heap.size w ((w.alloc (.deferred (some []))).alloc (.loop (RangeOwn.recOf fn a ps assign body w.heap.size))) := ((Below.refl _ _).alloc (Nat.le_refl _) _).alloc (by simp) _
  have hI1 := hI _ _ _ h0 hCM1 hB1
  have hputB : ∀ (W : World) (o x : Obj), w.heap.size + 1 < W.heap.size → W.heap[w.heap.size + 1]? = some x → Below w.heap.size W (W.putObj (w.heap.size + 1) o) := fun W o x hlt hx =>
    (Below.refl w.heap.size W).grown (grownBy_putObj' W (w.heap.size + 1) o) (by omega) (fun k e => by cases e; omega)
  refine (back1_in (n - 1) (by omega) (w.heap.size + 1) Bn oa oc xs hl
    (fun j W => I j W ∧ W.heap[w.heap.size + 1]? = some (.loop (RangeOwn.recOf fn a ps assign body w.heap.size)) ∧ W.heap[w.heap.size]? = some (.deferred (some [])))
    (fun j W h => hIr j W h.1) ?_ _ ⟨hI1, hL1, hK1⟩).mono ?_
  · rintro j i x W ⟨hi, hl, hk⟩ hji hx
    have hlt : w.heap.size + 1 < W.heap.size := (Array.getElem?_eq_some_iff.1 hl).1
    refine RangeOwn.round hl (by show 2 = ps.size; omega) hfn (hassign _ i x W _ ⟨_, hl, rfl, ?_⟩)
    have hl2 : (W.putObj (w.heap.size + 1) (.loop { RangeOwn.recOf fn a ps assign body w.heap.size with state := .busy })).heap[w.heap.size + 1]? = some (.loop { RangeOwn.recOf fn a ps assign body w.heap.size with state := .busy }) := World.putObj_heap_same hlt
    have hk2 : (W.putObj (w.heap.size + 1) (.loop { RangeOwn.recOf fn a ps assign body w.heap.size with state := .busy })).heap[w.heap.size]? = some (.deferred (some [])) := (World.putObj_heap_other (by omega)).trans hk
    have hBp := hputB W (.loop { RangeOwn.recOf fn a ps assign body w.heap.size with state := .busy }) _ hlt hl
    refine wpIn_mono (hbody _ j i x _ (hI _ _ _ hi (KeepsCM.put hl rfl _) hBp) hji hx) ?_
    rintro e a3 W3 hp
    cases e with
    | normal =>
      obtain ⟨hk3, hi3⟩ := hp
      have hl3 := hk3.same _ _ hl2 rfl
      have hd3 := hk3.same _ _ hk2 rfl
      have hlt3 := (Array.getElem?_eq_some_iff.1 hl3).1
      have hBq := hputB W3 (.loop (RangeOwn.recOf fn a ps assign body w.heap.size)) _ hlt3 hl3
      exact RangeOwn.goes_on hl3 ⟨rfl, hI _ _ _ hi3 (KeepsCM.put hl3 rfl _) hBq, World.putObj_heap_same hlt3, (World.putObj_heap_other (by omega)).trans hd3⟩
    | ret => exact hp.elim
    | exit id => exact hp.elim
    | goto t => exact hp.elim
    | panic ch => exact hp.elim
    | outgrown => exact hp.elim
  · rintro e W2 ⟨⟨v, rfl⟩, hi, hl, hk⟩
    have hlt := (Array.getElem?_eq_some_iff.1 hl).1
    exact RangeOwn.ran_out hl rfl rfl (hdone _ _ (Nat.le_refl _) (hI _ _ _ hi (KeepsCM.put hl rfl _) (hputB W2 _ _ hlt hl)) ((World.putObj_heap_other (by omega)).trans hk))

end Go.Proofs.YtgllcbajgndldaaDoor.GraphBack
