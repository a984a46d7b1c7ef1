/-
  Texts that stand together: LineWR.
-/
import Derived.Test.YtbnajikkogdelaaDoorELineLn
namespace Go.Proofs.YtbnajikkogdelaaDoor.LineRg
open Go.RowKit Go.Proofs.YtbnajikkogdelaaDoor.WordsMath Go.Proofs.YtbnajikkogdelaaDoor.WordsOne Go.Proofs.YtbnajikkogdelaaDoor.WordsBytes Go.Proofs.YtbnajikkogdelaaDoor.WordsCutM Go.Proofs.YtbnajikkogdelaaDoor.WordsMarks Go.Proofs.YtbnajikkogdelaaDoor.WordsSLines
set_option linter.unusedVariables false

/-- How the body of a round may be left. -/
def postW (B : Nat) (I : Nat → World → Prop) (X : Code → World → Prop) (k : Nat) (W : World) : Exit → Act → World → Prop
  | .normal, _, W' => Mid B (B + 7) W W' ∧ I k W'
  | .ret, _, W' => Mid B (B + 7) W W' ∧ X .ret W'
  | .exit id, _, W' => Mid B (B + 7) W W' ∧ X (.exit id) W'
  | .goto t, _, W' => Mid B (B + 7) W W' ∧ X (.goto t) W'
  | .panic _, _, _ => False
  | .outgrown, _, _ => False

theorem size_put {W : World} {l : Nat} {o' : Obj} : (W.putObj l o').heap.size = W.heap.size := by simp [World.putObj]

theorem range_wlinesM {g : Operand} {ps : Array Tmp} {assign body : Code} {Q : Exit → Act → World → Prop} {a : Act} {w : World} (bs : Nat) (s : List UInt8) (hm : s.length ≤ 1048576)
    (hg : a.eval g = .func (.func 63) #[] #[.pointer (some ⟨bs, 0, none⟩)]) (hT : Boxed w bs 9 (.string ⟨s.toArray⟩)) (hps : ps.size = 2)
    (I : Nat → World → Prop) (X : Code → World → Prop) (hI : ∀ k W W', I k W → Out w.heap.size (w.heap.size + 7) W W' → I k W') (hX : ∀ c W W', X c W → Out w.heap.size (w.heap.size + 7) W W' → X c W') (h0 : I 0 w)
    (a₁ : Nat → List UInt8 → Act)
    (hassign : ∀ (l k : Nat) (x : List UInt8) (W : World) (K : Act → World → Prop), K (a₁ k x) W →
      assign.wpIn (Fence.wide.inRound l) 5 Tryd.prog (Exit.then K (fun _ _ _ => False)) { tmps := (ps.zip #[Value.int .i64 ((k : Int) + 1), Value.string ⟨x.toArray⟩]).foldl (fun t (p, v) => t.setIfInBounds p v) a.tmps, defers := [] } W)
    (hbody : ∀ (l k : Nat) (x : List UInt8) (W : World), (cutGo [] s)[k]? = some x → w.heap.size + 7 ≤ W.heap.size → I k W → body.wpIn (Fence.wide.inRound l) 5 Tryd.prog (postW w.heap.size I X (k + 1) W) (a₁ k x) W)
    (hdone : ∀ (W : World), w.heap.size + 2 ≤ W.heap.size → I (cutGo [] s).length W → W.heap[w.heap.size]? = some (.deferred (some [])) → Q .normal { a with defers := { target := .collected w.heap.size, args := #[] } :: a.defers } W)
    (hstop : ∀ (c : Code) (W : World), w.heap.size + 2 ≤ W.heap.size → X c W → W.heap[w.heap.size]? = some (.deferred (some [])) → c.wpIn Fence.wide 9 Tryd.prog Q { a with defers := { target := .collected w.heap.size, args := #[] } :: a.defers } W) :
    (Code.rangeFunc g ps assign body).wpIn Fence.wide 9 Tryd.prog Q a w := by
  refine RangeOwn.enter rfl (by omega) hg trivial (enters_of Tryd.func63 (by kernel_rfl) rfl) ?_
  intro fn hfn
  have hL1 : ((w.alloc (.deferred (some []))).alloc (.loop (RangeOwn.recOf fn a ps assign body w.heap.size))).heap[w.heap.size + 1]? = some (.loop (RangeOwn.recOf fn a ps assign body w.heap.size)) := by
    have := World.alloc_heap_new (w.alloc (.deferred (some []))) (.loop (RangeOwn.recOf fn a ps assign body w.heap.size))
    rwa [World.size_alloc] at this
  have hK1 : ((w.alloc (.deferred (some []))).alloc (.loop (RangeOwn.recOf fn a ps assign body w.heap.size))).heap[w.heap.size]? = some (.deferred (some [])) :=
    (Below.heap_alloc _ _ _ (by simp)).trans (World.alloc_heap_new w _)
  have hI1 := hI _ _ _ h0 ((Out.alloc _ _ w (.deferred (some []))).trans (Out.alloc _ _ _ (.loop (RangeOwn.recOf fn a ps assign body w.heap.size))))
  have hT1 := (hT.alloc (.deferred (some []))).alloc (.loop (RangeOwn.recOf fn a ps assign body w.heap.size))
  refine (wlines1_M (w.heap.size + 1) bs (w.heap.size + 2) s hm
    (fun k W => I k W ∧ W.heap[w.heap.size + 1]? = some (.loop (RangeOwn.recOf fn a ps assign body w.heap.size)) ∧ W.heap[w.heap.size]? = some (.deferred (some [])))
    (fun W => ∃ c, X c W ∧ W.heap[w.heap.size + 1]? = some (.loop { RangeOwn.recOf fn a ps assign body w.heap.size with state := .done, pending := some c }) ∧ W.heap[w.heap.size]? = some (.deferred (some [])))
    (fun k W W' h hb => ⟨hI _ _ _ h.1 (hb.wide (by omega) (by omega)), (hb.block _ (Array.getElem?_eq_some_iff.1 h.2.1).1 (by omega)).trans h.2.1, (hb.block _ (Array.getElem?_eq_some_iff.1 h.2.2).1 (by omega)).trans h.2.2⟩)
    (fun W W' h hb => by obtain ⟨c, h1, h2, h3⟩ := h; exact ⟨c, hX _ _ _ h1 (hb.wide (by omega) (by omega)), (hb.block _ (Array.getElem?_eq_some_iff.1 h2).1 (by omega)).trans h2, (hb.block _ (Array.getElem?_eq_some_iff.1 h3).1 (by omega)).trans h3⟩)
    ?_ _ (by simp) hT1 ⟨hI1, hL1, hK1⟩).mono ?_
  · rintro k x W hx hz ⟨hi, hl, hk⟩
    have hlt : w.heap.size + 1 < W.heap.size := (Array.getElem?_eq_some_iff.1 hl).1
    refine RangeOwn.round hl (by show 2 = ps.size; omega) hfn (hassign _ k x W _ ⟨_, hl, rfl, ?_⟩)
    have hl2 : (W.putObj (w.heap.size + 1) (.loop { RangeOwn.recOf fn a ps assign body w.heap.size with state := .busy })).heap[w.heap.size + 1]? = some (.loop { RangeOwn.recOf fn a ps assign body w.heap.size with state := .busy }) := World.putObj_heap_same hlt
    have hk2 : (W.putObj (w.heap.size + 1) (.loop { RangeOwn.recOf fn a ps assign body w.heap.size with state := .busy })).heap[w.heap.size]? = some (.deferred (some [])) := (World.putObj_heap_other (by omega)).trans hk
    refine wpIn_mono (hbody _ k x _ hx (by rw [size_put]; omega) (hI _ _ _ hi (Out.putObj W _ hl (by omega) (by omega)))) ?_
    have fin : ∀ (o : Obj) (W3 : World), Mid w.heap.size (w.heap.size + 7) (W.putObj (w.heap.size + 1) (.loop { RangeOwn.recOf fn a ps assign body w.heap.size with state := .busy })) W3 →
        W3.heap[w.heap.size + 1]? = some (.loop { RangeOwn.recOf fn a ps assign body w.heap.size with state := .busy }) ∧ (W3.putObj (w.heap.size + 1) o).heap[w.heap.size + 1]? = some o ∧ (W3.putObj (w.heap.size + 1) o).heap[w.heap.size]? = some (.deferred (some [])) ∧ Mid (w.heap.size + 2) (w.heap.size + 2 + 5) W (W3.putObj (w.heap.size + 1) o) := fun o W3 hF => by
      have hz3 := hF.1
      rw [size_put] at hz3
      have hl3 := (hF.2 (w.heap.size + 1) (by omega) (by omega)).trans hl2
      refine ⟨hl3, World.putObj_heap_same (Array.getElem?_eq_some_iff.1 hl3).1, (World.putObj_heap_other (by omega)).trans ((hF.2 _ (Nat.le_refl _) (by omega)).trans hk2), by rw [size_put]; exact hz3, fun i hi hil => ?_⟩
      exact (World.putObj_heap_other (by omega)).trans ((hF.2 i (by omega) (by omega)).trans (World.putObj_heap_other (by omega)))
    rintro e a3 W3 hp
    cases e with
    | normal =>
      obtain ⟨hF, hi3⟩ := hp
      obtain ⟨hl3, hl4, hk4, hf4⟩ := fin (.loop (RangeOwn.recOf fn a ps assign body w.heap.size)) W3 hF
      exact RangeOwn.goes_on hl3 ⟨hf4, .inl ⟨rfl, hI _ _ _ hi3 (Out.putObj W3 _ hl3 (by omega) (by omega)), hl4, hk4⟩⟩
    | ret =>
      obtain ⟨hF, hi3⟩ := hp
      obtain ⟨hl3, hl4, hk4, hf4⟩ := fin (.loop { RangeOwn.recOf fn a ps assign body w.heap.size with state := .done, pending := some .ret }) W3 hF
      exact ⟨_, _, run_endRound (some .ret) hl3, hf4, .inr ⟨rfl, .ret, hX _ _ _ hi3 (Out.putObj W3 _ hl3 (by omega) (by omega)), hl4, hk4⟩⟩
    | exit id =>
      obtain ⟨hF, hi3⟩ := hp
      obtain ⟨hl3, hl4, hk4, hf4⟩ := fin (.loop { RangeOwn.recOf fn a ps assign body w.heap.size with state := .done, pending := some (.exit id) }) W3 hF
      exact ⟨_, _, run_endRound (some (.exit id)) hl3, hf4, .inr ⟨rfl, .exit id, hX _ _ _ hi3 (Out.putObj W3 _ hl3 (by omega) (by omega)), hl4, hk4⟩⟩
    | goto t =>
      obtain ⟨hF, hi3⟩ := hp
      obtain ⟨hl3, hl4, hk4, hf4⟩ := fin (.loop { RangeOwn.recOf fn a ps assign body w.heap.size with state := .done, pending := some (.goto t) }) W3 hF
      exact ⟨_, _, run_endRound (some (.goto t)) hl3, hf4, .inr ⟨rfl, .goto t, hX _ _ _ hi3 (Out.putObj W3 _ hl3 (by omega) (by omega)), hl4, hk4⟩⟩
    | panic ch => exact hp.elim
    | outgrown => exact hp.elim
  · rintro e W2 ⟨⟨v, rfl⟩, (⟨hi, hl, hk⟩ | ⟨c, hi, hl, hk⟩)⟩
    · exact RangeOwn.ran_out hl rfl rfl (hdone _ (by have := (Array.getElem?_eq_some_iff.1 hl).1; rw [size_put]; omega) (hI _ _ _ hi (Out.putObj W2 _ hl (by omega) (by omega))) ((World.putObj_heap_other (by omega)).trans hk))
    · exact RangeOwn.was_left (c := c) hl rfl rfl (hstop c _ (by have := (Array.getElem?_eq_some_iff.1 hl).1; rw [size_put]; omega) (hX _ _ _ hi (Out.putObj W2 _ hl (by omega) (by omega))) ((World.putObj_heap_other (by omega)).trans hk))

end Go.Proofs.YtbnajikkogdelaaDoor.LineRg
