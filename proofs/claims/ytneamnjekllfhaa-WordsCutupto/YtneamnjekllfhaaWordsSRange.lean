/-
  A loop over the library's sequence of lines.
-/
import Derived.Test.YtneamnjekllfhaaWordsWLines
import Derived.Test.YtneamnjekllfhaaWordsMarks
namespace Go.Proofs.Ytneamnjekllfhaa.WordsSLines
open Go.RowKit Go.Proofs.Ytneamnjekllfhaa.WordsMath Go.Proofs.Ytneamnjekllfhaa.WordsOne Go.Proofs.Ytneamnjekllfhaa.WordsBytes Go.Proofs.Ytneamnjekllfhaa.WordsCutM
set_option linter.unusedVariables false

/-- How the body of a round may be left. -/
def postS (B b0 : Nat) (I : List UInt8 → World → Prop) (Ix : Code → World → Prop) (r : List UInt8) (W : World) : Exit → Act → World → Prop
  | .normal, _, W' => KeepsFrom B W W' ∧ Boxed W' b0 9 (.string ⟨r.toArray⟩) ∧ I r W'
  | .ret, _, W' => KeepsFrom B W W' ∧ Ix .ret W'
  | .exit id, _, W' => KeepsFrom B W W' ∧ Ix (.exit id) W'
  | .goto t, _, W' => KeepsFrom B W W' ∧ Ix (.goto t) W'
  | .panic _, _, _ => False
  | .outgrown, _, _ => False

theorem putBox {w : World} {b l : Nat} {v : Value} {o : Obj} (o' : Obj) (h : Boxed w b 9 v) (hl : w.heap[l]? = some o) (ho : o.isCells = false) : Boxed (w.putObj l o') b 9 v := by
  refine h.kept (grownBy_putObj' w l o') ?_
  intro e
  cases e
  have h3 : w.heap[b]? = _ := h
  rw [h3] at hl
  cases hl
  cases ho

theorem range_slines {g : Operand} {ps : Array Tmp} {assign body : Code} {Q : Exit → Act → World → Prop} {a : Act} {w : World} (n : Nat) (hn : 2 ≤ n) (b0 : Nat) (s : List UInt8) (hm : s.length ≤ 1048576)
    (hg : a.eval g = .func (.func 10) #[] #[.pointer (some ⟨b0, 0, none⟩)]) (hT : Boxed w b0 9 (.string ⟨s.toArray⟩)) (hps : ps.size = 1)
    (I : List UInt8 → World → Prop) (Ix : Code → World → Prop) (hI : OwnFrom w.heap.size I) (hIx : ∀ c, OwnFrom w.heap.size (fun (_ : Unit) W => Ix c W)) (h0 : I s w)
    (hdrew : ∀ r W, I r W → I r W.drew) (hset : ∀ r W v, I r W → I r (W.setCell ⟨b0, 0, none⟩ v)) (hb0 : b0 < w.heap.size)
    (a₁ : List UInt8 → Act)
    (hassign : ∀ (l : Nat) (x : List UInt8) (W : World) (K : Act → World → Prop), K (a₁ x) W →
      assign.wpIn (Fence.wide.inRound l) (n - 1 - 1) Try.prog (Exit.then K (fun _ _ _ => False)) { tmps := (ps.zip #[Value.string ⟨x.toArray⟩]).foldl (fun t (p, v) => t.setIfInBounds p v) a.tmps, defers := [] } W)
    (hbody : ∀ (l : Nat) (r : List UInt8) (W : World), r ≠ [] → Boxed W b0 9 (.string ⟨(lineOf r).2.toArray⟩) → I r W → body.wpIn (Fence.wide.inRound l) (n - 1 - 1) Try.prog (postS w.heap.size b0 I Ix (lineOf r).2 W) (a₁ (lineOf r).1) W)
    (hdone : ∀ (D : Nat) (W : World), w.heap.size ≤ D → I [] W → W.heap[D]? = some (.deferred (some [])) → Q .normal { a with defers := { target := .collected D, args := #[] } :: a.defers } W)
    (hstop : ∀ (D : Nat) (c : Code) (W : World), w.heap.size ≤ D → Ix c W → W.heap[D]? = some (.deferred (some [])) → c.wpIn Fence.wide n Try.prog Q { a with defers := { target := .collected D, args := #[] } :: a.defers } W) :
    (Code.rangeFunc g ps assign body).wpIn Fence.wide n Try.prog Q a w := by
  refine RangeOwn.enter rfl (by omega) hg trivial (enters_of Try.func10 (by kernel_rfl) rfl) ?_
  intro fn hfn
  have hL1 : ((w.alloc (.deferred (some []))).alloc (.loop (RangeOwn.recOf fn a ps assign body w.heap.size))).heap[w.heap.size + 1]? = some (.loop (RangeOwn.recOf fn a ps assign body w.heap.size)) := by
    have := World.alloc_heap_new (w.alloc (.deferred (some []))) (.loop (RangeOwn.recOf fn a ps assign body w.heap.size))
    rwa [World.size_alloc] at this
  have hK1 : ((w.alloc (.deferred (some []))).alloc (.loop (RangeOwn.recOf fn a ps assign body w.heap.size))).heap[w.heap.size]? = some (.deferred (some [])) :=
    (Below.heap_alloc _ _ _ (by simp)).trans (World.alloc_heap_new w _)
  have hI1 := hI.alloc (.loop (RangeOwn.recOf fn a ps assign body w.heap.size)) (hI.alloc (.deferred (some [])) h0)
  have hT1 := (hT.alloc (.deferred (some []))).alloc (.loop (RangeOwn.recOf fn a ps assign body w.heap.size))
  refine (slines1_in (n - 1) (by omega) (w.heap.size + 1) b0
    (fun r W => I r W ∧ W.heap[w.heap.size + 1]? = some (.loop (RangeOwn.recOf fn a ps assign body w.heap.size)) ∧ W.heap[w.heap.size]? = some (.deferred (some [])))
    (fun _ W => ∃ c, Ix c W ∧ W.heap[w.heap.size + 1]? = some (.loop { RangeOwn.recOf fn a ps assign body w.heap.size with state := .done, pending := some c }) ∧ W.heap[w.heap.size]? = some (.deferred (some [])))
    (fun r W h => ⟨hdrew r W h.1, h.2⟩) (fun r W v h => ⟨hset r W v h.1, (Below.heap_setCell _ _ _ _ (by show _ ≠ b0; omega)).trans h.2.1, (Below.heap_setCell _ _ _ _ (by show _ ≠ b0; omega)).trans h.2.2⟩) ?_ s _ hT1 hm ⟨hI1, hL1, hK1⟩).mono ?_
  · rintro r W hr hT2 ⟨hi, hl, hk⟩
    have hlt : w.heap.size + 1 < W.heap.size := (Array.getElem?_eq_some_iff.1 hl).1
    refine RangeOwn.round hl (by show 1 = ps.size; omega) hfn (hassign _ _ W _ ⟨_, hl, rfl, ?_⟩)
    have hl2 : (W.putObj (w.heap.size + 1) (.loop { RangeOwn.recOf fn a ps assign body w.heap.size with state := .busy })).heap[w.heap.size + 1]? = some (.loop { RangeOwn.recOf fn a ps assign body w.heap.size with state := .busy }) := World.putObj_heap_same hlt
    have hk2 : (W.putObj (w.heap.size + 1) (.loop { RangeOwn.recOf fn a ps assign body w.heap.size with state := .busy })).heap[w.heap.size]? = some (.deferred (some [])) := (World.putObj_heap_other (by omega)).trans hk
    refine wpIn_mono (hbody _ r _ hr (putBox _ hT2 hl rfl) (hI.putObj _ hi (by omega) hl rfl)) ?_
    have fin : ∀ (o : Obj) (W3 : World), KeepsFrom w.heap.size (W.putObj (w.heap.size + 1) (.loop { RangeOwn.recOf fn a ps assign body w.heap.size with state := .busy })) W3 →
        W3.heap[w.heap.size + 1]? = some (.loop { RangeOwn.recOf fn a ps assign body w.heap.size with state := .busy }) ∧ (W3.putObj (w.heap.size + 1) o).heap[w.heap.size + 1]? = some o ∧ (W3.putObj (w.heap.size + 1) o).heap[w.heap.size]? = some (.deferred (some [])) := fun o W3 hk3 => by
      have hl3 := hk3.same _ _ (by omega) hl2 rfl
      exact ⟨hl3, World.putObj_heap_same (Array.getElem?_eq_some_iff.1 hl3).1, (World.putObj_heap_other (by omega)).trans (hk3.same _ _ (Nat.le_refl _) hk2 rfl)⟩
    rintro e a3 W3 hp
    cases e with
    | normal =>
      obtain ⟨hk3, hT3, hi3⟩ := hp
      obtain ⟨hl3, hl4, hk4⟩ := fin (.loop (RangeOwn.recOf fn a ps assign body w.heap.size)) W3 hk3
      exact RangeOwn.goes_on hl3 (.inl ⟨rfl, ⟨hI.putObj _ hi3 (by omega) hl3 rfl, hl4, hk4⟩, putBox _ hT3 hl3 rfl⟩)
    | ret =>
      obtain ⟨hk3, hi3⟩ := hp
      obtain ⟨hl3, hl4, hk4⟩ := fin (.loop { RangeOwn.recOf fn a ps assign body w.heap.size with state := .done, pending := some .ret }) W3 hk3
      exact ⟨_, _, run_endRound (some .ret) hl3, .inr ⟨rfl, .ret, (hIx _).putObj (s := ()) _ hi3 (by omega) hl3 rfl, hl4, hk4⟩⟩
    | exit id =>
      obtain ⟨hk3, hi3⟩ := hp
      obtain ⟨hl3, hl4, hk4⟩ := fin (.loop { RangeOwn.recOf fn a ps assign body w.heap.size with state := .done, pending := some (.exit id) }) W3 hk3
      exact ⟨_, _, run_endRound (some (.exit id)) hl3, .inr ⟨rfl, .exit id, (hIx _).putObj (s := ()) _ hi3 (by omega) hl3 rfl, hl4, hk4⟩⟩
    | goto t =>
      obtain ⟨hk3, hi3⟩ := hp
      obtain ⟨hl3, hl4, hk4⟩ := fin (.loop { RangeOwn.recOf fn a ps assign body w.heap.size with state := .done, pending := some (.goto t) }) W3 hk3
      exact ⟨_, _, run_endRound (some (.goto t)) hl3, .inr ⟨rfl, .goto t, (hIx _).putObj (s := ()) _ hi3 (by omega) hl3 rfl, hl4, hk4⟩⟩
    | panic ch => exact hp.elim
    | outgrown => exact hp.elim
  · rintro e W2 ⟨⟨v, rfl⟩, (⟨⟨hi, hl, hk⟩, _⟩ | ⟨_, c, hi, hl, hk⟩)⟩
    · exact RangeOwn.ran_out hl rfl rfl (hdone _ _ (Nat.le_refl _) (hI.putObj _ hi (by omega) hl rfl) ((World.putObj_heap_other (by omega)).trans hk))
    · exact RangeOwn.was_left (c := c) hl rfl rfl (hstop _ c _ (Nat.le_refl _) ((hIx c).putObj (s := ()) _ hi (by omega) hl rfl) ((World.putObj_heap_other (by omega)).trans hk))

end Go.Proofs.Ytneamnjekllfhaa.WordsSLines
