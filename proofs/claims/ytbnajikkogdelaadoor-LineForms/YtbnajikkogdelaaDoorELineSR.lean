/-
  Texts that stand together: LineSR.
-/
import Derived.Test.YtbnajikkogdelaaDoorEagWordsWLines
namespace Go.Proofs.YtbnajikkogdelaaDoor.LineRg
open Go.RowKit Go.Proofs.YtbnajikkogdelaaDoor.WordsMath Go.Proofs.YtbnajikkogdelaaDoor.WordsOne Go.Proofs.YtbnajikkogdelaaDoor.WordsBytes Go.Proofs.YtbnajikkogdelaaDoor.WordsCutM Go.Proofs.YtbnajikkogdelaaDoor.WordsSLines
set_option linter.unusedVariables false

/-- All that was there lies as it did, but for what lies from lo to hi. -/
structure Out (lo hi : Nat) (W W' : World) : Prop where
  os : W'.os = W.os
  tape : W'.tape = W.tape
  output : W'.output = W.output
  size : W.heap.size ≤ W'.heap.size
  block : ∀ k, k < W.heap.size → ¬ (lo ≤ k ∧ k < hi) → W'.heap[k]? = W.heap[k]?

theorem Out.refl (lo hi : Nat) (W : World) : Out lo hi W W := ⟨rfl, rfl, rfl, Nat.le_refl _, fun _ _ _ => rfl⟩
theorem Out.trans {lo hi : Nat} {a b c : World} (h : Out lo hi a b) (k : Out lo hi b c) : Out lo hi a c :=
  ⟨k.os.trans h.os, k.tape.trans h.tape, k.output.trans h.output, Nat.le_trans h.size k.size, fun i hi hn => (k.block i (Nat.lt_of_lt_of_le hi h.size) hn).trans (h.block i hi hn)⟩
theorem Out.wide {lo hi lo' hi' : Nat} {a b : World} (h : Out lo hi a b) (h1 : lo' ≤ lo) (h2 : hi ≤ hi') : Out lo' hi' a b :=
  ⟨h.os, h.tape, h.output, h.size, fun i hi hn => h.block i hi (fun e => hn ⟨by omega, by omega⟩)⟩
theorem Out.of_below {lo hi : Nat} {W W' : World} (h : Below W.heap.size W W') : Out lo hi W W' := ⟨h.os, h.tape, h.output, h.size, fun k hk _ => h.block k hk⟩
theorem Out.alloc (lo hi : Nat) (W : World) (o : Obj) : Out lo hi W (W.alloc o) := .of_below ((Below.refl _ _).alloc (Nat.le_refl _) _)
theorem Out.drew (lo hi : Nat) (W : World) : Out lo hi W W.drew := ⟨rfl, rfl, rfl, Nat.le_refl W.heap.size, fun _ _ _ => rfl⟩
theorem Out.setCell {lo hi : Nat} (W : World) {p : Addr} (h1 : lo ≤ p.block) (h2 : p.block < hi) (v : Value) : Out lo hi W (W.setCell p v) :=
  ⟨rfl, rfl, rfl, by simp [World.setCell], fun k _ hn => Below.heap_setCell _ _ _ _ (fun e => hn ⟨by omega, by omega⟩)⟩
theorem Out.putObj {lo hi l : Nat} (W : World) {o : Obj} (o' : Obj) (hl : W.heap[l]? = some o) (h1 : lo ≤ l) (h2 : l < hi) : Out lo hi W (W.putObj l o') := by
  have hg := grownBy_putObj' W l o'
  exact ⟨hg.os, hg.tape, hg.output, hg.size, fun k hk hn => hg.block k hk (fun e => hn (by cases e; exact ⟨h1, h2⟩))⟩
theorem Out.below {lo hi B : Nat} {W W' : World} (h : Out lo hi W W') (hB : B ≤ lo) (hW : B ≤ W.heap.size) : Below B W W' := ⟨h.os, h.tape, h.output, h.size, fun k hk => h.block k (by omega) (fun e => by omega)⟩

/-- What lies from lo to hi lies as it did. -/
def Mid (lo hi : Nat) (W W' : World) : Prop := W.heap.size ≤ W'.heap.size ∧ ∀ k, lo ≤ k → k < hi → W'.heap[k]? = W.heap[k]?
theorem Mid.box {lo hi b : Nat} {W W' : World} {t : TypeId} {v : Value} (h : Mid lo hi W W') (hb : Boxed W b t v) (h1 : lo ≤ b) (h2 : b < hi) : Boxed W' b t v := (h.2 b h1 h2).trans hb

/-- How the body of a round may be left. -/
def postM (B b0 : Nat) (I : List UInt8 → World → Prop) (Ix : Code → World → Prop) (r : List UInt8) (W : World) : Exit → Act → World → Prop
  | .normal, _, W' => Mid B (B + 2) W W' ∧ Boxed W' b0 9 (.string ⟨r.toArray⟩) ∧ I r W'
  | .ret, _, W' => Mid B (B + 2) W W' ∧ Ix .ret W'
  | .exit id, _, W' => Mid B (B + 2) W W' ∧ Ix (.exit id) W'
  | .goto t, _, W' => Mid B (B + 2) W W' ∧ Ix (.goto t) W'
  | .panic _, _, _ => False
  | .outgrown, _, _ => False

theorem putBox {w : World} {b l : Nat} {v : Value} {o : Obj} (o' : Obj) (h : Boxed w b 9 v) (hl : w.heap[l]? = some o) (ho : o.isCells = false) : Boxed (w.putObj l o') b 9 v := by
  refine h.kept (grownBy_putObj' w l o') ?_
  intro e
  cases e
  have h3 : w.heap[b]? = _ := h
  rw [h3] at hl
  cases hl
  cases ho

theorem range_slinesM {g : Operand} {ps : Array Tmp} {assign body : Code} {Q : Exit → Act → World → Prop} {a : Act} {w : World} (n : Nat) (hn : 2 ≤ n) (b0 : Nat) (s : List UInt8) (hm : s.length ≤ 1048576)
    (hg : a.eval g = .func (.func 76) #[] #[.pointer (some ⟨b0, 0, none⟩)]) (hT : Boxed w b0 9 (.string ⟨s.toArray⟩)) (hps : ps.size = 1)
    (I : List UInt8 → World → Prop) (Ix : Code → World → Prop) (hI : ∀ r W W', I r W → Out w.heap.size (w.heap.size + 2) W W' → I r W') (hIx : ∀ c W W', Ix c W → Out w.heap.size (w.heap.size + 2) W W' → Ix c W') (h0 : I s w)
    (hset : ∀ r W v, I r W → I r (W.setCell ⟨b0, 0, none⟩ v)) (hb0 : b0 < w.heap.size)
    (a₁ : List UInt8 → Act)
    (hassign : ∀ (l : Nat) (x : List UInt8) (W : World) (K : Act → World → Prop), K (a₁ x) W →
      assign.wpIn (Fence.wide.inRound l) (n - 1 - 1) Tryd.prog (Exit.then K (fun _ _ _ => False)) { tmps := (ps.zip #[Value.string ⟨x.toArray⟩]).foldl (fun t (p, v) => t.setIfInBounds p v) a.tmps, defers := [] } W)
    (hbody : ∀ (l : Nat) (r : List UInt8) (W : World), r ≠ [] → w.heap.size + 2 ≤ W.heap.size → Boxed W b0 9 (.string ⟨(lineOf r).2.toArray⟩) → I r W → body.wpIn (Fence.wide.inRound l) (n - 1 - 1) Tryd.prog (postM w.heap.size b0 I Ix (lineOf r).2 W) (a₁ (lineOf r).1) W)
    (hdone : ∀ (W : World), w.heap.size + 2 ≤ W.heap.size → I [] W → W.heap[w.heap.size]? = some (.deferred (some [])) → Q .normal { a with defers := { target := .collected w.heap.size, args := #[] } :: a.defers } W)
    (hstop : ∀ (c : Code) (W : World), w.heap.size + 2 ≤ W.heap.size → Ix c W → W.heap[w.heap.size]? = some (.deferred (some [])) → c.wpIn Fence.wide n Tryd.prog Q { a with defers := { target := .collected w.heap.size, args := #[] } :: a.defers } W) :
    (Code.rangeFunc g ps assign body).wpIn Fence.wide n Tryd.prog Q a w := by
  refine RangeOwn.enter rfl (by omega) hg trivial (enters_of Tryd.func76 (by kernel_rfl) rfl) ?_
  intro fn hfn
  have hL1 : ((w.alloc (.deferred (some []))).alloc (.loop (RangeOwn.recOf fn a ps assign body w.heap.size))).heap[w.heap.size + 1]? = some (.loop (RangeOwn.recOf fn a ps assign body w.heap.size)) := by
    have := World.alloc_heap_new (w.alloc (.deferred (some []))) (.loop (RangeOwn.recOf fn a ps assign body w.heap.size))
    rwa [World.size_alloc] at this
  have hK1 : ((w.alloc (.deferred (some []))).alloc (.loop (RangeOwn.recOf fn a ps assign body w.heap.size))).heap[w.heap.size]? = some (.deferred (some [])) :=
    (Below.heap_alloc _ _ _ (by simp)).trans (World.alloc_heap_new w _)
  have hI1 := hI _ _ _ h0 ((Out.alloc _ _ w (.deferred (some []))).trans (Out.alloc _ _ _ (.loop (RangeOwn.recOf fn a ps assign body w.heap.size))))
  have hT1 := (hT.alloc (.deferred (some []))).alloc (.loop (RangeOwn.recOf fn a ps assign body w.heap.size))
  refine (slines1_in (n - 1) (by omega) (w.heap.size + 1) b0
    (fun r W => I r W ∧ W.heap[w.heap.size + 1]? = some (.loop (RangeOwn.recOf fn a ps assign body w.heap.size)) ∧ W.heap[w.heap.size]? = some (.deferred (some [])))
    (fun _ W => ∃ c, Ix c W ∧ W.heap[w.heap.size + 1]? = some (.loop { RangeOwn.recOf fn a ps assign body w.heap.size with state := .done, pending := some c }) ∧ W.heap[w.heap.size]? = some (.deferred (some [])))
    (fun r W h => ⟨hI _ _ _ h.1 (Out.drew _ _ W), h.2⟩) (fun r W v h => ⟨hset r W v h.1, (Below.heap_setCell _ _ _ _ (by show _ ≠ b0; omega)).trans h.2.1, (Below.heap_setCell _ _ _ _ (by show _ ≠ b0; omega)).trans h.2.2⟩) ?_ s _ hT1 hm ⟨hI1, hL1, hK1⟩).mono ?_
  · rintro r W hr hT2 ⟨hi, hl, hk⟩
    have hlt : w.heap.size + 1 < W.heap.size := (Array.getElem?_eq_some_iff.1 hl).1
    refine RangeOwn.round hl (by show 1 = ps.size; omega) hfn (hassign _ _ W _ ⟨_, hl, rfl, ?_⟩)
    have hl2 : (W.putObj (w.heap.size + 1) (.loop { RangeOwn.recOf fn a ps assign body w.heap.size with state := .busy })).heap[w.heap.size + 1]? = some (.loop { RangeOwn.recOf fn a ps assign body w.heap.size with state := .busy }) := World.putObj_heap_same hlt
    have hk2 : (W.putObj (w.heap.size + 1) (.loop { RangeOwn.recOf fn a ps assign body w.heap.size with state := .busy })).heap[w.heap.size]? = some (.deferred (some [])) := (World.putObj_heap_other (by omega)).trans hk
    refine wpIn_mono (hbody _ r _ hr (by simp [World.putObj]; omega) (putBox _ hT2 hl rfl) (hI _ _ _ hi (Out.putObj W _ hl (by omega) (by omega)))) ?_
    have fin : ∀ (o : Obj) (W3 : World), Mid w.heap.size (w.heap.size + 2) (W.putObj (w.heap.size + 1) (.loop { RangeOwn.recOf fn a ps assign body w.heap.size with state := .busy })) W3 →
        W3.heap[w.heap.size + 1]? = some (.loop { RangeOwn.recOf fn a ps assign body w.heap.size with state := .busy }) ∧ (W3.putObj (w.heap.size + 1) o).heap[w.heap.size + 1]? = some o ∧ (W3.putObj (w.heap.size + 1) o).heap[w.heap.size]? = some (.deferred (some [])) := fun o W3 hk3 => by
      have hl3 := (hk3.2 (w.heap.size + 1) (by omega) (by omega)).trans hl2
      exact ⟨hl3, World.putObj_heap_same (Array.getElem?_eq_some_iff.1 hl3).1, (World.putObj_heap_other (by omega)).trans ((hk3.2 _ (Nat.le_refl _) (by omega)).trans hk2)⟩
    rintro e a3 W3 hp
    cases e with
    | normal =>
      obtain ⟨hk3, hT3, hi3⟩ := hp
      obtain ⟨hl3, hl4, hk4⟩ := fin (.loop (RangeOwn.recOf fn a ps assign body w.heap.size)) W3 hk3
      exact RangeOwn.goes_on hl3 (.inl ⟨rfl, ⟨hI _ _ _ hi3 (Out.putObj W3 _ hl3 (by omega) (by omega)), hl4, hk4⟩, putBox _ hT3 hl3 rfl⟩)
    | ret =>
      obtain ⟨hk3, hi3⟩ := hp
      obtain ⟨hl3, hl4, hk4⟩ := fin (.loop { RangeOwn.recOf fn a ps assign body w.heap.size with state := .done, pending := some .ret }) W3 hk3
      exact ⟨_, _, run_endRound (some .ret) hl3, .inr ⟨rfl, .ret, hIx _ _ _ hi3 (Out.putObj W3 _ hl3 (by omega) (by omega)), hl4, hk4⟩⟩
    | exit id =>
      obtain ⟨hk3, hi3⟩ := hp
      obtain ⟨hl3, hl4, hk4⟩ := fin (.loop { RangeOwn.recOf fn a ps assign body w.heap.size with state := .done, pending := some (.exit id) }) W3 hk3
      exact ⟨_, _, run_endRound (some (.exit id)) hl3, .inr ⟨rfl, .exit id, hIx _ _ _ hi3 (Out.putObj W3 _ hl3 (by omega) (by omega)), hl4, hk4⟩⟩
    | goto t =>
      obtain ⟨hk3, hi3⟩ := hp
      obtain ⟨hl3, hl4, hk4⟩ := fin (.loop { RangeOwn.recOf fn a ps assign body w.heap.size with state := .done, pending := some (.goto t) }) W3 hk3
      exact ⟨_, _, run_endRound (some (.goto t)) hl3, .inr ⟨rfl, .goto t, hIx _ _ _ hi3 (Out.putObj W3 _ hl3 (by omega) (by omega)), hl4, hk4⟩⟩
    | panic ch => exact hp.elim
    | outgrown => exact hp.elim
  · rintro e W2 ⟨⟨v, rfl⟩, (⟨⟨hi, hl, hk⟩, _⟩ | ⟨_, c, hi, hl, hk⟩)⟩
    · exact RangeOwn.ran_out hl rfl rfl (hdone _ (by have := (Array.getElem?_eq_some_iff.1 hl).1; simp [World.putObj]; omega) (hI _ _ _ hi (Out.putObj W2 _ hl (by omega) (by omega))) ((World.putObj_heap_other (by omega)).trans hk))
    · exact RangeOwn.was_left (c := c) hl rfl rfl (hstop c _ (by have := (Array.getElem?_eq_some_iff.1 hl).1; simp [World.putObj]; omega) (hIx _ _ _ hi (Out.putObj W2 _ hl (by omega) (by omega))) ((World.putObj_heap_other (by omega)).trans hk))

/-- How a function with one loop over a sequence leaves. -/
theorem leaves_one {F : Fence} {n : Nat} {P : Program} {fn : Func} {tmps : Array Value} {R : Ending → World → Prop} {D : Nat} {W : World} (hD : W.heap[D]? = some (.deferred (some []))) (h : LeavesInM F n P fn tmps R [] .returning (W.putObj D (.deferred none))) : LeavesInM F n P fn tmps R [{ target := .collected D, args := #[] }] .returning W :=
  ⟨by simp, .inl ⟨D, _, rfl, run_takeDeferred hD, h⟩⟩

end Go.Proofs.YtbnajikkogdelaaDoor.LineRg
