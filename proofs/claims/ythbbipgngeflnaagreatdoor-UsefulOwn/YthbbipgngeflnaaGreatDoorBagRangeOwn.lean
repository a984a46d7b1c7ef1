/-
  Texts that stand together: RangeOwn, UsefulRange.
-/
import Derived.RangeFuncBox
import Derived.RangeFuncNested
import Derived.Test.YthbbipgngeflnaaGreatDoorBUsefulEach
import Derived.Test.YthbbipgngeflnaaGreatDoorBGramBuild3
namespace Go.Proofs.YthbbipgngeflnaaGreatDoor.RangeOwn
open Go.RowKit
set_option linter.unusedVariables false

variable {F : Fence} {n : Nat} {P : Program}

/-- The record that the statement lays for its loop. -/
def recOf (fn : FuncId) (a : Act) (ps : Array Tmp) (assign body : Code) (D : Nat) : Loop :=
  { state := .ready, pending := none, fn := fn, tmps := a.tmps, params := ps, assign := assign, body := body, defers := D }

/-- THE STATEMENT: what is left to show is the iterator's own call, the record and the block for deferred calls lying behind all that lay there. -/
theorem enter {g : Operand} {ps : Array Tmp} {assign body : Code} {Q : Exit → Act → World → Prop} {a : Act} {w : World}
    (hro : F.round = none) (h1 : 1 ≤ n) {gf : Nat} {lb : Array Value} (hg : a.eval g = .func (.func gf) #[] lb) (hFg : F.fn gf) (eg : ∀ args w, (callFunc gf args).run P w = .ok (.enter gf args) w)
    (h : ∀ fn, F.fn fn → CallsIn F (n - 1) P gf (#[.func (.yield (w.heap.size + 1)) #[] #[]] ++ lb) ((w.alloc (.deferred (some []))).alloc (.loop (recOf fn a ps assign body w.heap.size)))
      (rangePost F n P (w.heap.size + 1) Q { a with defers := [{ target := .collected w.heap.size, args := #[] }] ++ a.defers })) :
    (Code.rangeFunc g ps assign body).wpIn F n P Q a w := by
  refine wpIn_rangeFunc ?_
  intro fn hfn
  have hc := h fn hfn
  have he : (Instr.enterLoop fn a.tmps ps assign body F.round).run P w = .ok (w.heap.size + 1, [{ target := .collected w.heap.size, args := #[] }]) ((w.alloc (.deferred (some []))).alloc (.loop (recOf fn a ps assign body w.heap.size))) := by
    rw [hro]
    exact run_enterLoop_outer _ _ _ _ _
  generalize (w.alloc (.deferred (some []))).alloc (.loop (recOf fn a ps assign body w.heap.size)) = W1 at hc he
  refine ⟨w.heap.size + 1, [{ target := .collected w.heap.size, args := #[] }], W1, { target := .fn (.func gf) lb, args := #[.func (.yield (w.heap.size + 1)) #[] #[]] }, W1, gf, #[.func (.yield (w.heap.size + 1)) #[] #[]] ++ lb, W1, he, ?_, ?_, ?_, fun _ => h1, ?_⟩
  · simp only [resolve, hg]
    simp [go_sem]
  · intro f' hf'
    simp [Target.leads] at hf'
    subst hf'
    exact hFg
  · simp [invoke, go_sem, eg]
  · exact hc

/-- A ROUND: the assignments, then the body, from the record that is ready. -/
theorem round {l : Nat} {r : Loop} {args : Array Value} {W : World} {R : Ending → World → Prop} (hl : W.heap[l]? = some (.loop r)) (hs : args.size = r.params.size) (hF : F.fn r.fn)
    (h : r.assign.wpIn (F.inRound l) n P (Exit.then (fun a₁ w₁ => ∃ r1 : Loop, w₁.heap[l]? = some (.loop r1) ∧ r1.state = .ready ∧ r.body.wpIn (F.inRound l) n P (roundPost P l R) a₁ (w₁.putObj l (.loop { r1 with state := .busy }))) (fun _ _ _ => False))
      { tmps := (r.params.zip args).foldl (fun tmps (t, a) => tmps.setIfInBounds t a) r.tmps, defers := [] } W) : YieldAt F n P l args W R := by
  refine ⟨r.fn, _, r.assign, r.body, run_yield hl hs, roundIn_of_wpIn hF (wpIn_mono h ?_)⟩
  intro e a₁ w₁ hq
  cases e with
  | normal =>
    obtain ⟨r1, h1, h2, h3⟩ := hq
    exact ⟨_, run_beginRound h1 h2, h3⟩
  | exit id => exact hq
  | goto t => exact hq
  | ret => exact hq
  | panic c => exact hq
  | outgrown => exact hq

theorem goes_on {l : Nat} {r : Loop} {a : Act} {W : World} {R : Ending → World → Prop} (hl : W.heap[l]? = some (.loop r)) (h : R (.returned (.bool true)) (W.putObj l (.loop { r with state := .ready, pending := none }))) : roundPost P l R .normal a W :=
  ⟨_, _, run_endRound none hl, h⟩
theorem leaves {l : Nat} {r : Loop} {a : Act} {W : World} {R : Ending → World → Prop} (hl : W.heap[l]? = some (.loop r)) (h : R (.returned (.bool false)) (W.putObj l (.loop { r with state := .done, pending := some .ret }))) : roundPost P l R .ret a W :=
  ⟨_, _, run_endRound (some .ret) hl, h⟩

/-- BEHIND THE ITERATOR: it ran out. -/
theorem ran_out {l : Nat} {r : Loop} {Q : Exit → Act → World → Prop} {a : Act} {W : World} {v : Value} (hl : W.heap[l]? = some (.loop r)) (hr : r.state = .ready) (hp : r.pending = none) (h : Q .normal a (W.putObj l (.loop { r with state := .exhausted }))) : rangePost F n P l Q a (.returned v) W := by
  refine ⟨_, _, run_endLoop hl (by rw [hr]; simp), ?_⟩
  have h' := h
  rw [hp] at h' ⊢
  exact h'
end Go.Proofs.YthbbipgngeflnaaGreatDoor.RangeOwn

namespace Go.Proofs.YthbbipgngeflnaaGreatDoor.UsefulRange
open Go.RowKit Go.Proofs.YthbbipgngeflnaaGreatDoor.GramLess Go.Shelf Go.Maps Go.WideMaps Go.Proofs.YthbbipgngeflnaaGreatDoor.SetsMath Go.Proofs.YthbbipgngeflnaaGreatDoor.SetsAlg Go.Proofs.YthbbipgngeflnaaGreatDoor.SetsEach Go.Proofs.YthbbipgngeflnaaGreatDoor.UsefulMath Go.Proofs.YthbbipgngeflnaaGreatDoor.UsefulEach Go.Proofs.YthbbipgngeflnaaGreatDoor.GramRoll Go.Proofs.YthbbipgngeflnaaGreatDoor.GramApart Go.Proofs.YthbbipgngeflnaaGreatDoor.GramMath Go.Proofs.YthbbipgngeflnaaGreatDoor.GramRow
set_option linter.unusedVariables false

/-- A record of a loop, or a block for deferred calls. -/
def loopish : Obj → Bool
  | .loop _ => true
  | .deferred _ => true
  | _ => false

/-- All but records of loops is as it was. -/
structure KeepsCM (W W' : World) : Prop where
  size : W.heap.size ≤ W'.heap.size
  same : ∀ (k : Nat) (o : Obj), W.heap[k]? = some o → loopish o = false → W'.heap[k]? = some o
/-- All records of loops are as they were. -/
structure KeepsLo (W W' : World) : Prop where
  size : W.heap.size ≤ W'.heap.size
  same : ∀ (k : Nat) (o : Obj), W.heap[k]? = some o → loopish o = true → W'.heap[k]? = some o

theorem KeepsCM.refl (W : World) : KeepsCM W W := ⟨Nat.le_refl _, fun _ _ h _ => h⟩
theorem KeepsCM.trans {A B C : World} (h : KeepsCM A B) (k : KeepsCM B C) : KeepsCM A C := ⟨Nat.le_trans h.size k.size, fun i o hi ho => k.same i o (h.same i o hi ho) ho⟩
theorem KeepsCM.alloc (W : World) (o : Obj) : KeepsCM W (W.alloc o) := ⟨by simp, fun k x hk _ => (Below.heap_alloc _ _ _ (Array.getElem?_eq_some_iff.1 hk).1).trans hk⟩
theorem KeepsCM.put {W : World} {l : Nat} {x : Obj} (hl : W.heap[l]? = some x) (hx : loopish x = true) (o : Obj) : KeepsCM W (W.putObj l o) :=
  ⟨by simp, fun k y hk hy => by
    have hne : k ≠ l := fun e => by
      subst e
      rw [hl] at hk
      cases hk
      rw [hx] at hy
      cases hy
    exact (World.putObj_heap_other (by first | exact hne | exact hne.symm)).trans hk⟩
theorem KeepsCM.cell {W W' : World} (h : KeepsCM W W') {p : Addr} {v : Value} (hc : W.cell? p = some v) : W'.cell? p = some v := by
  cases ho : W.heap[p.block]? with
  | none => simp [World.cell?, ho] at hc
  | some o =>
    have hl : loopish o = false := by
      cases o with
      | loop r => simp [World.cell?, ho] at hc
      | deferred r => simp [World.cell?, ho] at hc
      | _ => rfl
    exact (World.cell?_of_block (a := p) ((h.same _ _ ho hl).trans ho.symm)).trans hc
theorem KeepsLo.refl (W : World) : KeepsLo W W := ⟨Nat.le_refl _, fun _ _ h _ => h⟩
theorem KeepsLo.trans {A B C : World} (h : KeepsLo A B) (k : KeepsLo B C) : KeepsLo A C := ⟨Nat.le_trans h.size k.size, fun i o hi ho => k.same i o (h.same i o hi ho) ho⟩
theorem KeepsLo.of {W W' : World} (h : Below W.heap.size W W') : KeepsLo W W' := ⟨h.size, fun k o hk _ => (h.block k (Array.getElem?_eq_some_iff.1 hk).1).trans hk⟩

theorem row_not_loop {w : World} {b : Nat} {t : TypeId} {cur : Array Value} (h : RowAt w b t cur) {o : Obj} (ho : w.heap[b]? = some o) : loopish o = false := by
  rw [show w.heap[b]? = some (.cells cur t (0, 0)) from h] at ho
  cases ho
  rfl
theorem RowAt.keepCM {w w' : World} {b : Nat} {t : TypeId} {cur : Array Value} (h : RowAt w b t cur) (hk : KeepsCM w w') : RowAt w' b t cur := hk.same _ _ h rfl

theorem own_CM {w w' : World} {base : Nat} {e : TypeId} {s n : Nat} {v : Value} {xs : List Value} (h : w.ownsRow base e s v n xs) (hk : KeepsCM w w') : w'.ownsRow base e s v n xs := by
  refine own_block h (fun g hg => ?_)
  obtain ⟨_, ⟨hn, _⟩ | ⟨g', cap, cur, hv, _, hr, _⟩⟩ := h
  · rw [hn] at hg; cases hg
  · rw [hv] at hg
    have e : g' = g := by simpa [Value.ownBlock] using hg
    subst e
    exact (hk.same _ _ hr rfl).trans (Eq.symm hr)

theorem Roll.keepCM {w w' : World} {b off base : Nat} {ss : List ByteArray} {nv mv : Value} (h : Roll w b off base ss nv mv) (hk : KeepsCM w w') : Roll w' b off base ss nv mv := by
  have hb : ∀ o, w'.frozen? ⟨b, o, none⟩ = w.frozen? ⟨b, o, none⟩ := fun o => by
    have hc := h.c0
    have hblk : w'.heap[b]? = w.heap[b]? := by
      cases ho : w.heap[b]? with
      | none => simp [World.cell?, ho] at hc
      | some x =>
        refine hk.same _ _ ho ?_
        cases x with
        | loop r => simp [World.cell?, ho] at hc
        | deferred r => simp [World.cell?, ho] at hc
        | _ => rfl
    unfold World.frozen?
    rw [hblk]
  refine ⟨hk.cell h.c0, hk.cell h.c1, (hb _).trans h.f0, (hb _).trans h.f1, own_CM h.row hk, ?_, h.nil, h.lt⟩
  rcases h.map with hm | ⟨mb, D, hne, hm, hb2, hown, hD⟩
  · exact .inl hm
  · refine .inr ⟨mb, D, hne, hm, hb2, ownsMap_of hown ?_, hD⟩
    obtain ⟨es, clock, h1, _⟩ := hown
    exact (hk.same _ _ h1 rfl).trans h1.symm

theorem Build.keepCM {w w' : World} {b base : Nat} {g : G} {nv mv nv2 mv2 rv : Value} {lq : List Q} (h : Build w b base g nv mv nv2 mv2 rv lq) (hk : KeepsCM w w') : Build w' b base g nv mv nv2 mv2 rv lq := by
  have hb : ∀ o, w'.frozen? ⟨b, o, none⟩ = w.frozen? ⟨b, o, none⟩ := fun o => by
    have hc := h.a
    have hblk : w'.heap[b]? = w.heap[b]? := by
      cases ho : w.heap[b]? with
      | none => simp [World.cell?, ho] at hc
      | some x =>
        refine hk.same _ _ ho ?_
        cases x with
        | loop r => simp [World.cell?, ho] at hc
        | deferred r => simp [World.cell?, ho] at hc
        | _ => rfl
    unfold World.frozen?
    rw [hblk]
  refine ⟨Roll.keepCM h.t hk, Roll.keepCM h.n hk, hk.cell h.a, (hb _).trans h.af, ⟨hk.cell h.r.c, (hb _).trans h.r.f, own_CM h.r.row hk, h.r.map, fun x hx => ?_⟩, h.far, Nat.le_trans h.lt hk.size⟩
  obtain ⟨xb, e1, e2, e3, e4⟩ := h.r.each x hx
  exact ⟨xb, e1, e2, e3, RowAt.keepCM e4 hk⟩

/-- What a call of a Builder leaves of loops' records. -/
theorem lo_of_keep {w w' : World} {b off base : Nat} {ss : List ByteArray} {nv mv : Value} (hR : Roll w b off base ss nv mv) {b' off' : Nat} (h : RKeep w w' b' off' (ofRoll nv mv)) (hb : ∃ v, w.cell? ⟨b', 4, none⟩ = some v) : KeepsLo w w' := by
  refine ⟨h.size, fun k o hk ho => (h.block k (Array.getElem?_eq_some_iff.1 hk).1 (fun e => ?_) (fun e => ?_)).trans hk⟩
  · subst e
    obtain ⟨v, hv⟩ := hb
    cases o with
    | loop r => simp [World.cell?, hk] at hv
    | deferred r => simp [World.cell?, hk] at hv
    | _ => cases ho
  · rcases e with e | e
    · obtain ⟨_, ⟨hn, _⟩ | ⟨g', cap, cur, hv, _, hr, _⟩⟩ := hR.row
      · rw [hn] at e; cases e
      · rw [hv] at e
        have e : g' = k := by simpa [Value.ownBlock] using e
        subst e
        rw [row_not_loop hr hk] at ho
        cases ho
    · rcases hR.map with ⟨_, hm⟩ | ⟨mb, D, _, hm, _, ⟨es, clock, h1, _⟩, _⟩
      · rw [hm] at e; cases e
      · rw [hm] at e
        have e2 : mb = k := by simpa using e
        subst e2
        rw [h1] at hk
        cases hk
        cases ho

/-- Behind a round. -/
def postE {α : Type} (n₀ : Nat) (I : List α → World → Prop) (pre : List α) (W : World) : Exit → Act → World → Prop
  | .normal, _, W3 => KeepsLo W W3 ∧ Below n₀ W W3 ∧ I pre W3
  | _, _, _ => False

theorem range_each {g : Operand} {ps : Array Tmp} {assign body : Code} {Q : Exit → Act → World → Prop} {a : Act} {w : World} (n : Nat) (hn : 2 ≤ n) (Bn n₀ : Nat) (hn₀ : 15 < n₀) (s : Int) (hs : IsSet s)
    (hg : a.eval g = .func (.func 77) #[] #[.pointer (some ⟨Bn, 0, none⟩)]) (hc : w.cell? ⟨Bn, 0, none⟩ = some (.int .u64 s)) (hT : Tab w) (hw : n₀ ≤ w.heap.size) (hps : ps.size = 1)
    (I : List (NumT s) → World → Prop) (hI : ∀ pre W W', I pre W → KeepsCM W W' → Below w.heap.size W W' → I pre W') (h0 : I [] w) (a₁ : NumT s → Act)
    (hassign : ∀ (l : Nat) (x : NumT s) (W : World) (K : Act → World → Prop), K (a₁ x) W →
      assign.wpIn (Fence.wide.inRound l) (n - 1 - 1) Tryz.prog (Exit.then K (fun _ _ _ => False)) { tmps := (ps.zip #[Value.int .i64 x.1]).foldl (fun t (p, v) => t.setIfInBounds p v) a.tmps, defers := [] } W)
    (hbody : ∀ (l : Nat) (pre : List (NumT s)) (x : NumT s) (W : World), I pre W → pre.length < (numsT s).length → body.wpIn (Fence.wide.inRound l) (n - 1 - 1) Tryz.prog (postE n₀ I (pre ++ [x]) W) (a₁ x) W)
    (hdone : ∀ (D : Nat) (W : World), w.heap.size ≤ D → I (numsT s) W → W.heap[D]? = some (.deferred (some [])) → Q .normal { a with defers := { target := .collected D, args := #[] } :: a.defers } W) :
    (Code.rangeFunc g ps assign body).wpIn Fence.wide n Tryz.prog Q a w := by
  refine RangeOwn.enter rfl (by omega) hg trivial (enters_of Tryz.func77 (by kernel_rfl) rfl) ?_
  intro fn hfn
  have hL1 : ((w.alloc (.deferred (some []))).alloc (.loop (RangeOwn.recOf fn a ps assign body w.heap.size))).heap[w.heap.size + 1]? = some (.loop (RangeOwn.recOf fn a ps assign body w.heap.size)) := by
    have := World.alloc_heap_new (w.alloc (.deferred (some []))) (.loop (RangeOwn.recOf fn a ps assign body w.heap.size))
    rwa [World.size_alloc] at this
  have hK1 : ((w.alloc (.deferred (some []))).alloc (.loop (RangeOwn.recOf fn a ps assign body w.heap.size))).heap[w.heap.size]? = some (.deferred (some [])) :=
    (Below.heap_alloc _ _ _ (by simp)).trans (World.alloc_heap_new w _)
  have hCM1 : KeepsCM w ((w.alloc (.deferred (some []))).alloc (.loop (RangeOwn.recOf fn a ps assign body w.heap.size))) := (KeepsCM.alloc w _).trans (KeepsCM.alloc _ _)
  have hB1 : Below w.heap.size w ((w.alloc (.deferred (some []))).alloc (.loop (RangeOwn.recOf fn a ps assign body w.heap.size))) := ((Below.refl _ _).alloc (Nat.le_refl _) _).alloc (by simp) _
  have hI1 := hI _ _ _ h0 hCM1 hB1
  have hc1 := hCM1.cell hc
  have hT1 := Tab.from hT (hB1.mono hw) hn₀
  have hputB : ∀ (W : World) (o x : Obj), w.heap.size + 1 < W.heap.size → W.heap[w.heap.size + 1]? = some x → Below w.heap.size W (W.putObj (w.heap.size + 1) o) := fun W o x hlt hx =>
    (Below.refl w.heap.size W).grown (grownBy_putObj' W (w.heap.size + 1) o) (by omega) (fun k e => by cases e; omega)
  refine (each1_t (n - 1) (by omega) (w.heap.size + 1) Bn n₀ hn₀ s hs
    (fun pre W => I pre W ∧ W.heap[w.heap.size + 1]? = some (.loop (RangeOwn.recOf fn a ps assign body w.heap.size)) ∧ W.heap[w.heap.size]? = some (.deferred (some [])))
    (fun _ _ => False) ?_ _ hc1 hT1 ⟨hI1, hL1, hK1⟩).mono ?_
  · rintro pre x W ⟨hi, hl, hk⟩ hpl
    have hlt : w.heap.size + 1 < W.heap.size := (Array.getElem?_eq_some_iff.1 hl).1
    refine RangeOwn.round hl (by show 1 = ps.size; omega) hfn (hassign _ x W _ ⟨_, hl, rfl, ?_⟩)
    have hl2 : (W.putObj (w.heap.size + 1) (.loop { RangeOwn.recOf fn a ps assign body w.heap.size with state := .busy })).heap[w.heap.size + 1]? = some (.loop { RangeOwn.recOf fn a ps assign body w.heap.size with state := .busy }) := World.putObj_heap_same hlt
    have hk2 : (W.putObj (w.heap.size + 1) (.loop { RangeOwn.recOf fn a ps assign body w.heap.size with state := .busy })).heap[w.heap.size]? = some (.deferred (some [])) := (World.putObj_heap_other (by omega)).trans hk
    have hBp := hputB W (.loop { RangeOwn.recOf fn a ps assign body w.heap.size with state := .busy }) _ hlt hl
    refine wpIn_mono (hbody _ pre x _ (hI _ _ _ hi (KeepsCM.put hl rfl _) hBp) hpl) ?_
    rintro e a3 W3 hp
    cases e with
    | normal =>
      obtain ⟨hk3, hb3, hi3⟩ := hp
      have hl3 := hk3.same _ _ hl2 rfl
      have hd3 := hk3.same _ _ hk2 rfl
      have hlt3 := (Array.getElem?_eq_some_iff.1 hl3).1
      have hBq := hputB W3 (.loop (RangeOwn.recOf fn a ps assign body w.heap.size)) _ hlt3 hl3
      refine RangeOwn.goes_on hl3 (.inl ⟨rfl, ⟨hI _ _ _ hi3 (KeepsCM.put hl3 rfl _) hBq, World.putObj_heap_same hlt3, (World.putObj_heap_other (by omega)).trans hd3⟩, ((hBp.mono hw).trans hb3).trans (hBq.mono hw)⟩)
    | ret => exact hp.elim
    | exit id => exact hp.elim
    | goto t => exact hp.elim
    | panic ch => exact hp.elim
    | outgrown => exact hp.elim
  · rintro e W2 ⟨⟨v, rfl⟩, (⟨ys, rfl, hi, hl, hk⟩ | ⟨pre, _, h⟩)⟩
    · have hlt := (Array.getElem?_eq_some_iff.1 hl).1
      exact RangeOwn.ran_out hl rfl rfl (hdone _ _ (Nat.le_refl _) (hI _ _ _ hi (KeepsCM.put hl rfl _) (hputB W2 _ _ hlt hl)) ((World.putObj_heap_other (by omega)).trans hk))
    · exact h.elim

end Go.Proofs.YthbbipgngeflnaaGreatDoor.UsefulRange
