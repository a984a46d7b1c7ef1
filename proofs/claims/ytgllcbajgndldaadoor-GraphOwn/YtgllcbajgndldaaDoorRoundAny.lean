/-
  Rounds of loops over functions: what they keep, drawn regions within them, and the marks that they leave. No part of the program.
-/
import Derived.Test.YtgllcbajgndldaaDoorRangeOwn
import Derived.Test.YtgllcbajgndldaaDoorOrdersZ
import Derived.RangeFuncNested
import Derived.RangeFuncBound
import Derived.RangeFuncCalls
import Derived.RangeFuncLeaves
import Derived.RangeFuncBox
import Derived.Shelf.Abstract
import Derived.Shelf.RegionOpen
import Derived.OwnWalkIn
import Derived.TacticsInMore
import Derived.LoopNIn
import Derived.LoopIn
import Derived.Maps.AppendAt
import Derived.Sort.QuietTacIn
import Derived.Deep.RegionHeld3
import Derived.Below
import Derived.Test.YtgllcbajgndldaaDoorGramApart0
namespace Go.Proofs.YtgllcbajgndldaaDoor.RoundAny
open Go.RowKit Go.Shelf Go.Proofs.YtgllcbajgndldaaDoor.GramApart
set_option linter.unusedVariables false

/-- A record of a loop, or a block for deferred calls. -/
def loopish : Obj → Bool
  | .loop _ => true
  | .deferred _ => true
  | _ => false

/-- All but records of loops is as it was. -/
structure KeepsCM (W W' : World) : Prop where
  size : W.heap.size ≤ W'.heap.size
  same : ∀ (k : Nat) (o : Obj), W.heap[k]? = some o → loopish o = false → W'.heap[k]? = some o
/-- All records of loops are as they were. -/
structure KeepsLo (W W' : World) : Prop where
  size : W.heap.size ≤ W'.heap.size
  same : ∀ (k : Nat) (o : Obj), W.heap[k]? = some o → loopish o = true → W'.heap[k]? = some o

theorem KeepsCM.refl (W : World) : KeepsCM W W := ⟨Nat.le_refl _, fun _ _ h _ => h⟩
theorem KeepsCM.trans {A B C : World} (h : KeepsCM A B) (k : KeepsCM B C) : KeepsCM A C := ⟨Nat.le_trans h.size k.size, fun i o hi ho => k.same i o (h.same i o hi ho) ho⟩
theorem KeepsCM.alloc (W : World) (o : Obj) : KeepsCM W (W.alloc o) := ⟨by simp, fun k x hk _ => (Below.heap_alloc _ _ _ (Array.getElem?_eq_some_iff.1 hk).1).trans hk⟩
theorem KeepsCM.put {W : World} {l : Nat} {x : Obj} (hl : W.heap[l]? = some x) (hx : loopish x = true) (o : Obj) : KeepsCM W (W.putObj l o) :=
  ⟨by simp, fun k y hk hy => by
    have hne : k ≠ l := fun e => by
      subst e
      rw [hl] at hk
      cases hk
      rw [hx] at hy
      cases hy
    exact (World.putObj_heap_other (by first | exact hne | exact hne.symm)).trans hk⟩
theorem KeepsCM.cell {W W' : World} (h : KeepsCM W W') {p : Addr} {v : Value} (hc : W.cell? p = some v) : W'.cell? p = some v := by
  cases ho : W.heap[p.block]? with
  | none => simp [World.cell?, ho] at hc
  | some o =>
    have hl : loopish o = false := by
      cases o with
      | loop r => simp [World.cell?, ho] at hc
      | deferred r => simp [World.cell?, ho] at hc
      | _ => rfl
    exact (World.cell?_of_block (a := p) ((h.same _ _ ho hl).trans ho.symm)).trans hc
theorem KeepsLo.refl (W : World) : KeepsLo W W := ⟨Nat.le_refl _, fun _ _ h _ => h⟩
theorem KeepsLo.trans {A B C : World} (h : KeepsLo A B) (k : KeepsLo B C) : KeepsLo A C := ⟨Nat.le_trans h.size k.size, fun i o hi ho => k.same i o (h.same i o hi ho) ho⟩
theorem KeepsLo.of {W W' : World} (h : Below W.heap.size W W') : KeepsLo W W' := ⟨h.size, fun k o hk _ => (h.block k (Array.getElem?_eq_some_iff.1 hk).1).trans hk⟩

/-- The marks that loops over sequences leave. -/
def marks (Ds : List Nat) : List Deferred := Ds.map (fun D => { target := .collected D, args := #[] })
def OpenAt (w : World) (B : Nat) (Ds : List Nat) : Prop := Ds.Nodup ∧ ∀ D ∈ Ds, B ≤ D ∧ w.heap[D]? = some (.deferred (some []))

theorem OpenAt.nil (w : World) (B : Nat) : OpenAt w B [] := ⟨List.nodup_nil, fun D hD => by cases hD⟩
theorem OpenAt.below {w w' : World} {B C : Nat} {Ds : List Nat} (h : OpenAt w B Ds) (hb : Below C w w') (hC : w.heap.size ≤ C) : OpenAt w' B Ds :=
  ⟨h.1, fun D hD => ⟨(h.2 D hD).1, (hb.block D (Nat.lt_of_lt_of_le (Array.getElem?_eq_some_iff.1 (h.2 D hD).2).1 hC)).trans (h.2 D hD).2⟩⟩
theorem OpenAt.set {w : World} {B b o : Nat} {v : Value} {Ds : List Nat} (h : OpenAt w B Ds) {cur : Array Value} {t : TypeId} (hr : RowAt w b t cur) : OpenAt (w.setCell ⟨b, o, none⟩ v) B Ds :=
  ⟨h.1, fun D hD => ⟨(h.2 D hD).1, by
    have hne : D ≠ b := fun e => by
      have h1 := (h.2 D hD).2
      rw [e, show w.heap[b]? = some (.cells cur t (0, 0)) from hr] at h1
      cases h1
    rw [Below.heap_setCell _ _ _ _ hne]
    exact (h.2 D hD).2⟩⟩
theorem OpenAt.add {w : World} {B D : Nat} {Ds : List Nat} (h : OpenAt w B Ds) (hB : B ≤ D) (hD : w.heap[D]? = some (.deferred (some []))) (hn : D ∉ Ds) : OpenAt w B (D :: Ds) :=
  ⟨List.nodup_cons.2 ⟨hn, h.1⟩, fun x hx => by
    rcases List.mem_cons.1 hx with rfl | hx
    · exact ⟨hB, hD⟩
    · exact h.2 x hx⟩

theorem leaves_marks {F : Fence} {n : Nat} {P : Program} {fn : Func} {tmps : Array Value} {R : Ending → World → Prop} {B : Nat} : ∀ (Ds : List Nat) (W : World), OpenAt W B Ds → (∀ W', Below B W W' → (∀ k, k < W.heap.size → k ∉ Ds → W'.heap[k]? = W.heap[k]?) → LeavesInM F n P fn tmps R [] .returning W') → LeavesInM F n P fn tmps R (marks Ds) .returning W
  | [], W, _, h => h W (Below.refl _ _) (fun _ _ _ => rfl)
  | D :: Ds, W, ho, h => by
    obtain ⟨hB, hD⟩ := ho.2 D List.mem_cons_self
    have hb : Below B W (W.putObj D (.deferred none)) := (Below.refl B W).grown (grownBy_putObj' W D (.deferred none)) (by have := (Array.getElem?_eq_some_iff.1 hD).1; omega) (fun k e => by cases e; exact hB)
    refine ⟨by simp, .inl ⟨D, _, rfl, run_takeDeferred hD, leaves_marks Ds _ ⟨(List.nodup_cons.1 ho.1).2, fun x hx => ?_⟩ (fun W' hW' hk => h W' (hb.trans hW') (fun k hkl hkn => ?_))⟩⟩
    · obtain ⟨h1, h2⟩ := ho.2 x (List.mem_cons_of_mem _ hx)
      refine ⟨h1, ?_⟩
      have hne : x ≠ D := fun e => (List.nodup_cons.1 ho.1).1 (by rw [← e]; exact hx)
      exact (World.putObj_heap_other (by first | exact hne | exact hne.symm)).trans h2
    · have hne : k ≠ D := fun e => hkn (by rw [e]; exact List.mem_cons_self)
      rw [hk k (Nat.lt_of_lt_of_le hkl (grownBy_putObj' W D (.deferred none)).size) (fun hm => hkn (List.mem_cons_of_mem _ hm))]
      exact World.putObj_heap_other (by first | exact hne | exact hne.symm)

section
variable {F : Fence} {n : Nat} {P : Program} {ops : Array Oper} {Q : Exit → Act → World → Prop} {md : Region.Mode} {l : Nat}

theorem oper_round {o : Oper} (hd : ∀ c, o.op ≠ .defer c) (hro : F.round = none) {a : Act} {w : World} {K : Act → World → Prop} (h : o.wpIn F n P a w K Q) : o.wpIn (F.inRound l) n P a w K Q := by
  unfold Oper.wpIn at *
  refine ⟨h.1, ?_⟩
  have h2 := h.2
  rw [hro, Oper.semAt_none] at h2
  rw [show (F.inRound l).round = some l from rfl, Oper.semAt_some l a.eval o hd]
  generalize (execOp a.eval o).run P w = r at *
  cases r with
  | ok x w' => cases x <;> exact h2
  | halt x w' => cases x <;> exact h2

theorem op_round (hd : ∀ (i : Nat) (o : Oper), ops[i]? = some o → ∀ c, o.op ≠ .defer c) (hro : F.round = none) {i : Nat} {K K' : Act → World → Prop} (hK : ∀ a w, K a w → K' a w) {a : Act} {w : World} (h : wpOpIn F n P ops Q i K a w) : wpOpIn (F.inRound l) n P ops Q i K' a w := by
  have h := wpOpIn_mono hK h
  unfold wpOpIn at *
  cases ho : ops[i]? with
  | none => simp only [ho] at h ⊢; exact h
  | some o =>
    simp only [ho] at h ⊢
    split
    · rename_i hw
      simp only [hw, if_true] at h
      exact oper_round (hd i o ho) hro h
    · rename_i hw
      simp only [hw] at h
      exact h

theorem any_round (hd : ∀ (i : Nat) (o : Oper), ops[i]? = some o → ∀ c, o.op ≠ .defer c) (hro : F.round = none) : ∀ (fuel : Nat) (listed : Array Bool) (a : Act) (w : World), wpAnyIn F n P md ops Q fuel listed a w → wpAnyIn (F.inRound l) n P md ops Q fuel listed a w
  | 0, _, _, _, h => h
  | fuel + 1, listed, a, w, h => ⟨h.1, fun i hi => op_round hd hro (fun a' w' => any_round hd hro fuel _ a' w') (h.2 i hi)⟩

/-- No operation of a region defers a call. -/
def noDefer : List Oper → Bool
  | [] => true
  | o :: r => (match o.op with | .defer _ => false | _ => true) && noDefer r
theorem noDefer_spec : ∀ {l : List Oper}, noDefer l = true → ∀ o ∈ l, ∀ c, o.op ≠ .defer c
  | [], _, o, ho, c => by cases ho
  | x :: r, h, o, ho, c => by
    unfold noDefer at h
    rw [Bool.and_eq_true] at h
    rcases List.mem_cons.1 ho with rfl | ho
    · intro e
      rw [e] at h
      cases h.1
    · exact noDefer_spec h.2 o ho c

theorem region_quiet_round {id : Nat} {a : Act} {w : World} {os : List Oper} (hro : F.round = none) (hm : P.follows .mixedOrders = true) (hB : Region.lexB .any os.toArray = true) (hd : noDefer os = true)
    (h : wpQuietIn F n P os.toArray (fun w' => ∃ n, w' = w.drewN n) (fun a' => ∀ w', (∃ n, w' = w.drewN n) → Q .normal a' w') os a) : (Code.region id os.toArray true).wpIn (F.inRound l) n P Q a w := by
  simp only [Region.lexB, Bool.and_eq_true] at hB
  refine wpIn_region_any hm (any_round (fun i o ho => noDefer_spec hd o (by
    have := Array.mem_of_getElem? ho
    simpa using this)) hro _ _ _ _ (wpAnyIn_of_quiet (C := fun w' => ∃ n, w' = w.drewN n) (Q := fun a' => ∀ w', (∃ n, w' = w.drewN n) → Q .normal a' w') hro (fun _ w' hw' h => h w' hw') _ _ _ _ ⟨1, rfl⟩ ?_))
  have := wpAnyQIn_lex (F := F) (n := n) (C := fun w' => ∃ n, w' = w.drewN n) (md := .any) hB.1 os 0 (Array.replicate os.toArray.size false) a (by simp) (by simpa using hB.2) h
  simpa using this

end

section
variable {n : Nat} {P : Program} {ops : Array Oper} {Q : Exit → Act → World → Prop} {md : Region.Mode} {l : Nat}

theorem upon_wide {o : Oper} {a : Act} {K : Act → World → Prop} {r : Result Next} (h : o.upon P a K Q r) : o.uponIn Fence.wide n P a K Q r := by
  cases r with
  | ok x w' =>
    cases x with
    | enter f args => exact ⟨(fun h => by cases h), callsIn_wide.2 h⟩
    | row s args => exact ⟨(fun h => by cases h), fun c cs _ => let ⟨v, w9, r, s⟩ := h c cs; ⟨v, w9, r, stepsIn_wide.2 s⟩⟩
    | round l f t a b => exact (h : False).elim
    | _ => exact h
  | halt x w' => cases x <;> exact h

theorem op_wide (hQ : ¬ LetsOut Q) {i : Nat} {K : Act → World → Prop} {a : Act} {w : World} (h : wpOp P ops Q i K a w) : wpOpIn Fence.wide n P ops Q i K a w := by
  unfold wpOp at h
  unfold wpOpIn
  cases ho : ops[i]? with
  | none => simp only [ho] at h ⊢; exact h
  | some o =>
    simp only [ho] at h ⊢
    split
    · rename_i hw
      simp only [hw, if_true] at h
      rcases h with h | h
      · exact ⟨fun _ _ => trivial, upon_wide h⟩
      · exact (hQ h.2).elim
    · rename_i hw
      simp only [hw] at h
      exact ⟨fun _ _ => trivial, h⟩

theorem any_wide (hQ : ¬ LetsOut Q) : ∀ (fuel : Nat) (listed : Array Bool) (a : Act) (w : World), wpAny P md ops Q fuel listed a w → wpAnyIn Fence.wide n P md ops Q fuel listed a w
  | 0, _, _, _, h => h
  | fuel + 1, listed, a, w, h => ⟨h.1, fun i hi => wpOpIn_mono (fun a' w' h' => any_wide hQ fuel _ a' w' h') (op_wide hQ (h.2 i hi))⟩

theorem region_held_round {S : World → Prop} {id : Nat} {a : Act} {w : World} {os : List Oper} (hQ : ¬ LetsOut Q) (hm : P.follows .mixedOrders = true) (hd : noDefer os = true) (hS : S w.drew)
    (h : S w.drew → wpAnyH P .any os.toArray Q S os.toArray.size (Array.replicate os.toArray.size false) a w.drew) : (Code.region id os.toArray true).wpIn (Fence.wide.inRound l) n P Q a w := by
  refine wpIn_region_any hm (any_round (fun i o ho => noDefer_spec hd o (by
    have := Array.mem_of_getElem? ho
    simpa using this)) rfl _ _ _ _ (any_wide hQ _ _ _ _ (wpAny_of_held _ _ _ _ (h hS))))


theorem region_Z_round {S : World → Prop} {id : Nat} {a : Act} {w : World} {os : List Oper} (z : Nat) (hQ : ¬ LetsOut Q) (hm : P.follows .mixedOrders = true) (hd : noDefer os = true) (hS : S w.drew)
    (h : S w.drew → OrdersZ.wpAnyZ P .any os.toArray Q S z os.toArray.size (Array.replicate os.toArray.size false) a w.drew) : (Code.region id os.toArray true).wpIn (Fence.wide.inRound l) n P Q a w := by
  refine wpIn_region_any hm (any_round (fun i o ho => noDefer_spec hd o (by
    have := Array.mem_of_getElem? ho
    simpa using this)) rfl _ _ _ _ (any_wide hQ _ _ _ _ (OrdersZ.any_of_Z _ _ _ _ (h hS))))

end

end Go.Proofs.YtgllcbajgndldaaDoor.RoundAny
