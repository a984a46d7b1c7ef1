/-
  Graphs with the same edges, in whatever order: what is told of them is the same. No part of the program.
-/
import Derived.Test.YtkagahaokimoiaaDoorGraphKnown
namespace Go.Proofs.YtkagahaokimoiaaDoor.GraphNet
open Go.RowKit Go.Sort Go.Proofs.YtkagahaokimoiaaDoor.GramMath Go.Proofs.YtkagahaokimoiaaDoor.GramRow Go.Proofs.YtkagahaokimoiaaDoor.GramApart Go.Proofs.YtkagahaokimoiaaDoor.GraphMath Go.Proofs.YtkagahaokimoiaaDoor.GraphFn Go.Proofs.YtkagahaokimoiaaDoor.GraphSort Go.Proofs.YtkagahaokimoiaaDoor.OpRow Go.Proofs.YtkagahaokimoiaaDoor.GramErrs
set_option linter.unusedVariables false

theorem run_congr {m : Nat} {E E' : List (Nat × Nat)} (h : adj m E = adj m E') : ∀ (f k : Nat) (t : Tr), GraphMath.run m E f k t = GraphMath.run m E' f k t
  | 0, k, t => rfl
  | f + 1, k, t => by
    simp only [GraphMath.run]
    cases t.nodes[k]? with
    | none => rfl
    | some x => rw [h]; exact run_congr h f (k + 1) _
theorem tour_congr {m : Nat} {E E' : List (Nat × Nat)} (h : adj m E = adj m E') (xs : List Nat) : GraphMath.tour m E xs = GraphMath.tour m E' xs := run_congr h _ _ _

/-- The same edges. -/
structure Alike (es es' : List (Int × Int)) : Prop where
  mem : ∀ e, e ∈ es ↔ e ∈ es'
  len : es.length ≤ 4096
  len' : es'.length ≤ 4096

theorem Alike.may {es es' : List (Int × Int)} (h : Alike es es') (n : Int) : mayE n es = mayE n es' := by
  have hl := h.len
  have hl' := h.len'
  have e : es.all (fun e => hasB n.toNat [e.1, e.2]) = es'.all (fun e => hasB n.toNat [e.1, e.2]) := by
    rw [Bool.eq_iff_iff, List.all_eq_true, List.all_eq_true]
    exact ⟨fun h1 e he => h1 e ((h.mem e).2 he), fun h1 e he => h1 e ((h.mem e).1 he)⟩
  unfold mayE
  rw [e]
  by_cases h1 : 256 < n
  · rw [if_pos (.inl h1), if_pos (.inl h1)]
  · rw [if_neg (show ¬ (256 < n ∨ 4096 < es.length) by omega), if_neg (show ¬ (256 < n ∨ 4096 < es'.length) by omega)]
theorem Alike.adj {es es' : List (Int × Int)} (h : Alike es es') (m : Nat) : GraphMath.adj m (toE es) = GraphMath.adj m (toE es') := by
  funext a
  unfold GraphMath.adj
  congr 1
  funext b
  rw [decide_eq_decide]
  unfold toE
  rw [List.mem_map, List.mem_map]
  exact ⟨fun ⟨e, h1, h2⟩ => ⟨e, (h.mem e).1 h1, h2⟩, fun ⟨e, h1, h2⟩ => ⟨e, (h.mem e).2 h1, h2⟩⟩
theorem Alike.lv {es es' : List (Int × Int)} (h : Alike es es') (n : Int) : lvL n es = lvL n es' := by
  unfold lvL ordG
  rw [h.may, h.adj]
theorem backWay_congr {m : Nat} {E E' : List (Nat × Nat)} (h : GraphMath.adj m E = GraphMath.adj m E') (s : Nat) : backWay m E s = backWay m E' s := by
  unfold backWay
  rw [tour_congr h, h]
theorem roundR_congr {m : Nat} {E E' : List (Nat × Nat)} (h : GraphMath.adj m E = GraphMath.adj m E') : roundR m E = roundR m E' := by
  unfold roundR
  congr 1
  funext b s
  rw [backWay_congr h]
theorem Alike.rd {es es' : List (Int × Int)} (h : Alike es es') (n : Int) : rdL n es = rdL n es' := by
  unfold rdL ordG
  rw [h.may, h.adj, roundR_congr (h.adj _)]
theorem Alike.odC {es es' : List (Int × Int)} (h : Alike es es') (n : Int) : GraphNet.odC n es = GraphNet.odC n es' := by
  unfold GraphNet.odC ordG
  rw [h.may, h.adj]
theorem Alike.odL {es es' : List (Int × Int)} (h : Alike es es') (n : Int) : GraphNet.odL n es = GraphNet.odL n es' := by
  unfold GraphNet.odL ordG
  rw [h.may, h.adj]
theorem Alike.pt {es es' : List (Int × Int)} (h : Alike es es') (n : Int) : ptL n es = ptL n es' := by
  have e : sameT n.toNat (toE es) = sameT n.toNat (toE es') := by
    funext a b
    unfold sameT
    rw [tour_congr (h.adj _), tour_congr (h.adj _)]
  unfold ptL
  rw [h.may, e]
theorem Alike.rc {es es' : List (Int × Int)} (h : Alike es es') (n : Int) (fr : List Int) : reachC n es fr = reachC n es' fr := by
  unfold reachC
  rw [h.may]
theorem Alike.rl {es es' : List (Int × Int)} (h : Alike es es') (n : Int) (fr : List Int) : reachL n es fr = reachL n es' fr := by
  have e : reach n.toNat (toE es) (fr.map Int.toNat) = reach n.toNat (toE es') (fr.map Int.toNat) := by
    unfold reach
    rw [tour_congr (h.adj _)]
  unfold reachL
  rw [h.rc, e]

/-- Lists that are held in memory. -/
def Hold (w : World) (l : List (Value × List Int)) : Prop := ∀ x ∈ l, w.ownsRow 0 3 1 x.1 x.2.length (iV x.2)
theorem Hold.nil (w : World) : Hold w [] := fun x hx => by cases hx
theorem Hold.cons {w : World} {l : List (Value × List Int)} {v : Value} {L : List Int} {B : Nat} (h : Hold w l) (hv : w.ownsRow B 3 1 v L.length (iV L)) : Hold w ((v, L) :: l) := fun x hx => by
  rcases List.mem_cons.1 hx with rfl | hx
  · exact own_lower hv (Nat.zero_le _)
  · exact h x hx
theorem Hold.below {w w' : World} {l : List (Value × List Int)} (h : Hold w l) (hb : Below w.heap.size w w') : Hold w' l := fun x hx => own_up (h x hx) hb
theorem Hold.at {w : World} {l : List (Value × List Int)} (h : Hold w l) {v : Value} {L : List Int} (hx : (v, L) ∈ l) : ∃ a c, v = .slice a L.length c ∧ IRow w a L := own_form (h _ hx)

end Go.Proofs.YtkagahaokimoiaaDoor.GraphNet
