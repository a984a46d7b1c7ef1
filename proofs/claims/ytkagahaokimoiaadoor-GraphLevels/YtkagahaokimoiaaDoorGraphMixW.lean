/-
  Edges put one behind the other, and changed about: what GraphMixed does with its edges.
-/
import Derived.Test.YtkagahaokimoiaaDoorGraphCongr
import Derived.Test.YtkagahaokimoiaaDoorGraphReachWalk
namespace Go.Proofs.YtkagahaokimoiaaDoor.GraphMixedW
open Go.RowKit Go.Proofs.YtkagahaokimoiaaDoor.GramMath Go.Proofs.YtkagahaokimoiaaDoor.GramRow Go.Proofs.YtkagahaokimoiaaDoor.GramApart Go.Proofs.YtkagahaokimoiaaDoor.GramLent Go.Proofs.YtkagahaokimoiaaDoor.OpRow Go.Proofs.YtkagahaokimoiaaDoor.GraphNet Go.Proofs.YtkagahaokimoiaaDoor.GraphMath Go.Proofs.YtkagahaokimoiaaDoor.GraphFn Go.Proofs.YtkagahaokimoiaaDoor.GraphSort Go.Proofs.YtkagahaokimoiaaDoor.GraphRef Go.Proofs.YtkagahaokimoiaaDoor.GraphLent Go.Proofs.YtkagahaokimoiaaDoor.GramErrs Go.Proofs.YtkagahaokimoiaaDoor.GramSame Go.Proofs.YtkagahaokimoiaaDoor.GraphReachW
set_option linter.unusedVariables false
set_option linter.unusedSimpArgs false

theorem own_eform {w : World} {base : Nat} {v : Value} {es : List (Int × Int)} (h : w.ownsRow base 45 2 v es.length (flatE es)) : ∃ a c, v = .slice a es.length c ∧ ERow w a es := by
  obtain ⟨hl, ⟨rfl, h0⟩ | ⟨g, cap, cur, rfl, hb, hg, h1, h2, h3, h4⟩⟩ := id h
  · obtain rfl : es = [] := List.length_eq_zero_iff.1 h0
    exact ⟨none, 0, rfl, fun i x hx => by simp at hx⟩
  · exact ⟨_, cap, rfl, own_erow h⟩

theorem stepE {ops : Array Oper} {o : Oper} {a : Act} {w : World} {K : Act → World → Prop} {Q' : Exit → Act → World → Prop} {E : Prop} (hg : o.guard = none) (s x : Operand)
    (ho : o.op = .call { callee := .builtin .append, args := #[s, x], argTypes := #[22, 22] }) (base : Nat) (v : Value) (es es' : List (Int × Int)) (hs : a.eval s = v) (hown : w.ownsRow base 45 2 v es.length (flatE es))
    (ea : Option Addr) (ec : Nat) (hx : a.eval x = .slice ea es'.length ec) (hr : ERow w ea es') (hn : ea = none → es'.length = 0 ∧ ec = 0) (hl : es.length + es'.length ≤ 1000000000) (hbase : base ≤ w.heap.size)
    (h : ∀ v' w', w'.ownsRow base 45 2 v' (es ++ es').length (flatE (es ++ es')) → w.grownBy w' v.ownBlock → K (a.put o.dst v') w') :
    if Region.wanted o (yielded ops a.tmps) = true then Oper.wp Tryd.prog o a w K Q' else E := by
  obtain ⟨i0, hi, hz0, hz1, hz2⟩ := info_parts infoE
  have hw : Region.wanted o (yielded ops a.tmps) = true := by simp [Region.wanted, hg]
  rw [if_pos hw]
  cases ea with
  | none =>
    obtain ⟨h0, rfl⟩ := hn rfl
    obtain rfl : es' = [] := List.length_eq_zero_iff.1 h0
    have hrun := run_append_owned_none (P := Tryd.prog) (w := w) base 22 o.type 45 i0 2 Tryd.underlying22 hi v es.length (flatE es) hown
    have hx' : a.eval x = .slice none 0 0 := hx
    unfold Oper.wp
    simp [execOp, ho, resolve, invoke, builtin, hs, hx', hrun, Result.andThen]
    refine h v w (by simpa using hown) ⟨rfl, rfl, rfl, Nat.le_refl _, fun _ _ _ => rfl⟩
  | some y =>
    have hnews : ∀ j u, (flatE es')[j]? = some u → w.cell? (y.add j) = some u := by
      intro j u hj
      have hjl := (List.getElem?_eq_some_iff.1 hj).1
      rw [flatE_length] at hjl
      obtain ⟨b, off, hy, _⟩ := hr 0 (es'[0]'(by omega)) (List.getElem?_eq_getElem _)
      obtain rfl : y = ⟨b, off, none⟩ := by simpa using hy
      exact ERow.flat hr j u hj
    refine wp_append_own w s x 22 ho base 45 i0 (.agg #[.int .i64 0, .int .i64 0]) 2 16 Tryd.underlying22 hi hz0 hz1 hz2 rfl (by decide) v es.length (flatE es) hs hown y es'.length ec (flatE es') hx (flatE_length es') hnews (flatE_one es') (by unfold maxLen; omega) (by omega) hbase ?_
    intro v' w' h1 h2 _
    refine h v' w' ?_ h2
    rw [flatE_append, List.length_append]
    exact h1

/-- Two edges change places. -/
def swapE (l : List (Int × Int)) (k j : Nat) : List (Int × Int) := (l.set k (l.getD j (0, 0))).set j (l.getD k (0, 0))
theorem swapE_length (l : List (Int × Int)) (k j : Nat) : (swapE l k j).length = l.length := by simp [swapE]
theorem swapE_mem {l : List (Int × Int)} {k j : Nat} (hk : k < l.length) (hj : j < l.length) (e : Int × Int) : e ∈ swapE l k j ↔ e ∈ l := by
  have ek : l.getD k (0, 0) = l[k] := by simp [List.getD, List.getElem?_eq_getElem hk]
  have ej : l.getD j (0, 0) = l[j] := by simp [List.getD, List.getElem?_eq_getElem hj]
  unfold swapE
  rw [ek, ej]
  constructor
  · intro h
    rcases List.mem_or_eq_of_mem_set h with h1 | h1
    · rcases List.mem_or_eq_of_mem_set h1 with h2 | h2
      · exact h2
      · rw [h2]; exact List.getElem_mem hj
    · rw [h1]; exact List.getElem_mem hk
  · intro h
    obtain ⟨i, hi, e1⟩ := List.mem_iff_getElem.1 h
    rw [List.mem_iff_getElem]
    by_cases h1 : i = k
    · subst h1
      exact ⟨j, by simpa using hj, by rw [List.getElem_set_self]; exact e1⟩
    · by_cases h2 : i = j
      · subst h2
        refine ⟨k, by simpa using hk, ?_⟩
        rw [List.getElem_set_ne (by omega), List.getElem_set_self]
        exact e1
      · refine ⟨i, by simpa using hi, ?_⟩
        rw [List.getElem_set_ne (by omega), List.getElem_set_ne (by omega)]
        exact e1

theorem flatE_set : ∀ (l : List (Int × Int)) (k : Nat) (e : Int × Int), flatE (l.set k e) = ((flatE l).set (k * 2) (.int .i64 e.1)).set (k * 2 + 1) (.int .i64 e.2)
  | [], k, e => by simp [flatE]
  | x :: l, 0, e => by simp [flatE]
  | x :: l, k + 1, e => by
    have := flatE_set l k e
    rw [show (k + 1) * 2 = k * 2 + 2 by omega]
    simp [flatE, this]

theorem own_put2 {w : World} {base g n c k : Nat} {es : List (Int × Int)} {x y : Int} (h : w.ownsRow base 45 2 (.slice (some ⟨g, 0, none⟩) n c) n (flatE es)) (hk : k < n) : ((w.setCell ⟨g, k * 2, none⟩ (.int .i64 x)).setCell ⟨g, k * 2 + 1, none⟩ (.int .i64 y)).ownsRow base 45 2 (.slice (some ⟨g, 0, none⟩) n c) n (flatE (es.set k (x, y))) := by
  obtain ⟨hl, ⟨e1, _⟩ | ⟨g', cap, cur, e1, h1, h2, h3, h4, h5, h6⟩⟩ := h
  · cases e1
  · cases e1
    have hr : RowAt w g 45 cur := h2
    refine ⟨by rw [flatE_length, List.length_set]; rw [flatE_length] at hl; exact hl, .inr ⟨g, c, (cur.setIfInBounds (k * 2) (.int .i64 x)).setIfInBounds (k * 2 + 1) (.int .i64 y), rfl, h1, (hr.set _ _).set _ _, h3, h4, by simpa using h5, ?_⟩⟩
    rw [flatE_set, ← h6, Array.toList_setIfInBounds, Array.toList_setIfInBounds, List.take_set, List.take_set]

end Go.Proofs.YtkagahaokimoiaaDoor.GraphMixedW
