/-
  Texts that stand together: GraphLent.
-/
import Derived.Test.YtcoepmpgclndiaaGreatDoorBagGraphTour
import Derived.Test.YtcoepmpgclndiaaGreatDoorBagGramLessMath
import Derived.ChangeKeysEq
import Derived.Laws.StructEq
namespace Go.Proofs.YtcoepmpgclndiaaGreatDoor.GraphLent
open Go.RowKit Go.Proofs.YtcoepmpgclndiaaGreatDoor.GramMath Go.Proofs.YtcoepmpgclndiaaGreatDoor.GramRow Go.Proofs.YtcoepmpgclndiaaGreatDoor.GramApart Go.Proofs.YtcoepmpgclndiaaGreatDoor.GramLent Go.Proofs.YtcoepmpgclndiaaGreatDoor.OpRow Go.Proofs.YtcoepmpgclndiaaGreatDoor.GraphNet
set_option linter.unusedVariables false
set_option linter.unusedSimpArgs false

theorem info_int : ∃ i, Tryz.prog.info? 3 = some i := by
  obtain ⟨i0, hi, _⟩ := info_parts infoI
  exact ⟨i0, hi⟩
theorem cells_int : Tryz.prog.cellsOf 3 = 1 := by kernel_rfl

theorem part_int (l : List Int) (i : Nat) (x : Int) (h : l[i]? = some x) (w : World) : (part 3 (intsA l) i).run Tryz.prog w = .ok (.int .i64 x) w := by
  have h1 := intsA_get h
  generalize intsA l = A at *
  simp [part, go_sem, h1]

theorem eq_items (d : Nat) (f g : List Int) (w : World) : ∀ is : List Nat, (∀ i ∈ is, i < f.length ∧ i < g.length) →
    (Op.eqItems (d + 1) 3 1 (intsA f) (intsA g) is).run Tryz.prog w = .ok (decide (∀ i ∈ is, f[i]? = g[i]?)) w
  | [], _ => by simp [Op.eqItems]
  | i :: is, h => by
    have ih := eq_items d f g w is (fun j hj => h j (List.mem_cons_of_mem _ hj))
    obtain ⟨h1, h2⟩ := h i List.mem_cons_self
    obtain ⟨x, hx⟩ : ∃ x, f[i]? = some x := ⟨f[i], List.getElem?_eq_getElem h1⟩
    obtain ⟨y, hy⟩ : ∃ y, g[i]? = some y := ⟨g[i], List.getElem?_eq_getElem h2⟩
    have p1 := part_int f i x hx w
    have p2 := part_int g i y hy w
    have p3 := run_equalIn_int (P := Tryz.prog) w d 3 .i64 .i64 x y Tryz.underlying3
    simp only [Op.eqItems, Sem.run_bind, Nat.mul_one, p1, p2, p3, Result.andThen_ok]
    by_cases hxy : x = y
    · subst hxy
      have e : decide (∀ j ∈ i :: is, f[j]? = g[j]?) = decide (∀ j ∈ is, f[j]? = g[j]?) := decide_eq_decide.2 (by simp [hx, hy])
      rw [e]
      simp only [BEq.rfl, Bool.not_true, Bool.false_eq_true, if_false, ih]
    · have : (x == y) = false := by simpa using hxy
      have e : decide (∀ j ∈ i :: is, f[j]? = g[j]?) = false := decide_eq_false (fun h => hxy (by
        have := h i List.mem_cons_self
        rw [hx, hy] at this
        simpa using this))
      rw [e]
      simp only [this, Bool.not_false, if_true, Sem.run_pure]

theorem eqE (a b c d : Int) (w : World) : (Op.equalIn 10000 39 (.agg #[.int .i64 a, .int .i64 b]) (.agg #[.int .i64 c, .int .i64 d])).run Tryz.prog w = .ok (decide (a = c ∧ b = d)) w := by
  obtain ⟨i0, hi⟩ := info_int
  have h := run_equalIn_array (P := Tryz.prog) w 9999 (intsA [a, b]) (intsA [c, d]) Tryz.underlying39 hi
  rw [cells_int, eq_items 9998 [a, b] [c, d] w _ (fun i hi => by rw [List.mem_range] at hi; simp; omega)] at h
  have e : decide (∀ i ∈ List.range 2, [a, b][i]? = [c, d][i]?) = decide (a = c ∧ b = d) := by
    rw [decide_eq_decide]
    constructor
    · intro h
      have h0 := h 0 (by simp)
      have h1 := h 1 (by simp)
      simp at h0 h1
      exact ⟨h0, h1⟩
    · rintro ⟨rfl, rfl⟩ i _
      rfl
  rw [e] at h
  exact h

/-- Edges as cells. -/
def flatE : List (Int × Int) → List Value
  | [] => []
  | e :: l => .int .i64 e.1 :: .int .i64 e.2 :: flatE l
theorem flatE_length : ∀ l : List (Int × Int), (flatE l).length = l.length * 2
  | [] => rfl
  | e :: l => by simp [flatE, flatE_length l]; omega
theorem flatE_append : ∀ l l' : List (Int × Int), flatE (l ++ l') = flatE l ++ flatE l'
  | [], l' => rfl
  | e :: l, l' => by simp [flatE, flatE_append l l']
theorem flatE_at : ∀ {l : List (Int × Int)} {i : Nat} {e : Int × Int}, l[i]? = some e → (flatE l)[i * 2]? = some (.int .i64 e.1) ∧ (flatE l)[i * 2 + 1]? = some (.int .i64 e.2)
  | [], i, e, h => by cases h
  | x :: l, 0, e, h => by
    obtain rfl : x = e := by simpa using h
    exact ⟨rfl, rfl⟩
  | x :: l, i + 1, e, h => by
    have := flatE_at (l := l) (i := i) (e := e) (by simpa using h)
    rw [show (i + 1) * 2 = i * 2 + 2 from by omega]
    exact this
theorem own_erow {w : World} {base g n c : Nat} {es : List (Int × Int)} {e : TypeId} (h : w.ownsRow base e 2 (.slice (some ⟨g, 0, none⟩) n c) n (flatE es)) : ERow w (some ⟨g, 0, none⟩) es := fun i x hx => by
  obtain ⟨h1, h2⟩ := flatE_at hx
  have hl := h.1
  rw [flatE_length] at hl
  have hi := (List.getElem?_eq_some_iff.1 hx).1
  refine ⟨g, 0, rfl, ?_, ?_⟩
  · rw [Nat.zero_add, h.cellAt _ (by omega)]; exact h1
  · rw [Nat.zero_add, h.cellAt _ (by omega)]; exact h2

theorem infoE : (Tryz.prog.info? 39).map (fun i => (i.zero, i.size, i.bytes)) = some (some (.agg #[.int .i64 0, .int .i64 0]), 2, 16) := by kernel_rfl

/-- Edges that were lent. -/
structure LentE (w0 w : World) (g c : Nat) (es : List (Int × Int)) : Prop where
  lt : es.length < c
  max : c ≤ maxLen
  ge : w0.heap.size ≤ g
  row : ERow w (some ⟨g, 0, none⟩) (es ++ [(-71, -71)])
theorem LentE.below {w0 w w' : World} {g c : Nat} {es : List (Int × Int)} (h : LentE w0 w g c es) (hb : Below w.heap.size w w') : LentE w0 w' g c es := ⟨h.lt, h.max, h.ge, h.row.below hb (Nat.le_refl _)⟩
end Go.Proofs.YtcoepmpgclndiaaGreatDoor.GraphLent
