/-
  Rows of memory that a call may write: what stays where other rows are written; no part of the program.
-/
import Derived.Test.YtkjjdmdlkdoedaaDoorSetsNumbers3
namespace Go.Proofs.YtkjjdmdlkdoedaaDoor.SetsApart
open Go.RowKit Go.Proofs.YtkjjdmdlkdoedaaDoor.SetsMath Go.Proofs.YtkjjdmdlkdoedaaDoor.SetsMany Go.Proofs.YtkjjdmdlkdoedaaDoor.SetsAlg

def RowAt (w : World) (b : Nat) (t : TypeId) (cur : Array Value) : Prop := w.heap[b]? = some (.cells cur t (0, 0))

theorem RowAt.lt {w : World} {b : Nat} {t : TypeId} {cur : Array Value} (h : RowAt w b t cur) : b < w.heap.size := (Array.getElem?_eq_some_iff.1 h).1

theorem RowAt.cell {w : World} {b : Nat} {t : TypeId} {cur : Array Value} (h : RowAt w b t cur) {q : Nat} {v : Value} (hq : cur[q]? = some v) : w.cell? ⟨b, q, none⟩ = some v := by
  unfold World.cell?
  rw [show w.heap[b]? = _ from h]
  exact hq

theorem RowAt.frozen {w : World} {b : Nat} {t : TypeId} {cur : Array Value} (h : RowAt w b t cur) (q : Nat) : w.frozen? ⟨b, q, none⟩ = false := by
  simp [World.frozen?, show w.heap[b]? = _ from h]

theorem RowAt.set {w : World} {b : Nat} {t : TypeId} {cur : Array Value} (h : RowAt w b t cur) (q : Nat) (v : Value) : RowAt (w.setCell ⟨b, q, none⟩ v) b t (cur.setIfInBounds q v) := by
  unfold RowAt at h ⊢
  simp only [World.setCell, Array.getElem?_modify]
  simp [h]

theorem RowAt.other {w : World} {b b' : Nat} {t : TypeId} {cur : Array Value} (h : RowAt w b t cur) (hne : b ≠ b') (q : Nat) (v : Value) : RowAt (w.setCell ⟨b', q, none⟩ v) b t cur := by
  unfold RowAt at h ⊢
  rw [Below.heap_setCell _ _ _ _ hne]
  exact h

theorem RowAt.below {w w' : World} {B b : Nat} {t : TypeId} {cur : Array Value} (h : RowAt w b t cur) (hb : Below B w w') (hlt : b < B) : RowAt w' b t cur := (hb.block b hlt).trans h

theorem RowAt.grown {w w' : World} {row : Option Nat} {b : Nat} {t : TypeId} {cur : Array Value} (h : RowAt w b t cur) (hg : w.grownBy w' row) (hne : some b ≠ row) : RowAt w' b t cur := (hg.block b h.lt hne).trans h

theorem RowAt.alloc {w : World} {b : Nat} {t : TypeId} {cur : Array Value} (h : RowAt w b t cur) (o : Obj) : RowAt (w.alloc o) b t cur := (Below.heap_alloc w o b h.lt).trans h

theorem RowAt.ne {w : World} {b b' : Nat} {t t' : TypeId} {cur cur' : Array Value} (h : RowAt w b t cur) (h' : RowAt w b' t' cur') (ht : t ≠ t') : b ≠ b' := by
  intro e
  subst e
  unfold RowAt at h h'
  rw [h] at h'
  cases h'
  exact ht rfl

theorem RowAt.not_own {w : World} {b : Nat} {t e : TypeId} {cur : Array Value} (h : RowAt w b t cur) (ht : t ≠ e) {base size n : Nat} {v : Value} {xs : List Value} (hr : w.ownsRow base e size v n xs) : some b ≠ v.ownBlock := by
  obtain ⟨_, ⟨rfl, _⟩ | ⟨g, cap, cur', rfl, _, hg, _⟩⟩ := hr
  · simp [Value.ownBlock]
  · intro hq
    simp only [Value.ownBlock, Option.some.injEq] at hq
    exact h.ne hg ht hq

theorem own_at {w : World} {base : Nat} {e : TypeId} {g n c : Nat} {xs : List Value} (h : w.ownsRow base e 1 (.slice (some ⟨g, 0, none⟩) n c) n xs) :
    ∃ cur, RowAt w g e cur ∧ cur.size = c ∧ n ≤ c ∧ base ≤ g ∧ ∀ q, q < n → cur[q]? = xs[q]? := by
  obtain ⟨_, h | ⟨g', cap, cur, hv, hb, hg, hn, _, hs, hx⟩⟩ := h
  · exact absurd h.1 (by simp)
  · simp at hv
    obtain ⟨rfl, rfl⟩ := hv
    refine ⟨cur, hg, by omega, hn, hb, fun q hq => ?_⟩
    rw [← hx, List.getElem?_take, if_pos (by omega), Array.getElem?_toList]

theorem own_base {w : World} {base base' : Nat} {e : TypeId} {size n : Nat} {v : Value} {xs : List Value} (h : w.ownsRow base e size v n xs) (hb : base' ≤ base) : w.ownsRow base' e size v n xs := by
  obtain ⟨h1, h | ⟨g, cap, cur, hv, hbb, rest⟩⟩ := h
  · exact ⟨h1, .inl h⟩
  · exact ⟨h1, .inr ⟨g, cap, cur, hv, by omega, rest⟩⟩

/-- The marks that have been written into the lists: all of those before i, the first k of the i-th. -/
def Marked (m : Nat) (g N : Nat → Nat) (t : TypeId) (w : World) (i k : Nat) : Prop :=
  ∀ j, j < m → ∃ cur, RowAt w (g j) t cur ∧ cur.size = N j ∧ ∀ q, q < N j → (j < i ∨ j = i ∧ q < k) → cur[q]? = some (.int .i64 (1000 * (j : Int) + (q : Int)))

theorem Marked.store {m : Nat} {g N : Nat → Nat} {t : TypeId} {w : World} {i k : Nat} (h : Marked m g N t w i k) (hi : i < m) (hd : ∀ a, a < m → ∀ b, b < m → a ≠ b → g a ≠ g b) :
    Marked m g N t (w.setCell ⟨g i, k, none⟩ (.int .i64 (1000 * (i : Int) + (k : Int)))) i (k + 1) := by
  intro j hj
  obtain ⟨cur, hr, hs, hc⟩ := h j hj
  by_cases e : j = i
  · subst e
    refine ⟨_, hr.set k _, by simpa using hs, fun q hq hcase => ?_⟩
    rw [Array.getElem?_setIfInBounds]
    by_cases hqk : k = q
    · subst hqk
      rw [if_pos rfl, if_pos (by omega)]
    · rw [if_neg hqk]
      exact hc q hq (by omega)
  · refine ⟨cur, hr.other (hd j hj i hi e) _ _, hs, fun q hq hcase => hc q hq (by omega)⟩

theorem Marked.next {m : Nat} {g N : Nat → Nat} {t : TypeId} {w : World} {i : Nat} (h : Marked m g N t w i (N i)) : Marked m g N t w (i + 1) 0 := by
  intro j hj
  obtain ⟨cur, hr, hs, hc⟩ := h j hj
  refine ⟨cur, hr, hs, fun q hq hcase => hc q hq ?_⟩
  by_cases e : j = i
  · subst e; exact .inr ⟨rfl, hq⟩
  · exact .inl (by omega)

theorem Marked.below {m B : Nat} {g N : Nat → Nat} {t : TypeId} {w w' : World} {i k : Nat} (h : Marked m g N t w i k) (hb : Below B w w') (hg : ∀ j, j < m → g j < B) : Marked m g N t w' i k := by
  intro j hj
  obtain ⟨cur, hr, rest⟩ := h j hj
  exact ⟨cur, hr.below hb (hg j hj), rest⟩

theorem Marked.grown {m : Nat} {g N : Nat → Nat} {t e : TypeId} {w w0 w' : World} {i k : Nat} (h : Marked m g N t w i k) (ht : t ≠ e) {base size n : Nat} {v : Value} {xs : List Value} (hr : w.ownsRow base e size v n xs) (o : Obj) (hw : w0 = w.alloc o) (hg : w0.grownBy w' v.ownBlock) : Marked m g N t w' i k := by
  subst hw
  intro j hj
  obtain ⟨cur, hrow, rest⟩ := h j hj
  exact ⟨cur, (hrow.alloc o).grown hg (hrow.not_own ht hr), rest⟩

/-- What a list that was gone on with holds. -/
def Longer (w : World) (t : TypeId) (j n : Nat) (v : Value) : Prop :=
  ∃ h c cur, v = .slice (some ⟨h, 0, none⟩) (n + 30) c ∧ RowAt w h t cur ∧ (∀ q, q < n → cur[q]? = some (.int .i64 (1000 * (j : Int) + (q : Int)))) ∧ ∀ q, q < 30 → cur[n + q]? = some (.int .i64 (500000 + 1000 * (j : Int) + (q : Int)))

theorem Longer.below {w w' : World} {t : TypeId} {j n B : Nat} {v : Value} (h : Longer w t j n v) (hb : Below B w w') (hB : w.heap.size ≤ B) : Longer w' t j n v := by
  obtain ⟨a, c, cur, hv, hr, rest⟩ := h
  exact ⟨a, c, cur, hv, hr.below hb (by have := hr.lt; omega), rest⟩

theorem Longer.grown {t e : TypeId} {w w' : World} {j n : Nat} {v : Value} (h : Longer w t j n v) (ht : t ≠ e) {base size k : Nat} {u : Value} {xs : List Value} (hr : w.ownsRow base e size u k xs) (o : Obj) (hg : (w.alloc o).grownBy w' u.ownBlock) : Longer w' t j n v := by
  obtain ⟨a, c, cur, hv, hrow, rest⟩ := h
  exact ⟨a, c, cur, hv, (hrow.alloc o).grown hg (hrow.not_own ht hr), rest⟩

/-- The marks of a list, and what is laid behind them. -/
def markL (j n : Nat) : List Value := (List.range n).map fun (q : Nat) => Value.int .i64 (1000 * (j : Int) + (q : Int))
def moreL (j k : Nat) : List Value := (List.range k).map fun (q : Nat) => Value.int .i64 (500000 + 1000 * (j : Int) + (q : Int))

theorem moreL_succ (j k : Nat) : moreL j (k + 1) = moreL j k ++ [.int .i64 (500000 + 1000 * (j : Int) + (k : Int))] := by
  simp [moreL, List.range_succ]

theorem markL_len (j n : Nat) : (markL j n).length = n := by simp [markL]
theorem moreL_len (j n : Nat) : (moreL j n).length = n := by simp [moreL]

theorem longer_of {w : World} {base : Nat} {t : TypeId} {j n : Nat} {v : Value} (h : w.ownsRow base t 1 v (n + 30) (markL j n ++ moreL j 30)) : Longer w t j n v := by
  obtain ⟨g, c, rfl⟩ := ownsRow_succ (k := n + 29) h
  obtain ⟨cur, hr, _, _, _, hx⟩ := own_at h
  refine ⟨g, c, cur, rfl, hr, fun q hq => ?_, fun q hq => ?_⟩
  · rw [hx q (by omega), List.getElem?_append_left (by rw [markL_len]; exact hq)]
    simp [markL, hq]
  · rw [hx (n + q) (by omega), List.getElem?_append_right (by rw [markL_len]; omega), markL_len]
    simp [moreL, hq]

theorem own_below {w w' : World} {base : Nat} {e : TypeId} {size n : Nat} {v : Value} {xs : List Value} (h : w.ownsRow base e size v n xs) (hb : Below w.heap.size w w') : w'.ownsRow base e size v n xs := by
  obtain ⟨h1, h | ⟨g, cap, cur, hv, hbb, hg, rest⟩⟩ := h
  · exact ⟨h1, .inl h⟩
  · exact ⟨h1, .inr ⟨g, cap, cur, hv, hbb, (hb.block g (Array.getElem?_eq_some_iff.1 hg).1).trans hg, rest⟩⟩

theorem markL_get {m : Nat} {g N : Nat → Nat} {t : TypeId} {w : World} {i : Nat} (h : Marked m g N t w m 0) (hi : i < m) : ∀ j u, (markL i (N i))[j]? = some u → w.cell? ⟨g i, j, none⟩ = some u := by
  intro j u hj
  obtain ⟨cur, hr, hs, hc⟩ := h i hi
  have hjl : j < N i := by
    have := (List.getElem?_eq_some_iff.1 hj).1
    rwa [markL_len] at this
  have h2 := hc j hjl (.inl hi)
  simp [markL, hjl] at hj
  subst hj
  exact hr.cell h2

end Go.Proofs.YtkjjdmdlkdoedaaDoor.SetsApart
