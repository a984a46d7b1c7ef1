/-
  Rows of memory that a call may write: what stays where other rows are written; no part of the program.
-/
import Derived.Test.YtcmjneabcdpmoaaDoorGramLent
namespace Go.Proofs.YtcmjneabcdpmoaaDoor.GramApart
open Go.RowKit Go.Proofs.YtcmjneabcdpmoaaDoor.GramMath Go.Proofs.YtcmjneabcdpmoaaDoor.GramRow
set_option linter.unusedVariables false

def RowAt (w : World) (b : Nat) (t : TypeId) (cur : Array Value) : Prop := w.heap[b]? = some (.cells cur t (0, 0))

theorem RowAt.lt {w : World} {b : Nat} {t : TypeId} {cur : Array Value} (h : RowAt w b t cur) : b < w.heap.size := (Array.getElem?_eq_some_iff.1 h).1

theorem RowAt.cell {w : World} {b : Nat} {t : TypeId} {cur : Array Value} (h : RowAt w b t cur) {q : Nat} {v : Value} (hq : cur[q]? = some v) : w.cell? ⟨b, q, none⟩ = some v := by
  unfold World.cell?
  rw [show w.heap[b]? = _ from h]
  exact hq

theorem RowAt.frozen {w : World} {b : Nat} {t : TypeId} {cur : Array Value} (h : RowAt w b t cur) (q : Nat) : w.frozen? ⟨b, q, none⟩ = false := by
  simp [World.frozen?, show w.heap[b]? = _ from h]

theorem RowAt.set {w : World} {b : Nat} {t : TypeId} {cur : Array Value} (h : RowAt w b t cur) (q : Nat) (v : Value) : RowAt (w.setCell ⟨b, q, none⟩ v) b t (cur.setIfInBounds q v) := by
  unfold RowAt at h ⊢
  simp only [World.setCell, Array.getElem?_modify]
  simp [h]

theorem RowAt.other {w : World} {b b' : Nat} {t : TypeId} {cur : Array Value} (h : RowAt w b t cur) (hne : b ≠ b') (q : Nat) (v : Value) : RowAt (w.setCell ⟨b', q, none⟩ v) b t cur := by
  unfold RowAt at h ⊢
  rw [Below.heap_setCell _ _ _ _ hne]
  exact h

theorem RowAt.below {w w' : World} {B b : Nat} {t : TypeId} {cur : Array Value} (h : RowAt w b t cur) (hb : Below B w w') (hlt : b < B) : RowAt w' b t cur := (hb.block b hlt).trans h

theorem RowAt.grown {w w' : World} {row : Option Nat} {b : Nat} {t : TypeId} {cur : Array Value} (h : RowAt w b t cur) (hg : w.grownBy w' row) (hne : some b ≠ row) : RowAt w' b t cur := (hg.block b h.lt hne).trans h

theorem RowAt.alloc {w : World} {b : Nat} {t : TypeId} {cur : Array Value} (h : RowAt w b t cur) (o : Obj) : RowAt (w.alloc o) b t cur := (Below.heap_alloc w o b h.lt).trans h

theorem RowAt.ne {w : World} {b b' : Nat} {t t' : TypeId} {cur cur' : Array Value} (h : RowAt w b t cur) (h' : RowAt w b' t' cur') (ht : t ≠ t') : b ≠ b' := by
  intro e
  subst e
  unfold RowAt at h h'
  rw [h] at h'
  cases h'
  exact ht rfl

theorem RowAt.not_own {w : World} {b : Nat} {t e : TypeId} {cur : Array Value} (h : RowAt w b t cur) (ht : t ≠ e) {base size n : Nat} {v : Value} {xs : List Value} (hr : w.ownsRow base e size v n xs) : some b ≠ v.ownBlock := by
  obtain ⟨_, ⟨rfl, _⟩ | ⟨g, cap, cur', rfl, _, hg, _⟩⟩ := hr
  · simp [Value.ownBlock]
  · intro hq
    simp only [Value.ownBlock, Option.some.injEq] at hq
    exact h.ne hg ht hq

theorem own_at {w : World} {base : Nat} {e : TypeId} {g n c : Nat} {xs : List Value} (h : w.ownsRow base e 1 (.slice (some ⟨g, 0, none⟩) n c) n xs) :
    ∃ cur, RowAt w g e cur ∧ cur.size = c ∧ n ≤ c ∧ base ≤ g ∧ ∀ q, q < n → cur[q]? = xs[q]? := by
  obtain ⟨_, h | ⟨g', cap, cur, hv, hb, hg, hn, _, hs, hx⟩⟩ := h
  · exact absurd h.1 (by simp)
  · simp at hv
    obtain ⟨rfl, rfl⟩ := hv
    refine ⟨cur, hg, by omega, hn, hb, fun q hq => ?_⟩
    rw [← hx, List.getElem?_take, if_pos (by omega), Array.getElem?_toList]

theorem own_base {w : World} {base base' : Nat} {e : TypeId} {size n : Nat} {v : Value} {xs : List Value} (h : w.ownsRow base e size v n xs) (hb : base' ≤ base) : w.ownsRow base' e size v n xs := by
  obtain ⟨h1, h | ⟨g, cap, cur, hv, hbb, rest⟩⟩ := h
  · exact ⟨h1, .inl h⟩
  · exact ⟨h1, .inr ⟨g, cap, cur, hv, by omega, rest⟩⟩

/-- The marks that have been written into the lists: all of those before i, the first k of the i-th. -/
def Marked (mk : Int → Value) (m : Nat) (g N : Nat → Nat) (w : World) (i k : Nat) : Prop :=
  ∀ j, j < m → ∀ q, q < N j → w.frozen? ⟨g j, q, none⟩ = false ∧ ∃ v, w.cell? ⟨g j, q, none⟩ = some v ∧ ((j < i ∨ j = i ∧ q < k) → v = mk (1000 * (j : Int) + (q : Int)))

theorem Marked.store {mk : Int → Value} {m : Nat} {g N : Nat → Nat} {w : World} {i k : Nat} (h : Marked mk m g N w i k) (hi : i < m) (hk : k < N i) (hd : ∀ a, a < m → ∀ b, b < m → a ≠ b → 0 < N a → 0 < N b → g a ≠ g b) :
    Marked mk m g N (w.setCell ⟨g i, k, none⟩ (mk (1000 * (i : Int) + (k : Int)))) i (k + 1) := by
  intro j hj q hq
  obtain ⟨hf, v, hv, hc⟩ := h j hj q hq
  refine ⟨by rw [World.frozen?_setCell]; exact hf, ?_⟩
  by_cases e : j = i
  · subst e
    by_cases hqk : q = k
    · subst hqk
      exact ⟨_, World.cell?_setCell_same (h := hv) .., fun _ => rfl⟩
    · refine ⟨v, ?_, fun hcase => hc (by omega)⟩
      rw [World.cell?_setCell_other (h := show (⟨g j, k, none⟩ : Addr) ≠ ⟨g j, q, none⟩ from fun h => hqk (by cases h; rfl))]
      exact hv
  · refine ⟨v, ?_, fun hcase => hc (by omega)⟩
    have hne : g j ≠ g i := hd j hj i hi e (by omega) (by omega)
    rw [World.cell?_setCell_other (h := show (⟨g i, k, none⟩ : Addr) ≠ ⟨g j, q, none⟩ from fun h => hne (congrArg Addr.block h).symm)]
    exact hv

theorem Marked.next {mk : Int → Value} {m : Nat} {g N : Nat → Nat} {w : World} {i : Nat} (h : Marked mk m g N w i (N i)) : Marked mk m g N w (i + 1) 0 := by
  intro j hj q hq
  obtain ⟨hf, v, hv, hc⟩ := h j hj q hq
  refine ⟨hf, v, hv, fun hcase => hc ?_⟩
  by_cases e : j = i
  · subst e; exact .inr ⟨rfl, hq⟩
  · exact .inl (by omega)

theorem Marked.below {mk : Int → Value} {m B : Nat} {g N : Nat → Nat} {w w' : World} {i k : Nat} (h : Marked mk m g N w i k) (hb : Below B w w') (hg : ∀ j, j < m → 0 < N j → g j < B) : Marked mk m g N w' i k := by
  intro j hj q hq
  obtain ⟨hf, v, hv, hc⟩ := h j hj q hq
  have hB := hg j hj (by omega)
  exact ⟨(hb.frozen (p := ⟨g j, q, none⟩) hB).trans hf, v, (hb.cell (p := ⟨g j, q, none⟩) hB).trans hv, hc⟩

/-- What a list that was gone on with holds. -/
def Longer (mk : Int → Value) (w : World) (t : TypeId) (j n : Nat) (v : Value) : Prop :=
  ∃ h c cur, v = .slice (some ⟨h, 0, none⟩) (n + 30) c ∧ RowAt w h t cur ∧ (∀ q, q < n → cur[q]? = some (mk (1000 * (j : Int) + (q : Int)))) ∧ ∀ q, q < 30 → cur[n + q]? = some (mk (500000 + 1000 * (j : Int) + (q : Int)))

theorem Longer.below {mk : Int → Value} {w w' : World} {t : TypeId} {j n B : Nat} {v : Value} (h : Longer mk w t j n v) (hb : Below B w w') (hB : w.heap.size ≤ B) : Longer mk w' t j n v := by
  obtain ⟨a, c, cur, hv, hr, rest⟩ := h
  exact ⟨a, c, cur, hv, hr.below hb (by have := hr.lt; omega), rest⟩

theorem Longer.grown {mk : Int → Value} {t e : TypeId} {w w' : World} {j n : Nat} {v : Value} (h : Longer mk w t j n v) (ht : t ≠ e) {base size k : Nat} {u : Value} {xs : List Value} (hr : w.ownsRow base e size u k xs) (o : Obj) (hg : (w.alloc o).grownBy w' u.ownBlock) : Longer mk w' t j n v := by
  obtain ⟨a, c, cur, hv, hrow, rest⟩ := h
  exact ⟨a, c, cur, hv, (hrow.alloc o).grown hg (hrow.not_own ht hr), rest⟩

/-- The marks of a list, and what is laid behind them. -/
def markL (mk : Int → Value) (j n : Nat) : List Value := (List.range n).map fun (q : Nat) => mk (1000 * (j : Int) + (q : Int))
def moreL (mk : Int → Value) (j k : Nat) : List Value := (List.range k).map fun (q : Nat) => mk (500000 + 1000 * (j : Int) + (q : Int))

theorem moreL_succ (mk : Int → Value) (j k : Nat) : moreL mk j (k + 1) = moreL mk j k ++ [mk (500000 + 1000 * (j : Int) + (k : Int))] := by
  simp [moreL, List.range_succ]

theorem markL_len (mk : Int → Value) (j n : Nat) : (markL mk j n).length = n := by simp [markL]
theorem moreL_len (mk : Int → Value) (j n : Nat) : (moreL mk j n).length = n := by simp [moreL]

theorem longer_of {mk : Int → Value} {w : World} {base : Nat} {t : TypeId} {j n : Nat} {v : Value} (h : w.ownsRow base t 1 v (n + 30) (markL mk j n ++ moreL mk j 30)) : Longer mk w t j n v := by
  obtain ⟨g, c, rfl⟩ := ownsRow_succ (k := n + 29) h
  obtain ⟨cur, hr, _, _, _, hx⟩ := own_at h
  refine ⟨g, c, cur, rfl, hr, fun q hq => ?_, fun q hq => ?_⟩
  · rw [hx q (by omega), List.getElem?_append_left (by rw [markL_len]; exact hq)]
    simp [markL, hq]
  · rw [hx (n + q) (by omega), List.getElem?_append_right (by rw [markL_len]; omega), markL_len]
    simp [moreL, hq]

theorem own_below {w w' : World} {base : Nat} {e : TypeId} {size n : Nat} {v : Value} {xs : List Value} (h : w.ownsRow base e size v n xs) (hb : Below w.heap.size w w') : w'.ownsRow base e size v n xs := by
  obtain ⟨h1, h | ⟨g, cap, cur, hv, hbb, hg, rest⟩⟩ := h
  · exact ⟨h1, .inl h⟩
  · exact ⟨h1, .inr ⟨g, cap, cur, hv, hbb, (hb.block g (Array.getElem?_eq_some_iff.1 hg).1).trans hg, rest⟩⟩

theorem markL_get {mk : Int → Value} {m : Nat} {g N : Nat → Nat} {w : World} {i : Nat} (h : Marked mk m g N w m 0) (hi : i < m) : ∀ j u, (markL mk i (N i))[j]? = some u → w.cell? ⟨g i, j, none⟩ = some u := by
  intro j u hj
  have hjl : j < N i := by
    have := (List.getElem?_eq_some_iff.1 hj).1
    rwa [markL_len] at this
  obtain ⟨_, v, hv, hc⟩ := h i hi j hjl
  have h2 := hc (.inl hi)
  simp [markL, hjl] at hj
  subst hj
  rw [hv, h2]

/-- Where a list lies that may be none. -/
def at' (g N : Nat → Nat) (j : Nat) : Option Addr → Prop
  | none => N j = 0
  | some a => a = ⟨g j, 0, none⟩

end Go.Proofs.YtcmjneabcdpmoaaDoor.GramApart
