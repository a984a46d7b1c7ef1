/-
  Rows of pairs: cells, stores, appends, two of them side by side. No part of the program.
-/
import Derived.Test.YtkjmmoiickambaaDoorOpFaults
import Derived.Lib.BufferWrite
namespace Go.Proofs.YtkjmmoiickambaaDoor.OpFault
open Go.RowKit Go.Proofs.YtkjmmoiickambaaDoor.GramMath Go.Proofs.YtkjmmoiickambaaDoor.GramRow Go.Proofs.YtkjmmoiickambaaDoor.GramApart Go.Proofs.YtkjmmoiickambaaDoor.GramLent Go.Proofs.YtkjmmoiickambaaDoor.OpRow
set_option linter.unusedVariables false

theorem cellsP_len (ps : List (Int × Int)) : (cellsP ps).length = ps.length * 2 := by
  induction ps with
  | nil => rfl
  | cons p ps ih =>
    have e : cellsP (p :: ps) = [.int .i64 p.1, .int .i64 p.2] ++ cellsP ps := by simp [cellsP]
    rw [e, List.length_append, ih, List.length_cons]
    simp
    omega
theorem cellsP_cons (p : Int × Int) (ps : List (Int × Int)) : cellsP (p :: ps) = .int .i64 p.1 :: .int .i64 p.2 :: cellsP ps := by simp [cellsP]
theorem cellsP_get : ∀ (ps : List (Int × Int)) (k : Nat) (p : Int × Int), ps[k]? = some p → (cellsP ps)[k * 2]? = some (.int .i64 p.1) ∧ (cellsP ps)[k * 2 + 1]? = some (.int .i64 p.2)
  | [], k, p, h => by simp at h
  | q :: ps, 0, p, h => by
    obtain rfl : q = p := by simpa using h
    rw [cellsP_cons]
    exact ⟨rfl, rfl⟩
  | q :: ps, k + 1, p, h => by
    rw [List.getElem?_cons_succ] at h
    rw [cellsP_cons, show (k + 1) * 2 = k * 2 + 1 + 1 by omega]
    exact cellsP_get ps k p h
theorem cellsP_set : ∀ (ps : List (Int × Int)) (k : Nat) (a b : Int), k < ps.length → ((cellsP ps).set (k * 2) (.int .i64 a)).set (k * 2 + 1) (.int .i64 b) = cellsP (ps.set k (a, b))
  | [], k, a, b, h => by simp at h
  | q :: ps, 0, a, b, h => by rw [cellsP_cons, List.set_cons_zero]; exact (cellsP_cons (a, b) ps).symm
  | q :: ps, k + 1, a, b, h => by
    rw [cellsP_cons, List.set_cons_succ, cellsP_cons, show (k + 1) * 2 = k * 2 + 1 + 1 by omega]
    simp only [List.set_cons_succ]
    rw [cellsP_set ps k a b (by simpa using h)]

theorem own_form {w : World} {B : Nat} {e : TypeId} {s n : Nat} {v : Value} {xs : List Value} (h : w.ownsRow B e s v n xs) : ∃ a c, v = .slice a n c ∧ (0 < n → ∃ g, a = some ⟨g, 0, none⟩) := by
  obtain ⟨_, ⟨rfl, rfl⟩ | ⟨g, cap, cur, rfl, _⟩⟩ := h
  · exact ⟨none, 0, rfl, fun h => by omega⟩
  · exact ⟨_, _, rfl, fun _ => ⟨g, rfl⟩⟩

theorem ownP_cell {t : TypeId} {w : World} {B g n c : Nat} {l : List (Int × Int)} {k : Nat} {p : Int × Int} (h : w.ownsRow B t 2 (.slice (some ⟨g, 0, none⟩) n c) n (cellsP l)) (hp : l[k]? = some p) (hk : k < n) :
    w.cell? ⟨g, k * 2, none⟩ = some (.int .i64 p.1) ∧ w.cell? ⟨g, k * 2 + 1, none⟩ = some (.int .i64 p.2) := by
  obtain ⟨h1, h2⟩ := cellsP_get l k p hp
  exact ⟨by rw [h.cellAt (k * 2) (by omega)]; exact h1, by rw [h.cellAt (k * 2 + 1) (by omega)]; exact h2⟩

/-- Two rows that have no block in common. -/
def Dis (v v' : Value) : Prop := ∀ k, v.ownBlock = some k → v'.ownBlock ≠ some k
theorem Dis.symm {v v' : Value} (h : Dis v v') : Dis v' v := fun k hk e => h k e hk
theorem own_keep {w w' : World} {B : Nat} {e : TypeId} {s n : Nat} {v : Value} {xs : List Value} (h : w.ownsRow B e s v n xs) (hb : ∀ k, v.ownBlock = some k → w'.heap[k]? = w.heap[k]?) : w'.ownsRow B e s v n xs := by
  obtain ⟨h1, h | ⟨g, cap, cur, rfl, hbb, hg, rest⟩⟩ := h
  · exact ⟨h1, .inl h⟩
  · exact ⟨h1, .inr ⟨g, cap, cur, rfl, hbb, (hb g rfl).trans hg, rest⟩⟩
theorem Dis.grow {B n m s : Nat} {e : TypeId} {w w1 : World} {o : Obj} {v v2 : Value} {xs : List Value} {g c : Nat} (hd : Dis v v2) (h2 : w.ownsRow B e s v2 n xs) (hg : (w.alloc o).grownBy w1 v.ownBlock) (hat : v.ownBlock = some g ∨ g = w.heap.size + 1) :
    w1.ownsRow B e s v2 n xs ∧ Dis (.slice (some ⟨g, 0, none⟩) m c) v2 := by
  constructor
  · refine own_keep h2 (fun k hk => ?_)
    have hlt := (h2.lt k hk).2
    rw [hg.block k (by simp; omega) (fun e => hd k e.symm hk), Below.heap_alloc _ _ _ hlt]
  · intro k hk e
    have hk' : g = k := by simpa [Value.ownBlock] using hk
    subst hk'
    rcases hat with h | h
    · exact hd g h e
    · have := (h2.lt g e).2
      omega
/-- A store into one row: the other one stays. -/
theorem Dis.set {B n s : Nat} {e : TypeId} {w : World} {v : Value} {xs : List Value} {g q : Nat} {u : Value} {m c : Nat} (hd : Dis (.slice (some ⟨g, 0, none⟩) m c) v) (h : w.ownsRow B e s v n xs) : (w.setCell ⟨g, q, none⟩ u).ownsRow B e s v n xs :=
  own_keep h (fun k hk => by
    have hne : g ≠ k := fun e => hd k (by rw [← e]; rfl) hk
    exact (Lib.grownBy_setCell w g q u).block k ((h.lt k hk).2) (fun e => hne (by cases e; rfl)))
theorem dis_types {w : World} {B B' : Nat} {e e' : TypeId} {s s' n n' : Nat} {v v' : Value} {xs xs' : List Value} (h : w.ownsRow B e s v n xs) (h' : w.ownsRow B' e' s' v' n' xs') (hne : e ≠ e') : Dis v v' := by
  intro k hk hk'
  obtain ⟨_, ⟨rfl, _⟩ | ⟨g, cap, cur, rfl, _, hc, _⟩⟩ := h
  · cases hk
  · obtain ⟨_, ⟨rfl, _⟩ | ⟨g', cap', cur', rfl, _, hc', _⟩⟩ := h'
    · cases hk'
    · have e1 : g = k := by simpa [Value.ownBlock] using hk
      have e2 : g' = k := by simpa [Value.ownBlock] using hk'
      subst e1 e2
      rw [hc] at hc'
      cases hc'
      exact hne rfl
theorem dis_base {w w' : World} {B B' : Nat} {e e' : TypeId} {s s' n n' : Nat} {v v' : Value} {xs xs' : List Value} (h : w.ownsRow B e s v n xs) (h' : w'.ownsRow B' e' s' v' n' xs') (hB : w.heap.size ≤ B') : Dis v v' := by
  intro k hk hk'
  have h1 := (h.lt k hk).2
  have h2 := (h'.lt k hk').1
  omega

/-- The first k pairs written over. -/
def markP (l : List (Int × Int)) (k : Nat) : List (Int × Int) := List.replicate k (-7, 0) ++ l.drop k
theorem markP_zero (l : List (Int × Int)) : markP l 0 = l := by simp [markP]
theorem markP_len {l : List (Int × Int)} {k : Nat} (h : k ≤ l.length) : (markP l k).length = l.length := by simp [markP]; omega
theorem markP_get {l : List (Int × Int)} {k : Nat} (h : k < l.length) : (markP l k)[k]? = l[k]? := by
  unfold markP
  rw [List.getElem?_append_right (by simp), List.getElem?_drop]
  simp
theorem markP_set {l : List (Int × Int)} {k : Nat} (h : k < l.length) : (markP l k).set k (-7, 0) = markP l (k + 1) := by
  unfold markP
  rw [List.set_append_right _ _ (by simp), List.drop_eq_getElem_cons h, List.replicate_succ', List.length_replicate, Nat.sub_self, List.set_cons_zero, List.append_assoc]
  rfl
theorem markP_all (l : List (Int × Int)) : markP l l.length = List.replicate l.length (-7, 0) := by simp [markP]

end Go.Proofs.YtkjmmoiickambaaDoor.OpFault
