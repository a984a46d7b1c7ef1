/-
  Lists of texts and of marks as they came in, and the words that they say. No part of the program.
-/
import Derived.Test.YtbnajikkogdelaaDoorWordsRow
namespace Go.Proofs.YtbnajikkogdelaaDoor.WordsBytes
open Go.RowKit Go.Proofs.YtbnajikkogdelaaDoor.WordsMath Go.Proofs.YtbnajikkogdelaaDoor.WordsOne

def SRow (w : World) (a : Option Addr) (n : Nat) (ss : List ByteArray) : Prop :=
  ∀ i, i < n → ∃ b off, a = some ⟨b, off, none⟩ ∧ w.cell? ⟨b, off + i, none⟩ = some (.string (ss.getD i ByteArray.empty))
def BRow (w : World) (a : Option Addr) (n : Nat) (qs : List Bool) : Prop :=
  ∀ i, i < n → ∃ b off, a = some ⟨b, off, none⟩ ∧ w.cell? ⟨b, off + i, none⟩ = some (.bool (qs.getD i false))

theorem SRow.below {w w' : World} {a : Option Addr} {n : Nat} {ss : List ByteArray} (h : SRow w a n ss) (hb : Below w.heap.size w w') : SRow w' a n ss := fun i hi => by
  obtain ⟨b, off, ha, hc⟩ := h i hi
  exact ⟨b, off, ha, by rw [hb.cell (cell_lt hc)]; exact hc⟩
theorem BRow.below {w w' : World} {a : Option Addr} {n : Nat} {ss : List Bool} (h : BRow w a n ss) (hb : Below w.heap.size w w') : BRow w' a n ss := fun i hi => by
  obtain ⟨b, off, ha, hc⟩ := h i hi
  exact ⟨b, off, ha, by rw [hb.cell (cell_lt hc)]; exact hc⟩

/-- The words that the lists say. -/
def wAt (ss : List ByteArray) (qs : List Bool) (m : Nat) (step : Nat) (i : Nat) : W := ⟨(ss.getD i ByteArray.empty).data.toList, decide (i < m) && qs.getD i false, step * i⟩
def wsOf (ss : List ByteArray) (qs : List Bool) (m step n : Nat) : List W := (List.range n).map (wAt ss qs m step)

theorem wsOf_len (ss : List ByteArray) (qs : List Bool) (m step n : Nat) : (wsOf ss qs m step n).length = n := by simp [wsOf]
theorem wsOf_succ (ss : List ByteArray) (qs : List Bool) (m step n : Nat) : wsOf ss qs m step (n + 1) = wsOf ss qs m step n ++ [wAt ss qs m step n] := by simp [wsOf, List.range_succ]
theorem wsOf_text {ss : List ByteArray} {qs : List Bool} {m step n M : Nat} (h : ∀ i, i < n → (ss.getD i ByteArray.empty).size ≤ M) : ∀ x ∈ wsOf ss qs m step n, x.text.length ≤ M := by
  intro x hx
  obtain ⟨i, hi, rfl⟩ := List.mem_map.1 hx
  have := h i (List.mem_range.1 hi)
  show (ss.getD i ByteArray.empty).data.toList.length ≤ M
  rw [list_size]
  exact this

theorem mk_list (b : ByteArray) : (⟨b.data.toList.toArray⟩ : ByteArray) = b := by cases b; simp

theorem wordL_len (t : List UInt8) (q : Bool) : (wordL t q).length ≤ 4 * t.length + 2 := by
  unfold wordL
  split
  · exact quoteL_len t
  · omega

theorem allW_len (M : Nat) : ∀ ws : List W, (∀ x ∈ ws, x.text.length ≤ M) → (allW ws).length ≤ ws.length * (4 * M + 3) := by
  intro ws h
  have key : ∀ k, k ≤ ws.length → (outW ws k).length ≤ k * (4 * M + 3) := by
    intro k
    induction k with
    | zero => intro _; rw [outW_zero]; simp
    | succ k ih =>
      intro hk
      have hx : ws[k]? = some ws[k] := List.getElem?_eq_getElem (by omega)
      have hm := h _ (List.mem_of_getElem? hx)
      have hw := wordL_len ws[k].text ws[k].quoted
      have := ih (by omega)
      rw [Nat.succ_mul]
      by_cases hk0 : k = 0
      · rw [outW_start hk0 hx, List.length_append]
        omega
      · rw [outW_next hx (by omega), List.length_append, List.length_append]
        simp only [List.length_cons, List.length_nil]
        omega
  rw [← outW_end (Nat.le_refl ws.length)]
  exact key _ (Nat.le_refl _)

theorem own_ne {W : World} {H H' n k s s' : Nat} {e e' : TypeId} {u v : Value} {ys xs : List Value} (hu : W.ownsRow H e s u n ys) (hv : W.ownsRow H' e' s' v k xs) (he : e ≠ e') : u.ownBlock = none ∨ u.ownBlock ≠ v.ownBlock := by
  obtain ⟨_, ⟨rfl, _⟩ | ⟨g, cap, cur, rfl, _, hg, _⟩⟩ := hu
  · exact .inl rfl
  · obtain ⟨_, ⟨rfl, _⟩ | ⟨g', cap', cur', rfl, _, hg', _⟩⟩ := hv
    · exact .inr (by simp [Value.ownBlock])
    · refine .inr fun e => ?_
      simp only [Value.ownBlock, Option.some.injEq] at e
      subst e
      rw [hg] at hg'
      cases hg'
      exact he rfl

theorem own_shape {W : World} {base : Nat} {e : TypeId} {v : Value} {ws : List Go.Proofs.YtbnajikkogdelaaDoor.WordsMath.W} (h : W.ownsRow base e 3 v ws.length (cellsW ws)) : ∃ a c, v = .slice a ws.length c ∧ WRow W a ws := by
  obtain ⟨_, ⟨rfl, hn⟩ | ⟨g, cap, cur, rfl, _⟩⟩ := id h
  · obtain rfl : ws = [] := List.eq_nil_of_length_eq_zero hn
    exact ⟨none, 0, rfl, fun i x hx => by simp at hx⟩
  · exact ⟨_, cap, rfl, WRow.of_own h⟩

theorem app3 {B : Nat} {w w1 w2 : World} {o : Obj} {v : Value} {e : TypeId} {n : Nat} {xs : List Value} (hb : Below B w w1) (hB : B ≤ w1.heap.size) (hrow : w1.ownsRow B e 3 v n xs) (hg : (w1.alloc o).grownBy w2 v.ownBlock) : Below B w w2 :=
  (hb.alloc hB o).grown hg (by simp; omega) (fun k hk => (hrow.lt k hk).1)

theorem own_cap3 {w : World} {base : Nat} {e : TypeId} {g n c : Nat} {xs : List Value} (h : w.ownsRow base e 3 (.slice (some ⟨g, 0, none⟩) n c) n xs) : n ≤ c ∧ c ≤ maxLen := by
  obtain ⟨_, h | ⟨g', cap, cur, hv, hb, _, hn, hm, _⟩⟩ := h
  · exact absurd h.1 (by simp)
  · simp at hv
    obtain ⟨rfl, rfl⟩ := hv
    exact ⟨hn, hm⟩

theorem own_wrow {W : World} {base : Nat} {e : TypeId} {a : Option Addr} {c : Nat} {ws : List Go.Proofs.YtbnajikkogdelaaDoor.WordsMath.W} (h : W.ownsRow base e 3 (.slice a ws.length c) ws.length (cellsW ws)) : WRow W a ws := by
  obtain ⟨a', c', he, hw⟩ := own_shape h
  cases he
  exact hw

theorem WRow.left {w : World} {a : Option Addr} {ws : List Go.Proofs.YtbnajikkogdelaaDoor.WordsMath.W} (us : List Go.Proofs.YtbnajikkogdelaaDoor.WordsMath.W) (h : WRow w a (ws ++ us)) : WRow w a ws := fun i x hx => h i x (by rw [List.getElem?_append_left (List.getElem?_eq_some_iff.1 hx).1]; exact hx)

theorem infoW : (Tryd.prog.info? 48).map (fun i => (i.zero, i.size, i.bytes)) = some (some (.agg #[.string ⟨#[]⟩, .bool false, .int .i64 0]), 3, 32) := by kernel_rfl

theorem infoR : (Tryd.prog.info? 66).map (fun i => (i.zero, i.size, i.bytes)) = some (some (.agg #[.string ⟨#[]⟩, .bool false, .int .i64 0]), 3, 32) := by kernel_rfl

theorem row3 {W : World} {B : Nat} {e : TypeId} {v' : Value} {ws : List Go.Proofs.YtbnajikkogdelaaDoor.WordsMath.W} {n : Nat} {x : Go.Proofs.YtbnajikkogdelaaDoor.WordsMath.W} (h : W.ownsRow B e 3 v' (n + 1) (cellsW ws ++ wv x)) :
    ∃ g c, v' = .slice (some ⟨g, 0, none⟩) (n + 1) c ∧ W.ownsRow B e 3 (.slice (some ⟨g, 0, none⟩) (n + 1) c) (n + 1) (cellsW (ws ++ [x])) := by
  rw [← cellsW_snoc] at h
  obtain ⟨g, c, rfl⟩ := ownsRow_succ h
  exact ⟨g, c, rfl, h⟩

end Go.Proofs.YtbnajikkogdelaaDoor.WordsBytes
