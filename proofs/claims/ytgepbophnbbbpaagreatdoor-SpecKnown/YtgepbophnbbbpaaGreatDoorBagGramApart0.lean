/-
  Texts that stand together: GramApart0, GramCopy.
-/
import Derived.Test.YtgepbophnbbbpaaGreatDoorBagGramLent
import Derived.Test.YtgepbophnbbbpaaGreatDoorBagShelf
import Derived.Test.YtgepbophnbbbpaaGreatDoorBagGramKept
import Derived.Laws.CopyOwn
import Derived.Handy
namespace Go.Proofs.YtgepbophnbbbpaaGreatDoor.GramApart
open Go.RowKit Go.Proofs.YtgepbophnbbbpaaGreatDoor.GramMath Go.Proofs.YtgepbophnbbbpaaGreatDoor.GramRow
set_option linter.unusedVariables false

def RowAt (w : World) (b : Nat) (t : TypeId) (cur : Array Value) : Prop := w.heap[b]? = some (.cells cur t (0, 0))

theorem RowAt.lt {w : World} {b : Nat} {t : TypeId} {cur : Array Value} (h : RowAt w b t cur) : b < w.heap.size := (Array.getElem?_eq_some_iff.1 h).1

theorem RowAt.cell {w : World} {b : Nat} {t : TypeId} {cur : Array Value} (h : RowAt w b t cur) {q : Nat} {v : Value} (hq : cur[q]? = some v) : w.cell? ⟨b, q, none⟩ = some v := by
  unfold World.cell?
  rw [show w.heap[b]? = _ from h]
  exact hq

theorem RowAt.frozen {w : World} {b : Nat} {t : TypeId} {cur : Array Value} (h : RowAt w b t cur) (q : Nat) : w.frozen? ⟨b, q, none⟩ = false := by
  simp [World.frozen?, show w.heap[b]? = _ from h]

theorem RowAt.set {w : World} {b : Nat} {t : TypeId} {cur : Array Value} (h : RowAt w b t cur) (q : Nat) (v : Value) : RowAt (w.setCell ⟨b, q, none⟩ v) b t (cur.setIfInBounds q v) := by
  unfold RowAt at h ⊢
  simp only [World.setCell, Array.getElem?_modify]
  simp [h]

theorem RowAt.other {w : World} {b b' : Nat} {t : TypeId} {cur : Array Value} (h : RowAt w b t cur) (hne : b ≠ b') (q : Nat) (v : Value) : RowAt (w.setCell ⟨b', q, none⟩ v) b t cur := by
  unfold RowAt at h ⊢
  rw [Below.heap_setCell _ _ _ _ hne]
  exact h

theorem RowAt.below {w w' : World} {B b : Nat} {t : TypeId} {cur : Array Value} (h : RowAt w b t cur) (hb : Below B w w') (hlt : b < B) : RowAt w' b t cur := (hb.block b hlt).trans h

theorem RowAt.grown {w w' : World} {row : Option Nat} {b : Nat} {t : TypeId} {cur : Array Value} (h : RowAt w b t cur) (hg : w.grownBy w' row) (hne : some b ≠ row) : RowAt w' b t cur := (hg.block b h.lt hne).trans h

theorem RowAt.alloc {w : World} {b : Nat} {t : TypeId} {cur : Array Value} (h : RowAt w b t cur) (o : Obj) : RowAt (w.alloc o) b t cur := (Below.heap_alloc w o b h.lt).trans h

theorem RowAt.ne {w : World} {b b' : Nat} {t t' : TypeId} {cur cur' : Array Value} (h : RowAt w b t cur) (h' : RowAt w b' t' cur') (ht : t ≠ t') : b ≠ b' := by
  intro e
  subst e
  unfold RowAt at h h'
  rw [h] at h'
  cases h'
  exact ht rfl

theorem RowAt.not_own {w : World} {b : Nat} {t e : TypeId} {cur : Array Value} (h : RowAt w b t cur) (ht : t ≠ e) {base size n : Nat} {v : Value} {xs : List Value} (hr : w.ownsRow base e size v n xs) : some b ≠ v.ownBlock := by
  obtain ⟨_, ⟨rfl, _⟩ | ⟨g, cap, cur', rfl, _, hg, _⟩⟩ := hr
  · simp [Value.ownBlock]
  · intro hq
    simp only [Value.ownBlock, Option.some.injEq] at hq
    exact h.ne hg ht hq

/-- The marks that have been written into the lists: all of those before i, the first k of the i-th. -/
def Marked (mk : Int → Value) (m : Nat) (g N : Nat → Nat) (w : World) (i k : Nat) : Prop :=
  ∀ j, j < m → ∀ q, q < N j → w.frozen? ⟨g j, q, none⟩ = false ∧ ∃ v, w.cell? ⟨g j, q, none⟩ = some v ∧ ((j < i ∨ j = i ∧ q < k) → v = mk (1000 * (j : Int) + (q : Int)))

theorem Marked.store {mk : Int → Value} {m : Nat} {g N : Nat → Nat} {w : World} {i k : Nat} (h : Marked mk m g N w i k) (hi : i < m) (hk : k < N i) (hd : ∀ a, a < m → ∀ b, b < m → a ≠ b → 0 < N a → 0 < N b → g a ≠ g b) :
    Marked mk m g N (w.setCell ⟨g i, k, none⟩ (mk (1000 * (i : Int) + (k : Int)))) i (k + 1) := by
  intro j hj q hq
  obtain ⟨hf, v, hv, hc⟩ := h j hj q hq
  refine ⟨by rw [World.frozen?_setCell]; exact hf, ?_⟩
  by_cases e : j = i
  · subst e
    by_cases hqk : q = k
    · subst hqk
      exact ⟨_, World.cell?_setCell_same (h := hv) .., fun _ => rfl⟩
    · refine ⟨v, ?_, fun hcase => hc (by omega)⟩
      rw [World.cell?_setCell_other (h := show (⟨g j, k, none⟩ : Addr) ≠ ⟨g j, q, none⟩ from fun h => hqk (by cases h; rfl))]
      exact hv
  · refine ⟨v, ?_, fun hcase => hc (by omega)⟩
    have hne : g j ≠ g i := hd j hj i hi e (by omega) (by omega)
    rw [World.cell?_setCell_other (h := show (⟨g i, k, none⟩ : Addr) ≠ ⟨g j, q, none⟩ from fun h => hne (congrArg Addr.block h).symm)]
    exact hv

theorem Marked.next {mk : Int → Value} {m : Nat} {g N : Nat → Nat} {w : World} {i : Nat} (h : Marked mk m g N w i (N i)) : Marked mk m g N w (i + 1) 0 := by
  intro j hj q hq
  obtain ⟨hf, v, hv, hc⟩ := h j hj q hq
  refine ⟨hf, v, hv, fun hcase => hc ?_⟩
  by_cases e : j = i
  · subst e; exact .inr ⟨rfl, hq⟩
  · exact .inl (by omega)

theorem Marked.below {mk : Int → Value} {m B : Nat} {g N : Nat → Nat} {w w' : World} {i k : Nat} (h : Marked mk m g N w i k) (hb : Below B w w') (hg : ∀ j, j < m → 0 < N j → g j < B) : Marked mk m g N w' i k := by
  intro j hj q hq
  obtain ⟨hf, v, hv, hc⟩ := h j hj q hq
  have hB := hg j hj (by omega)
  exact ⟨(hb.frozen (p := ⟨g j, q, none⟩) hB).trans hf, v, (hb.cell (p := ⟨g j, q, none⟩) hB).trans hv, hc⟩

/-- What a list that was gone on with holds. -/
def Longer (mk : Int → Value) (w : World) (t : TypeId) (j n : Nat) (v : Value) : Prop :=
  ∃ h c cur, v = .slice (some ⟨h, 0, none⟩) (n + 30) c ∧ RowAt w h t cur ∧ (∀ q, q < n → cur[q]? = some (mk (1000 * (j : Int) + (q : Int)))) ∧ ∀ q, q < 30 → cur[n + q]? = some (mk (500000 + 1000 * (j : Int) + (q : Int)))

theorem Longer.below {mk : Int → Value} {w w' : World} {t : TypeId} {j n B : Nat} {v : Value} (h : Longer mk w t j n v) (hb : Below B w w') (hB : w.heap.size ≤ B) : Longer mk w' t j n v := by
  obtain ⟨a, c, cur, hv, hr, rest⟩ := h
  exact ⟨a, c, cur, hv, hr.below hb (by have := hr.lt; omega), rest⟩

theorem Longer.grown {mk : Int → Value} {t e : TypeId} {w w' : World} {j n : Nat} {v : Value} (h : Longer mk w t j n v) (ht : t ≠ e) {base size k : Nat} {u : Value} {xs : List Value} (hr : w.ownsRow base e size u k xs) (o : Obj) (hg : (w.alloc o).grownBy w' u.ownBlock) : Longer mk w' t j n v := by
  obtain ⟨a, c, cur, hv, hrow, rest⟩ := h
  exact ⟨a, c, cur, hv, (hrow.alloc o).grown hg (hrow.not_own ht hr), rest⟩

/-- The marks of a list, and what is laid behind them. -/
def markL (mk : Int → Value) (j n : Nat) : List Value := (List.range n).map fun (q : Nat) => mk (1000 * (j : Int) + (q : Int))
def moreL (mk : Int → Value) (j k : Nat) : List Value := (List.range k).map fun (q : Nat) => mk (500000 + 1000 * (j : Int) + (q : Int))

theorem own_below {w w' : World} {base : Nat} {e : TypeId} {size n : Nat} {v : Value} {xs : List Value} (h : w.ownsRow base e size v n xs) (hb : Below w.heap.size w w') : w'.ownsRow base e size v n xs := by
  obtain ⟨h1, h | ⟨g, cap, cur, hv, hbb, hg, rest⟩⟩ := h
  · exact ⟨h1, .inl h⟩
  · exact ⟨h1, .inr ⟨g, cap, cur, hv, hbb, (hb.block g (Array.getElem?_eq_some_iff.1 hg).1).trans hg, rest⟩⟩

/-- Where a list lies that may be none. -/
def at' (g N : Nat → Nat) (j : Nat) : Option Addr → Prop
  | none => N j = 0
  | some a => a = ⟨g j, 0, none⟩

end Go.Proofs.YtgepbophnbbbpaaGreatDoor.GramApart

namespace Go.Proofs.YtgepbophnbbbpaaGreatDoor.GramCopy
open Go.RowKit Go.Proofs.YtgepbophnbbbpaaGreatDoor.GramMath Go.Proofs.YtgepbophnbbbpaaGreatDoor.GramRow Go.Proofs.YtgepbophnbbbpaaGreatDoor.GramApart Go.Proofs.YtgepbophnbbbpaaGreatDoor.GramLent Go.Proofs.YtgepbophnbbbpaaGreatDoor.GramName
set_option linter.unusedVariables false

def intsA (zs : List Int) : Array Value := (zs.map (Value.int .i64)).toArray

theorem madeI_any (n : Nat) (hn : n * 8 ≤ 140737488351232) (w : World) : (Instr.makeSlice 34 (.int .i64 (n : Int)) (.int .i64 (n : Int))).run Tryz.prog w = .ok (.slice (some ⟨w.heap.size, 0, none⟩) n n) (w.alloc (.cells (madeCells #[.int .i64 0] n) 3)) := by
  obtain ⟨i0, hi, hz0, hz1, hz2⟩ := info_parts infoI
  have h := run_make (P := Tryz.prog) w 34 3 i0 (.int .i64 0) Tryz.underlying34 hi hz0 .i64 .i64 (n : Int) (n : Int) (by omega) (by omega) (by rw [hz2]; omega) (by omega)
  rw [hz1] at h
  simpa [Value.cells] using h

theorem made_heap (w : World) (z : Value) (n : Nat) (t : TypeId) : (w.alloc (.cells (madeCells #[z] n) t)).heap[w.heap.size]? = some (.cells (List.replicate n z).toArray t (0, 0)) := by
  rw [heap_new]
  congr 2
  rw [← toList_madeCells_one]

set_option maxRecDepth 100000 in
set_option maxHeartbeats 1000000 in
theorem copyRule_any (l : Int) (a : Option Addr) (c : Nat) (zs : List Int) (w : World) (hr : IRow w a zs) (hm : zs.length * 8 ≤ 140737488351232) :
    Calls Tryz.prog 79 #[.int .i64 l, .slice a zs.length c] w fun e w' => (∃ b, e = .returned (.agg #[.int .i64 l, .slice (some ⟨b, 0, none⟩) zs.length zs.length]) ∧ w.heap.size ≤ b ∧ RowAt w' b 3 (intsA zs)) ∧ Below w.heap.size w w' := by
  have hmk := fun W => madeI_any zs.length hm W
  have hB1 : Below w.heap.size w (w.alloc (.cells #[.int .i64 0, .slice none 0 0] 46)) := (Below.refl _ _).alloc (Nat.le_refl _) _
  have hz1 : (w.alloc (.cells #[.int .i64 0, .slice none 0 0] 46)).heap.size = w.heap.size + 1 := by simp
  have r0 : (w.alloc (.cells #[.int .i64 0, .slice none 0 0] 46)).heap[w.heap.size]? = some (.cells #[.int .i64 0, .slice none 0 0] 46 (0, 0)) := heap_new _ _
  have hmade := made_heap (w.alloc (.cells #[.int .i64 0, .slice none 0 0] 46)) (.int .i64 0) zs.length 3
  have hB2 : Below (w.heap.size + 1) (w.alloc (.cells #[.int .i64 0, .slice none 0 0] 46)) ((w.alloc (.cells #[.int .i64 0, .slice none 0 0] 46)).alloc (.cells (madeCells #[.int .i64 0] zs.length) 3)) := (Below.refl _ _).alloc (by omega) _
  have hr2 := (hr.below hB1 (Nat.le_refl _)).below hB2 (by omega)
  rw [hz1] at hmade
  have hone : ∀ v ∈ zs.map (Value.int .i64), v.oneCell' = true := fun v hv => by
    obtain ⟨y, _, rfl⟩ := List.mem_map.1 hv
    rfl
  have hinfo : (Tryz.prog.info? 3).map (·.size) = some 1 := by kernel_rfl
  obtain ⟨w1, hrun, hrow, hb1⟩ : ∃ w1, (Builtin.copy_ #[34, 34] 3 #[.slice (some ⟨w.heap.size + 1, 0, none⟩) zs.length zs.length, .slice a zs.length c]).run Tryz.prog ((w.alloc (.cells #[.int .i64 0, .slice none 0 0] 46)).alloc (.cells (madeCells #[.int .i64 0] zs.length) 3)) = .ok (.int .i64 (zs.length : Int)) w1 ∧ RowAt w1 (w.heap.size + 1) 3 (intsA zs) ∧ Below (w.heap.size + 1) ((w.alloc (.cells #[.int .i64 0, .slice none 0 0] 46)).alloc (.cells (madeCells #[.int .i64 0] zs.length) 3)) w1 := by
    by_cases h0 : zs.length = 0
    · have hrun := run_copy_none (P := Tryz.prog) ((w.alloc (.cells #[.int .i64 0, .slice none 0 0] 46)).alloc (.cells (madeCells #[.int .i64 0] zs.length) 3)) 34 34 3 3 (some ⟨w.heap.size + 1, 0, none⟩) a zs.length zs.length zs.length c Tryz.underlying34 hinfo (by rw [h0]; rfl)
      refine ⟨_, hrun.trans (by rw [h0]; rfl), ?_, Below.refl _ _⟩
      obtain rfl : zs = [] := List.length_eq_zero_iff.1 h0
      exact hmade
    · obtain ⟨x, hx⟩ : ∃ x, zs[0]? = some x := ⟨zs[0]'(by omega), List.getElem?_eq_getElem _⟩
      obtain ⟨b, off, rfl, _⟩ := hr2 0 x hx
      have hrun := run_copy_row (P := Tryz.prog) ((w.alloc (.cells #[.int .i64 0, .slice none 0 0] 46)).alloc (.cells (madeCells #[.int .i64 0] zs.length) 3)) 34 34 3 3 (w.heap.size + 1) 0 zs.length zs.length ⟨b, off, none⟩ zs.length c _ 3 (zs.map (Value.int .i64)) Tryz.underlying34 hinfo hmade (by simp) (fun j v hj => by
        rw [List.getElem?_map, Option.map_eq_some_iff] at hj
        obtain ⟨y, hy, rfl⟩ := hj
        obtain ⟨b', off', hb, hc⟩ := hr2 j y hy
        cases hb
        rw [Addr.add_lit]
        exact hc) (by simp) hone
      refine ⟨_, hrun.trans (by simp [goInt]; rfl), ?_, below_setRow (Below.refl _ _) (Nat.le_refl _) _⟩
      exact setRow_heap _ _ _ (zs.map (Value.int .i64)).toArray _ _ hmade
  have hzW : w.heap.size + 1 ≤ ((w.alloc (.cells #[.int .i64 0, .slice none 0 0] 46)).alloc (.cells (madeCells #[.int .i64 0] zs.length) 3)).heap.size := by simp
  have q0 : w1.cell? ⟨w.heap.size, 0, none⟩ = some (.int .i64 0) := (hb1.cell (p := ⟨w.heap.size, 0, none⟩) (by simp)).trans (by simp)
  have q1 : w1.cell? ⟨w.heap.size, 1, none⟩ = some (.slice none 0 0) := (hb1.cell (p := ⟨w.heap.size, 1, none⟩) (by simp)).trans (by simp)
  have y0 : w1.frozen? ⟨w.heap.size, 0, none⟩ = false := (hb1.frozen (p := ⟨w.heap.size, 0, none⟩) (by simp)).trans (by simp)
  have y1 : w1.frozen? ⟨w.heap.size, 1, none⟩ = false := (hb1.frozen (p := ⟨w.heap.size, 1, none⟩) (by simp)).trans (by simp)
  have hBw : Below w.heap.size w w1 := hB1.trans ((hB2.mono (by omega)).trans (hb1.mono (by omega)))
  clear hr hr2 hmade hone hB1 hB2 r0 hzW hb1
  go_enter Tryz.func79, Tryz.ntmps79
  go_wp2
  have E : Hid (RowAt ((w1.setCell ⟨w.heap.size, 0, none⟩ (.int .i64 l)).setCell ⟨w.heap.size, 1, none⟩ (.slice (some ⟨w.heap.size + 1, 0, none⟩) zs.length zs.length)) (w.heap.size + 1) 3 (intsA zs)) := (hrow.other (by omega) _ _).other (by omega) _ _
  have hBf : Below w.heap.size w ((w1.setCell ⟨w.heap.size, 0, none⟩ (.int .i64 l)).setCell ⟨w.heap.size, 1, none⟩ (.slice (some ⟨w.heap.size + 1, 0, none⟩) zs.length zs.length)) := (hBw.setCell (by simp) _).setCell (by simp) _
  refine bodyPost_ret (v := .agg #[.int .i64 l, .slice (some ⟨w.heap.size + 1, 0, none⟩) zs.length zs.length]) (by simp [results, Tryz.results79, go_sem, q0, q1]; try rfl) rfl ?_
  exact ⟨⟨w.heap.size + 1, rfl, by omega, E.out⟩, hBf⟩

def strsA (ss : List ByteArray) : Array Value := (ss.map Value.string).toArray

theorem infoS : (Tryz.prog.info? 9).map (fun i => (i.zero, i.size, i.bytes)) = some (some (.string ⟨#[]⟩), 1, 16) := by kernel_rfl

theorem madeS_any (n : Nat) (hn : n * 16 ≤ 140737488351232) (w : World) : (Instr.makeSlice 22 (.int .i64 (n : Int)) (.int .i64 (n : Int))).run Tryz.prog w = .ok (.slice (some ⟨w.heap.size, 0, none⟩) n n) (w.alloc (.cells (madeCells #[.string ⟨#[]⟩] n) 9)) := by
  obtain ⟨i0, hi, hz0, hz1, hz2⟩ := info_parts infoS
  have h := run_make (P := Tryz.prog) w 22 9 i0 (.string ⟨#[]⟩) Tryz.underlying22 hi hz0 .i64 .i64 (n : Int) (n : Int) (by omega) (by omega) (by rw [hz2]; omega) (by omega)
  rw [hz1] at h
  simpa [Value.cells] using h

theorem row_new (w : World) (z : Value) (n : Nat) (t : TypeId) : RowAt (w.alloc (.cells (madeCells #[z] n) t)) w.heap.size t (List.replicate n z).toArray := made_heap w z n t

/-- The first k of a list, zeros behind them. -/
def partS (ss : List ByteArray) (k : Nat) : Array Value := ((ss.take k).map Value.string ++ List.replicate (ss.length - k) (Value.string ⟨#[]⟩)).toArray

theorem partS_zero (ss : List ByteArray) : partS ss 0 = (List.replicate ss.length (Value.string ⟨#[]⟩)).toArray := by simp [partS]
theorem partS_all (ss : List ByteArray) : partS ss ss.length = strsA ss := by simp [partS, strsA]
theorem partS_succ {ss : List ByteArray} {k : Nat} {x : ByteArray} (hx : ss[k]? = some x) : (partS ss k).setIfInBounds k (.string x) = partS ss (k + 1) := by
  obtain ⟨hk, he⟩ := List.getElem?_eq_some_iff.1 hx
  unfold partS
  rw [List.setIfInBounds_toArray, List.set_append_right _ _ (by simp; omega), List.take_succ_eq_append_getElem hk, List.map_append, he]
  have e1 : k - ((ss.take k).map Value.string).length = 0 := by simp; omega
  have e2 : ss.length - k = (ss.length - (k + 1)) + 1 := by omega
  rw [e1, e2, List.replicate_succ]
  simp
theorem partS_get {ss : List ByteArray} {k : Nat} (hk : k < ss.length) : (partS ss k)[k]? = some (.string ⟨#[]⟩) := by
  unfold partS
  rw [List.getElem?_toArray, List.getElem?_append_right (by simp; omega), List.getElem?_replicate]
  rw [if_pos (by simp; omega)]

set_option maxRecDepth 100000 in
set_option maxHeartbeats 1000000 in
theorem copyNames_any (a : Option Addr) (c : Nat) (ss : List ByteArray) (w : World) (hr : SRow w a ss) (hm : ss.length * 16 ≤ 140737488351232) (hs : ∀ s ∈ ss, s.size ≤ 281474976710656) :
    Calls Tryz.prog 102 #[.slice a ss.length c] w fun e w' => (∃ b, e = .returned (.slice (some ⟨b, 0, none⟩) ss.length ss.length) ∧ w.heap.size ≤ b ∧ RowAt w' b 9 (strsA ss)) ∧ Below w.heap.size w w' := by
  have hmk := fun W => madeS_any ss.length hm W
  have hrow0 := row_new w (.string ⟨#[]⟩) ss.length 9
  rw [← partS_zero] at hrow0
  have hB0 : Below w.heap.size w (w.alloc (.cells (madeCells #[.string ⟨#[]⟩] ss.length) 9)) := (Below.refl _ _).alloc (Nat.le_refl _) _
  go_enter Tryz.func102, Tryz.ntmps102
  go_wp2
  generalize w.alloc (.cells (madeCells #[.string ⟨#[]⟩] ss.length) 9) = W0 at *
  clear hmk
  go_loopw [11] (fun i wr => ∃ k : Nat, k ≤ ss.length ∧ i = .int .i64 k ∧ RowAt wr w.heap.size 9 (partS ss k) ∧ Below w.heap.size w wr) (fun i _ => ss.length - (intOf i).toNat)
  case atStart => exact ⟨0, by omega, rfl, hrow0, hB0⟩
  case round =>
    clear hrow0 hB0
    obtain ⟨k, hk, rfl, hrow, hB⟩ := hrel
    by_cases hlt : k < ss.length
    · obtain ⟨x, hx⟩ : ∃ x, ss[k]? = some x := ⟨ss[k], List.getElem?_eq_getElem hlt⟩
      obtain ⟨b, off, rfl, hc⟩ := hr k x hx
      have hc2 := (hB.cell (cell_lt hc)).trans hc
      have hlt2 : (k : Int) < (ss.length : Int) := by omega
      have hxs := hs x (List.mem_of_getElem? hx)
      have hlt3 := hrow.lt
      clear hr hs
      go_wp2_with fail
      refine (clone_any x _ hxs).mono ?_
      rintro e w2 ⟨rfl, hb2⟩
      have hrow2 := hrow.below hb2 hlt3
      have ck := hrow2.cell (partS_get hlt)
      have fk := hrow2.frozen k
      have hrow3 := hrow2.set k (.string x)
      rw [partS_succ hx] at hrow3
      have hB3 := (hB.trans (hb2.mono hB.size)).setCell (p := ⟨w.heap.size, k, none⟩) (by simp) (.string x)
      clear hrow hrow2 hx
      go_wp2
      go_roundw
      case rel => exact ⟨k + 1, by omega, by go_num, hrow3, hB3⟩
      case measure => simp [intOf]; omega
    · obtain rfl : k = ss.length := by omega
      rw [partS_all] at hrow
      have hnl : ¬ (ss.length : Int) < (ss.length : Int) := by omega
      clear hr hs
      go_wp2
      go_ret
      exact ⟨⟨w.heap.size, rfl, by omega, hrow⟩, hB⟩

end Go.Proofs.YtgepbophnbbbpaaGreatDoor.GramCopy
