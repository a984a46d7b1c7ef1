/-
  Nets in memory: for each node a row of numbers, each row in a block of its own.
-/
import Derived.Test.YtgllcbajgndldaaDoorGraphSort
import Derived.Test.YtgllcbajgndldaaDoorGraphTour
import Derived.Deep.AppendLies
namespace Go.Proofs.YtgllcbajgndldaaDoor.GraphNet
open Go.RowKit Go.Sort Go.Proofs.YtgllcbajgndldaaDoor.GramMath Go.Proofs.YtgllcbajgndldaaDoor.GramRow Go.Proofs.YtgllcbajgndldaaDoor.GramApart Go.Proofs.YtgllcbajgndldaaDoor.GraphMath Go.Proofs.YtgllcbajgndldaaDoor.GraphFn Go.Proofs.YtgllcbajgndldaaDoor.GraphSort Go.Proofs.YtgllcbajgndldaaDoor.OpRow
set_option linter.unusedVariables false

/-- Edges in a row. -/
def ERow (w : World) (a : Option Addr) (es : List (Int × Int)) : Prop :=
  ∀ i e, es[i]? = some e → ∃ b off, a = some ⟨b, off, none⟩ ∧ w.cell? ⟨b, off + i * 2, none⟩ = some (.int .i64 e.1) ∧ w.cell? ⟨b, off + i * 2 + 1, none⟩ = some (.int .i64 e.2)
theorem ERow.below {w w' : World} {a : Option Addr} {es : List (Int × Int)} {B : Nat} (h : ERow w a es) (hb : Below B w w') (hB : w.heap.size ≤ B) : ERow w' a es := fun i x hx => by
  obtain ⟨b, off, ha, h1, h2⟩ := h i x hx
  exact ⟨b, off, ha, by rw [hb.cell (Nat.lt_of_lt_of_le (cell_lt h1) hB)]; exact h1, by rw [hb.cell (Nat.lt_of_lt_of_le (cell_lt h2) hB)]; exact h2⟩

def updL {α : Type} (f : Nat → α) (x : Nat) (v : α) : Nat → α := fun y => if y = x then v else f y
theorem updL_at {α : Type} (f : Nat → α) (x : Nat) (v : α) : updL f x v x = v := by simp [updL]
theorem updL_ne {α : Type} (f : Nat → α) {x y : Nat} (v : α) (h : y ≠ x) : updL f x v y = f y := by simp [updL, h]

structure Net (w : World) (B bg m : Nat) (f : Nat → List Int) (V : Nat → Value) : Prop where
  cells : ∀ i, i < m → w.cell? ⟨bg, i, none⟩ = some (V i) ∧ w.frozen? ⟨bg, i, none⟩ = false
  own : ∀ i, i < m → w.ownsRow B 3 1 (V i) (f i).length (iV (f i))
  apart : ∀ i j x, i < m → j < m → (V i).ownBlock = some x → (V j).ownBlock = some x → i = j
  lt : bg < B

theorem grown_trans {w w1 w2 : World} {r : Option Nat} (h : w.grownBy w1 r) (h2 : w1.grownBy w2 r) : w.grownBy w2 r :=
  ⟨h2.os.trans h.os, h2.tape.trans h.tape, h2.output.trans h.output, Nat.le_trans h.size h2.size, fun k hk hr => (h2.block k (Nat.lt_of_lt_of_le hk h.size) hr).trans (h.block k hk hr)⟩
theorem grown_below {w w1 : World} (r : Option Nat) (h : Below w.heap.size w w1) : w.grownBy w1 r := ⟨h.os, h.tape, h.output, h.size, fun k hk _ => h.block k hk⟩

theorem Net.below {w w' : World} {B bg m : Nat} {f : Nat → List Int} {V : Nat → Value} (h : Net w B bg m f V) (hb : Below w.heap.size w w') : Net w' B bg m f V :=
  ⟨fun i hi => ⟨(hb.cell (cell_lt (h.cells i hi).1)).trans (h.cells i hi).1, (hb.frozen (p := ⟨bg, i, none⟩) (cell_lt (h.cells i hi).1)).trans (h.cells i hi).2⟩, fun i hi => (h.own i hi).kept (grown_below none hb) (by
    cases hv : (V i).ownBlock with
    | none => exact .inl rfl
    | some x => exact .inr (by simp)), h.apart, h.lt⟩

theorem Net.congr {w : World} {B bg m : Nat} {f g : Nat → List Int} {V : Nat → Value} (h : Net w B bg m f V) (e : ∀ i, i < m → f i = g i) : Net w B bg m g V :=
  ⟨h.cells, fun i hi => by rw [← e i hi]; exact h.own i hi, h.apart, h.lt⟩

/-- A row of a net is another one. -/
theorem Net.put {w w' : World} {B bg m : Nat} {f : Nat → List Int} {V : Nat → Value} (h : Net w B bg m f V) {x : Nat} (hx : x < m) {v' : Value} {zs : List Int} (hg : w.grownBy w' (V x).ownBlock) (hown : w'.ownsRow B 3 1 v' zs.length (iV zs)) (hat : ∀ g, v'.ownBlock = some g → (V x).ownBlock = some g ∨ w.heap.size ≤ g) :
    (w'.cell? ⟨bg, x, none⟩ = some (V x) ∧ w'.frozen? ⟨bg, x, none⟩ = false) ∧ Net (w'.setCell ⟨bg, x, none⟩ v') B bg m (updL f x zs) (updL V x v') := by
  have hbl : ∀ i, i < m → w'.cell? ⟨bg, i, none⟩ = some (V i) ∧ w'.frozen? ⟨bg, i, none⟩ = false := fun i hi => by
    have hlt := cell_lt (h.cells i hi).1
    have e := hg.block bg hlt (fun e => by have := ((h.own x hx).lt bg e.symm).1; have := h.lt; omega)
    exact ⟨(World.cell?_of_block (a := ⟨bg, i, none⟩) e).trans (h.cells i hi).1, (World.frozen?_of_block (a := ⟨bg, i, none⟩) e).trans (h.cells i hi).2⟩
  refine ⟨hbl x hx, fun i hi => ?_, fun i hi => ?_, fun i j y hi hj h1 h2 => ?_, h.lt⟩
  · refine ⟨?_, by rw [World.frozen?_setCell]; exact (hbl i hi).2⟩
    by_cases e : i = x
    · subst e
      rw [updL_at]
      exact World.cell?_setCell_same (h := (hbl i hi).1) ..
    · rw [updL_ne _ _ e, World.cell?_setCell_other (h := show (⟨bg, x, none⟩ : Addr) ≠ ⟨bg, i, none⟩ from fun h => e (by cases h; rfl))]
      exact (hbl i hi).1
  · by_cases e : i = x
    · subst e
      rw [updL_at, updL_at]
      exact ownsRow_setCell_below hown h.lt _
    · rw [updL_ne _ _ e, updL_ne _ _ e]
      refine ownsRow_setCell_below ((h.own i hi).kept hg ?_) h.lt _
      cases hv : (V i).ownBlock with
      | none => exact .inl rfl
      | some y => exact .inr (fun hc => e (h.apart i x y hi hx hv hc.symm))
  · by_cases e : i = x
    · by_cases e2 : j = x
      · rw [e, e2]
      · subst e
        rw [updL_at] at h1
        rw [updL_ne _ _ e2] at h2
        rcases hat y h1 with h3 | h3
        · exact h.apart i j y hi hj h3 h2
        · have := ((h.own j hj).lt y h2).2
          omega
    · by_cases e2 : j = x
      · subst e2
        rw [updL_at] at h2
        rw [updL_ne _ _ e] at h1
        rcases hat y h2 with h3 | h3
        · exact h.apart i j y hi hj h1 h3
        · have := ((h.own i hi).lt y h1).2
          omega
      · rw [updL_ne _ _ e] at h1
        rw [updL_ne _ _ e2] at h2
        exact h.apart i j y hi hj h1 h2

theorem own_form {w : World} {base : Nat} {v : Value} {zs : List Int} (h : w.ownsRow base 3 1 v zs.length (iV zs)) : ∃ a c, v = .slice a zs.length c ∧ IRow w a zs := by
  obtain ⟨hl, ⟨rfl, h0⟩ | ⟨g, cap, cur, rfl, hb, hg, h1, h2, h3, h4⟩⟩ := id h
  · obtain rfl : zs = [] := List.length_eq_zero_iff.1 h0
    exact ⟨none, 0, rfl, fun i x hx => by simp at hx⟩
  · refine ⟨_, cap, rfl, fun i x hx => ⟨g, 0, rfl, ?_⟩⟩
    have hi := (List.getElem?_eq_some_iff.1 hx).1
    rw [Nat.zero_add, h.cellAt i (by omega)]
    simp [iV, hx]

/-- A net that is only read. -/
def NetR (w : World) (bg m : Nat) (f : Nat → List Int) : Prop := ∀ i, i < m → ∃ a c, w.cell? ⟨bg, i, none⟩ = some (.slice a (f i).length c) ∧ IRow w a (f i)
theorem Net.read {w : World} {B bg m : Nat} {f : Nat → List Int} {V : Nat → Value} (h : Net w B bg m f V) : NetR w bg m f := fun i hi => by
  obtain ⟨a, c, hv, hr⟩ := own_form (h.own i hi)
  exact ⟨a, c, by rw [(h.cells i hi).1, hv], hr⟩
theorem NetR.below {w w' : World} {B bg m : Nat} {f : Nat → List Int} (h : NetR w bg m f) (hb : Below B w w') (hB : w.heap.size ≤ B) : NetR w' bg m f := fun i hi => by
  obtain ⟨a, c, h1, h2⟩ := h i hi
  exact ⟨a, c, by rw [hb.cell (Nat.lt_of_lt_of_le (cell_lt h1) hB)]; exact h1, h2.below hb hB⟩

/-- What is wrong with a graph. -/
def mayE (n : Int) (es : List (Int × Int)) : Nat := if 256 < n ∨ 4096 < es.length then 12 else if n < 0 then 1 else if es.all (fun e => hasB n.toNat [e.1, e.2]) then 0 else 1
def toE (es : List (Int × Int)) : List (Nat × Nat) := es.map (fun e => (e.1.toNat, e.2.toNat))
theorem toE_length (es : List (Int × Int)) : (toE es).length = es.length := by simp [toE]
theorem toE_take (es : List (Int × Int)) (k : Nat) : (toE es).take k = toE (es.take k) := by simp [toE]

theorem netInfo : (Tryd.prog.info? 24).map (fun i => (i.zero, i.size, i.bytes)) = some (some (.slice none 0 0), 1, 24) := by kernel_rfl
theorem madeN_any (n : Nat) (hn : n ≤ 256) (w : World) : (Instr.makeSlice 46 (.int .i64 (n : Int)) (.int .i64 (n : Int))).run Tryd.prog w = .ok (.slice (some ⟨w.heap.size, 0, none⟩) n n) (w.alloc (.cells (madeCells #[.slice none 0 0] n) 24)) := by
  obtain ⟨i0, hi, hz0, hz1, hz2⟩ := info_parts netInfo
  have h := run_make (P := Tryd.prog) w 46 24 i0 (.slice none 0 0) Tryd.underlying46 hi hz0 .i64 .i64 (n : Int) (n : Int) (by omega) (by omega) (by rw [hz2]; omega) (by omega)
  rw [hz1] at h
  simpa [Value.cells] using h

theorem net_made (n : Nat) (w : World) : Net (w.alloc (.cells (madeCells #[.slice none 0 0] n) 24)) (w.heap.size + 1) w.heap.size n (fun _ => []) (fun _ => .slice none 0 0) := by
  have hr : RowAt (w.alloc (.cells (madeCells #[.slice none 0 0] n) 24)) w.heap.size 24 (List.replicate n (.slice none 0 0)).toArray := by
    show (w.alloc _).heap[w.heap.size]? = _
    rw [heap_new]
    congr 2
    rw [← toList_madeCells_one]
  refine ⟨fun i hi => ⟨hr.cell (by simp [hi]), hr.frozen i⟩, fun i hi => World.ownsRow_nil .., fun i j x _ _ h => (by cases h), by omega⟩

theorem stepL {ops : Array Oper} {o : Oper} {a : Act} {w : World} {K : Act → World → Prop} {Q' : Exit → Act → World → Prop} {E : Prop} (hg : o.guard = none) (s x : Operand)
    (ho : o.op = .call { callee := .builtin .append, args := #[s, x], argTypes := #[24, 24] }) (base : Nat) (v : Value) (n : Nat) (xs : List Value) (hs : a.eval s = v) (hown : w.ownsRow base 3 1 v n xs)
    (ad : Addr) (u1 : Value) (hx : a.eval x = .slice (some ad) 1 1) (hsrc : ∀ j u, [u1][j]? = some u → w.cell? (ad.add j) = some u) (h1c : ∀ u ∈ [u1], u.oneCell' = true) (hsz : n ≤ 1000000000) (hbase : base ≤ w.heap.size)
    (h : ∀ g cap w', w'.ownsRow base 3 1 (.slice (some ⟨g, 0, none⟩) (n + 1) cap) (n + 1) (xs ++ [u1]) → w.grownBy w' v.ownBlock → (v.ownBlock = some g ∨ g = w.heap.size) → K (a.put o.dst (.slice (some ⟨g, 0, none⟩) (n + 1) cap)) w') :
    if Region.wanted o (yielded ops a.tmps) = true then Oper.wp Tryd.prog o a w K Q' else E := by
  obtain ⟨i0, hi, hz0, hz1, hz2⟩ := info_parts infoInt
  exact step_append_lies w hg s x 24 ho base 3 i0 (.int .i64 0) 1 8 Tryd.underlying24 hi hz0 hz1 hz2 rfl (by decide) v n xs hs hown ad 1 1 [u1] hx rfl hsrc h1c (by omega) (by unfold maxLen; omega) (by omega) hbase _ rfl (fun g cap w' h1 h2 h3 _ => h g cap w' h1 h2 h3)

theorem hasB_two {m : Nat} {x y : Int} (h : hasB m [x, y] = true) : ∃ X Y : Nat, x = (X : Int) ∧ y = (Y : Int) ∧ X < m ∧ Y < m := by
  have h2 := hasB_iff.1 h
  have hx := h2 x (by simp)
  have hy := h2 y (by simp)
  exact ⟨x.toNat, y.toNat, by omega, by omega, by omega, by omega⟩

theorem all_take_succ {α : Type} {p : α → Bool} {l : List α} {k : Nat} {x : α} (h : (l.take k).all p = true) (hx : l[k]? = some x) (hp : p x = true) : (l.take (k + 1)).all p = true := by
  rw [List.take_add_one, hx, List.all_append, h]
  simp [hp]

end Go.Proofs.YtgllcbajgndldaaDoor.GraphNet
