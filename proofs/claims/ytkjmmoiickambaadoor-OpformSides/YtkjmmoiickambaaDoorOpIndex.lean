/-
  Frames in a row, and whether one of them is given.
-/
import Derived.Test.YtkjmmoiickambaaDoorOpFrame
import Derived.ChangeKeysEq
namespace Go.Proofs.YtkjmmoiickambaaDoor.OpFrame
open Go.RowKit Go.Proofs.YtkjmmoiickambaaDoor.GramMath Go.Proofs.YtkjmmoiickambaaDoor.GramRow Go.Proofs.YtkjmmoiickambaaDoor.GramApart Go.Proofs.YtkjmmoiickambaaDoor.GramLent Go.Proofs.YtkjmmoiickambaaDoor.OpRow Go.Proofs.YtkjmmoiickambaaDoor.OpSkel Go.Proofs.YtkjmmoiickambaaDoor.OpFault
set_option linter.unusedVariables false

theorem info_int : ∃ i, Tryd.prog.info? 3 = some i := by
  obtain ⟨i0, hi, _⟩ := info_parts infoI
  exact ⟨i0, hi⟩
theorem cells_int : Tryd.prog.cellsOf 3 = 1 := by kernel_rfl

theorem part_int (l : List Int) (i : Nat) (x : Int) (h : l[i]? = some x) (w : World) : (part 3 (intsA l) i).run Tryd.prog w = .ok (.int .i64 x) w := by
  have h1 := intsA_get h
  generalize intsA l = A at *
  simp [part, go_sem, h1]

theorem eq_items (d : Nat) (f g : List Int) (w : World) : ∀ is : List Nat, (∀ i ∈ is, i < f.length ∧ i < g.length) →
    (Op.eqItems (d + 1) 3 1 (intsA f) (intsA g) is).run Tryd.prog w = .ok (decide (∀ i ∈ is, f[i]? = g[i]?)) w
  | [], _ => by simp [Op.eqItems]
  | i :: is, h => by
    have ih := eq_items d f g w is (fun j hj => h j (List.mem_cons_of_mem _ hj))
    obtain ⟨h1, h2⟩ := h i List.mem_cons_self
    obtain ⟨x, hx⟩ : ∃ x, f[i]? = some x := ⟨f[i], List.getElem?_eq_getElem h1⟩
    obtain ⟨y, hy⟩ : ∃ y, g[i]? = some y := ⟨g[i], List.getElem?_eq_getElem h2⟩
    have p1 := part_int f i x hx w
    have p2 := part_int g i y hy w
    have p3 := run_equalIn_int (P := Tryd.prog) w d 3 .i64 .i64 x y Tryd.underlying3
    simp only [Op.eqItems, Sem.run_bind, Nat.mul_one, p1, p2, p3, Result.andThen_ok]
    by_cases hxy : x = y
    · subst hxy
      have e : decide (∀ j ∈ i :: is, f[j]? = g[j]?) = decide (∀ j ∈ is, f[j]? = g[j]?) := decide_eq_decide.2 (by simp [hx, hy])
      rw [e]
      simp only [BEq.rfl, Bool.not_true, Bool.false_eq_true, if_false, ih]
    · have : (x == y) = false := by simpa using hxy
      have e : decide (∀ j ∈ i :: is, f[j]? = g[j]?) = false := decide_eq_false (fun h => hxy (by
        have := h i List.mem_cons_self
        rw [hx, hy] at this
        simpa using this))
      rw [e]
      simp only [this, Bool.not_false, if_true, Sem.run_pure]

theorem eqlF (f g : List Int) (hf : f.length = 33) (hg : g.length = 33) (w : World) : (binOp .eql 62 (.agg (intsA f)) (.agg (intsA g))).run Tryd.prog w = .ok (.bool (decide (f = g))) w := by
  obtain ⟨i0, hi⟩ := info_int
  have h := run_equalIn_array (P := Tryd.prog) w 9999 (intsA f) (intsA g) Tryd.underlying62 hi
  rw [cells_int, eq_items 9998 f g w _ (fun i hi => by rw [List.mem_range] at hi; omega)] at h
  have e : decide (∀ i ∈ List.range 33, f[i]? = g[i]?) = decide (f = g) := by
    rw [decide_eq_decide]
    constructor
    · intro h
      apply List.ext_getElem?
      intro i
      by_cases hi : i < 33
      · exact h i (List.mem_range.2 hi)
      · rw [List.getElem?_eq_none (by omega), List.getElem?_eq_none (by omega)]
    · rintro rfl i _
      rfl
  rw [e] at h
  simp only [binOp]
  simp [Op.equal, Op.maxDepth, h]

/-- Frames in a row. -/
def FRow (w : World) (a : Option Addr) (fs : List (List Int)) : Prop :=
  ∀ i f, fs[i]? = some f → f.length = 33 ∧ ∃ b off, a = some ⟨b, off, none⟩ ∧ ∀ j x, f[j]? = some x → w.cell? ⟨b, off + i * 33 + j, none⟩ = some (.int .i64 x)

theorem FRow.below {w w' : World} {a : Option Addr} {fs : List (List Int)} {B : Nat} (h : FRow w a fs) (hb : Below B w w') (hB : w.heap.size ≤ B) : FRow w' a fs := fun i f hf => by
  obtain ⟨h1, b, off, ha, hc⟩ := h i f hf
  exact ⟨h1, b, off, ha, fun j x hx => by rw [hb.cell (Nat.lt_of_lt_of_le (cell_lt (hc j x hx)) hB)]; exact hc j x hx⟩

theorem loadF2 (w : World) (b off : Nat) (f : List Int) (hl : f.length = 33) (hc : ∀ j x, f[j]? = some x → w.cell? ⟨b, off + j, none⟩ = some (.int .i64 x)) : (Instr.loadAt 62 (.pointer (some ⟨b, off, none⟩))).run Tryd.prog w = .ok (.agg (intsA f)) w := by
  have hlc := run_loadCells_list (P := Tryd.prog) w ⟨b, off, none⟩ (f.map (Value.int .i64)) (fun j v hv => by
    rw [List.getElem?_map, Option.map_eq_some_iff] at hv
    obtain ⟨y, hy, rfl⟩ := hv
    rw [Addr.add_lit]
    exact hc j y hy)
  simp only [Instr.loadAt, Instr.sureAddr, Sem.run_bind, Sem.run_pure, Result.andThen]
  have hagg : (isAgg 62).run Tryd.prog w = .ok true w := by
    unfold isAgg
    rw [Sem.run_bind, run_underlying Tryd.underlying62 w]
    rfl
  have hs := sizeF
  cases hq : Tryd.prog.info? 62 with
  | none => rw [hq] at hs; cases hs
  | some i =>
    have hs2 : i.size = 33 := by simpa [hq] using hs
    rw [List.length_map, hl] at hlc
    have e : (f.map (Value.int .i64)).toArray = intsA f := rfl
    rw [e] at hlc
    simp [loadVar, hagg, sizeOf, typeInfo, hq, hs2, hlc]

theorem boxF (f : List Int) (w : World) : (Instr.box 62 (.agg (intsA f))).run Tryd.prog w = .ok (.pointer (some ⟨w.heap.size, 0, none⟩)) (w.alloc (.cells (intsA f) 62)) := by
  generalize intsA f = A
  simp [Instr.box, newVar, newRow, Value.cells, go_sem]

theorem at_boxF {ops : Array Oper} {Q : Exit → Act → World → Prop} {a : Act} {w : World} {rest : List Oper} {d : Option Tmp} {ty : TypeId} {pos : String} {after : Array Edge} {x : Operand} {f : List Int} (hx : a.eval x = .agg (intsA f)) (k : wpList Tryd.prog ops Q rest (a.put d (.pointer (some ⟨w.heap.size, 0, none⟩))) (w.alloc (.cells (intsA f) 62))) : wpList Tryd.prog ops Q (⟨d, .box 62 x, ty, pos, after, none⟩ :: rest) a w :=
  op_value (by simp only [execOp, Sem.run_bind, hx, boxF, Result.andThen, Sem.run_pure]) k

end Go.Proofs.YtkjmmoiickambaaDoor.OpFrame
