/-
  A row of one frame, and frames in a row that is the call's own.
-/
import Derived.Test.YtkjmmoiickambaaDoorOpIndex2
import Derived.Great.BuildSlice
namespace Go.Proofs.YtkjmmoiickambaaDoor.OpFrame
open Go.RowKit Go.Proofs.YtkjmmoiickambaaDoor.GramMath Go.Proofs.YtkjmmoiickambaaDoor.GramRow Go.Proofs.YtkjmmoiickambaaDoor.GramApart Go.Proofs.YtkjmmoiickambaaDoor.GramLent Go.Proofs.YtkjmmoiickambaaDoor.OpRow Go.Proofs.YtkjmmoiickambaaDoor.OpSkel Go.Proofs.YtkjmmoiickambaaDoor.OpFault
set_option linter.unusedVariables false

theorem fold_set : ∀ (l : List Value) (k : Nat) (Z : Array Value), k + l.length ≤ Z.size →
    (l.zipIdx k).foldl (fun cs (p : Value × Nat) => cs.setIfInBounds (0 + p.2) p.1) Z = (Z.toList.take k ++ l ++ Z.toList.drop (k + l.length)).toArray
  | [], k, Z, _ => by simp
  | x :: l, k, Z, h => by
    rw [List.zipIdx_cons, List.foldl_cons, fold_set l (k + 1) _ (by rw [List.length_cons] at h; simp; omega)]
    congr 1
    rw [Array.toList_setIfInBounds, Nat.zero_add, List.length_cons]
    have hk : k < Z.toList.length := by rw [List.length_cons] at h; simp; omega
    rw [List.drop_set_of_lt (by omega), List.take_set, List.take_succ_eq_append_getElem hk, List.set_append_right _ _ (by simp; omega)]
    have e : k - (Z.toList.take k).length = 0 := by simp; omega
    rw [e, show k + 1 + l.length = k + (l.length + 1) by omega]
    simp
theorem fold_all (C Z : Array Value) (h : C.size = Z.size) : C.zipIdx.foldl (fun cs (p : Value × Nat) => cs.setIfInBounds (0 + p.2) p.1) Z = C := by
  have := fold_set C.toList 0 Z (by simp; omega)
  rw [← Array.foldl_toList, Array.toList_zipIdx, this, List.take_zero, List.nil_append, List.drop_eq_nil_of_le (by simp; omega), List.append_nil]

theorem infoF2 : ∃ i, Tryd.prog.info? 62 = some i ∧ i.zero = some (.agg (intsA zero33)) ∧ i.size = 33 := by
  have h := infoF
  cases hq : Tryd.prog.info? 62 with
  | none => rw [hq] at h; cases h
  | some i =>
    rw [hq] at h
    have h2 := Option.some.inj h
    exact ⟨i, rfl, (Prod.mk.inj h2).1, (Prod.mk.inj h2).2⟩

theorem buildSF (f : List Int) (hf : f.length = 33) (w : World) : (Instr.buildSlice 60 1 #[(0, .agg (intsA f))]).run Tryd.prog w = .ok (.slice (some ⟨w.heap.size, 0, none⟩) 1 1) (w.alloc (.cells (intsA f) 62)) := by
  obtain ⟨i, hi, hz, hs⟩ := infoF2
  refine run_buildSlice w _ _ 1 _ (intsA f) i _ Tryd.underlying60 hi hz (by rw [hs]; decide) (by rw [hs]; decide) ?_
  have h1 : (intsA f).size = 33 := by rw [intsA_size, hf]
  rw [hs]
  have h2 : ((Array.range (1 * 33)).map ((Value.agg (intsA zero33)).cells[· % (Value.agg (intsA zero33)).cells.size]!)).size = 33 := by simp
  generalize (Array.range (1 * 33)).map ((Value.agg (intsA zero33)).cells[· % (Value.agg (intsA zero33)).cells.size]!) = Z at *
  generalize intsA f = C at *
  have e : (Value.agg C).cells = C := rfl
  simp only [Instr.fill, e, Nat.zero_mul]
  rw [if_neg (by simp [h1, h2]), fold_all C Z (by omega)]

theorem at_buildSF {ops : Array Oper} {Q : Exit → Act → World → Prop} {a : Act} {w : World} {rest : List Oper} {d : Option Tmp} {ty : TypeId} {pos : String} {after : Array Edge} {x : Operand} {f : List Int} (hx : a.eval x = .agg (intsA f)) (hf : f.length = 33) (k : wpList Tryd.prog ops Q rest (a.put d (.slice (some ⟨w.heap.size, 0, none⟩) 1 1)) (w.alloc (.cells (intsA f) 62))) : wpList Tryd.prog ops Q (⟨d, .buildSlice 60 1 #[(0, x)], ty, pos, after, none⟩ :: rest) a w :=
  op_value (by simp only [execOp, Sem.run_bind, List.map_toArray, List.map_cons, List.map_nil, hx, buildSF f hf, Result.andThen, Sem.run_pure]) k

/-- A variable that is made and filled at once. -/
theorem at_newF {ops : Array Oper} {Q : Exit → Act → World → Prop} {a : Act} {w : World} {rest : List Oper} {d d2 : Option Tmp} {ty ty2 : TypeId} {pos pos2 : String} {after after2 : Array Edge} {p x : Operand} {l : List Int}
    (hp : (a.put d (.pointer (some ⟨w.heap.size, 0, none⟩))).eval p = .pointer (some ⟨w.heap.size, 0, none⟩)) (hx : (a.put d (.pointer (some ⟨w.heap.size, 0, none⟩))).eval x = .agg (intsA l)) (hl : l.length = 33)
    (k : wpList Tryd.prog ops Q rest ((a.put d (.pointer (some ⟨w.heap.size, 0, none⟩))).put d2 undef) (w.alloc (.cells (intsA l) 62))) :
    wpList Tryd.prog ops Q (⟨d, .alloc 62, ty, pos, after, none⟩ :: ⟨d2, .store 62 p x, ty2, pos2, after2, none⟩ :: rest) a w := by
  refine at_allocF (at_storeF hp hx (heap_new _ _) hl zero33_len ?_)
  rw [setRow_new]
  exact k

/-- The cells of frames in a row. -/
def cellsF (fs : List (List Int)) : List Value := fs.flatMap (fun f => f.map (Value.int .i64))
theorem cellsF_app (fs : List (List Int)) (f : List Int) : cellsF (fs ++ [f]) = cellsF fs ++ f.map (Value.int .i64) := by simp [cellsF]
theorem cellsF_get : ∀ (fs : List (List Int)), (∀ f ∈ fs, f.length = 33) → ∀ (i : Nat) (f : List Int) (j : Nat) (x : Int), fs[i]? = some f → f[j]? = some x → (cellsF fs)[i * 33 + j]? = some (.int .i64 x)
  | [], _, i, f, j, x, h, _ => by simp at h
  | g :: fs, hl, i, f, j, x, h, hx => by
    have hg := hl g List.mem_cons_self
    have e : cellsF (g :: fs) = g.map (Value.int .i64) ++ cellsF fs := by simp [cellsF]
    rw [e]
    match i, h with
    | 0, h =>
      obtain rfl : g = f := by simpa using h
      have hj := (List.getElem?_eq_some_iff.1 hx).1
      rw [Nat.zero_mul, Nat.zero_add, List.getElem?_append_left (by simp; omega), List.getElem?_map, hx]
      rfl
    | i + 1, h =>
      rw [List.getElem?_cons_succ] at h
      rw [List.getElem?_append_right (by simp; omega), List.length_map, hg, show (i + 1) * 33 + j - 33 = i * 33 + j by omega]
      exact cellsF_get fs (fun f hf => hl f (List.mem_cons_of_mem _ hf)) i f j x h hx

theorem frow_own {w : World} {base : Nat} {v : Value} {fs : List (List Int)} (hl : ∀ f ∈ fs, f.length = 33) (h : w.ownsRow base 62 33 v fs.length (cellsF fs)) : ∃ a c, v = .slice a fs.length c ∧ FRow w a fs := by
  obtain ⟨h1, ⟨rfl, h2⟩ | ⟨g, cap, cur, rfl, h2⟩⟩ := id h
  · have e : fs.length = 0 := h2
    refine ⟨none, 0, by rw [e], fun i x hx => ?_⟩
    have := (List.getElem?_eq_some_iff.1 hx).1
    omega
  · refine ⟨_, _, rfl, fun i f hf => ⟨hl f (List.mem_of_getElem? hf), g, 0, rfl, fun j x hx => ?_⟩⟩
    have hi := (List.getElem?_eq_some_iff.1 hf).1
    have hj := (List.getElem?_eq_some_iff.1 hx).1
    have hfl := hl f (List.mem_of_getElem? hf)
    rw [Nat.zero_add, h.cellAt (i * 33 + j) (by omega)]
    exact cellsF_get fs hl i f j x hf hx

end Go.Proofs.YtkjmmoiickambaaDoor.OpFrame
