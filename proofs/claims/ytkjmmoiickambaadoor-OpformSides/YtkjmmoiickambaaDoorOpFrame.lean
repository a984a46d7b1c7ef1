/-
  The frame of a right side: its length and its skeleton, as an array.
-/
import Derived.Test.YtkjmmoiickambaaDoorOpFault
import Derived.Deep.WholeRow
import Derived.Laws.Tables
namespace Go.Proofs.YtkjmmoiickambaaDoor.OpFrame
open Go.RowKit Go.Proofs.YtkjmmoiickambaaDoor.GramMath Go.Proofs.YtkjmmoiickambaaDoor.GramRow Go.Proofs.YtkjmmoiickambaaDoor.GramApart Go.Proofs.YtkjmmoiickambaaDoor.GramLent Go.Proofs.YtkjmmoiickambaaDoor.OpRow Go.Proofs.YtkjmmoiickambaaDoor.OpSkel Go.Proofs.YtkjmmoiickambaaDoor.OpFault
set_option linter.unusedVariables false

def zero33 : List Int := List.replicate 33 0
theorem zero33_len : zero33.length = 33 := rfl
def head33 (n : Int) : List Int := n :: List.replicate 32 0
theorem head33_len (n : Int) : (head33 n).length = 33 := rfl
/-- The frame of a right side. -/
def frameL (zs : List Int) : List Int := (zs.length : Int) :: (skel zs ++ List.replicate (32 - zs.length) 0)
theorem frameL_len {zs : List Int} (h : zs.length ≤ 32) : (frameL zs).length = 33 := by simp [frameL, skel]; omega

theorem infoF : (Tryd.prog.info? 62).map (fun i => (i.zero, i.size)) = some (some (.agg (intsA zero33)), 33) := by kernel_rfl
theorem sizeF : (Tryd.prog.info? 62).map (·.size) = some 33 := (zero_of_info infoF).2
theorem zeroF (w : World) : (zeroValue 62).run Tryd.prog w = .ok (.agg (intsA zero33)) w := (zero_of_info infoF).1 w

theorem allocF (W : World) : (Instr.alloc 62 true (.tuple #[])).run Tryd.prog W = .ok (.pointer (some ⟨W.heap.size, 0, none⟩)) (W.alloc (.cells (intsA zero33) 62)) := by
  have h := zeroF
  generalize intsA zero33 = z at *
  simp [Instr.alloc, h, newVar, newRow, Value.cells, go_sem]

theorem one_cells (l : List Int) : (intsA l).all (·.oneCell') = true := by
  unfold intsA
  simp [Value.oneCell']

theorem loadF (W : World) (b : Nat) (l : List Int) (hl : l.length = 33) (h : RowAt W b 62 (intsA l)) : (Instr.loadAt 62 (.pointer (some ⟨b, 0, none⟩))).run Tryd.prog W = .ok (.agg (intsA l)) W := by
  simp only [Instr.loadAt, Instr.sureAddr, Sem.run_bind, Sem.run_pure, Result.andThen]
  exact run_loadVar_row _ _ _ _ _ (0, 0) _ h Tryd.underlying62 rfl (by rw [intsA_size, hl]; exact sizeF)
theorem storeF (W : World) (b : Nat) (l l2 : List Int) (hl : l.length = 33) (hl2 : l2.length = 33) (h : RowAt W b 62 (intsA l2)) : (Instr.storeAt 62 (.pointer (some ⟨b, 0, none⟩)) (.agg (intsA l))).run Tryd.prog W = .ok () (W.setRow b (intsA l)) := by
  simp only [Instr.storeAt, Instr.sureAddr, Sem.run_bind, Sem.run_pure, Result.andThen]
  exact run_storeVar_row _ _ _ _ (intsA l2) (intsA l) h (by rw [intsA_size, hl]; exact sizeF) (by rw [intsA_size, intsA_size, hl, hl2]) (one_cells l)

theorem setRow_new (W : World) (a b : Array Value) (t : TypeId) : (W.alloc (.cells a t)).setRow W.heap.size b = W.alloc (.cells b t) := World.setRow_alloc_new W a b t

theorem buildF (W : World) (n : Int) : (Instr.build 62 #[(0, .int .i64 n)]).run Tryd.prog W = .ok (.agg (intsA (head33 n))) W := run_build W _ _ _ (by kernel_rfl)

section
variable {ops : Array Oper} {Q : Exit → Act → World → Prop} {a : Act} {w : World} {rest : List Oper} {d : Option Tmp} {ty : TypeId} {pos : String} {after : Array Edge}

theorem op_value {op : Op} {v : Value} {w' : World} (h : (execOp a.eval ⟨d, op, ty, pos, after, none⟩).run Tryd.prog w = .ok (.value v) w') (k : wpList Tryd.prog ops Q rest (a.put d v) w') : wpList Tryd.prog ops Q (⟨d, op, ty, pos, after, none⟩ :: rest) a w := by
  refine wpList_step fun K hK => ?_
  rw [if_pos (show Region.wanted _ _ = true from rfl)]
  unfold Oper.wp
  rw [h]
  exact hK _ _ k
theorem op_skip {op : Op} {w' : World} (h : (execOp a.eval ⟨d, op, ty, pos, after, none⟩).run Tryd.prog w = .ok .skip w') (k : wpList Tryd.prog ops Q rest (a.put d undef) w') : wpList Tryd.prog ops Q (⟨d, op, ty, pos, after, none⟩ :: rest) a w := by
  refine wpList_step fun K hK => ?_
  rw [if_pos (show Region.wanted _ _ = true from rfl)]
  unfold Oper.wp
  rw [h]
  exact hK _ _ k

theorem at_allocF (k : wpList Tryd.prog ops Q rest (a.put d (.pointer (some ⟨w.heap.size, 0, none⟩))) (w.alloc (.cells (intsA zero33) 62))) : wpList Tryd.prog ops Q (⟨d, .alloc 62, ty, pos, after, none⟩ :: rest) a w :=
  op_value (by simp only [execOp, Sem.run_bind, allocF, Result.andThen, Sem.run_pure]) k
theorem at_buildF {x : Operand} {n : Int} (hx : a.eval x = .int .i64 n) (k : wpList Tryd.prog ops Q rest (a.put d (.agg (intsA (head33 n)))) w) : wpList Tryd.prog ops Q (⟨d, .build 62 #[(0, x)], ty, pos, after, none⟩ :: rest) a w :=
  op_value (by simp only [execOp, Sem.run_bind, List.map_toArray, List.map_cons, List.map_nil, hx, buildF, Result.andThen, Sem.run_pure]) k
theorem at_loadF {p : Operand} {b : Nat} {l : List Int} (hp : a.eval p = .pointer (some ⟨b, 0, none⟩)) (hr : RowAt w b 62 (intsA l)) (hl : l.length = 33) (k : wpList Tryd.prog ops Q rest (a.put d (.agg (intsA l))) w) : wpList Tryd.prog ops Q (⟨d, .load 62 p, ty, pos, after, none⟩ :: rest) a w :=
  op_value (by simp only [execOp, Sem.run_bind, hp, loadF w b l hl hr, Result.andThen, Sem.run_pure]) k
theorem at_storeF {p x : Operand} {b : Nat} {l l2 : List Int} (hp : a.eval p = .pointer (some ⟨b, 0, none⟩)) (hx : a.eval x = .agg (intsA l)) (hr : RowAt w b 62 (intsA l2)) (hl : l.length = 33) (hl2 : l2.length = 33) (k : wpList Tryd.prog ops Q rest (a.put d undef) (w.setRow b (intsA l))) : wpList Tryd.prog ops Q (⟨d, .store 62 p x, ty, pos, after, none⟩ :: rest) a w :=
  op_skip (by simp only [execOp, Sem.run_bind, hp, hx, storeF w b l l2 hl hl2 hr, Result.andThen, Sem.run_pure]) k
end

theorem bdrew1 {B : Nat} {w w' : World} (h : Below B w w') : Below B w w'.drew := ⟨h.os, h.tape, h.output, h.size, h.block⟩
theorem row_setRow {w : World} {b : Nat} {t : TypeId} {c c' : Array Value} (h : RowAt w b t c) : RowAt (w.setRow b c') b t c' := setRow_heap _ _ _ _ _ _ h
theorem row_setRow_other {w : World} {b b' : Nat} {t : TypeId} {c c' : Array Value} (h : RowAt w b t c) (hne : b ≠ b') : RowAt (w.setRow b' c') b t c := by
  show (w.setRow b' c').heap[b]? = _
  simp only [World.setRow]
  rw [Array.getElem?_modify, if_neg (fun e => hne e.symm)]
  exact h
theorem size_setRow (w : World) (b : Nat) (c : Array Value) : (w.setRow b c).heap.size = w.heap.size := by simp [World.setRow]

theorem copyF (b s : Nat) (zs : List Int) (w : World) (hb : RowAt w b 62 (intsA (head33 (zs.length : Int)))) (hs : RowAt w s 3 (intsA (skel zs))) (hl : zs.length ≤ 32) :
    (Builtin.copy_ #[43, 43] 3 #[.slice (some ⟨b, 1, none⟩) 32 32, .slice (some ⟨s, 0, none⟩) zs.length zs.length]).run Tryd.prog w = .ok (.int .i64 (zs.length : Int)) (w.setRow b (intsA (frameL zs))) := by
  have hsl := skel_len zs
  have hrun := run_copy_row (P := Tryd.prog) w 43 43 3 3 b 1 32 32 ⟨s, 0, none⟩ zs.length zs.length _ 62 ((skel zs).map (Value.int .i64)) Tryd.underlying43 infoI1 hb (by rw [List.length_map, hsl]; exact (Nat.min_eq_left hl).symm) (fun j v hj => by
    rw [List.getElem?_map, Option.map_eq_some_iff] at hj
    obtain ⟨y, hy, rfl⟩ := hj
    rw [Addr.add_lit, Nat.zero_add]
    exact hs.cell (intsA_get hy)) (by rw [intsA_size, List.length_map, hsl, head33_len]; omega) (fun v hv => by
    obtain ⟨y, _, rfl⟩ := List.mem_map.1 hv
    rfl)
  rw [hrun]
  have e : ((intsA (head33 (zs.length : Int))).toList.take 1 ++ (skel zs).map (Value.int .i64) ++ (intsA (head33 (zs.length : Int))).toList.drop (1 + ((skel zs).map (Value.int .i64)).length)).toArray = intsA (frameL zs) := by
    unfold intsA frameL head33
    rw [List.length_map, hsl, Nat.add_comm 1]
    rw [List.map_cons, List.map_replicate]
    generalize hN : (32 : Nat) = N
    simp
  rw [e, List.length_map, hsl]
  rfl

set_option maxRecDepth 100000 in
set_option maxHeartbeats 2000000 in
theorem frameOf_any (a : Option Addr) (c : Nat) (zs : List Int) (w : World) (hr : IRow w a zs) (hm : zs.length ≤ 32) :
    Calls Tryd.prog 30 #[.slice a zs.length c] w fun e w' => e = .returned (.agg (intsA (frameL zs))) ∧ Below w.heap.size w w' := by
  have r1 : RowAt ((w.alloc (.cells (intsA zero33) 62)).alloc (.cells (intsA zero33) 62)) (w.heap.size + 1) 62 (intsA zero33) := by
    have := heap_new (w.alloc (.cells (intsA zero33) 62)) (.cells (intsA zero33) 62)
    rwa [World.size_alloc] at this
  have r0 : RowAt ((w.alloc (.cells (intsA zero33) 62)).alloc (.cells (intsA zero33) 62)) w.heap.size 62 (intsA zero33) := RowAt.alloc (heap_new _ _) _
  have hB : Below w.heap.size w ((w.alloc (.cells (intsA zero33) 62)).alloc (.cells (intsA zero33) 62)) := ((Below.refl _ _).alloc (Nat.le_refl _) _).alloc (by simp) _
  have r1' := row_setRow (c' := intsA (head33 (zs.length : Int))) r1
  have r0' := row_setRow_other (c' := intsA (head33 (zs.length : Int))) r0 (b' := w.heap.size + 1) (by omega)
  have hB' := below_setRow hB (show w.heap.size ≤ w.heap.size + 1 by omega) (intsA (head33 (zs.length : Int)))
  have hsz : (((w.alloc (.cells (intsA zero33) 62)).alloc (.cells (intsA zero33) 62)).setRow (w.heap.size + 1) (intsA (head33 (zs.length : Int)))).heap.size = w.heap.size + 2 := by rw [size_setRow]; simp
  go_enter Tryd.func30, Tryd.ntmps30
  refine wp_seq ?_
  refine wp_region_lit ?_
  refine at_allocF ?_
  refine wpList_nil ?_
  refine wp_seq ?_
  refine wp_region_lit ?_
  refine op_value (v := .slice a zs.length c) rfl ?_
  refine op_value (v := .int .i64 zs.length) (w' := w.alloc (.cells (intsA zero33) 62)) (by simp [go_sem, Act.put]) ?_
  refine at_buildF rfl ?_
  refine at_allocF ?_
  refine at_storeF (b := w.heap.size + 1) (l := head33 (zs.length : Int)) (l2 := zero33) (by show Value.pointer (some ⟨(w.alloc _).heap.size, 0, none⟩) = _; rw [World.size_alloc]) rfl ?_ (head33_len _) zero33_len ?_
  · exact r1
  refine wpList_nil ?_
  refine wp_seq ?_
  simp only [Act.put, List.setIfInBounds_toArray, List.set_cons_zero, List.set_cons_succ, World.size_alloc]
  generalize ((w.alloc (.cells (intsA zero33) 62)).alloc (.cells (intsA zero33) 62)).setRow (w.heap.size + 1) (intsA (head33 (zs.length : Int))) = W0 at *
  clear r1 r0 hB
  refine wp_region_noPanic ?_
  refine wp_region_held_drew (S := fun _ => True) (by kernel_rfl) trivial (fun hHeld => ?_)
  refine wpAnyH_take (i := 0) (v := .slice (some ⟨w.heap.size + 1, 1, none⟩) 32 32) rfl (by kernel_rfl) (by kernel_rfl) (by kernel_rfl) (fun _ _ _ h => h) (Or.inl ⟨by rfl, fun w9 hSw => ?_⟩) hHeld ?_
  · go_simp
  simp only [List.getElem_toArray, List.getElem_cons_zero, Act.put, List.setIfInBounds_toArray, List.set_cons_zero, List.set_cons_succ]
  refine wpAnyH_take (i := 1) (v := .slice a zs.length c) rfl (by kernel_rfl) (by kernel_rfl) (by kernel_rfl) (fun _ _ _ h => h) (Or.inl ⟨by rfl, fun w9 hSw => ?_⟩) hHeld ?_
  · go_simp
  try simp only [List.getElem_toArray, List.getElem_cons_zero, List.getElem_cons_succ, Act.put, List.setIfInBounds_toArray, List.set_cons_zero, List.set_cons_succ]
  refine wpAnyH_ready (rs := [2]) (by kernel_rfl) (by simp) ?_
  refine AllReadyH.cons rfl (fun K hK => ?_) AllReadyH.nil
  go_simp
  have hsk := skel_any a c zs W0.drew (hr.below (bdrew1 hB') (Nat.le_refl _)) (by omega)
  refine hsk.mono ?_
  rintro e w1 ⟨⟨rfl, hrow1⟩, hb1⟩
  refine hK.out _ _ trivial (fun hHeld2 => ?_)
  have hsd : W0.drew.heap.size = w.heap.size + 2 := hsz
  have r1w : RowAt w1 (w.heap.size + 1) 62 (intsA (head33 (zs.length : Int))) := RowAt.below (w := W0.drew) r1' hb1 (by omega)
  have r0w : RowAt w1 w.heap.size 62 (intsA zero33) := RowAt.below (w := W0.drew) r0' hb1 (by omega)
  have hBw : Below w.heap.size w w1 := (bdrew1 hB').trans (hb1.mono (by omega))
  rw [hsd] at hrow1
  have hcp := copyF (w.heap.size + 1) (w.heap.size + 2) zs w1 r1w hrow1 hm
  have r1c := row_setRow (c' := intsA (frameL zs)) r1w
  have r0c := row_setRow_other (c' := intsA (frameL zs)) r0w (b' := w.heap.size + 1) (by omega)
  have hBc := below_setRow hBw (show w.heap.size ≤ w.heap.size + 1 by omega) (intsA (frameL zs))
  rw [hsd]
  generalize w1.setRow (w.heap.size + 1) (intsA (frameL zs)) = W2 at *
  try simp only [List.getElem_toArray, List.getElem_cons_zero, List.getElem_cons_succ, Act.put, List.setIfInBounds_toArray, List.set_cons_zero, List.set_cons_succ]
  refine wpAnyH_ready (rs := [3]) (by kernel_rfl) (by simp) ?_
  refine AllReadyH.cons rfl (fun K2 hK2 => ?_) AllReadyH.nil
  go_simp
  refine hK2.out _ _ trivial (fun hHeld3 => ?_)
  try simp only [List.getElem_toArray, List.getElem_cons_zero, List.getElem_cons_succ, Act.put, List.setIfInBounds_toArray, List.set_cons_zero, List.set_cons_succ]
  refine wpAnyH_done (by kernel_rfl) ?_ _
  clear hsk hrow1 r1w r0w hcp hBw r1' r0' hB' hsz hsd hb1 hK hK2
  have hfl := frameL_len hm
  have r0e := row_setRow (c' := intsA (frameL zs)) r0c
  have hBe := below_setRow hBc (Nat.le_refl _) (intsA (frameL zs))
  have hld := run_loadVar_row (P := Tryd.prog) _ _ _ _ _ (0, 0) _ r0e Tryd.underlying62 rfl (by rw [intsA_size, hfl]; exact sizeF)
  change Code.wp _ _ _ _ _
  refine wp_seq ?_
  refine wp_region_lit ?_
  refine at_loadF rfl r1c hfl ?_
  refine at_storeF rfl rfl r0c hfl zero33_len ?_
  refine wpList_nil ?_
  simp only [Act.put, List.setIfInBounds_toArray, List.set_cons_zero, List.set_cons_succ]
  generalize W2.setRow w.heap.size (intsA (frameL zs)) = W3 at *
  clear r0c r1c hBc
  go_wp2
  refine bodyPost_ret (v := .agg (intsA (frameL zs))) ?_ rfl ⟨rfl, hBe⟩
  simp only [results, Tryd.results30]
  simp [asAddr, hld]

end Go.Proofs.YtkjmmoiickambaaDoor.OpFrame
