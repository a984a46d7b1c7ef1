/-
  Copies: of a rule, of names, of a grammar.
-/
import Derived.Test.YtcmjneabcdpmoaaDoorGramName
import Derived.Test.YtcmjneabcdpmoaaDoorGramApart0
import Derived.Test.YtcmjneabcdpmoaaDoorGramLentG
import Derived.Laws.CopyOwn
import Derived.Handy
namespace Go.Proofs.YtcmjneabcdpmoaaDoor.GramCopy
open Go.RowKit Go.Proofs.YtcmjneabcdpmoaaDoor.GramMath Go.Proofs.YtcmjneabcdpmoaaDoor.GramRow Go.Proofs.YtcmjneabcdpmoaaDoor.GramApart Go.Proofs.YtcmjneabcdpmoaaDoor.GramLent Go.Proofs.YtcmjneabcdpmoaaDoor.GramName
set_option linter.unusedVariables false

def intsA (zs : List Int) : Array Value := (zs.map (Value.int .i64)).toArray

theorem madeI_any (n : Nat) (hn : n * 8 ≤ 140737488351232) (w : World) : (Instr.makeSlice 39 (.int .i64 (n : Int)) (.int .i64 (n : Int))).run Tryd.prog w = .ok (.slice (some ⟨w.heap.size, 0, none⟩) n n) (w.alloc (.cells (madeCells #[.int .i64 0] n) 3)) := by
  obtain ⟨i0, hi, hz0, hz1, hz2⟩ := info_parts infoI
  have h := run_make (P := Tryd.prog) w 39 3 i0 (.int .i64 0) Tryd.underlying39 hi hz0 .i64 .i64 (n : Int) (n : Int) (by omega) (by omega) (by rw [hz2]; omega) (by omega)
  rw [hz1] at h
  simpa [Value.cells] using h

theorem made_heap (w : World) (z : Value) (n : Nat) (t : TypeId) : (w.alloc (.cells (madeCells #[z] n) t)).heap[w.heap.size]? = some (.cells (List.replicate n z).toArray t (0, 0)) := by
  rw [heap_new]
  congr 2
  rw [← toList_madeCells_one]

theorem splice_all {α : Type} (xs ys : List α) (h : xs.length = ys.length) : splice xs 0 ys = ys := by
  simp [splice, h]

set_option maxRecDepth 100000 in
set_option maxHeartbeats 1000000 in
theorem copyRule_any (l : Int) (a : Option Addr) (c : Nat) (zs : List Int) (w : World) (hr : IRow w a zs) (hm : zs.length * 8 ≤ 140737488351232) :
    Calls Tryd.prog 18 #[.int .i64 l, .slice a zs.length c] w fun e w' => (∃ b, e = .returned (.agg #[.int .i64 l, .slice (some ⟨b, 0, none⟩) zs.length zs.length]) ∧ w.heap.size ≤ b ∧ RowAt w' b 3 (intsA zs)) ∧ Below w.heap.size w w' := by
  have hmk := fun W => madeI_any zs.length hm W
  have hB1 : Below w.heap.size w (w.alloc (.cells #[.int .i64 0, .slice none 0 0] 53)) := (Below.refl _ _).alloc (Nat.le_refl _) _
  have hz1 : (w.alloc (.cells #[.int .i64 0, .slice none 0 0] 53)).heap.size = w.heap.size + 1 := by simp
  have r0 : (w.alloc (.cells #[.int .i64 0, .slice none 0 0] 53)).heap[w.heap.size]? = some (.cells #[.int .i64 0, .slice none 0 0] 53 (0, 0)) := heap_new _ _
  have hmade := made_heap (w.alloc (.cells #[.int .i64 0, .slice none 0 0] 53)) (.int .i64 0) zs.length 3
  have hB2 : Below (w.heap.size + 1) (w.alloc (.cells #[.int .i64 0, .slice none 0 0] 53)) ((w.alloc (.cells #[.int .i64 0, .slice none 0 0] 53)).alloc (.cells (madeCells #[.int .i64 0] zs.length) 3)) := (Below.refl _ _).alloc (by omega) _
  have hr2 := (hr.below hB1 (Nat.le_refl _)).below hB2 (by omega)
  rw [hz1] at hmade
  have hone : ∀ v ∈ zs.map (Value.int .i64), v.oneCell' = true := fun v hv => by
    obtain ⟨y, _, rfl⟩ := List.mem_map.1 hv
    rfl
  have hinfo : (Tryd.prog.info? 3).map (·.size) = some 1 := by kernel_rfl
  obtain ⟨w1, hrun, hrow, hb1⟩ : ∃ w1, (Builtin.copy_ #[39, 39] 3 #[.slice (some ⟨w.heap.size + 1, 0, none⟩) zs.length zs.length, .slice a zs.length c]).run Tryd.prog ((w.alloc (.cells #[.int .i64 0, .slice none 0 0] 53)).alloc (.cells (madeCells #[.int .i64 0] zs.length) 3)) = .ok (.int .i64 (zs.length : Int)) w1 ∧ RowAt w1 (w.heap.size + 1) 3 (intsA zs) ∧ Below (w.heap.size + 1) ((w.alloc (.cells #[.int .i64 0, .slice none 0 0] 53)).alloc (.cells (madeCells #[.int .i64 0] zs.length) 3)) w1 := by
    by_cases h0 : zs.length = 0
    · have hrun := run_copy_none (P := Tryd.prog) ((w.alloc (.cells #[.int .i64 0, .slice none 0 0] 53)).alloc (.cells (madeCells #[.int .i64 0] zs.length) 3)) 39 39 3 3 (some ⟨w.heap.size + 1, 0, none⟩) a zs.length zs.length zs.length c Tryd.underlying39 hinfo (by rw [h0]; rfl)
      refine ⟨_, hrun.trans (by rw [h0]; rfl), ?_, Below.refl _ _⟩
      obtain rfl : zs = [] := List.length_eq_zero_iff.1 h0
      exact hmade
    · obtain ⟨x, hx⟩ : ∃ x, zs[0]? = some x := ⟨zs[0]'(by omega), List.getElem?_eq_getElem _⟩
      obtain ⟨b, off, rfl, _⟩ := hr2 0 x hx
      have hrun := run_copy_row (P := Tryd.prog) ((w.alloc (.cells #[.int .i64 0, .slice none 0 0] 53)).alloc (.cells (madeCells #[.int .i64 0] zs.length) 3)) 39 39 3 3 (w.heap.size + 1) 0 zs.length zs.length ⟨b, off, none⟩ zs.length c _ 3 (zs.map (Value.int .i64)) Tryd.underlying39 hinfo hmade (by simp) (fun j v hj => by
        rw [List.getElem?_map, Option.map_eq_some_iff] at hj
        obtain ⟨y, hy, rfl⟩ := hj
        obtain ⟨b', off', hb, hc⟩ := hr2 j y hy
        cases hb
        rw [Addr.add_lit]
        exact hc) (by simp) hone
      refine ⟨_, hrun.trans (by simp [goInt]; rfl), ?_, below_setRow (Below.refl _ _) (Nat.le_refl _) _⟩
      exact setRow_heap _ _ _ (zs.map (Value.int .i64)).toArray _ _ hmade
  have hzW : w.heap.size + 1 ≤ ((w.alloc (.cells #[.int .i64 0, .slice none 0 0] 53)).alloc (.cells (madeCells #[.int .i64 0] zs.length) 3)).heap.size := by simp
  have q0 : w1.cell? ⟨w.heap.size, 0, none⟩ = some (.int .i64 0) := (hb1.cell (p := ⟨w.heap.size, 0, none⟩) (by simp)).trans (by simp)
  have q1 : w1.cell? ⟨w.heap.size, 1, none⟩ = some (.slice none 0 0) := (hb1.cell (p := ⟨w.heap.size, 1, none⟩) (by simp)).trans (by simp)
  have y0 : w1.frozen? ⟨w.heap.size, 0, none⟩ = false := (hb1.frozen (p := ⟨w.heap.size, 0, none⟩) (by simp)).trans (by simp)
  have y1 : w1.frozen? ⟨w.heap.size, 1, none⟩ = false := (hb1.frozen (p := ⟨w.heap.size, 1, none⟩) (by simp)).trans (by simp)
  have hBw : Below w.heap.size w w1 := hB1.trans ((hB2.mono (by omega)).trans (hb1.mono (by omega)))
  clear hr hr2 hmade hone hB1 hB2 r0 hzW hb1
  go_enter Tryd.func18, Tryd.ntmps18
  go_wp2
  have E : Hid (RowAt ((w1.setCell ⟨w.heap.size, 0, none⟩ (.int .i64 l)).setCell ⟨w.heap.size, 1, none⟩ (.slice (some ⟨w.heap.size + 1, 0, none⟩) zs.length zs.length)) (w.heap.size + 1) 3 (intsA zs)) := (hrow.other (by omega) _ _).other (by omega) _ _
  have hBf : Below w.heap.size w ((w1.setCell ⟨w.heap.size, 0, none⟩ (.int .i64 l)).setCell ⟨w.heap.size, 1, none⟩ (.slice (some ⟨w.heap.size + 1, 0, none⟩) zs.length zs.length)) := (hBw.setCell (by simp) _).setCell (by simp) _
  refine bodyPost_ret (v := .agg #[.int .i64 l, .slice (some ⟨w.heap.size + 1, 0, none⟩) zs.length zs.length]) (by simp [results, Tryd.results18, go_sem, q0, q1]; try rfl) rfl ?_
  exact ⟨⟨w.heap.size + 1, rfl, by omega, E.out⟩, hBf⟩

def strsA (ss : List ByteArray) : Array Value := (ss.map Value.string).toArray

theorem infoS : (Tryd.prog.info? 9).map (fun i => (i.zero, i.size, i.bytes)) = some (some (.string ⟨#[]⟩), 1, 16) := by kernel_rfl

theorem madeS_any (n : Nat) (hn : n * 16 ≤ 140737488351232) (w : World) : (Instr.makeSlice 25 (.int .i64 (n : Int)) (.int .i64 (n : Int))).run Tryd.prog w = .ok (.slice (some ⟨w.heap.size, 0, none⟩) n n) (w.alloc (.cells (madeCells #[.string ⟨#[]⟩] n) 9)) := by
  obtain ⟨i0, hi, hz0, hz1, hz2⟩ := info_parts infoS
  have h := run_make (P := Tryd.prog) w 25 9 i0 (.string ⟨#[]⟩) Tryd.underlying25 hi hz0 .i64 .i64 (n : Int) (n : Int) (by omega) (by omega) (by rw [hz2]; omega) (by omega)
  rw [hz1] at h
  simpa [Value.cells] using h

theorem row_new (w : World) (z : Value) (n : Nat) (t : TypeId) : RowAt (w.alloc (.cells (madeCells #[z] n) t)) w.heap.size t (List.replicate n z).toArray := made_heap w z n t

/-- The first k of a list, zeros behind them. -/
def partS (ss : List ByteArray) (k : Nat) : Array Value := ((ss.take k).map Value.string ++ List.replicate (ss.length - k) (Value.string ⟨#[]⟩)).toArray

theorem partS_zero (ss : List ByteArray) : partS ss 0 = (List.replicate ss.length (Value.string ⟨#[]⟩)).toArray := by simp [partS]
theorem partS_all (ss : List ByteArray) : partS ss ss.length = strsA ss := by simp [partS, strsA]
theorem partS_succ {ss : List ByteArray} {k : Nat} {x : ByteArray} (hx : ss[k]? = some x) : (partS ss k).setIfInBounds k (.string x) = partS ss (k + 1) := by
  obtain ⟨hk, he⟩ := List.getElem?_eq_some_iff.1 hx
  unfold partS
  rw [List.setIfInBounds_toArray, List.set_append_right _ _ (by simp; omega), List.take_succ_eq_append_getElem hk, List.map_append, he]
  have e1 : k - ((ss.take k).map Value.string).length = 0 := by simp; omega
  have e2 : ss.length - k = (ss.length - (k + 1)) + 1 := by omega
  rw [e1, e2, List.replicate_succ]
  simp
theorem partS_get {ss : List ByteArray} {k : Nat} (hk : k < ss.length) : (partS ss k)[k]? = some (.string ⟨#[]⟩) := by
  unfold partS
  rw [List.getElem?_toArray, List.getElem?_append_right (by simp; omega), List.getElem?_replicate]
  rw [if_pos (by simp; omega)]

set_option maxRecDepth 100000 in
set_option maxHeartbeats 1000000 in
theorem copyNames_any (a : Option Addr) (c : Nat) (ss : List ByteArray) (w : World) (hr : SRow w a ss) (hm : ss.length * 16 ≤ 140737488351232) (hs : ∀ s ∈ ss, s.size ≤ 281474976710656) :
    Calls Tryd.prog 42 #[.slice a ss.length c] w fun e w' => (∃ b, e = .returned (.slice (some ⟨b, 0, none⟩) ss.length ss.length) ∧ w.heap.size ≤ b ∧ RowAt w' b 9 (strsA ss)) ∧ Below w.heap.size w w' := by
  have hmk := fun W => madeS_any ss.length hm W
  have hrow0 := row_new w (.string ⟨#[]⟩) ss.length 9
  rw [← partS_zero] at hrow0
  have hB0 : Below w.heap.size w (w.alloc (.cells (madeCells #[.string ⟨#[]⟩] ss.length) 9)) := (Below.refl _ _).alloc (Nat.le_refl _) _
  go_enter Tryd.func42, Tryd.ntmps42
  go_wp2
  generalize w.alloc (.cells (madeCells #[.string ⟨#[]⟩] ss.length) 9) = W0 at *
  clear hmk
  go_loopw [11] (fun i wr => ∃ k : Nat, k ≤ ss.length ∧ i = .int .i64 k ∧ RowAt wr w.heap.size 9 (partS ss k) ∧ Below w.heap.size w wr) (fun i _ => ss.length - (intOf i).toNat)
  case atStart => exact ⟨0, by omega, rfl, hrow0, hB0⟩
  case round =>
    clear hrow0 hB0
    obtain ⟨k, hk, rfl, hrow, hB⟩ := hrel
    by_cases hlt : k < ss.length
    · obtain ⟨x, hx⟩ : ∃ x, ss[k]? = some x := ⟨ss[k], List.getElem?_eq_getElem hlt⟩
      obtain ⟨b, off, rfl, hc⟩ := hr k x hx
      have hc2 := (hB.cell (cell_lt hc)).trans hc
      have hlt2 : (k : Int) < (ss.length : Int) := by omega
      have hxs := hs x (List.mem_of_getElem? hx)
      have hlt3 := hrow.lt
      clear hr hs
      go_wp2_with fail
      refine (clone_any x _ hxs).mono ?_
      rintro e w2 ⟨rfl, hb2⟩
      have hrow2 := hrow.below hb2 hlt3
      have ck := hrow2.cell (partS_get hlt)
      have fk := hrow2.frozen k
      have hrow3 := hrow2.set k (.string x)
      rw [partS_succ hx] at hrow3
      have hB3 := (hB.trans (hb2.mono hB.size)).setCell (p := ⟨w.heap.size, k, none⟩) (by simp) (.string x)
      clear hrow hrow2 hx
      go_wp2
      go_roundw
      case rel => exact ⟨k + 1, by omega, by go_num, hrow3, hB3⟩
      case measure => simp [intOf]; omega
    · obtain rfl : k = ss.length := by omega
      rw [partS_all] at hrow
      have hnl : ¬ (ss.length : Int) < (ss.length : Int) := by omega
      clear hr hs
      go_wp2
      go_ret
      exact ⟨⟨w.heap.size, rfl, by omega, hrow⟩, hB⟩

end Go.Proofs.YtcmjneabcdpmoaaDoor.GramCopy
