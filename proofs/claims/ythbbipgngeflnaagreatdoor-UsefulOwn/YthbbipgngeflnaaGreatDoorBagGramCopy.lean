/-
  Texts that stand together: GramCopy, GramCopyG.
-/
import Derived.Test.YthbbipgngeflnaaGreatDoorBagUsefulRMath
import Derived.Test.YthbbipgngeflnaaGreatDoorBGramLentG
import Derived.Laws.CopyOwn
import Derived.Handy
namespace Go.Proofs.YthbbipgngeflnaaGreatDoor.GramCopy
open Go.RowKit Go.Proofs.YthbbipgngeflnaaGreatDoor.GramMath Go.Proofs.YthbbipgngeflnaaGreatDoor.GramRow Go.Proofs.YthbbipgngeflnaaGreatDoor.GramApart Go.Proofs.YthbbipgngeflnaaGreatDoor.GramLent Go.Proofs.YthbbipgngeflnaaGreatDoor.GramName
set_option linter.unusedVariables false

def intsA (zs : List Int) : Array Value := (zs.map (Value.int .i64)).toArray

theorem madeI_any (n : Nat) (hn : n * 8 ≤ 140737488351232) (w : World) : (Instr.makeSlice 28 (.int .i64 (n : Int)) (.int .i64 (n : Int))).run Tryz.prog w = .ok (.slice (some ⟨w.heap.size, 0, none⟩) n n) (w.alloc (.cells (madeCells #[.int .i64 0] n) 3)) := by
  obtain ⟨i0, hi, hz0, hz1, hz2⟩ := info_parts infoI
  have h := run_make (P := Tryz.prog) w 28 3 i0 (.int .i64 0) Tryz.underlying28 hi hz0 .i64 .i64 (n : Int) (n : Int) (by omega) (by omega) (by rw [hz2]; omega) (by omega)
  rw [hz1] at h
  simpa [Value.cells] using h

theorem made_heap (w : World) (z : Value) (n : Nat) (t : TypeId) : (w.alloc (.cells (madeCells #[z] n) t)).heap[w.heap.size]? = some (.cells (List.replicate n z).toArray t (0, 0)) := by
  rw [heap_new]
  congr 2
  rw [← toList_madeCells_one]

set_option maxRecDepth 100000 in
set_option maxHeartbeats 1000000 in
theorem copyRule_any (l : Int) (a : Option Addr) (c : Nat) (zs : List Int) (w : World) (hr : IRow w a zs) (hm : zs.length * 8 ≤ 140737488351232) :
    Calls Tryz.prog 80 #[.int .i64 l, .slice a zs.length c] w fun e w' => (∃ b, e = .returned (.agg #[.int .i64 l, .slice (some ⟨b, 0, none⟩) zs.length zs.length]) ∧ w.heap.size ≤ b ∧ RowAt w' b 3 (intsA zs)) ∧ Below w.heap.size w w' := by
  have hmk := fun W => madeI_any zs.length hm W
  have hB1 : Below w.heap.size w (w.alloc (.cells #[.int .i64 0, .slice none 0 0] 38)) := (Below.refl _ _).alloc (Nat.le_refl _) _
  have hz1 : (w.alloc (.cells #[.int .i64 0, .slice none 0 0] 38)).heap.size = w.heap.size + 1 := by simp
  have r0 : (w.alloc (.cells #[.int .i64 0, .slice none 0 0] 38)).heap[w.heap.size]? = some (.cells #[.int .i64 0, .slice none 0 0] 38 (0, 0)) := heap_new _ _
  have hmade := made_heap (w.alloc (.cells #[.int .i64 0, .slice none 0 0] 38)) (.int .i64 0) zs.length 3
  have hB2 : Below (w.heap.size + 1) (w.alloc (.cells #[.int .i64 0, .slice none 0 0] 38)) ((w.alloc (.cells #[.int .i64 0, .slice none 0 0] 38)).alloc (.cells (madeCells #[.int .i64 0] zs.length) 3)) := (Below.refl _ _).alloc (by omega) _
  have hr2 := (hr.below hB1 (Nat.le_refl _)).below hB2 (by omega)
  rw [hz1] at hmade
  have hone : ∀ v ∈ zs.map (Value.int .i64), v.oneCell' = true := fun v hv => by
    obtain ⟨y, _, rfl⟩ := List.mem_map.1 hv
    rfl
  have hinfo : (Tryz.prog.info? 3).map (·.size) = some 1 := by kernel_rfl
  obtain ⟨w1, hrun, hrow, hb1⟩ : ∃ w1, (Builtin.copy_ #[28, 28] 3 #[.slice (some ⟨w.heap.size + 1, 0, none⟩) zs.length zs.length, .slice a zs.length c]).run Tryz.prog ((w.alloc (.cells #[.int .i64 0, .slice none 0 0] 38)).alloc (.cells (madeCells #[.int .i64 0] zs.length) 3)) = .ok (.int .i64 (zs.length : Int)) w1 ∧ RowAt w1 (w.heap.size + 1) 3 (intsA zs) ∧ Below (w.heap.size + 1) ((w.alloc (.cells #[.int .i64 0, .slice none 0 0] 38)).alloc (.cells (madeCells #[.int .i64 0] zs.length) 3)) w1 := by
    by_cases h0 : zs.length = 0
    · have hrun := run_copy_none (P := Tryz.prog) ((w.alloc (.cells #[.int .i64 0, .slice none 0 0] 38)).alloc (.cells (madeCells #[.int .i64 0] zs.length) 3)) 28 28 3 3 (some ⟨w.heap.size + 1, 0, none⟩) a zs.length zs.length zs.length c Tryz.underlying28 hinfo (by rw [h0]; rfl)
      refine ⟨_, hrun.trans (by rw [h0]; rfl), ?_, Below.refl _ _⟩
      obtain rfl : zs = [] := List.length_eq_zero_iff.1 h0
      exact hmade
    · obtain ⟨x, hx⟩ : ∃ x, zs[0]? = some x := ⟨zs[0]'(by omega), List.getElem?_eq_getElem _⟩
      obtain ⟨b, off, rfl, _⟩ := hr2 0 x hx
      have hrun := run_copy_row (P := Tryz.prog) ((w.alloc (.cells #[.int .i64 0, .slice none 0 0] 38)).alloc (.cells (madeCells #[.int .i64 0] zs.length) 3)) 28 28 3 3 (w.heap.size + 1) 0 zs.length zs.length ⟨b, off, none⟩ zs.length c _ 3 (zs.map (Value.int .i64)) Tryz.underlying28 hinfo hmade (by simp) (fun j v hj => by
        rw [List.getElem?_map, Option.map_eq_some_iff] at hj
        obtain ⟨y, hy, rfl⟩ := hj
        obtain ⟨b', off', hb, hc⟩ := hr2 j y hy
        cases hb
        rw [Addr.add_lit]
        exact hc) (by simp) hone
      refine ⟨_, hrun.trans (by simp [goInt]; rfl), ?_, below_setRow (Below.refl _ _) (Nat.le_refl _) _⟩
      exact setRow_heap _ _ _ (zs.map (Value.int .i64)).toArray _ _ hmade
  have hzW : w.heap.size + 1 ≤ ((w.alloc (.cells #[.int .i64 0, .slice none 0 0] 38)).alloc (.cells (madeCells #[.int .i64 0] zs.length) 3)).heap.size := by simp
  have q0 : w1.cell? ⟨w.heap.size, 0, none⟩ = some (.int .i64 0) := (hb1.cell (p := ⟨w.heap.size, 0, none⟩) (by simp)).trans (by simp)
  have q1 : w1.cell? ⟨w.heap.size, 1, none⟩ = some (.slice none 0 0) := (hb1.cell (p := ⟨w.heap.size, 1, none⟩) (by simp)).trans (by simp)
  have y0 : w1.frozen? ⟨w.heap.size, 0, none⟩ = false := (hb1.frozen (p := ⟨w.heap.size, 0, none⟩) (by simp)).trans (by simp)
  have y1 : w1.frozen? ⟨w.heap.size, 1, none⟩ = false := (hb1.frozen (p := ⟨w.heap.size, 1, none⟩) (by simp)).trans (by simp)
  have hBw : Below w.heap.size w w1 := hB1.trans ((hB2.mono (by omega)).trans (hb1.mono (by omega)))
  clear hr hr2 hmade hone hB1 hB2 r0 hzW hb1
  go_enter Tryz.func80, Tryz.ntmps80
  go_wp2
  have E : Hid (RowAt ((w1.setCell ⟨w.heap.size, 0, none⟩ (.int .i64 l)).setCell ⟨w.heap.size, 1, none⟩ (.slice (some ⟨w.heap.size + 1, 0, none⟩) zs.length zs.length)) (w.heap.size + 1) 3 (intsA zs)) := (hrow.other (by omega) _ _).other (by omega) _ _
  have hBf : Below w.heap.size w ((w1.setCell ⟨w.heap.size, 0, none⟩ (.int .i64 l)).setCell ⟨w.heap.size, 1, none⟩ (.slice (some ⟨w.heap.size + 1, 0, none⟩) zs.length zs.length)) := (hBw.setCell (by simp) _).setCell (by simp) _
  refine bodyPost_ret (v := .agg #[.int .i64 l, .slice (some ⟨w.heap.size + 1, 0, none⟩) zs.length zs.length]) (by simp [results, Tryz.results80, go_sem, q0, q1]; try rfl) rfl ?_
  exact ⟨⟨w.heap.size + 1, rfl, by omega, E.out⟩, hBf⟩

def strsA (ss : List ByteArray) : Array Value := (ss.map Value.string).toArray

theorem infoS : (Tryz.prog.info? 9).map (fun i => (i.zero, i.size, i.bytes)) = some (some (.string ⟨#[]⟩), 1, 16) := by kernel_rfl

theorem madeS_any (n : Nat) (hn : n * 16 ≤ 140737488351232) (w : World) : (Instr.makeSlice 22 (.int .i64 (n : Int)) (.int .i64 (n : Int))).run Tryz.prog w = .ok (.slice (some ⟨w.heap.size, 0, none⟩) n n) (w.alloc (.cells (madeCells #[.string ⟨#[]⟩] n) 9)) := by
  obtain ⟨i0, hi, hz0, hz1, hz2⟩ := info_parts infoS
  have h := run_make (P := Tryz.prog) w 22 9 i0 (.string ⟨#[]⟩) Tryz.underlying22 hi hz0 .i64 .i64 (n : Int) (n : Int) (by omega) (by omega) (by rw [hz2]; omega) (by omega)
  rw [hz1] at h
  simpa [Value.cells] using h

theorem row_new (w : World) (z : Value) (n : Nat) (t : TypeId) : RowAt (w.alloc (.cells (madeCells #[z] n) t)) w.heap.size t (List.replicate n z).toArray := made_heap w z n t

/-- The first k of a list, zeros behind them. -/
def partS (ss : List ByteArray) (k : Nat) : Array Value := ((ss.take k).map Value.string ++ List.replicate (ss.length - k) (Value.string ⟨#[]⟩)).toArray

theorem partS_zero (ss : List ByteArray) : partS ss 0 = (List.replicate ss.length (Value.string ⟨#[]⟩)).toArray := by simp [partS]
theorem partS_all (ss : List ByteArray) : partS ss ss.length = strsA ss := by simp [partS, strsA]
theorem partS_succ {ss : List ByteArray} {k : Nat} {x : ByteArray} (hx : ss[k]? = some x) : (partS ss k).setIfInBounds k (.string x) = partS ss (k + 1) := by
  obtain ⟨hk, he⟩ := List.getElem?_eq_some_iff.1 hx
  unfold partS
  rw [List.setIfInBounds_toArray, List.set_append_right _ _ (by simp; omega), List.take_succ_eq_append_getElem hk, List.map_append, he]
  have e1 : k - ((ss.take k).map Value.string).length = 0 := by simp; omega
  have e2 : ss.length - k = (ss.length - (k + 1)) + 1 := by omega
  rw [e1, e2, List.replicate_succ]
  simp
theorem partS_get {ss : List ByteArray} {k : Nat} (hk : k < ss.length) : (partS ss k)[k]? = some (.string ⟨#[]⟩) := by
  unfold partS
  rw [List.getElem?_toArray, List.getElem?_append_right (by simp; omega), List.getElem?_replicate]
  rw [if_pos (by simp; omega)]

set_option maxRecDepth 100000 in
set_option maxHeartbeats 1000000 in
theorem copyNames_any (a : Option Addr) (c : Nat) (ss : List ByteArray) (w : World) (hr : SRow w a ss) (hm : ss.length * 16 ≤ 140737488351232) (hs : ∀ s ∈ ss, s.size ≤ 281474976710656) :
    Calls Tryz.prog 86 #[.slice a ss.length c] w fun e w' => (∃ b, e = .returned (.slice (some ⟨b, 0, none⟩) ss.length ss.length) ∧ w.heap.size ≤ b ∧ RowAt w' b 9 (strsA ss)) ∧ Below w.heap.size w w' := by
  have hmk := fun W => madeS_any ss.length hm W
  have hrow0 := row_new w (.string ⟨#[]⟩) ss.length 9
  rw [← partS_zero] at hrow0
  have hB0 : Below w.heap.size w (w.alloc (.cells (madeCells #[.string ⟨#[]⟩] ss.length) 9)) := (Below.refl _ _).alloc (Nat.le_refl _) _
  go_enter Tryz.func86, Tryz.ntmps86
  go_wp2
  generalize w.alloc (.cells (madeCells #[.string ⟨#[]⟩] ss.length) 9) = W0 at *
  clear hmk
  go_loopw [11] (fun i wr => ∃ k : Nat, k ≤ ss.length ∧ i = .int .i64 k ∧ RowAt wr w.heap.size 9 (partS ss k) ∧ Below w.heap.size w wr) (fun i _ => ss.length - (intOf i).toNat)
  case atStart => exact ⟨0, by omega, rfl, hrow0, hB0⟩
  case round =>
    clear hrow0 hB0
    obtain ⟨k, hk, rfl, hrow, hB⟩ := hrel
    by_cases hlt : k < ss.length
    · obtain ⟨x, hx⟩ : ∃ x, ss[k]? = some x := ⟨ss[k], List.getElem?_eq_getElem hlt⟩
      obtain ⟨b, off, rfl, hc⟩ := hr k x hx
      have hc2 := (hB.cell (cell_lt hc)).trans hc
      have hlt2 : (k : Int) < (ss.length : Int) := by omega
      have hxs := hs x (List.mem_of_getElem? hx)
      have hlt3 := hrow.lt
      clear hr hs
      go_wp2_with fail
      refine (clone_any x _ hxs).mono ?_
      rintro e w2 ⟨rfl, hb2⟩
      have hrow2 := hrow.below hb2 hlt3
      have ck := hrow2.cell (partS_get hlt)
      have fk := hrow2.frozen k
      have hrow3 := hrow2.set k (.string x)
      rw [partS_succ hx] at hrow3
      have hB3 := (hB.trans (hb2.mono hB.size)).setCell (p := ⟨w.heap.size, k, none⟩) (by simp) (.string x)
      clear hrow hrow2 hx
      go_wp2
      go_roundw
      case rel => exact ⟨k + 1, by omega, by go_num, hrow3, hB3⟩
      case measure => simp [intOf]; omega
    · obtain rfl : k = ss.length := by omega
      rw [partS_all] at hrow
      have hnl : ¬ (ss.length : Int) < (ss.length : Int) := by omega
      clear hr hs
      go_wp2
      go_ret
      exact ⟨⟨w.heap.size, rfl, by omega, hrow⟩, hB⟩

end Go.Proofs.YthbbipgngeflnaaGreatDoor.GramCopy

namespace Go.Proofs.YthbbipgngeflnaaGreatDoor.GramCopy
open Go.RowKit Go.Proofs.YthbbipgngeflnaaGreatDoor.GramMath Go.Proofs.YthbbipgngeflnaaGreatDoor.GramRow Go.Proofs.YthbbipgngeflnaaGreatDoor.GramApart Go.Proofs.YthbbipgngeflnaaGreatDoor.GramLent Go.Proofs.YthbbipgngeflnaaGreatDoor.GramName
set_option linter.unusedVariables false

/-- The first k rules of a copy, each with a right side of its own, and room for the others. -/
structure RulesAt (w : World) (b : Nat) (bs : List Nat) (rs : List R) (k : Nat) : Prop where
  room : ∀ q, q < rs.length * 2 → w.frozen? ⟨b, q, none⟩ = false ∧ ∃ v, w.cell? ⟨b, q, none⟩ = some v
  len : bs.length = k
  each : ∀ i r x, rs[i]? = some r → bs[i]? = some x → w.cell? ⟨b, i * 2, none⟩ = some (.int .i64 r.left) ∧ w.cell? ⟨b, i * 2 + 1, none⟩ = some (.slice (some ⟨x, 0, none⟩) r.right.length r.right.length) ∧ RowAt w x 3 (intsA r.right)
  inc : bs.Pairwise (· < ·)
  lo : ∀ x ∈ bs, b < x
  hi : ∀ x ∈ bs, x < w.heap.size

theorem RulesAt.below {w w' : World} {b k B : Nat} {bs : List Nat} {rs : List R} (h : RulesAt w b bs rs k) (hb : Below B w w') (hB : w.heap.size ≤ B) (hlt : b < w.heap.size) : RulesAt w' b bs rs k where
  room q hq := by
    obtain ⟨h1, v, h2⟩ := h.room q hq
    exact ⟨(hb.frozen (p := ⟨b, q, none⟩) (Nat.lt_of_lt_of_le hlt hB)).trans h1, v, (hb.cell (p := ⟨b, q, none⟩) (Nat.lt_of_lt_of_le hlt hB)).trans h2⟩
  len := h.len
  each i r x hr hx := by
    obtain ⟨h1, h2, h3⟩ := h.each i r x hr hx
    exact ⟨(hb.cell (p := ⟨b, i * 2, none⟩) (Nat.lt_of_lt_of_le hlt hB)).trans h1, (hb.cell (p := ⟨b, i * 2 + 1, none⟩) (Nat.lt_of_lt_of_le hlt hB)).trans h2, h3.below hb (Nat.lt_of_lt_of_le h3.lt hB)⟩
  inc := h.inc
  lo := h.lo
  hi x hx := Nat.lt_of_lt_of_le (h.hi x hx) hb.size

/-- The next rule is put in its place. -/
theorem RulesAt.put {w : World} {b k x : Nat} {bs : List Nat} {rs : List R} {r : R} (h : RulesAt w b bs rs k) (hr : rs[k]? = some r) (hrow : RowAt w x 3 (intsA r.right)) (hbx : b < x) (hall : ∀ y ∈ bs, y < x) :
    RulesAt ((w.setCell ⟨b, k * 2, none⟩ (.int .i64 r.left)).setCell ⟨b, k * 2 + 1, none⟩ (.slice (some ⟨x, 0, none⟩) r.right.length r.right.length)) b (bs ++ [x]) rs (k + 1) := by
  have hk : k < rs.length := (List.getElem?_eq_some_iff.1 hr).1
  have hother : ∀ q, q ≠ k * 2 → q ≠ k * 2 + 1 → ((w.setCell ⟨b, k * 2, none⟩ (.int .i64 r.left)).setCell ⟨b, k * 2 + 1, none⟩ (.slice (some ⟨x, 0, none⟩) r.right.length r.right.length)).cell? ⟨b, q, none⟩ = w.cell? ⟨b, q, none⟩ := fun q h1 h2 => by
    rw [World.cell?_setCell_other (h := show (⟨b, k * 2 + 1, none⟩ : Addr) ≠ ⟨b, q, none⟩ from fun h => h2 (by cases h; rfl)), World.cell?_setCell_other (h := show (⟨b, k * 2, none⟩ : Addr) ≠ ⟨b, q, none⟩ from fun h => h1 (by cases h; rfl))]
  obtain ⟨_, v0, e0⟩ := h.room (k * 2) (by omega)
  obtain ⟨_, v1, e1⟩ := h.room (k * 2 + 1) (by omega)
  have c0 : ((w.setCell ⟨b, k * 2, none⟩ (.int .i64 r.left)).setCell ⟨b, k * 2 + 1, none⟩ (.slice (some ⟨x, 0, none⟩) r.right.length r.right.length)).cell? ⟨b, k * 2, none⟩ = some (.int .i64 r.left) := by
    rw [World.cell?_setCell_other (h := show (⟨b, k * 2 + 1, none⟩ : Addr) ≠ ⟨b, k * 2, none⟩ from fun h => by have h2 : k * 2 + 1 = k * 2 := congrArg Addr.off h; omega)]
    exact World.cell?_setCell_same (h := e0) ..
  have c1 : ((w.setCell ⟨b, k * 2, none⟩ (.int .i64 r.left)).setCell ⟨b, k * 2 + 1, none⟩ (.slice (some ⟨x, 0, none⟩) r.right.length r.right.length)).cell? ⟨b, k * 2 + 1, none⟩ = some (.slice (some ⟨x, 0, none⟩) r.right.length r.right.length) := by
    have e2 : (w.setCell ⟨b, k * 2, none⟩ (.int .i64 r.left)).cell? ⟨b, k * 2 + 1, none⟩ = some v1 := by
      rw [World.cell?_setCell_other (h := show (⟨b, k * 2, none⟩ : Addr) ≠ ⟨b, k * 2 + 1, none⟩ from fun h => by have h2 : k * 2 = k * 2 + 1 := congrArg Addr.off h; omega)]
      exact e1
    exact World.cell?_setCell_same (h := e2) ..
  refine ⟨fun q hq => ?_, by simp [h.len], fun i r' y hr' hy => ?_, ?_, ?_, ?_⟩
  · obtain ⟨h1, v, h2⟩ := h.room q hq
    refine ⟨by rw [World.frozen?_setCell, World.frozen?_setCell]; exact h1, ?_⟩
    by_cases q0 : q = k * 2
    · subst q0; exact ⟨_, c0⟩
    · by_cases q1 : q = k * 2 + 1
      · subst q1; exact ⟨_, c1⟩
      · exact ⟨v, by rw [hother q q0 q1]; exact h2⟩
  · by_cases hi : i < bs.length
    · rw [List.getElem?_append_left hi] at hy
      obtain ⟨h1, h2, h3⟩ := h.each i r' y hr' hy
      have hl := h.len
      have hym := h.lo y (List.mem_of_getElem? hy)
      exact ⟨by rw [hother _ (by omega) (by omega)]; exact h1, by rw [hother _ (by omega) (by omega)]; exact h2, (h3.other (by omega) _ _).other (by omega) _ _⟩
    · rw [List.getElem?_append_right (by omega)] at hy
      have hz : i - bs.length = 0 := by
        have := (List.getElem?_eq_some_iff.1 hy).1
        simp at this
        omega
      rw [hz] at hy
      obtain rfl : x = y := by simpa using hy
      obtain rfl : i = k := by have := h.len; omega
      rw [hr] at hr'
      obtain rfl := Option.some.inj hr'
      exact ⟨c0, c1, (hrow.other (by omega) _ _).other (by omega) _ _⟩
  · rw [List.pairwise_append]
    exact ⟨h.inc, by simp, fun y hy z hz => by obtain rfl : z = x := by simpa using hz
                                               exact hall y hy⟩
  · intro y hy
    rcases List.mem_append.1 hy with hy | hy
    · exact h.lo y hy
    · obtain rfl : y = x := by simpa using hy
      exact hbx
  · intro y hy
    have hz : ((w.setCell ⟨b, k * 2, none⟩ (.int .i64 r.left)).setCell ⟨b, k * 2 + 1, none⟩ (.slice (some ⟨x, 0, none⟩) r.right.length r.right.length)).heap.size = w.heap.size := by simp
    rw [hz]
    rcases List.mem_append.1 hy with hy | hy
    · exact h.hi y hy
    · obtain rfl : y = x := by simpa using hy
      exact hrow.lt

theorem madeR_any (n : Nat) (hn : n * 32 ≤ 140737488351232) (w : World) : (Instr.makeSlice 23 (.int .i64 (n : Int)) (.int .i64 (n : Int))).run Tryz.prog w = .ok (.slice (some ⟨w.heap.size, 0, none⟩) n n) (w.alloc (.cells (madeCells #[.int .i64 0, .slice none 0 0] (n * 2)) 38)) := by
  obtain ⟨i0, hi, hz0, hz1, hz2⟩ := info_parts infoR
  have h := run_make (P := Tryz.prog) w 23 38 i0 (.agg #[.int .i64 0, .slice none 0 0]) Tryz.underlying23 hi hz0 .i64 .i64 (n : Int) (n : Int) (by omega) (by omega) (by rw [hz2]; omega) (by omega)
  rw [hz1] at h
  simpa [Value.cells] using h

theorem rules_new (w : World) (rs : List R) : RulesAt (w.alloc (.cells (madeCells #[.int .i64 0, .slice none 0 0] (rs.length * 2)) 38)) w.heap.size [] rs 0 where
  room q hq := by
    refine ⟨by simp, ?_⟩
    have h := World.cell?_alloc_mark w (madeCells #[.int .i64 0, .slice none 0 0] (rs.length * 2)) 38 (0, 0) q
    refine ⟨(madeCells #[.int .i64 0, .slice none 0 0] (rs.length * 2))[q]'(by rw [size_madeCells]; exact hq), ?_⟩
    rw [show (w.alloc (.cells (madeCells #[.int .i64 0, .slice none 0 0] (rs.length * 2)) 38)).cell? ⟨w.heap.size, q, none⟩ = (madeCells #[.int .i64 0, .slice none 0 0] (rs.length * 2))[q]? from h]
    exact Array.getElem?_eq_getElem _
  len := rfl
  each i r x _ hx := by simp at hx
  inc := by simp
  lo x hx := by cases hx
  hi x hx := by cases hx

/-- A copy of a grammar. -/
structure CopyAt (w : World) (B b1 b2 b3 : Nat) (bs : List Nat) (g : G) : Prop where
  ts : RowAt w b1 9 (strsA g.ts)
  ns : RowAt w b2 9 (strsA g.ns)
  rs : RulesAt w b3 bs g.rs g.rs.length
  l1 : B ≤ b1
  l2 : B ≤ b2
  l3 : B ≤ b3
  ne : b1 < b2
  l4 : b3 < b1
  lt : b3 < w.heap.size

theorem srow_of {w : World} {b : Nat} {ss : List ByteArray} (h : RowAt w b 9 (strsA ss)) : SRow w (some ⟨b, 0, none⟩) ss := fun i x hx => ⟨b, 0, rfl, by
  rw [Nat.zero_add]
  exact h.cell (by simp [strsA, hx])⟩
theorem irow_of {w : World} {b : Nat} {zs : List Int} (h : RowAt w b 3 (intsA zs)) : IRow w (some ⟨b, 0, none⟩) zs := fun i x hx => ⟨b, 0, rfl, by
  rw [Nat.zero_add]
  exact h.cell (by simp [intsA, hx])⟩

theorem CopyAt.row {w : World} {B b1 b2 b3 : Nat} {bs : List Nat} {g : G} (h : CopyAt w B b1 b2 b3 bs g) : GRow w (some ⟨b1, 0, none⟩) (some ⟨b2, 0, none⟩) (some ⟨b3, 0, none⟩) g := by
  refine ⟨srow_of h.ts, srow_of h.ns, fun i r hr => ?_⟩
  have hi := (List.getElem?_eq_some_iff.1 hr).1
  have hl := h.rs.len
  obtain ⟨h1, h2, h3⟩ := h.rs.each i r bs[i] hr (List.getElem?_eq_getElem (by omega))
  exact ⟨b3, 0, _, _, rfl, by rw [Nat.zero_add]; exact h1, by rw [Nat.zero_add]; exact h2, irow_of h3⟩

theorem CopyAt.below {w w' : World} {B b1 b2 b3 C : Nat} {bs : List Nat} {g : G} (h : CopyAt w B b1 b2 b3 bs g) (hb : Below C w w') (hC : w.heap.size ≤ C) : CopyAt w' B b1 b2 b3 bs g :=
  ⟨h.ts.below hb (Nat.lt_of_lt_of_le h.ts.lt hC), h.ns.below hb (Nat.lt_of_lt_of_le h.ns.lt hC), h.rs.below hb hC h.lt, h.l1, h.l2, h.l3, h.ne, h.l4, Nat.lt_of_lt_of_le h.lt hb.size⟩

end Go.Proofs.YthbbipgngeflnaaGreatDoor.GramCopy
