/-
  Texts that stand together: OpRow, GramBut.
-/
import Derived.Test.YthbbipgngeflnaaGreatDoorBagUsefulRMath
import Derived.Test.YthbbipgngeflnaaGreatDoorBGramLentG
import Derived.Laws.CopyOwn
import Derived.Handy
namespace Go.Proofs.YthbbipgngeflnaaGreatDoor.OpRow
open Go.RowKit Go.Proofs.YthbbipgngeflnaaGreatDoor.GramMath Go.Proofs.YthbbipgngeflnaaGreatDoor.GramRow Go.Proofs.YthbbipgngeflnaaGreatDoor.GramApart Go.Proofs.YthbbipgngeflnaaGreatDoor.GramLent
set_option linter.unusedVariables false

def intsA (zs : List Int) : Array Value := (zs.map (Value.int .i64)).toArray

theorem intsA_size (zs : List Int) : (intsA zs).size = zs.length := by simp [intsA]
theorem intsA_get {zs : List Int} {k : Nat} {x : Int} (h : zs[k]? = some x) : (intsA zs)[k]? = some (.int .i64 x) := by
  unfold intsA
  rw [List.getElem?_toArray, List.getElem?_map, h]
  rfl
theorem intsA_row {w : World} {b : Nat} {t : TypeId} {zs : List Int} (h : RowAt w b t (intsA zs)) : IRow w (some ⟨b, 0, none⟩) zs := fun i x hx => ⟨b, 0, rfl, by
  rw [Nat.zero_add]
  exact h.cell (intsA_get hx)⟩
theorem intsA_set {zs : List Int} (k : Nat) (x : Int) : (intsA zs).setIfInBounds k (.int .i64 x) = intsA (zs.set k x) := by
  unfold intsA
  rw [List.setIfInBounds_toArray, List.map_set]

theorem madeI_any (n : Nat) (hn : n * 8 ≤ 140737488351232) (w : World) : (Instr.makeSlice 28 (.int .i64 (n : Int)) (.int .i64 (n : Int))).run Tryz.prog w = .ok (.slice (some ⟨w.heap.size, 0, none⟩) n n) (w.alloc (.cells (madeCells #[.int .i64 0] n) 3)) := by
  obtain ⟨i0, hi, hz0, hz1, hz2⟩ := info_parts infoI
  have h := run_make (P := Tryz.prog) w 28 3 i0 (.int .i64 0) Tryz.underlying28 hi hz0 .i64 .i64 (n : Int) (n : Int) (by omega) (by omega) (by rw [hz2]; omega) (by omega)
  rw [hz1] at h
  simpa [Value.cells] using h

theorem made_row (w : World) (n : Nat) (t : TypeId) : RowAt (w.alloc (.cells (madeCells #[.int .i64 0] n) t)) w.heap.size t (intsA (List.replicate n 0)) := by
  show (w.alloc _).heap[w.heap.size]? = _
  rw [heap_new]
  congr 2
  unfold intsA
  rw [List.map_replicate, ← toList_madeCells_one]

theorem infoI1 : (Tryz.prog.info? 3).map (·.size) = some 1 := by kernel_rfl

/-- A list copied into a row that was just made. -/
theorem copy_any (a : Option Addr) (c b : Nat) (zs ys : List Int) (w : World) (hr : IRow w a zs) (hb : RowAt w b 3 (intsA ys)) (hl : ys.length = zs.length) :
    ∃ w', (Builtin.copy_ #[28, 28] 3 #[.slice (some ⟨b, 0, none⟩) zs.length zs.length, .slice a zs.length c]).run Tryz.prog w = .ok (.int .i64 (zs.length : Int)) w' ∧ RowAt w' b 3 (intsA zs) ∧ Below b w w' ∧ (∀ j, j ≠ b → w'.heap[j]? = w.heap[j]?) ∧ w'.heap.size = w.heap.size := by
  have hone : ∀ v ∈ zs.map (Value.int .i64), v.oneCell' = true := fun v hv => by
    obtain ⟨y, _, rfl⟩ := List.mem_map.1 hv
    rfl
  by_cases h0 : zs.length = 0
  · have hrun := run_copy_none (P := Tryz.prog) w 28 28 3 3 (some ⟨b, 0, none⟩) a zs.length zs.length zs.length c Tryz.underlying28 infoI1 (by rw [h0]; rfl)
    refine ⟨_, hrun.trans (by rw [h0]; rfl), ?_, Below.refl _ _, fun _ _ => rfl, rfl⟩
    obtain rfl : zs = [] := List.length_eq_zero_iff.1 h0
    obtain rfl : ys = [] := List.length_eq_zero_iff.1 hl
    exact hb
  · obtain ⟨x, hx⟩ : ∃ x, zs[0]? = some x := ⟨zs[0]'(by omega), List.getElem?_eq_getElem _⟩
    obtain ⟨b', off, rfl, _⟩ := hr 0 x hx
    have hrun := run_copy_row (P := Tryz.prog) w 28 28 3 3 b 0 zs.length zs.length ⟨b', off, none⟩ zs.length c _ 3 (zs.map (Value.int .i64)) Tryz.underlying28 infoI1 hb (by simp) (fun j v hj => by
      rw [List.getElem?_map, Option.map_eq_some_iff] at hj
      obtain ⟨y, hy, rfl⟩ := hj
      obtain ⟨b2, off2, hb2, hc⟩ := hr j y hy
      cases hb2
      rw [Addr.add_lit]
      exact hc) (by rw [intsA_size]; simp; omega) hone
    have hd : (intsA ys).toList.drop (0 + (zs.map (Value.int .i64)).length) = [] := by
      apply List.drop_eq_nil_of_le
      rw [Array.length_toList, intsA_size, List.length_map]
      omega
    rw [hd] at hrun
    refine ⟨_, hrun.trans (by simp [goInt]; rfl), ?_, below_setRow (Below.refl _ _) (Nat.le_refl _) _, fun j hj => ?_, ?_⟩
    · exact setRow_heap _ _ _ (zs.map (Value.int .i64)).toArray _ _ hb
    · simp only [World.setRow]
      rw [Array.getElem?_modify, if_neg (fun e => hj e.symm)]
    · simp [World.setRow]

end Go.Proofs.YthbbipgngeflnaaGreatDoor.OpRow

namespace Go.Proofs.YthbbipgngeflnaaGreatDoor.GramApart
open Go.RowKit Go.Proofs.YthbbipgngeflnaaGreatDoor.GramMath Go.Proofs.YthbbipgngeflnaaGreatDoor.GramRow
set_option linter.unusedVariables false

structure But (S : Nat → Prop) (w w' : World) : Prop where
  os : w'.os = w.os
  tape : w'.tape = w.tape
  output : w'.output = w.output
  size : w.heap.size ≤ w'.heap.size
  block : ∀ k, k < w.heap.size → ¬ S k → w'.heap[k]? = w.heap[k]?

theorem But.refl (S : Nat → Prop) (w : World) : But S w w := ⟨rfl, rfl, rfl, Nat.le_refl _, fun _ _ _ => rfl⟩

theorem But.trans {S : Nat → Prop} {w w' w'' : World} (h : But S w w') (h2 : But S w' w'') : But S w w'' :=
  ⟨h2.os.trans h.os, h2.tape.trans h.tape, h2.output.trans h.output, Nat.le_trans h.size h2.size, fun k hk hs => (h2.block k (Nat.lt_of_lt_of_le hk h.size) hs).trans (h.block k hk hs)⟩

theorem But.of {S : Nat → Prop} {w w' : World} (h : Below w.heap.size w w') : But S w w' := ⟨h.os, h.tape, h.output, h.size, fun k hk _ => h.block k hk⟩

theorem But.on {S : Nat → Prop} {w w' w'' : World} (h : But S w w') (h2 : Below w'.heap.size w' w'') : But S w w'' := h.trans (But.of h2)

theorem But.setCell {S : Nat → Prop} {w w' : World} (h : But S w w') {p : Addr} (hp : S p.block) (v : Value) : But S w (w'.setCell p v) :=
  ⟨h.os, h.tape, h.output, by simpa using h.size, fun k hk hs => by
    rw [Below.heap_setCell _ _ _ _ (fun e => hs (by rw [e]; exact hp))]
    exact h.block k hk hs⟩

theorem But.mono {S T : Nat → Prop} {w w' : World} (h : But S w w') (hst : ∀ k, k < w.heap.size → S k → T k) : But T w w' := ⟨h.os, h.tape, h.output, h.size, fun k hk hs => h.block k hk (fun e => hs (hst k hk e))⟩

theorem But.below {S : Nat → Prop} {w w' : World} {B : Nat} (h : But S w w') (hB : B ≤ w.heap.size) (hs : ∀ k, S k → B ≤ k) : Below B w w' := ⟨h.os, h.tape, h.output, h.size, fun k hk => h.block k (by omega) (fun e => by have := hs k e; omega)⟩

theorem RowAt.but {S : Nat → Prop} {w w' : World} {b : Nat} {t : TypeId} {cur : Array Value} (h : RowAt w b t cur) (hb : But S w w') (hs : ¬ S b) : RowAt w' b t cur := (hb.block b h.lt hs).trans h

theorem But.cell {S : Nat → Prop} {w w' : World} {p : Addr} (h : But S w w') (hlt : p.block < w.heap.size) (hs : ¬ S p.block) : w'.cell? p = w.cell? p := World.cell?_of_block (h.block p.block hlt hs)
theorem But.frozen {S : Nat → Prop} {w w' : World} {p : Addr} (h : But S w w') (hlt : p.block < w.heap.size) (hs : ¬ S p.block) : w'.frozen? p = w.frozen? p := by
  unfold World.frozen?
  rw [h.block p.block hlt hs]

end Go.Proofs.YthbbipgngeflnaaGreatDoor.GramApart
