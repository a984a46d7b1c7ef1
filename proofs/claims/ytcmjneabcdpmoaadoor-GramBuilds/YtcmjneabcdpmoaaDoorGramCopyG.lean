/-
  Copy: a grammar in memory of its own.
-/
import Derived.Test.YtcmjneabcdpmoaaDoorGramCopy
namespace Go.Proofs.YtcmjneabcdpmoaaDoor.GramCopy
open Go.RowKit Go.Proofs.YtcmjneabcdpmoaaDoor.GramMath Go.Proofs.YtcmjneabcdpmoaaDoor.GramRow Go.Proofs.YtcmjneabcdpmoaaDoor.GramApart Go.Proofs.YtcmjneabcdpmoaaDoor.GramLent Go.Proofs.YtcmjneabcdpmoaaDoor.GramName
set_option linter.unusedVariables false

/-- The first k rules of a copy, each with a right side of its own, and room for the others. -/
structure RulesAt (w : World) (b : Nat) (bs : List Nat) (rs : List R) (k : Nat) : Prop where
  room : ∀ q, q < rs.length * 2 → w.frozen? ⟨b, q, none⟩ = false ∧ ∃ v, w.cell? ⟨b, q, none⟩ = some v
  len : bs.length = k
  each : ∀ i r x, rs[i]? = some r → bs[i]? = some x → w.cell? ⟨b, i * 2, none⟩ = some (.int .i64 r.left) ∧ w.cell? ⟨b, i * 2 + 1, none⟩ = some (.slice (some ⟨x, 0, none⟩) r.right.length r.right.length) ∧ RowAt w x 3 (intsA r.right)
  inc : bs.Pairwise (· < ·)
  lo : ∀ x ∈ bs, b < x
  hi : ∀ x ∈ bs, x < w.heap.size

theorem RulesAt.below {w w' : World} {b k B : Nat} {bs : List Nat} {rs : List R} (h : RulesAt w b bs rs k) (hb : Below B w w') (hB : w.heap.size ≤ B) (hlt : b < w.heap.size) : RulesAt w' b bs rs k where
  room q hq := by
    obtain ⟨h1, v, h2⟩ := h.room q hq
    exact ⟨(hb.frozen (p := ⟨b, q, none⟩) (Nat.lt_of_lt_of_le hlt hB)).trans h1, v, (hb.cell (p := ⟨b, q, none⟩) (Nat.lt_of_lt_of_le hlt hB)).trans h2⟩
  len := h.len
  each i r x hr hx := by
    obtain ⟨h1, h2, h3⟩ := h.each i r x hr hx
    exact ⟨(hb.cell (p := ⟨b, i * 2, none⟩) (Nat.lt_of_lt_of_le hlt hB)).trans h1, (hb.cell (p := ⟨b, i * 2 + 1, none⟩) (Nat.lt_of_lt_of_le hlt hB)).trans h2, h3.below hb (Nat.lt_of_lt_of_le h3.lt hB)⟩
  inc := h.inc
  lo := h.lo
  hi x hx := Nat.lt_of_lt_of_le (h.hi x hx) hb.size

/-- The next rule is put in its place. -/
theorem RulesAt.put {w : World} {b k x : Nat} {bs : List Nat} {rs : List R} {r : R} (h : RulesAt w b bs rs k) (hr : rs[k]? = some r) (hrow : RowAt w x 3 (intsA r.right)) (hbx : b < x) (hall : ∀ y ∈ bs, y < x) :
    RulesAt ((w.setCell ⟨b, k * 2, none⟩ (.int .i64 r.left)).setCell ⟨b, k * 2 + 1, none⟩ (.slice (some ⟨x, 0, none⟩) r.right.length r.right.length)) b (bs ++ [x]) rs (k + 1) := by
  have hk : k < rs.length := (List.getElem?_eq_some_iff.1 hr).1
  have hother : ∀ q, q ≠ k * 2 → q ≠ k * 2 + 1 → ((w.setCell ⟨b, k * 2, none⟩ (.int .i64 r.left)).setCell ⟨b, k * 2 + 1, none⟩ (.slice (some ⟨x, 0, none⟩) r.right.length r.right.length)).cell? ⟨b, q, none⟩ = w.cell? ⟨b, q, none⟩ := fun q h1 h2 => by
    rw [World.cell?_setCell_other (h := show (⟨b, k * 2 + 1, none⟩ : Addr) ≠ ⟨b, q, none⟩ from fun h => h2 (by cases h; rfl)), World.cell?_setCell_other (h := show (⟨b, k * 2, none⟩ : Addr) ≠ ⟨b, q, none⟩ from fun h => h1 (by cases h; rfl))]
  obtain ⟨_, v0, e0⟩ := h.room (k * 2) (by omega)
  obtain ⟨_, v1, e1⟩ := h.room (k * 2 + 1) (by omega)
  have c0 : ((w.setCell ⟨b, k * 2, none⟩ (.int .i64 r.left)).setCell ⟨b, k * 2 + 1, none⟩ (.slice (some ⟨x, 0, none⟩) r.right.length r.right.length)).cell? ⟨b, k * 2, none⟩ = some (.int .i64 r.left) := by
    rw [World.cell?_setCell_other (h := show (⟨b, k * 2 + 1, none⟩ : Addr) ≠ ⟨b, k * 2, none⟩ from fun h => by have h2 : k * 2 + 1 = k * 2 := congrArg Addr.off h; omega)]
    exact World.cell?_setCell_same (h := e0) ..
  have c1 : ((w.setCell ⟨b, k * 2, none⟩ (.int .i64 r.left)).setCell ⟨b, k * 2 + 1, none⟩ (.slice (some ⟨x, 0, none⟩) r.right.length r.right.length)).cell? ⟨b, k * 2 + 1, none⟩ = some (.slice (some ⟨x, 0, none⟩) r.right.length r.right.length) := by
    have e2 : (w.setCell ⟨b, k * 2, none⟩ (.int .i64 r.left)).cell? ⟨b, k * 2 + 1, none⟩ = some v1 := by
      rw [World.cell?_setCell_other (h := show (⟨b, k * 2, none⟩ : Addr) ≠ ⟨b, k * 2 + 1, none⟩ from fun h => by have h2 : k * 2 = k * 2 + 1 := congrArg Addr.off h; omega)]
      exact e1
    exact World.cell?_setCell_same (h := e2) ..
  refine ⟨fun q hq => ?_, by simp [h.len], fun i r' y hr' hy => ?_, ?_, ?_, ?_⟩
  · obtain ⟨h1, v, h2⟩ := h.room q hq
    refine ⟨by rw [World.frozen?_setCell, World.frozen?_setCell]; exact h1, ?_⟩
    by_cases q0 : q = k * 2
    · subst q0; exact ⟨_, c0⟩
    · by_cases q1 : q = k * 2 + 1
      · subst q1; exact ⟨_, c1⟩
      · exact ⟨v, by rw [hother q q0 q1]; exact h2⟩
  · by_cases hi : i < bs.length
    · rw [List.getElem?_append_left hi] at hy
      obtain ⟨h1, h2, h3⟩ := h.each i r' y hr' hy
      have hl := h.len
      have hym := h.lo y (List.mem_of_getElem? hy)
      exact ⟨by rw [hother _ (by omega) (by omega)]; exact h1, by rw [hother _ (by omega) (by omega)]; exact h2, (h3.other (by omega) _ _).other (by omega) _ _⟩
    · rw [List.getElem?_append_right (by omega)] at hy
      have hz : i - bs.length = 0 := by
        have := (List.getElem?_eq_some_iff.1 hy).1
        simp at this
        omega
      rw [hz] at hy
      obtain rfl : x = y := by simpa using hy
      obtain rfl : i = k := by have := h.len; omega
      rw [hr] at hr'
      obtain rfl := Option.some.inj hr'
      exact ⟨c0, c1, (hrow.other (by omega) _ _).other (by omega) _ _⟩
  · rw [List.pairwise_append]
    exact ⟨h.inc, by simp, fun y hy z hz => by obtain rfl : z = x := by simpa using hz
                                               exact hall y hy⟩
  · intro y hy
    rcases List.mem_append.1 hy with hy | hy
    · exact h.lo y hy
    · obtain rfl : y = x := by simpa using hy
      exact hbx
  · intro y hy
    have hz : ((w.setCell ⟨b, k * 2, none⟩ (.int .i64 r.left)).setCell ⟨b, k * 2 + 1, none⟩ (.slice (some ⟨x, 0, none⟩) r.right.length r.right.length)).heap.size = w.heap.size := by simp
    rw [hz]
    rcases List.mem_append.1 hy with hy | hy
    · exact h.hi y hy
    · obtain rfl : y = x := by simpa using hy
      exact hrow.lt

theorem madeR_any (n : Nat) (hn : n * 32 ≤ 140737488351232) (w : World) : (Instr.makeSlice 29 (.int .i64 (n : Int)) (.int .i64 (n : Int))).run Tryd.prog w = .ok (.slice (some ⟨w.heap.size, 0, none⟩) n n) (w.alloc (.cells (madeCells #[.int .i64 0, .slice none 0 0] (n * 2)) 53)) := by
  obtain ⟨i0, hi, hz0, hz1, hz2⟩ := info_parts infoR
  have h := run_make (P := Tryd.prog) w 29 53 i0 (.agg #[.int .i64 0, .slice none 0 0]) Tryd.underlying29 hi hz0 .i64 .i64 (n : Int) (n : Int) (by omega) (by omega) (by rw [hz2]; omega) (by omega)
  rw [hz1] at h
  simpa [Value.cells] using h

theorem rules_new (w : World) (rs : List R) : RulesAt (w.alloc (.cells (madeCells #[.int .i64 0, .slice none 0 0] (rs.length * 2)) 53)) w.heap.size [] rs 0 where
  room q hq := by
    refine ⟨by simp, ?_⟩
    have h := World.cell?_alloc_mark w (madeCells #[.int .i64 0, .slice none 0 0] (rs.length * 2)) 53 (0, 0) q
    refine ⟨(madeCells #[.int .i64 0, .slice none 0 0] (rs.length * 2))[q]'(by rw [size_madeCells]; exact hq), ?_⟩
    rw [show (w.alloc (.cells (madeCells #[.int .i64 0, .slice none 0 0] (rs.length * 2)) 53)).cell? ⟨w.heap.size, q, none⟩ = (madeCells #[.int .i64 0, .slice none 0 0] (rs.length * 2))[q]? from h]
    exact Array.getElem?_eq_getElem _
  len := rfl
  each i r x _ hx := by simp at hx
  inc := by simp
  lo x hx := by cases hx
  hi x hx := by cases hx

/-- A copy of a grammar. -/
structure CopyAt (w : World) (B b1 b2 b3 : Nat) (bs : List Nat) (g : G) : Prop where
  ts : RowAt w b1 9 (strsA g.ts)
  ns : RowAt w b2 9 (strsA g.ns)
  rs : RulesAt w b3 bs g.rs g.rs.length
  l1 : B ≤ b1
  l2 : B ≤ b2
  l3 : B ≤ b3
  ne : b1 < b2
  l4 : b3 < b1
  lt : b3 < w.heap.size

theorem srow_of {w : World} {b : Nat} {ss : List ByteArray} (h : RowAt w b 9 (strsA ss)) : SRow w (some ⟨b, 0, none⟩) ss := fun i x hx => ⟨b, 0, rfl, by
  rw [Nat.zero_add]
  exact h.cell (by simp [strsA, hx])⟩
theorem irow_of {w : World} {b : Nat} {zs : List Int} (h : RowAt w b 3 (intsA zs)) : IRow w (some ⟨b, 0, none⟩) zs := fun i x hx => ⟨b, 0, rfl, by
  rw [Nat.zero_add]
  exact h.cell (by simp [intsA, hx])⟩

theorem CopyAt.row {w : World} {B b1 b2 b3 : Nat} {bs : List Nat} {g : G} (h : CopyAt w B b1 b2 b3 bs g) : GRow w (some ⟨b1, 0, none⟩) (some ⟨b2, 0, none⟩) (some ⟨b3, 0, none⟩) g := by
  refine ⟨srow_of h.ts, srow_of h.ns, fun i r hr => ?_⟩
  have hi := (List.getElem?_eq_some_iff.1 hr).1
  have hl := h.rs.len
  obtain ⟨h1, h2, h3⟩ := h.rs.each i r bs[i] hr (List.getElem?_eq_getElem (by omega))
  exact ⟨b3, 0, _, _, rfl, by rw [Nat.zero_add]; exact h1, by rw [Nat.zero_add]; exact h2, irow_of h3⟩

theorem CopyAt.below {w w' : World} {B b1 b2 b3 C : Nat} {bs : List Nat} {g : G} (h : CopyAt w B b1 b2 b3 bs g) (hb : Below C w w') (hC : w.heap.size ≤ C) : CopyAt w' B b1 b2 b3 bs g :=
  ⟨h.ts.below hb (Nat.lt_of_lt_of_le h.ts.lt hC), h.ns.below hb (Nat.lt_of_lt_of_le h.ns.lt hC), h.rs.below hb hC h.lt, h.l1, h.l2, h.l3, h.ne, h.l4, Nat.lt_of_lt_of_le h.lt hb.size⟩

end Go.Proofs.YtcmjneabcdpmoaaDoor.GramCopy
