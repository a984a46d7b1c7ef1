/-
  Lent lists of rules.
-/
import Derived.Test.YtcmjneabcdpmoaaDoorGramLent
import Derived.Test.YtcmjneabcdpmoaaDoorGramLessMath
import Derived.Deep.AppendLies
namespace Go.Proofs.YtcmjneabcdpmoaaDoor.GramLent
open Go.RowKit Go.Proofs.YtcmjneabcdpmoaaDoor.GramMath Go.Proofs.YtcmjneabcdpmoaaDoor.GramRow Go.Proofs.YtcmjneabcdpmoaaDoor.GramSame Go.Proofs.YtcmjneabcdpmoaaDoor.GramLess
set_option linter.unusedVariables false

theorem infoR : (Tryd.prog.info? 53).map (fun i => (i.zero, i.size, i.bytes)) = some (some (.agg #[.int .i64 0, .slice none 0 0]), 2, 32) := by kernel_rfl

/-- Rules in a row; a right side that is no list has no place behind it. -/
def RRowN (w : World) (a : Option Addr) (rs : List R) : Prop :=
  ∀ i r, rs[i]? = some r → ∃ b off ra rc, a = some ⟨b, off, none⟩ ∧ w.cell? ⟨b, off + i * 2, none⟩ = some (.int .i64 r.left) ∧ w.cell? ⟨b, off + i * 2 + 1, none⟩ = some (.slice ra r.right.length rc) ∧ IRow w ra r.right ∧ (ra = none → r.right.length = 0 ∧ rc = 0)

theorem RRowN.below {w w' : World} {a : Option Addr} {rs : List R} {B : Nat} (h : RRowN w a rs) (hb : Below B w w') (hB : w.heap.size ≤ B) : RRowN w' a rs := fun i x hx => by
  obtain ⟨b, off, ra, rc, ha, h1, h2, h3, h4⟩ := h i x hx
  exact ⟨b, off, ra, rc, ha, by rw [hb.cell (Nat.lt_of_lt_of_le (cell_lt h1) hB)]; exact h1, by rw [hb.cell (Nat.lt_of_lt_of_le (cell_lt h2) hB)]; exact h2, h3.below hb hB, h4⟩

/-- A rule whose right side is a lent list that lies elsewhere than a value. -/
def LentAt (B : Nat) (w : World) (u : Value) (x : Q) : Prop := ∃ b, x.a = some ⟨b, 0, none⟩ ∧ B ≤ b ∧ u.ownBlock ≠ some b ∧ x.r.right.length < x.c ∧ IRow w x.a (x.r.right ++ [-7171])

theorem LentAt.below {w w' : World} {u : Value} {x : Q} {B C : Nat} (h : LentAt C w u x) (hb : Below B w w') (hB : w.heap.size ≤ B) : LentAt C w' u x := by
  obtain ⟨b, h1, h0, h2, h3, h4⟩ := h
  exact ⟨b, h1, h0, h2, h3, h4.below hb hB⟩

theorem LentAt.weak {w : World} {u : Value} {x : Q} {B : Nat} (h : LentAt B w u x) : LentAt 0 w u x := by
  obtain ⟨b, h1, h0, h2, h3, h4⟩ := h
  exact ⟨b, h1, Nat.zero_le _, h2, h3, h4⟩

theorem cells_new (w : World) (C : Array Value) (t : TypeId) : ∀ j u, C.toList[j]? = some u → (w.alloc (.cells C t)).cell? ((⟨w.heap.size, 0, none⟩ : Addr).add j) = some u := by
  intro j u hj
  have h := World.cell?_alloc_mark w C t (0, 0) j
  rw [Addr.add_lit, Nat.zero_add]
  rw [show (w.alloc (.cells C t)).cell? ⟨w.heap.size, j, none⟩ = C[j]? from h]
  simpa using hj

theorem own_cap2 {w : World} {base : Nat} {e : TypeId} {g n c : Nat} {xs : List Value} (h : w.ownsRow base e 2 (.slice (some ⟨g, 0, none⟩) n c) n xs) : n ≤ c ∧ c ≤ maxLen ∧ base ≤ g := by
  obtain ⟨_, h | ⟨g', cap, cur, hv, hb, _, hn, hm, _⟩⟩ := h
  · exact absurd h.1 (by simp)
  · simp at hv
    obtain ⟨rfl, rfl⟩ := hv
    exact ⟨hn, hm, hb⟩

theorem own_below {w w' : World} {base : Nat} {e : TypeId} {size n : Nat} {v : Value} {xs : List Value} (h : w.ownsRow base e size v n xs) (hb : Below w.heap.size w w') : w'.ownsRow base e size v n xs := by
  obtain ⟨h1, h | ⟨g, cap, cur, hv, hbb, hg, rest⟩⟩ := h
  · exact ⟨h1, .inl h⟩
  · exact ⟨h1, .inr ⟨g, cap, cur, hv, hbb, (hb.block g (Array.getElem?_eq_some_iff.1 hg).1).trans hg, rest⟩⟩

theorem grown_cell {w w' : World} {o : Option Nat} {p : Addr} {v : Value} (h : w.grownBy w' o) (hc : w.cell? p = some v) (ho : o ≠ some p.block) : w'.cell? p = some v := by
  rw [World.cell?_of_block (h.block p.block (cell_lt hc) (fun e => ho e.symm))]
  exact hc

theorem grown_row {w w' : World} {o : Option Nat} {b : Nat} {zs : List Int} (h : w.grownBy w' o) (hr : IRow w (some ⟨b, 0, none⟩) zs) (ho : o ≠ some b) : IRow w' (some ⟨b, 0, none⟩) zs := fun i x hx => by
  obtain ⟨b', off, ha, hc⟩ := hr i x hx
  cases ha
  exact ⟨b, 0, rfl, grown_cell h hc ho⟩

theorem row_lt {w : World} {b : Nat} {zs : List Int} {x : Int} (h : IRow w (some ⟨b, 0, none⟩) (zs ++ [x])) : b < w.heap.size := cell_lt (row_markI h)

/-- An append to the row of rules leaves the lent right sides alone. -/
theorem LentAt.step {B : Nat} {w w1 w' : World} {o : Obj} {g' m c' : Nat} {u : Value} {x : Q} (h : LentAt B w u x) (hb : Below w.heap.size w w1) (hg : (w1.alloc o).grownBy w' u.ownBlock) (hat : u.ownBlock = some g' ∨ g' = w1.heap.size + 1) : LentAt B w' (.slice (some ⟨g', 0, none⟩) m c') x := by
  obtain ⟨b, h1, h0, h2, h3, h4⟩ := h
  rw [h1] at h4
  have hl := row_lt h4
  have hs := hb.size
  have h5 := (h4.below hb (Nat.le_refl _)).below ((Below.refl w1.heap.size w1).alloc (Nat.le_refl _) o) (Nat.le_refl _)
  refine ⟨b, h1, h0, ?_, h3, by rw [h1]; exact grown_row hg h5 h2⟩
  simp only [Value.ownBlock, ne_eq, Option.some.injEq]
  rintro rfl
  rcases hat with hat | hat
  · exact h2 hat
  · omega

theorem LentAt.new {B : Nat} {w w1 w' : World} {o : Obj} {base n g g' m c c' : Nat} {e : TypeId} {u : Value} {xs : List Value} {r : R} (hown : w.ownsRow base e 2 u n xs) (hrow : IRow w1 (some ⟨g, 0, none⟩) (r.right ++ [-7171])) (hBg : B ≤ g) (hgs : w.heap.size ≤ g) (hgc : r.right.length < c) (hg : (w1.alloc o).grownBy w' u.ownBlock) (hat : u.ownBlock = some g' ∨ g' = w1.heap.size + 1) : LentAt B w' (.slice (some ⟨g', 0, none⟩) m c') ⟨r, some ⟨g, 0, none⟩, c⟩ := by
  have hl := row_lt hrow
  have h5 := hrow.below ((Below.refl w1.heap.size w1).alloc (Nat.le_refl _) o) (Nat.le_refl _)
  have hne : u.ownBlock ≠ some g := fun e => by
    have := (hown.lt _ e).2
    omega
  refine ⟨g, rfl, hBg, ?_, hgc, grown_row hg h5 hne⟩
  simp only [Value.ownBlock, ne_eq, Option.some.injEq]
  rintro rfl
  rcases hat with hat | hat
  · exact hne hat
  · omega

end Go.Proofs.YtcmjneabcdpmoaaDoor.GramLent
