/-
  Lent and kept grammars.
-/
import Derived.Test.YtcmjneabcdpmoaaDoorGramKept
import Derived.Handy
namespace Go.Proofs.YtcmjneabcdpmoaaDoor.GramLent
open Go.RowKit Go.Proofs.YtcmjneabcdpmoaaDoor.GramMath Go.Proofs.YtcmjneabcdpmoaaDoor.GramRow Go.Proofs.YtcmjneabcdpmoaaDoor.GramSame Go.Proofs.YtcmjneabcdpmoaaDoor.GramLess
set_option linter.unusedVariables false

/-- A lent grammar: each list of it has a mark behind it. -/
structure LentG (w : World) (g1 c1 g2 c2 g3 c3 : Nat) (lq : List Q) (g : G) : Prop where
  ts : SRow w (some ⟨g1, 0, none⟩) (g.ts ++ [markS])
  tc : g.ts.length < c1
  ns : SRow w (some ⟨g2, 0, none⟩) (g.ns ++ [markS])
  nc : g.ns.length < c2
  rc : g.rs.length < c3
  map : lq.map (·.r) = g.rs
  rs : QRow w (some ⟨g3, 0, none⟩) (lq ++ [⟨⟨-7171, []⟩, none, 0⟩])
  each : ∀ x ∈ lq, LentAt 0 w .nilIface x

theorem LentG.below {w w' : World} {g1 c1 g2 c2 g3 c3 B : Nat} {lq : List Q} {g : G} (h : LentG w g1 c1 g2 c2 g3 c3 lq g) (hb : Below B w w') (hB : w.heap.size ≤ B) : LentG w' g1 c1 g2 c2 g3 c3 lq g :=
  ⟨h.ts.below hb hB, h.tc, h.ns.below hb hB, h.nc, h.rc, h.map, h.rs.below hb hB, fun x hx => (h.each x hx).below hb hB⟩

theorem qrow_front {w : World} {a : Option Addr} {l m : List Q} (h : QRow w a (l ++ m)) : QRow w a l := fun i x hx => h i x (by
  have hi : i < l.length := by
    rcases Nat.lt_or_ge i l.length with h | h
    · exact h
    · rw [List.getElem?_eq_none h] at hx; cases hx
  rw [List.getElem?_append_left hi]; exact hx)

theorem LentG.row {w : World} {g1 c1 g2 c2 g3 c3 : Nat} {lq : List Q} {g : G} (h : LentG w g1 c1 g2 c2 g3 c3 lq g) : GRow w (some ⟨g1, 0, none⟩) (some ⟨g2, 0, none⟩) (some ⟨g3, 0, none⟩) g := by
  refine ⟨row_frontS h.ts, row_frontS h.ns, ?_⟩
  rw [← h.map]
  refine rrow_of (qrow_front h.rs) (fun x hx => ?_)
  obtain ⟨b, h1, _, _, _, h4⟩ := h.each x hx
  exact row_frontI h4

/-- What is asked of a grammar that is lent. -/
structure Lendable (w : World) (ta na ra : Option Addr) (tc nc : Nat) (g : G) : Prop where
  ts : SRow w ta g.ts
  ns : SRow w na g.ns
  rs : RRowN w ra g.rs
  tn : ta = none → g.ts.length = 0 ∧ tc = 0
  nn : na = none → g.ns.length = 0 ∧ nc = 0
  tm : g.ts.length * 16 ≤ 140737488351232
  nm : g.ns.length * 16 ≤ 140737488351232
  rm : g.rs.length * 32 ≤ 140737488351232
  each : ∀ r ∈ g.rs, okR r ∧ r.right.length * 8 ≤ 140737488351232

/-- All but one block lies as it did. -/
def Cut (b : Nat) (w w' : World) : Prop := ∀ p : Addr, p.block ≠ b → w'.cell? p = w.cell? p
theorem Cut.trans {b : Nat} {w w' w'' : World} (h : Cut b w w') (h2 : Cut b w' w'') : Cut b w w'' := fun p hp => (h2 p hp).trans (h p hp)
theorem Cut.set (w : World) (b o : Nat) (v : Value) : Cut b w (w.setCell ⟨b, o, none⟩ v) := fun p hp => World.cell?_setCell_far _ _ _ _ (fun e => hp e.symm)

theorem Cut.s {b g : Nat} {w w' : World} {l : List ByteArray} (h : Cut b w w') (hr : SRow w (some ⟨g, 0, none⟩) l) (hg : b < g) : SRow w' (some ⟨g, 0, none⟩) l := fun i x hx => by
  obtain ⟨b', off, ha, hc⟩ := hr i x hx
  cases ha
  exact ⟨g, 0, rfl, (h _ (by simp; omega)).trans hc⟩
theorem Cut.i {b g : Nat} {w w' : World} {l : List Int} (h : Cut b w w') (hr : IRow w (some ⟨g, 0, none⟩) l) (hg : b < g) : IRow w' (some ⟨g, 0, none⟩) l := fun i x hx => by
  obtain ⟨b', off, ha, hc⟩ := hr i x hx
  cases ha
  exact ⟨g, 0, rfl, (h _ (by simp; omega)).trans hc⟩
theorem Cut.q {b g : Nat} {w w' : World} {l : List Q} (h : Cut b w w') (hr : QRow w (some ⟨g, 0, none⟩) l) (hg : b < g) : QRow w' (some ⟨g, 0, none⟩) l := fun i x hx => by
  obtain ⟨b', off, ha, hc, hd⟩ := hr i x hx
  cases ha
  exact ⟨g, 0, rfl, (h _ (by simp; omega)).trans hc, (h _ (by simp; omega)).trans hd⟩
theorem Cut.l {b B : Nat} {w w' : World} {u : Value} {x : Q} (h : Cut b w w') (hl : LentAt B w u x) (hg : b < B) : LentAt 0 w' u x := by
  obtain ⟨b', h1, h0, h2, h3, h4⟩ := hl
  rw [h1] at h4
  exact ⟨b', h1, Nat.zero_le _, h2, h3, by rw [h1]; exact h.i h4 (by omega)⟩

end Go.Proofs.YtcmjneabcdpmoaaDoor.GramLent
