/-
  Texts that stand together: PairOf, PrecKnownL, PrecKnownA.
-/
import Derived.Test.YtcoepmpgclndiaaGreatDoorBPairAs
import Derived.Test.YtcoepmpgclndiaaGreatDoorBPrecFn7
import Derived.Test.YtcoepmpgclndiaaGreatDoorBagPrecKnownM
import Derived.ArgAppend
import Derived.Handy
namespace Go.Proofs.YtcoepmpgclndiaaGreatDoor.PairAs
open Go.RowKit Go.Extern.Stop Go.Stop Go.Extern Go.Proofs.YtcoepmpgclndiaaGreatDoor.GramMath Go.Proofs.YtcoepmpgclndiaaGreatDoor.GramRow Go.Proofs.YtcoepmpgclndiaaGreatDoor.GramErrs Go.Proofs.YtcoepmpgclndiaaGreatDoor.GramApart Go.Proofs.YtcoepmpgclndiaaGreatDoor.PrecFn
set_option linter.unusedVariables false

theorem neq_pp (a : Addr) (w : World) : (binOp .neq 66 (.pointer (some a)) (.pointer none)).run Tryz.prog w = .ok (.bool true) w := by kernel_rfl

set_option maxRecDepth 100000 in
set_option maxHeartbeats 1000000 in
theorem pair_pair (blk : Nat) (x0 x1 x2 x3 : Int) (a : Addr) (w : World) (hg : ErrType w) (hblk : w.heap[blk]? = some (.cells #[.int .i64 x0, .int .i64 x1, .int .i64 x2, .int .i64 x3, .iface 206 (.pointer (some a))] 68 (0, 0))) :
    Calls Tryz.prog 14 #[.iface 66 (.pointer (some ⟨blk, 0, none⟩))] w fun e w' => e = .returned (.tuple #[.agg #[.int .i64 x0, .int .i64 x1, .int .i64 x2, .int .i64 x3], .bool true]) ∧ Below w.heap.size w w' := by
  have hneq := neq_pp
  obtain ⟨W0, hW0⟩ : ∃ W0, W0 = w.alloc (.cells #[.int .i64 0, .int .i64 0, .int .i64 0, .int .i64 0] 50) := ⟨_, rfl⟩
  have hB0 : Below w.heap.size w W0 := by rw [hW0]; exact (Below.refl _ _).alloc (Nat.le_refl _) _
  have hz0 : W0.heap.size = w.heap.size + 1 := by rw [hW0]; simp
  have hr0 : RowAt W0 w.heap.size 50 #[.int .i64 0, .int .i64 0, .int .i64 0, .int .i64 0] := by rw [hW0]; exact heap_new _ _
  obtain ⟨W1, hW1⟩ : ∃ W1, W1 = W0.alloc (.cells #[.pointer none] 66) := ⟨_, rfl⟩
  have hB1 : Below w.heap.size w W1 := by rw [hW1]; exact hB0.alloc hB0.size _
  have hb1 : Below W0.heap.size W0 W1 := by rw [hW1]; exact (Below.refl _ _).alloc (Nat.le_refl _) _
  have hr1 := hr0.below hb1 hr0.lt
  have hg0 := hg.below hB1 (Nat.le_refl _)
  have hf0 : W1.frozen? ⟨W0.heap.size, 0, none⟩ = false := by rw [hW1]; simp
  have ht0 : W1.cell? ⟨W0.heap.size, 0, none⟩ = some (.pointer none) := by rw [hW1]; simp
  have hlt := (Array.getElem?_eq_some_iff.1 hblk).1
  have has := as_at ⟨blk, 0, none⟩ ⟨W0.heap.size, 0, none⟩ _ W1 hg0 ht0 hf0
  have HH : Hid (Below w.heap.size w W1 ∧ W0.heap.size = w.heap.size + 1 ∧ RowAt W1 w.heap.size 50 #[.int .i64 0, .int .i64 0, .int .i64 0, .int .i64 0]) := ⟨hB1, hz0, hr1⟩
  have HBK : Hid (w.heap[blk]? = some (.cells #[.int .i64 x0, .int .i64 x1, .int .i64 x2, .int .i64 x3, .iface 206 (.pointer (some a))] 68 (0, 0))) := hblk
  have HW1 : Hid (W1 = (w.alloc (.cells #[.int .i64 0, .int .i64 0, .int .i64 0, .int .i64 0] 50)).alloc (.cells #[.pointer none] 66)) := by show _ = _; rw [hW1, hW0]
  rw [hz0] at has
  rw [HW1.out] at has
  clear hB0 hz0 hr0 hB1 hb1 hr1 hg0 hf0 ht0 hg hblk hW1 hW0
  go_enter Tryz.func14, Tryz.ntmps14
  go_wp2_with fail
  refine has.mono ?_
  rw [← HW1.out]
  rintro e w2 ⟨rfl, hc2, hb2⟩
  obtain ⟨hB1, hz0, hr1⟩ := HH.out
  have hB2 := hB1.trans (hb2.mono (by show _ ≤ _; omega))
  have hr2 := hr1.below hb2 (by show _ < _; omega)
  have hblk2 := (hB2.block blk hlt).trans HBK.out
  have d0 : w2.cell? ⟨blk, 0, none⟩ = some (.int .i64 x0) := by unfold World.cell?; rw [hblk2]; rfl
  have d1 : w2.cell? ⟨blk, 1, none⟩ = some (.int .i64 x1) := by unfold World.cell?; rw [hblk2]; rfl
  have d2 : w2.cell? ⟨blk, 2, none⟩ = some (.int .i64 x2) := by unfold World.cell?; rw [hblk2]; rfl
  have d3 : w2.cell? ⟨blk, 3, none⟩ = some (.int .i64 x3) := by unfold World.cell?; rw [hblk2]; rfl
  have z0 := hr2.cell (q := 0) rfl
  have z1 := hr2.cell (q := 1) rfl
  have z2 := hr2.cell (q := 2) rfl
  have z3 := hr2.cell (q := 3) rfl
  have n0 := hr2.frozen 0
  have n1 := hr2.frozen 1
  have n2 := hr2.frozen 2
  have n3 := hr2.frozen 3
  have HR2 : Hid (RowAt w2 w.heap.size 50 #[.int .i64 0, .int .i64 0, .int .i64 0, .int .i64 0] ∧ Below w.heap.size w w2) := ⟨hr2, hB2⟩
  clear has hr2 hB2 hB1 hz0 hr1 hb2 hblk2
  go_wp2
  clear d0 d1 d2 d3 z0 z1 z2 z3 n0 n1 n2 n3
  have r2 := row4 HR2.out.1 (.int .i64 x0) (.int .i64 x1) (.int .i64 x2) (.int .i64 x3)
  have k0 := r2.cell (q := 0) (v := .int .i64 x0) rfl
  have k1 := r2.cell (q := 1) (v := .int .i64 x1) rfl
  have k2 := r2.cell (q := 2) (v := .int .i64 x2) rfl
  have k3 := r2.cell (q := 3) (v := .int .i64 x3) rfl
  refine bodyPost_ret (v := .tuple #[.agg #[.int .i64 x0, .int .i64 x1, .int .i64 x2, .int .i64 x3], .bool true]) (by simp [results, Tryz.results14, go_sem, k0, k1, k2, k3]; try rfl) rfl ?_
  exact ⟨rfl, below4 HR2.out.2 (Nat.le_refl _) _ _ _ _⟩

end Go.Proofs.YtcoepmpgclndiaaGreatDoor.PairAs

namespace Go.Proofs.YtcoepmpgclndiaaGreatDoor.PrecKnown
open Go.RowKit Go.Proofs.YtcoepmpgclndiaaGreatDoor.GramMath Go.Proofs.YtcoepmpgclndiaaGreatDoor.GramRow Go.Proofs.YtcoepmpgclndiaaGreatDoor.GramErrs Go.Proofs.YtcoepmpgclndiaaGreatDoor.GramAwake Go.Proofs.YtcoepmpgclndiaaGreatDoor.GramApart Go.Proofs.YtcoepmpgclndiaaGreatDoor.EndsMath Go.Proofs.YtcoepmpgclndiaaGreatDoor.EndsAwake Go.Proofs.YtcoepmpgclndiaaGreatDoor.GramOpen Go.Proofs.YtcoepmpgclndiaaGreatDoor.MatrixMath Go.Proofs.YtcoepmpgclndiaaGreatDoor.MatrixPut Go.Proofs.YtcoepmpgclndiaaGreatDoor.MatrixOf Go.Proofs.YtcoepmpgclndiaaGreatDoor.MatrixClash Go.Proofs.YtcoepmpgclndiaaGreatDoor.GraphMath Go.Proofs.YtcoepmpgclndiaaGreatDoor.GraphNet Go.Proofs.YtcoepmpgclndiaaGreatDoor.PrecFn Go.Proofs.YtcoepmpgclndiaaGreatDoor.GramLess Go.Proofs.YtcoepmpgclndiaaGreatDoor.PrecAwake Go.Proofs.YtcoepmpgclndiaaGreatDoor.SetsAlg Go.Proofs.YtcoepmpgclndiaaGreatDoor.GramSame Go.Proofs.YtcoepmpgclndiaaGreatDoor.OpRow
set_option linter.unusedVariables false
set_option linter.unusedSimpArgs false

theorem bdr {w w' : World} {B : Nat} (h : Below B w w') (q : Nat) : Below B w (w'.drewN q) := bdrew h q

theorem ints_lit (a : Option Addr) (k : Nat) (zs : List Int) (W : World) (h : IRow W a zs) (hl : zs.length ≤ 1000) :
    Calls Tryz.prog 9 #[.slice a zs.length k, .slice (some ⟨W.heap.size, 0, none⟩) zs.length zs.length] (W.alloc (.cells (intsA zs) 3)) fun e w' => e = .returned (.bool true) ∧ Below W.heap.size W w' := by
  have hB : Below W.heap.size W (W.alloc (.cells (intsA zs) 3)) := (Below.refl _ _).alloc (Nat.le_refl _) _
  have hr : RowAt (W.alloc (.cells (intsA zs) 3)) W.heap.size 3 (intsA zs) := heap_new _ _
  have hq := ints_any a (some ⟨W.heap.size, 0, none⟩) k zs.length zs zs _ (IRow.below h hB (Nat.le_refl _)) (intsA_row hr) (by omega) (by omega)
  rw [show eqI zs zs = true by unfold eqI; simp] at hq
  refine hq.mono ?_
  rintro e w' ⟨rfl, q, rfl⟩
  exact ⟨rfl, bdr hB q⟩

theorem fits_lit (M t : Nat) (S : Nat → Nat → Int) (F G : List Int) (W : World) (hm : MatAt W M (t : Int) S) (ht : t ≤ 60) :
    Calls Tryz.prog 11 #[.pointer (some ⟨M, 0, none⟩), .slice (some ⟨W.heap.size, 0, none⟩) F.length F.length, .slice (some ⟨W.heap.size + 1, 0, none⟩) G.length G.length] ((W.alloc (.cells (intsA F) 3)).alloc (.cells (intsA G) 3)) fun e w' => e = .returned (.bool (fitsB (rY t S) (rQ t S) (rK t S) t F G)) ∧ Below W.heap.size W w' := by
  have hB1 : Below W.heap.size W (W.alloc (.cells (intsA F) 3)) := (Below.refl _ _).alloc (Nat.le_refl _) _
  have hB : Below W.heap.size W ((W.alloc (.cells (intsA F) 3)).alloc (.cells (intsA G) 3)) := hB1.alloc hB1.size _
  have hr1 : RowAt (W.alloc (.cells (intsA F) 3)) W.heap.size 3 (intsA F) := heap_new _ _
  have hr1' : RowAt ((W.alloc (.cells (intsA F) 3)).alloc (.cells (intsA G) 3)) W.heap.size 3 (intsA F) := hr1.alloc _
  have hr2 : RowAt ((W.alloc (.cells (intsA F) 3)).alloc (.cells (intsA G) 3)) (W.alloc (.cells (intsA F) 3)).heap.size 3 (intsA G) := heap_new _ _
  rw [World.size_alloc] at hr2
  have hq := fits_any (some ⟨M, 0, none⟩) t S (some ⟨W.heap.size, 0, none⟩) (some ⟨W.heap.size + 1, 0, none⟩) F.length G.length F G _ (.inr ⟨M, rfl, hm.below hB hm.lt⟩) ht (intsA_row hr1') (intsA_row hr2)
  refine hq.mono ?_
  rintro e w' ⟨rfl, q, rfl⟩
  exact ⟨rfl, bdr hB q⟩

def edA (es : List (Int × Int)) : Array Value := (es.flatMap (fun e => [Value.int .i64 e.1, .int .i64 e.2])).toArray
theorem edA_at {es : List (Int × Int)} {i : Nat} {e : Int × Int} (h : es[i]? = some e) : (edA es)[i * 2]? = some (.int .i64 e.1) ∧ (edA es)[i * 2 + 1]? = some (.int .i64 e.2) := by
  unfold edA
  induction es generalizing i with
  | nil => simp at h
  | cons x l ih =>
    match i, h with
    | 0, h => obtain rfl : x = e := by simpa using h
              simp
    | i + 1, h =>
      have h2 : l[i]? = some e := by simpa using h
      obtain ⟨h3, h4⟩ := ih h2
      simp only [List.getElem?_toArray] at h3 h4
      simp only [List.getElem?_toArray, List.flatMap_cons]
      rw [show (i + 1) * 2 = i * 2 + 1 + 1 by omega]
      exact ⟨h3, h4⟩
theorem edges_lit (a : Option Addr) (k : Nat) (es : List (Int × Int)) (W : World) (h : ERow W a es) (hl : es.length ≤ 1000) :
    Calls Tryz.prog 10 #[.slice a es.length k, .slice (some ⟨W.heap.size, 0, none⟩) es.length es.length] (W.alloc (.cells (edA es) 39)) fun e w' => e = .returned (.bool true) ∧ Below W.heap.size W w' := by
  have hB : Below W.heap.size W (W.alloc (.cells (edA es) 39)) := (Below.refl _ _).alloc (Nat.le_refl _) _
  have hr : RowAt (W.alloc (.cells (edA es) 39)) W.heap.size 39 (edA es) := heap_new _ _
  have hr2 : ERow (W.alloc (.cells (edA es) 39)) (some ⟨W.heap.size, 0, none⟩) es := fun i x hx => ⟨W.heap.size, 0, rfl, by rw [Nat.zero_add]; exact hr.cell (edA_at hx).1, by rw [Nat.zero_add]; exact hr.cell (edA_at hx).2⟩
  have hq := edges_any a (some ⟨W.heap.size, 0, none⟩) k es.length es es _ (ERow.below h hB (Nat.le_refl _)) hr2 (by omega) (by omega)
  rw [show decide (es = es) = true by simp] at hq
  refine hq.mono ?_
  rintro e w' ⟨rfl, q, rfl⟩
  exact ⟨rfl, bdr hB q⟩

end Go.Proofs.YtcoepmpgclndiaaGreatDoor.PrecKnown

namespace Go.Proofs.YtcoepmpgclndiaaGreatDoor.PrecKnown
open Go.RowKit Go.Proofs.YtcoepmpgclndiaaGreatDoor.GramMath Go.Proofs.YtcoepmpgclndiaaGreatDoor.GramRow Go.Proofs.YtcoepmpgclndiaaGreatDoor.GramErrs Go.Proofs.YtcoepmpgclndiaaGreatDoor.GramAwake Go.Proofs.YtcoepmpgclndiaaGreatDoor.GramApart Go.Proofs.YtcoepmpgclndiaaGreatDoor.EndsMath Go.Proofs.YtcoepmpgclndiaaGreatDoor.EndsAwake Go.Proofs.YtcoepmpgclndiaaGreatDoor.GramOpen Go.Proofs.YtcoepmpgclndiaaGreatDoor.MatrixMath Go.Proofs.YtcoepmpgclndiaaGreatDoor.MatrixPut Go.Proofs.YtcoepmpgclndiaaGreatDoor.MatrixOf Go.Proofs.YtcoepmpgclndiaaGreatDoor.MatrixClash Go.Proofs.YtcoepmpgclndiaaGreatDoor.GraphMath Go.Proofs.YtcoepmpgclndiaaGreatDoor.GraphNet Go.Proofs.YtcoepmpgclndiaaGreatDoor.PrecFn Go.Proofs.YtcoepmpgclndiaaGreatDoor.GramLess Go.Proofs.YtcoepmpgclndiaaGreatDoor.PrecAwake Go.Proofs.YtcoepmpgclndiaaGreatDoor.SetsAlg Go.Proofs.YtcoepmpgclndiaaGreatDoor.GramSame Go.Proofs.YtcoepmpgclndiaaGreatDoor.OpRow
set_option linter.unusedVariables false
set_option linter.unusedSimpArgs false

def lqS (r0 r1 r2 : Option Addr) (c0 c1 c2 : Nat) : List Value := [.int .i64 0, .slice r0 3 c0, .int .i64 0, .slice r1 1 c1, .int .i64 1, .slice r2 1 c2]
theorem infoR : (Tryz.prog.info? 46).map (fun i => (i.zero, i.size, i.bytes)) = some (some (.agg #[.int .i64 0, .slice none 0 0]), 2, 32) := by kernel_rfl

set_option maxRecDepth 100000 in
theorem app_row {w w5 : World} {ta na oa r0 r1 r2 : Option Addr} {c0 c1 c2 B : Nat} {v5 : Value}
    (hG : GRow w ta na oa sG) (i0 : IRow w r0 [-1, 0, -2]) (i1 : IRow w r1 [-2]) (i2 : IRow w r2 [1]) (q0 : 3 ≤ c0) (q1 : 1 ≤ c1) (q2 : 1 ≤ c2)
    (hB5 : Below w.heap.size w w5) (r50 : RowAt w5 w.heap.size 30 #[.slice ta 2 2, .slice na 2 2, .int .i64 0, .slice oa 3 3]) (r51 : RowAt w5 (w.heap.size + 1) 3 (intsA [-1, 0, -1])) (hBl : w.heap.size + 1 < B)
    (hown : w5.ownsRow B 46 2 v5 4 (lqS r0 r1 r2 c0 c1 c2 ++ [.int .i64 0, .slice (some ⟨w.heap.size + 1, 0, none⟩) 3 3])) :
    ∃ b cc, v5 = .slice (some ⟨b, 0, none⟩) 4 cc ∧ GRow (w5.setCell ⟨w.heap.size, 3, none⟩ v5) ta na (some ⟨b, 0, none⟩) cG ∧ Caps (w5.setCell ⟨w.heap.size, 3, none⟩ v5) (some ⟨b, 0, none⟩) 4 ∧ RowAt (w5.setCell ⟨w.heap.size, 3, none⟩ v5) w.heap.size 30 #[.slice ta 2 2, .slice na 2 2, .int .i64 0, v5] ∧ Below w.heap.size w (w5.setCell ⟨w.heap.size, 3, none⟩ v5) := by
  obtain ⟨hl, ⟨rfl, h0⟩ | ⟨g, cap, cur, rfl, hb, hg, h1, h2, h3, h4⟩⟩ := id hown
  · omega
  have hne : g ≠ w.heap.size := by omega
  have hB6 := hB5.setCell (p := ⟨w.heap.size, 3, none⟩) (Nat.le_refl _) (.slice (some ⟨g, 0, none⟩) 4 cap)
  have hcell : ∀ (j : Nat) u, j < 8 → (lqS r0 r1 r2 c0 c1 c2 ++ [.int .i64 0, .slice (some ⟨w.heap.size + 1, 0, none⟩) 3 3])[j]? = some u → (w5.setCell ⟨w.heap.size, 3, none⟩ (.slice (some ⟨g, 0, none⟩) 4 cap)).cell? ⟨g, j, none⟩ = some u := fun j u hj8 hj => by
    rw [World.cell?_of_block (a := ⟨g, j, none⟩) (Below.heap_setCell _ _ _ _ hne), hown.cellAt j (by omega)]
    exact hj
  have r6 : RowAt (w5.setCell ⟨w.heap.size, 3, none⟩ (.slice (some ⟨g, 0, none⟩) 4 cap)) (w.heap.size + 1) 3 (intsA [-1, 0, -1]) := r51.other (by omega) _ _
  refine ⟨g, cap, rfl, ⟨hG.1.below hB6 (Nat.le_refl _), hG.2.1.below hB6 (Nat.le_refl _), fun i r hr => ?_⟩, ?_, ?_, hB6⟩
  · match i, hr with
    | 0, hr => obtain rfl := Option.some.inj hr; exact ⟨g, 0, r0, c0, rfl, hcell 0 _ (by decide) rfl, hcell 1 _ (by decide) rfl, IRow.below i0 hB6 (Nat.le_refl _)⟩
    | 1, hr => obtain rfl := Option.some.inj hr; exact ⟨g, 0, r1, c1, rfl, hcell 2 _ (by decide) rfl, hcell 3 _ (by decide) rfl, IRow.below i1 hB6 (Nat.le_refl _)⟩
    | 2, hr => obtain rfl := Option.some.inj hr; exact ⟨g, 0, r2, c2, rfl, hcell 4 _ (by decide) rfl, hcell 5 _ (by decide) rfl, IRow.below i2 hB6 (Nat.le_refl _)⟩
    | 3, hr => obtain rfl := Option.some.inj hr; exact ⟨g, 0, some ⟨w.heap.size + 1, 0, none⟩, 3, rfl, hcell 6 _ (by decide) rfl, hcell 7 _ (by decide) rfl, intsA_row r6⟩
    | i + 4, hr => simp [cG] at hr
  · intro i hi b off hb' qa n qc hq
    obtain ⟨rfl, rfl⟩ : g = b ∧ 0 = off := by simpa using hb'
    match i, hi with
    | 0, _ =>
      have h9 := (hcell 1 _ (by decide) rfl).symm.trans hq
      simp at h9
      omega
    | 1, _ =>
      have h9 := (hcell 3 _ (by decide) rfl).symm.trans hq
      simp at h9
      omega
    | 2, _ =>
      have h9 := (hcell 5 _ (by decide) rfl).symm.trans hq
      simp at h9
      omega
    | 3, _ =>
      have h9 := (hcell 7 _ (by decide) rfl).symm.trans hq
      simp at h9
      omega
  · have := r50.set 3 (.slice (some ⟨g, 0, none⟩) 4 cap)
    simpa using this

end Go.Proofs.YtcoepmpgclndiaaGreatDoor.PrecKnown
