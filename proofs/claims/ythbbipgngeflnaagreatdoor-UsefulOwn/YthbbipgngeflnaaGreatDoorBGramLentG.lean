/-
  Texts that stand together: GramLentG.
-/
import Derived.Test.YthbbipgngeflnaaGreatDoorBGramKept
import Derived.Handy
namespace Go.Proofs.YthbbipgngeflnaaGreatDoor.GramLent
open Go.RowKit Go.Proofs.YthbbipgngeflnaaGreatDoor.GramMath Go.Proofs.YthbbipgngeflnaaGreatDoor.GramRow Go.Proofs.YthbbipgngeflnaaGreatDoor.GramSame Go.Proofs.YthbbipgngeflnaaGreatDoor.GramLess
set_option linter.unusedVariables false

/-- A lent grammar: each list of it has a mark behind it. -/
structure LentG (w : World) (g1 c1 g2 c2 g3 c3 : Nat) (lq : List Q) (g : G) : Prop where
  ts : SRow w (some ⟨g1, 0, none⟩) (g.ts ++ [markS])
  tc : g.ts.length < c1
  ns : SRow w (some ⟨g2, 0, none⟩) (g.ns ++ [markS])
  nc : g.ns.length < c2
  rc : g.rs.length < c3
  map : lq.map (·.r) = g.rs
  rs : QRow w (some ⟨g3, 0, none⟩) (lq ++ [⟨⟨-7171, []⟩, none, 0⟩])
  each : ∀ x ∈ lq, LentAt 0 w .nilIface x

theorem LentG.below {w w' : World} {g1 c1 g2 c2 g3 c3 B : Nat} {lq : List Q} {g : G} (h : LentG w g1 c1 g2 c2 g3 c3 lq g) (hb : Below B w w') (hB : w.heap.size ≤ B) : LentG w' g1 c1 g2 c2 g3 c3 lq g :=
  ⟨h.ts.below hb hB, h.tc, h.ns.below hb hB, h.nc, h.rc, h.map, h.rs.below hb hB, fun x hx => (h.each x hx).below hb hB⟩

theorem qrow_front {w : World} {a : Option Addr} {l m : List Q} (h : QRow w a (l ++ m)) : QRow w a l := fun i x hx => h i x (by
  have hi : i < l.length := by
    rcases Nat.lt_or_ge i l.length with h | h
    · exact h
    · rw [List.getElem?_eq_none h] at hx; cases hx
  rw [List.getElem?_append_left hi]; exact hx)

theorem LentG.row {w : World} {g1 c1 g2 c2 g3 c3 : Nat} {lq : List Q} {g : G} (h : LentG w g1 c1 g2 c2 g3 c3 lq g) : GRow w (some ⟨g1, 0, none⟩) (some ⟨g2, 0, none⟩) (some ⟨g3, 0, none⟩) g := by
  refine ⟨row_frontS h.ts, row_frontS h.ns, ?_⟩
  rw [← h.map]
  refine rrow_of (qrow_front h.rs) (fun x hx => ?_)
  obtain ⟨b, h1, _, _, _, h4⟩ := h.each x hx
  exact row_frontI h4

/-- What is asked of a grammar that is lent. -/
structure Lendable (w : World) (ta na ra : Option Addr) (tc nc : Nat) (g : G) : Prop where
  ts : SRow w ta g.ts
  ns : SRow w na g.ns
  rs : RRowN w ra g.rs
  tn : ta = none → g.ts.length = 0 ∧ tc = 0
  nn : na = none → g.ns.length = 0 ∧ nc = 0
  tm : g.ts.length * 16 ≤ 140737488351232
  nm : g.ns.length * 16 ≤ 140737488351232
  rm : g.rs.length * 32 ≤ 140737488351232
  each : ∀ r ∈ g.rs, okR r ∧ r.right.length * 8 ≤ 140737488351232

/-- All but one block lies as it did. -/
def Cut (b : Nat) (w w' : World) : Prop := ∀ p : Addr, p.block ≠ b → w'.cell? p = w.cell? p
theorem Cut.trans {b : Nat} {w w' w'' : World} (h : Cut b w w') (h2 : Cut b w' w'') : Cut b w w'' := fun p hp => (h2 p hp).trans (h p hp)
theorem Cut.set (w : World) (b o : Nat) (v : Value) : Cut b w (w.setCell ⟨b, o, none⟩ v) := fun p hp => World.cell?_setCell_far _ _ _ _ (fun e => hp e.symm)

theorem Cut.s {b g : Nat} {w w' : World} {l : List ByteArray} (h : Cut b w w') (hr : SRow w (some ⟨g, 0, none⟩) l) (hg : b < g) : SRow w' (some ⟨g, 0, none⟩) l := fun i x hx => by
  obtain ⟨b', off, ha, hc⟩ := hr i x hx
  cases ha
  exact ⟨g, 0, rfl, (h _ (by simp; omega)).trans hc⟩
theorem Cut.i {b g : Nat} {w w' : World} {l : List Int} (h : Cut b w w') (hr : IRow w (some ⟨g, 0, none⟩) l) (hg : b < g) : IRow w' (some ⟨g, 0, none⟩) l := fun i x hx => by
  obtain ⟨b', off, ha, hc⟩ := hr i x hx
  cases ha
  exact ⟨g, 0, rfl, (h _ (by simp; omega)).trans hc⟩
theorem Cut.q {b g : Nat} {w w' : World} {l : List Q} (h : Cut b w w') (hr : QRow w (some ⟨g, 0, none⟩) l) (hg : b < g) : QRow w' (some ⟨g, 0, none⟩) l := fun i x hx => by
  obtain ⟨b', off, ha, hc, hd⟩ := hr i x hx
  cases ha
  exact ⟨g, 0, rfl, (h _ (by simp; omega)).trans hc, (h _ (by simp; omega)).trans hd⟩
theorem Cut.l {b B : Nat} {w w' : World} {u : Value} {x : Q} (h : Cut b w w') (hl : LentAt B w u x) (hg : b < B) : LentAt 0 w' u x := by
  obtain ⟨b', h1, h0, h2, h3, h4⟩ := hl
  rw [h1] at h4
  exact ⟨b', h1, Nat.zero_le _, h2, h3, by rw [h1]; exact h.i h4 (by omega)⟩

set_option maxRecDepth 100000 in
set_option maxHeartbeats 1000000 in
theorem lentG (ta na ra : Option Addr) (tc nc rc : Nat) (g : G) (w : World) (h : Lendable w ta na ra tc nc g) :
    Calls Tryz.prog 5 #[.agg #[.slice ta g.ts.length tc, .slice na g.ns.length nc, .int .i64 g.ax, .slice ra g.rs.length rc]] w fun e w' => (∃ g1 c1 g2 c2 g3 c3 lq, e = .returned (.agg #[.slice (some ⟨g1, 0, none⟩) g.ts.length c1, .slice (some ⟨g2, 0, none⟩) g.ns.length c2, .int .i64 g.ax, .slice (some ⟨g3, 0, none⟩) g.rs.length c3]) ∧ LentG w' g1 c1 g2 c2 g3 c3 lq g) ∧ Below w.heap.size w w' := by
  have hB : Below w.heap.size w (w.alloc (.cells #[.slice ta g.ts.length tc, .slice na g.ns.length nc, .int .i64 g.ax, .slice ra g.rs.length rc] 25)) := (Below.refl _ _).alloc (Nat.le_refl _) _
  have b0 : (w.alloc (.cells #[.slice ta g.ts.length tc, .slice na g.ns.length nc, .int .i64 g.ax, .slice ra g.rs.length rc] 25)).cell? ⟨w.heap.size, 0, none⟩ = some (.slice ta g.ts.length tc) := by simp [go_sem]
  have b1 : (w.alloc (.cells #[.slice ta g.ts.length tc, .slice na g.ns.length nc, .int .i64 g.ax, .slice ra g.rs.length rc] 25)).cell? ⟨w.heap.size, 1, none⟩ = some (.slice na g.ns.length nc) := by simp [go_sem]
  have b2 : (w.alloc (.cells #[.slice ta g.ts.length tc, .slice na g.ns.length nc, .int .i64 g.ax, .slice ra g.rs.length rc] 25)).cell? ⟨w.heap.size, 2, none⟩ = some (.int .i64 g.ax) := by simp [go_sem]
  have b3 : (w.alloc (.cells #[.slice ta g.ts.length tc, .slice na g.ns.length nc, .int .i64 g.ax, .slice ra g.rs.length rc] 25)).cell? ⟨w.heap.size, 3, none⟩ = some (.slice ra g.rs.length rc) := by simp [go_sem]
  have hsz : (w.alloc (.cells #[.slice ta g.ts.length tc, .slice na g.ns.length nc, .int .i64 g.ax, .slice ra g.rs.length rc] 25)).heap.size = w.heap.size + 1 := by simp
  have hd : ∀ W : World, Below W.heap.size W W.drew := fun W => ⟨rfl, rfl, rfl, Nat.le_refl W.heap.size, fun _ _ => rfl⟩
  go_enter Tryz.func5, Tryz.ntmps5
  go_wp2_with fail
  generalize w.alloc (.cells #[.slice ta g.ts.length tc, .slice na g.ns.length nc, .int .i64 g.ax, .slice ra g.rs.length rc] 25) = W0 at *
  have hZ : Below W0.heap.size W0 (W0.alloc (.cells #[.slice none 0 0, .slice none 0 0, .int .i64 0, .slice none 0 0] 25)) := (Below.refl _ _).alloc (Nat.le_refl _) _
  have hZs : (W0.alloc (.cells #[.slice none 0 0, .slice none 0 0, .int .i64 0, .slice none 0 0] 25)).heap.size = w.heap.size + 2 := by simp [hsz]
  have z0 : (W0.alloc (.cells #[.slice none 0 0, .slice none 0 0, .int .i64 0, .slice none 0 0] 25)).cell? ⟨w.heap.size + 1, 0, none⟩ = some (.slice none 0 0) := by rw [← hsz]; simp [go_sem]
  have z1 : (W0.alloc (.cells #[.slice none 0 0, .slice none 0 0, .int .i64 0, .slice none 0 0] 25)).cell? ⟨w.heap.size + 1, 1, none⟩ = some (.slice none 0 0) := by rw [← hsz]; simp [go_sem]
  have z2 : (W0.alloc (.cells #[.slice none 0 0, .slice none 0 0, .int .i64 0, .slice none 0 0] 25)).cell? ⟨w.heap.size + 1, 2, none⟩ = some (.int .i64 0) := by rw [← hsz]; simp [go_sem]
  have z3 : (W0.alloc (.cells #[.slice none 0 0, .slice none 0 0, .int .i64 0, .slice none 0 0] 25)).cell? ⟨w.heap.size + 1, 3, none⟩ = some (.slice none 0 0) := by rw [← hsz]; simp [go_sem]
  have y0 : (W0.alloc (.cells #[.slice none 0 0, .slice none 0 0, .int .i64 0, .slice none 0 0] 25)).frozen? ⟨w.heap.size + 1, 0, none⟩ = false := by rw [← hsz]; simp [go_sem]
  have y1 : (W0.alloc (.cells #[.slice none 0 0, .slice none 0 0, .int .i64 0, .slice none 0 0] 25)).frozen? ⟨w.heap.size + 1, 1, none⟩ = false := by rw [← hsz]; simp [go_sem]
  have y2 : (W0.alloc (.cells #[.slice none 0 0, .slice none 0 0, .int .i64 0, .slice none 0 0] 25)).frozen? ⟨w.heap.size + 1, 2, none⟩ = false := by rw [← hsz]; simp [go_sem]
  have y3 : (W0.alloc (.cells #[.slice none 0 0, .slice none 0 0, .int .i64 0, .slice none 0 0] 25)).frozen? ⟨w.heap.size + 1, 3, none⟩ = false := by rw [← hsz]; simp [go_sem]
  have b0 := (hZ.cell (show w.heap.size < W0.heap.size by omega)).trans b0
  have b1 := (hZ.cell (show w.heap.size < W0.heap.size by omega)).trans b1
  have b2 := (hZ.cell (show w.heap.size < W0.heap.size by omega)).trans b2
  have b3 := (hZ.cell (show w.heap.size < W0.heap.size by omega)).trans b3
  have hB := hB.trans (hZ.mono (by omega))
  clear hZ
  generalize W0.alloc (.cells #[.slice none 0 0, .slice none 0 0, .int .i64 0, .slice none 0 0] 25) = Z at *
  have hS : ∀ w', Below Z.heap.size Z w' → (w'.cell? ⟨w.heap.size, 0, none⟩ = some (.slice ta g.ts.length tc) ∧ w'.cell? ⟨w.heap.size, 1, none⟩ = some (.slice na g.ns.length nc) ∧ w'.cell? ⟨w.heap.size, 2, none⟩ = some (.int .i64 g.ax) ∧ w'.cell? ⟨w.heap.size, 3, none⟩ = some (.slice ra g.rs.length rc)) := fun w' hb => ⟨(hb.cell (show w.heap.size < Z.heap.size by omega)).trans b0, (hb.cell (show w.heap.size < Z.heap.size by omega)).trans b1, (hb.cell (show w.heap.size < Z.heap.size by omega)).trans b2, (hb.cell (show w.heap.size < Z.heap.size by omega)).trans b3⟩
  have r1 := h.ts.below hB (Nat.le_refl _)
  have r2 := h.ns.below hB (Nat.le_refl _)
  have r3 := h.rs.below hB (Nat.le_refl _)
  have hdZ := hd Z
  clear hd
  have hlt : w.heap.size + 1 < Z.heap.size := by omega
  refine wp_region_noPanic ?_
  refine wp_region_held_drew (S := (fun w' => w'.cell? ⟨w.heap.size, 0, none⟩ = some (.slice ta g.ts.length tc) ∧ w'.cell? ⟨w.heap.size, 1, none⟩ = some (.slice na g.ns.length nc) ∧ w'.cell? ⟨w.heap.size, 2, none⟩ = some (.int .i64 g.ax) ∧ w'.cell? ⟨w.heap.size, 3, none⟩ = some (.slice ra g.rs.length rc))) (by kernel_rfl) (hS _ hdZ) (fun hHeld => ?_)
  refine wpAnyH_take (i := 0) (v := .pointer (some ⟨w.heap.size, 0, none⟩)) rfl (by kernel_rfl) (by kernel_rfl) (by kernel_rfl) (fun _ _ _ h => h) (Or.inl ⟨by rfl, fun w9 hSw => ?_⟩) hHeld ?_
  · obtain ⟨s0, s1, s2, s3⟩ := hSw
    go_simp
  simp only [List.getElem_toArray, List.getElem_cons_zero, Act.put, List.setIfInBounds_toArray, List.set_cons_zero, List.set_cons_succ]
  refine wpAnyH_take (i := 1) (v := .slice ta g.ts.length tc) rfl (by kernel_rfl) (by kernel_rfl) (by kernel_rfl) (fun _ _ _ h => h) (Or.inl ⟨by rfl, fun w9 hSw => ?_⟩) hHeld ?_
  · obtain ⟨s0, s1, s2, s3⟩ := hSw
    go_simp
  simp only [List.getElem_toArray, List.getElem_cons_zero, List.getElem_cons_succ, Act.put, List.setIfInBounds_toArray, List.set_cons_zero, List.set_cons_succ]
  refine wpAnyH_take (i := 3) (v := .pointer (some ⟨w.heap.size, 1, none⟩)) rfl (by kernel_rfl) (by kernel_rfl) (by kernel_rfl) (fun _ _ _ h => h) (Or.inl ⟨by rfl, fun w9 hSw => ?_⟩) hHeld ?_
  · obtain ⟨s0, s1, s2, s3⟩ := hSw
    go_simp
  simp only [List.getElem_toArray, List.getElem_cons_zero, List.getElem_cons_succ, Act.put, List.setIfInBounds_toArray, List.set_cons_zero, List.set_cons_succ]
  refine wpAnyH_take (i := 4) (v := .slice na g.ns.length nc) rfl (by kernel_rfl) (by kernel_rfl) (by kernel_rfl) (fun _ _ _ h => h) (Or.inl ⟨by rfl, fun w9 hSw => ?_⟩) hHeld ?_
  · obtain ⟨s0, s1, s2, s3⟩ := hSw
    go_simp
  simp only [List.getElem_toArray, List.getElem_cons_zero, List.getElem_cons_succ, Act.put, List.setIfInBounds_toArray, List.set_cons_zero, List.set_cons_succ]
  refine wpAnyH_take (i := 6) (v := .pointer (some ⟨w.heap.size, 2, none⟩)) rfl (by kernel_rfl) (by kernel_rfl) (by kernel_rfl) (fun _ _ _ h => h) (Or.inl ⟨by rfl, fun w9 hSw => ?_⟩) hHeld ?_
  · obtain ⟨s0, s1, s2, s3⟩ := hSw
    go_simp
  simp only [List.getElem_toArray, List.getElem_cons_zero, List.getElem_cons_succ, Act.put, List.setIfInBounds_toArray, List.set_cons_zero, List.set_cons_succ]
  refine wpAnyH_take (i := 7) (v := .int .i64 g.ax) rfl (by kernel_rfl) (by kernel_rfl) (by kernel_rfl) (fun _ _ _ h => h) (Or.inl ⟨by rfl, fun w9 hSw => ?_⟩) hHeld ?_
  · obtain ⟨s0, s1, s2, s3⟩ := hSw
    go_simp
  simp only [List.getElem_toArray, List.getElem_cons_zero, List.getElem_cons_succ, Act.put, List.setIfInBounds_toArray, List.set_cons_zero, List.set_cons_succ]
  refine wpAnyH_take (i := 8) (v := .pointer (some ⟨w.heap.size, 3, none⟩)) rfl (by kernel_rfl) (by kernel_rfl) (by kernel_rfl) (fun _ _ _ h => h) (Or.inl ⟨by rfl, fun w9 hSw => ?_⟩) hHeld ?_
  · obtain ⟨s0, s1, s2, s3⟩ := hSw
    go_simp
  simp only [List.getElem_toArray, List.getElem_cons_zero, List.getElem_cons_succ, Act.put, List.setIfInBounds_toArray, List.set_cons_zero, List.set_cons_succ]
  refine wpAnyH_take (i := 9) (v := .slice ra g.rs.length rc) rfl (by kernel_rfl) (by kernel_rfl) (by kernel_rfl) (fun _ _ _ h => h) (Or.inl ⟨by rfl, fun w9 hSw => ?_⟩) hHeld ?_
  · obtain ⟨s0, s1, s2, s3⟩ := hSw
    go_simp
  simp only [List.getElem_toArray, List.getElem_cons_zero, List.getElem_cons_succ, Act.put, List.setIfInBounds_toArray, List.set_cons_zero, List.set_cons_succ]
  refine wpAnyH_ready (rs := [2]) (by kernel_rfl) (by simp) ?_
  refine AllReadyH.cons rfl (fun K hK => ?_) AllReadyH.nil
  go_simp
  refine (lentS ta tc g.ts _ (r1.below hdZ (Nat.le_refl _)) h.tm h.tn).mono ?_
  rintro e w1 ⟨⟨g1, c1, rfl, htc, _, hg1, hts⟩, hb1⟩
  have hB1 := hdZ.trans hb1
  refine hK.out _ _ (hS _ hB1) (fun hHeld2 => ?_)
  clear hK K hHeld
  refine wpAnyH_ready (rs := [5]) (by kernel_rfl) (by simp) ?_
  refine AllReadyH.cons rfl (fun K hK => ?_) AllReadyH.nil
  go_simp
  refine (lentS na nc g.ns _ (r2.below hB1 (Nat.le_refl _)) h.nm h.nn).mono ?_
  rintro e w2 ⟨⟨g2, c2, rfl, hnc, _, hg2, hns⟩, hb2⟩
  have hB2 := hB1.trans (hb2.mono hB1.size)
  refine hK.out _ _ (hS _ hB2) (fun hHeld3 => ?_)
  clear hK K hHeld2
  refine wpAnyH_ready (rs := [10]) (by kernel_rfl) (by simp) ?_
  refine AllReadyH.cons rfl (fun K hK => ?_) AllReadyH.nil
  go_simp
  refine (lentR ra rc g.rs _ (r3.below hB2 (Nat.le_refl _)) h.rm h.each).mono ?_
  rintro e w3 ⟨⟨g3, c3, lq, rfl, hrc, _, hg3, hmap, hQ, hl⟩, hb3⟩
  have hB3 := hB2.trans (hb3.mono hB2.size)
  refine hK.out _ _ (hS _ hB3) (fun hHeld4 => ?_)
  clear hK K hHeld3
  refine wpAnyH_ready (rs := [11]) (by kernel_rfl) (by simp) ?_
  refine AllReadyH.cons rfl (fun K hK => ?_) AllReadyH.nil
  go_simp
  refine hK.out _ _ (hS _ hB3) (fun hHeld5 => ?_)
  clear hK K hHeld4
  have x0 := (hB3.cell (p := ⟨w.heap.size + 1, 0, none⟩) hlt).trans z0
  have x1 := (hB3.cell (p := ⟨w.heap.size + 1, 1, none⟩) hlt).trans z1
  have x2 := (hB3.cell (p := ⟨w.heap.size + 1, 2, none⟩) hlt).trans z2
  have x3 := (hB3.cell (p := ⟨w.heap.size + 1, 3, none⟩) hlt).trans z3
  have u0 := (hB3.frozen (p := ⟨w.heap.size + 1, 0, none⟩) hlt).trans y0
  have u1 := (hB3.frozen (p := ⟨w.heap.size + 1, 1, none⟩) hlt).trans y1
  have u2 := (hB3.frozen (p := ⟨w.heap.size + 1, 2, none⟩) hlt).trans y2
  have u3 := (hB3.frozen (p := ⟨w.heap.size + 1, 3, none⟩) hlt).trans y3
  refine wpAnyH_ready (rs := [12]) (by kernel_rfl) (by simp) ?_
  refine AllReadyH.cons rfl (fun K hK => ?_) AllReadyH.nil
  go_simp
  have hs1 := hB1.size
  have hs2 := hB2.size
  have hg1 : w.heap.size + 2 ≤ g1 := by have : Z.drew.heap.size = Z.heap.size := rfl; omega
  have hC : Cut (w.heap.size + 1) w3 ((((w3.setCell ⟨w.heap.size + 1, 0, none⟩ (.slice (some ⟨g1, 0, none⟩) g.ts.length c1)).setCell ⟨w.heap.size + 1, 1, none⟩ (.slice (some ⟨g2, 0, none⟩) g.ns.length c2)).setCell ⟨w.heap.size + 1, 2, none⟩ (.int .i64 g.ax)).setCell ⟨w.heap.size + 1, 3, none⟩ (.slice (some ⟨g3, 0, none⟩) g.rs.length c3)) := (((Cut.set w3 _ _ _).trans (Cut.set _ _ _ _)).trans (Cut.set _ _ _ _)).trans (Cut.set _ _ _ _)
  have hBw : Below w.heap.size w ((((w3.setCell ⟨w.heap.size + 1, 0, none⟩ (.slice (some ⟨g1, 0, none⟩) g.ts.length c1)).setCell ⟨w.heap.size + 1, 1, none⟩ (.slice (some ⟨g2, 0, none⟩) g.ns.length c2)).setCell ⟨w.heap.size + 1, 2, none⟩ (.int .i64 g.ax)).setCell ⟨w.heap.size + 1, 3, none⟩ (.slice (some ⟨g3, 0, none⟩) g.rs.length c3)) := (((((hB.trans (hB3.mono (by omega))).setCell (by simp) _).setCell (by simp) _).setCell (by simp) _).setCell (by simp) _)
  have hS4 := hS _ hB3
  have hne : ∀ o, (⟨w.heap.size, o, none⟩ : Addr).block ≠ w.heap.size + 1 := fun o => by simp
  refine hK.out _ _ ⟨(hC _ (hne _)).trans hS4.1, (hC _ (hne _)).trans hS4.2.1, (hC _ (hne _)).trans hS4.2.2.1, (hC _ (hne _)).trans hS4.2.2.2⟩ (fun _ => ?_)
  clear hK K
  refine wpAnyH_done (by kernel_rfl) (NoPanic.normal ?_) _
  have hL : LentG ((((w3.setCell ⟨w.heap.size + 1, 0, none⟩ (.slice (some ⟨g1, 0, none⟩) g.ts.length c1)).setCell ⟨w.heap.size + 1, 1, none⟩ (.slice (some ⟨g2, 0, none⟩) g.ns.length c2)).setCell ⟨w.heap.size + 1, 2, none⟩ (.int .i64 g.ax)).setCell ⟨w.heap.size + 1, 3, none⟩ (.slice (some ⟨g3, 0, none⟩) g.rs.length c3)) g1 c1 g2 c2 g3 c3 lq g :=
    ⟨hC.s ((hts.below hb2 (Nat.le_refl _)).below hb3 (Nat.le_refl _)) (by omega), htc, hC.s (hns.below hb3 (Nat.le_refl _)) (by omega), hnc, hrc, hmap, hC.q hQ (by omega), fun x hx => hC.l (hl x hx) (by omega)⟩
  clear hC hS hS4 r1 r2 r3 hQ hl hts hns
  have k0 : ((((w3.setCell ⟨w.heap.size + 1, 0, none⟩ (.slice (some ⟨g1, 0, none⟩) g.ts.length c1)).setCell ⟨w.heap.size + 1, 1, none⟩ (.slice (some ⟨g2, 0, none⟩) g.ns.length c2)).setCell ⟨w.heap.size + 1, 2, none⟩ (.int .i64 g.ax)).setCell ⟨w.heap.size + 1, 3, none⟩ (.slice (some ⟨g3, 0, none⟩) g.rs.length c3)).cell? ⟨w.heap.size + 1, 0, none⟩ = some (.slice (some ⟨g1, 0, none⟩) g.ts.length c1) := by simp [go_sem, x0]
  have k1 : ((((w3.setCell ⟨w.heap.size + 1, 0, none⟩ (.slice (some ⟨g1, 0, none⟩) g.ts.length c1)).setCell ⟨w.heap.size + 1, 1, none⟩ (.slice (some ⟨g2, 0, none⟩) g.ns.length c2)).setCell ⟨w.heap.size + 1, 2, none⟩ (.int .i64 g.ax)).setCell ⟨w.heap.size + 1, 3, none⟩ (.slice (some ⟨g3, 0, none⟩) g.rs.length c3)).cell? ⟨w.heap.size + 1, 1, none⟩ = some (.slice (some ⟨g2, 0, none⟩) g.ns.length c2) := by simp [go_sem, x1]
  have k2 : ((((w3.setCell ⟨w.heap.size + 1, 0, none⟩ (.slice (some ⟨g1, 0, none⟩) g.ts.length c1)).setCell ⟨w.heap.size + 1, 1, none⟩ (.slice (some ⟨g2, 0, none⟩) g.ns.length c2)).setCell ⟨w.heap.size + 1, 2, none⟩ (.int .i64 g.ax)).setCell ⟨w.heap.size + 1, 3, none⟩ (.slice (some ⟨g3, 0, none⟩) g.rs.length c3)).cell? ⟨w.heap.size + 1, 2, none⟩ = some (.int .i64 g.ax) := by simp [go_sem, x2]
  have k3 : ((((w3.setCell ⟨w.heap.size + 1, 0, none⟩ (.slice (some ⟨g1, 0, none⟩) g.ts.length c1)).setCell ⟨w.heap.size + 1, 1, none⟩ (.slice (some ⟨g2, 0, none⟩) g.ns.length c2)).setCell ⟨w.heap.size + 1, 2, none⟩ (.int .i64 g.ax)).setCell ⟨w.heap.size + 1, 3, none⟩ (.slice (some ⟨g3, 0, none⟩) g.rs.length c3)).cell? ⟨w.heap.size + 1, 3, none⟩ = some (.slice (some ⟨g3, 0, none⟩) g.rs.length c3) := by simp [go_sem, x3]
  generalize ((((w3.setCell ⟨w.heap.size + 1, 0, none⟩ (.slice (some ⟨g1, 0, none⟩) g.ts.length c1)).setCell ⟨w.heap.size + 1, 1, none⟩ (.slice (some ⟨g2, 0, none⟩) g.ns.length c2)).setCell ⟨w.heap.size + 1, 2, none⟩ (.int .i64 g.ax)).setCell ⟨w.heap.size + 1, 3, none⟩ (.slice (some ⟨g3, 0, none⟩) g.rs.length c3)) = W4 at *
  go_wp2
  refine bodyPost_ret (v := .agg #[.slice (some ⟨g1, 0, none⟩) g.ts.length c1, .slice (some ⟨g2, 0, none⟩) g.ns.length c2, .int .i64 g.ax, .slice (some ⟨g3, 0, none⟩) g.rs.length c3]) (by simp [results, Tryz.results5, go_sem, k0, k1, k2, k3]; try rfl) rfl ?_
  exact ⟨⟨g1, c1, g2, c2, g3, c3, rfl, lq, hL⟩, hBw⟩

set_option maxRecDepth 100000 in
set_option maxHeartbeats 4000000 in
theorem keptG (g1 c1 g2 c2 g3 c3 : Nat) (lq : List Q) (tb nb rb : Option Addr) (td nd rd : Nat) (g : G) (w : World) (hG : LentG w g1 c1 g2 c2 g3 c3 lq g) (hH : GRow w tb nb rb g) (og : okG g) :
    Calls Tryz.prog 12 #[.agg #[.slice (some ⟨g1, 0, none⟩) g.ts.length c1, .slice (some ⟨g2, 0, none⟩) g.ns.length c2, .int .i64 g.ax, .slice (some ⟨g3, 0, none⟩) g.rs.length c3], .agg #[.slice tb g.ts.length td, .slice nb g.ns.length nd, .int .i64 g.ax, .slice rb g.rs.length rd]] w fun e w' => e = .returned (.bool true) ∧ Below w.heap.size w w' := by
  have hB : Below w.heap.size w ((w.alloc (.cells #[.slice (some ⟨g1, 0, none⟩) g.ts.length c1, .slice (some ⟨g2, 0, none⟩) g.ns.length c2, .int .i64 g.ax, .slice (some ⟨g3, 0, none⟩) g.rs.length c3] 25)).alloc (.cells #[.slice tb g.ts.length td, .slice nb g.ns.length nd, .int .i64 g.ax, .slice rb g.rs.length rd] 25)) := ((Below.refl _ _).alloc (Nat.le_refl _) _).alloc (by simp) _
  have L := hG.below hB (Nat.le_refl _)
  obtain ⟨H1, H2, H3⟩ := hH.below hB (Nat.le_refl _)
  obtain ⟨p1, p2, p3, _, p5, _⟩ := og
  have ht := fun q => keptS g1 tb c1 td g.ts (World.drewN ((w.alloc (.cells #[.slice (some ⟨g1, 0, none⟩) g.ts.length c1, .slice (some ⟨g2, 0, none⟩) g.ns.length c2, .int .i64 g.ax, .slice (some ⟨g3, 0, none⟩) g.rs.length c3] 25)).alloc (.cells #[.slice tb g.ts.length td, .slice nb g.ns.length nd, .int .i64 g.ax, .slice rb g.rs.length rd] 25)) q) L.ts H1 p1 L.tc
  have hn := fun q => keptS g2 nb c2 nd g.ns (World.drewN ((w.alloc (.cells #[.slice (some ⟨g1, 0, none⟩) g.ts.length c1, .slice (some ⟨g2, 0, none⟩) g.ns.length c2, .int .i64 g.ax, .slice (some ⟨g3, 0, none⟩) g.rs.length c3] 25)).alloc (.cells #[.slice tb g.ts.length td, .slice nb g.ns.length nd, .int .i64 g.ax, .slice rb g.rs.length rd] 25)) q) L.ns H2 p2 L.nc
  have hr := fun q => keptR g3 rb c3 rd lq g.rs (World.drewN ((w.alloc (.cells #[.slice (some ⟨g1, 0, none⟩) g.ts.length c1, .slice (some ⟨g2, 0, none⟩) g.ns.length c2, .int .i64 g.ax, .slice (some ⟨g3, 0, none⟩) g.rs.length c3] 25)).alloc (.cells #[.slice tb g.ts.length td, .slice nb g.ns.length nd, .int .i64 g.ax, .slice rb g.rs.length rd] 25)) q) L.map L.rs L.each H3 p3 p5 L.rc
  have hf : (g.ax == g.ax) = true := by simp
  clear L hG hH H1 H2 H3 p1 p2 p3 p5
  go_enter Tryz.func12, Tryz.ntmps12
  go_wp2_with fail
  refine (ht 0).mono ?_
  rintro e w1 ⟨rfl, q, rfl⟩
  go_wp2_with fail
  refine (hn _).mono ?_
  rintro e w1 ⟨rfl, q2, rfl⟩
  rw [World.drewN_drewN]
  go_wp2_with fail
  refine (hr _).mono ?_
  rintro e w1 ⟨rfl, q3, rfl⟩
  go_wp2
  go_ret
  exact ⟨rfl, hB.os, hB.tape, hB.output, hB.size, hB.block⟩

end Go.Proofs.YthbbipgngeflnaaGreatDoor.GramLent
