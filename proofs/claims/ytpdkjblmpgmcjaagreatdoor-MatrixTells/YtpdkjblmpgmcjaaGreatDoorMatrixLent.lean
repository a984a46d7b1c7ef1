/-
  A lent grammar, with the rows that its right sides lie in.
-/
import Derived.Test.YtpdkjblmpgmcjaaGreatDoorGramLentG
import Derived.Test.YtpdkjblmpgmcjaaGreatDoorOpLent
namespace Go.Proofs.YtpdkjblmpgmcjaaGreatDoor.GramLent
open Go.RowKit Go.Proofs.YtpdkjblmpgmcjaaGreatDoor.GramMath Go.Proofs.YtpdkjblmpgmcjaaGreatDoor.GramRow Go.Proofs.YtpdkjblmpgmcjaaGreatDoor.GramSame Go.Proofs.YtpdkjblmpgmcjaaGreatDoor.GramLess Go.Proofs.YtpdkjblmpgmcjaaGreatDoor.GramApart
set_option linter.unusedVariables false

def F2 (w : World) (x : Q) : Prop := ∃ b cur, x.a = some ⟨b, 0, none⟩ ∧ RowAt w b 3 cur ∧ x.r.right.length ≤ cur.size
def F3 (B : Nat) (w : World) (x : Q) : Prop := ∃ b cur, x.a = some ⟨b, 0, none⟩ ∧ B ≤ b ∧ RowAt w b 3 cur ∧ x.r.right.length ≤ cur.size

theorem F2.below {w w' : World} {x : Q} {B : Nat} (h : F2 w x) (hb : Below B w w') (hB : w.heap.size ≤ B) : F2 w' x := by
  obtain ⟨b, cur, h1, h2, h3⟩ := h
  exact ⟨b, cur, h1, h2.below hb (Nat.lt_of_lt_of_le h2.lt hB), h3⟩
theorem F3.below {w w' : World} {x : Q} {B C : Nat} (h : F3 C w x) (hb : Below B w w') (hB : w.heap.size ≤ B) : F3 C w' x := by
  obtain ⟨b, cur, h1, h0, h2, h3⟩ := h
  exact ⟨b, cur, h1, h0, h2.below hb (Nat.lt_of_lt_of_le h2.lt hB), h3⟩
theorem F2.step {w w' : World} {x : Q} {base n : Nat} {u : Value} {o : Obj} {xs : List Value} (h : F2 w x) (hown : w.ownsRow base 40 2 u n xs) (hg : (w.alloc o).grownBy w' u.ownBlock) : F2 w' x := by
  obtain ⟨b, cur, h1, h2, h3⟩ := h
  exact ⟨b, cur, h1, (h2.alloc o).grown hg ((h2.alloc o).not_own (by decide) (hown.alloc o)), h3⟩

set_option maxRecDepth 100000 in
set_option maxHeartbeats 1600000 in
theorem lentR2 (a : Option Addr) (ca : Nat) (rs : List R) (w : World) (ha : RRowN w a rs) (hm : rs.length * 32 ≤ 140737488351232) (hr : ∀ r ∈ rs, okR r ∧ r.right.length * 8 ≤ 140737488351232) :
    Calls Tryz.prog 26 #[.slice a rs.length ca] w fun e w' => (∃ g c lq, e = .returned (.slice (some ⟨g, 0, none⟩) rs.length c) ∧ rs.length < c ∧ c ≤ maxLen ∧ w.heap.size ≤ g ∧ lq.map (·.r) = rs ∧ QRow w' (some ⟨g, 0, none⟩) (lq ++ [⟨⟨-7171, []⟩, none, 0⟩]) ∧ (∀ x ∈ lq, LentAt w.heap.size w' .nilIface x) ∧ ∀ x ∈ lq, F2 w' x) ∧ Below w.heap.size w w' := by
  obtain ⟨i0, hi, hz0, hz1, hz2⟩ := info_parts infoR
  go_enter Tryz.func26, Tryz.ntmps26
  go_wp2
  go_loopw [3, 4] (fun u i wr => ∃ (k : Nat) (lq : List Q), k ≤ rs.length ∧ i = .int .i64 k ∧ lq.map (·.r) = rs.take k ∧ wr.ownsRow w.heap.size 40 2 u k (cellsQ lq) ∧ (∀ x ∈ lq, LentAt w.heap.size wr u x) ∧ (∀ x ∈ lq, F2 wr x) ∧ Below w.heap.size w wr) (fun _ i _ => rs.length - (intOf i).toNat)
  case atStart => exact ⟨0, [], by omega, rfl, rfl, World.ownsRow_nil _ _ _ _, (fun x hx => by cases hx), (fun x hx => by cases hx), Below.refl _ _⟩
  case round =>
    obtain ⟨k, lq, hk, rfl, hlq, hown, hlent, hF, hB⟩ := hrel
    have hsB := hB.size
    by_cases hlt : k < rs.length
    · obtain ⟨r, hrk⟩ : ∃ r, rs[k]? = some r := ⟨rs[k], List.getElem?_eq_getElem hlt⟩
      have hrm := hr r (List.mem_of_getElem? hrk)
      obtain ⟨b, off, ra, rc, rfl, hc1, hc2, hrow, hnil⟩ := (ha.below hB (Nat.le_refl _)) k r hrk
      have hq := lentI2 ra rc r.right wr hrow hrm.2 hnil
      go_wp2_with fail
      refine hq.mono ?_
      rintro e w1 ⟨⟨g, c, rfl, hgc, hcm, hgs, hrow1, hcr⟩, hb1⟩
      have hs1 := hb1.size
      have hown1 := own_below hown hb1
      have hc1' : w1.cell? ⟨b, off + k * 2, none⟩ = some (.int .i64 r.left) := by rw [hb1.cell (cell_lt hc1)]; exact hc1
      have hB1 : Below w.heap.size w w1 := hB.trans (hb1.mono hsB)
      go_wp2_with (at_builtin; refine wpList_append_lies _ rfl _ _ 23 rfl w.heap.size 40 i0 (.agg #[.int .i64 0, .slice none 0 0]) 2 32 Tryz.underlying23 hi hz0 hz1 hz2 rfl (by decide) _ _ _ rfl (hown1.alloc _) ⟨w1.heap.size, 0, none⟩ 1 1 [.int .i64 r.left, .slice (some ⟨g, 0, none⟩) r.right.length c] rfl rfl (cells_new _ #[_, _] _) (by simp [Value.oneCell']) (by omega) (by unfold maxLen; omega) (by omega) (by simp; omega) (w1.heap.size + 1) (by simp) ?_; intro g' c' w' hown' hgrow' hat' hlt')
      have hl2 : ∀ x ∈ lq ++ [⟨r, some ⟨g, 0, none⟩, c⟩], LentAt w.heap.size w' (.slice (some ⟨g', 0, none⟩) (k + 1) c') x := fun x hx => by
        rcases List.mem_append.1 hx with hx | hx
        · exact (hlent x hx).step hb1 hgrow' hat'
        · obtain rfl := List.mem_singleton.1 hx
          exact LentAt.new hown hrow1 (by omega) hgs hgc hgrow' hat'
      have hF2 : ∀ x ∈ lq ++ [(⟨r, some ⟨g, 0, none⟩, c⟩ : Q)], F2 w' x := fun x hx => by
        rcases List.mem_append.1 hx with hx | hx
        · exact ((hF x hx).below hb1 (Nat.le_refl _)).step hown1 hgrow'
        · obtain rfl := List.mem_singleton.1 hx
          obtain ⟨cur, r1, r2⟩ := hcr
          exact F2.step ⟨g, cur, rfl, r1, r2⟩ hown1 hgrow'
      have hB2 : Below w.heap.size w w' := (hB1.alloc (by omega) _).grown hgrow' (by simp; omega) (fun k hk => (hown.lt k hk).1)
      have hmap : (lq ++ [(⟨r, some ⟨g, 0, none⟩, c⟩ : Q)]).map (·.r) = rs.take (k + 1) := by rw [List.map_append, hlq, List.take_add_one, hrk]; rfl
      have hown2 : w'.ownsRow w.heap.size 40 2 (.slice (some ⟨g', 0, none⟩) (k + 1) c') (k + 1) (cellsQ (lq ++ [⟨r, some ⟨g, 0, none⟩, c⟩])) := by rw [cellsQ_app]; exact hown'
      go_roundw
      case rel => exact ⟨k + 1, _, by omega, by go_num, hmap, hown2, hl2, hF2, hB2⟩
      case measure => simp [intOf]; omega
    · obtain rfl : k = rs.length := by omega
      rw [List.take_length] at hlq
      go_wp2_with (at_builtin; refine wpList_append_lies _ rfl _ _ 23 rfl w.heap.size 40 i0 (.agg #[.int .i64 0, .slice none 0 0]) 2 32 Tryz.underlying23 hi hz0 hz1 hz2 rfl (by decide) _ _ _ rfl (hown.alloc _) ⟨wr.heap.size, 0, none⟩ 1 1 [.int .i64 (-7171), .slice none 0 0] rfl rfl (cells_new _ #[_, _] _) (by simp [Value.oneCell']) (by omega) (by unfold maxLen; omega) (by omega) (by simp; omega) (wr.heap.size + 1) (by simp) ?_; intro g' c' w' hown' hgrow' hat' hlt'; have hcap := own_cap2 hown')
      have hlen : lq.length = rs.length := by rw [← hlq, List.length_map]
      have hown2 : w'.ownsRow w.heap.size 40 2 (.slice (some ⟨g', 0, none⟩) (rs.length + 1) c') (rs.length + 1) (cellsQ (lq ++ [⟨⟨-7171, []⟩, none, 0⟩])) := by rw [cellsQ_app]; exact hown'
      have hQ := qrow_own (by simp [hlen]) hown2
      have hl2 : ∀ x ∈ lq, LentAt w.heap.size w' .nilIface x := fun x hx => by
        obtain ⟨b, h1, h0, _, h3, h4⟩ := (hlent x hx).step (m := 0) (c' := 0) (Below.refl _ _) hgrow' hat'
        exact ⟨b, h1, h0, (fun e => by cases e), h3, h4⟩
      have hF2 : ∀ x ∈ lq, F2 w' x := fun x hx => (hF x hx).step hown hgrow'
      have hB2 : Below w.heap.size w w' := (hB.alloc (by omega) _).grown hgrow' (by simp; omega) (fun k hk => (hown.lt k hk).1)
      go_ret
      exact ⟨⟨g', c', lq, rfl, by omega, hcap.2.1, hcap.2.2, hlq, hQ, hl2, hF2⟩, hB2⟩

set_option maxRecDepth 100000 in
set_option maxHeartbeats 1000000 in
theorem lentG2 (ta na ra : Option Addr) (tc nc rc : Nat) (g : G) (w : World) (h : Lendable w ta na ra tc nc g) :
    Calls Tryz.prog 5 #[.agg #[.slice ta g.ts.length tc, .slice na g.ns.length nc, .int .i64 g.ax, .slice ra g.rs.length rc]] w fun e w' => (∃ g1 c1 g2 c2 g3 c3 lq, e = .returned (.agg #[.slice (some ⟨g1, 0, none⟩) g.ts.length c1, .slice (some ⟨g2, 0, none⟩) g.ns.length c2, .int .i64 g.ax, .slice (some ⟨g3, 0, none⟩) g.rs.length c3]) ∧ LentG w' g1 c1 g2 c2 g3 c3 lq g ∧ ∀ x ∈ lq, F3 w.heap.size w' x) ∧ Below w.heap.size w w' := by
  have hB : Below w.heap.size w (w.alloc (.cells #[.slice ta g.ts.length tc, .slice na g.ns.length nc, .int .i64 g.ax, .slice ra g.rs.length rc] 25)) := (Below.refl _ _).alloc (Nat.le_refl _) _
  have b0 : (w.alloc (.cells #[.slice ta g.ts.length tc, .slice na g.ns.length nc, .int .i64 g.ax, .slice ra g.rs.length rc] 25)).cell? ⟨w.heap.size, 0, none⟩ = some (.slice ta g.ts.length tc) := by simp [go_sem]
  have b1 : (w.alloc (.cells #[.slice ta g.ts.length tc, .slice na g.ns.length nc, .int .i64 g.ax, .slice ra g.rs.length rc] 25)).cell? ⟨w.heap.size, 1, none⟩ = some (.slice na g.ns.length nc) := by simp [go_sem]
  have b2 : (w.alloc (.cells #[.slice ta g.ts.length tc, .slice na g.ns.length nc, .int .i64 g.ax, .slice ra g.rs.length rc] 25)).cell? ⟨w.heap.size, 2, none⟩ = some (.int .i64 g.ax) := by simp [go_sem]
  have b3 : (w.alloc (.cells #[.slice ta g.ts.length tc, .slice na g.ns.length nc, .int .i64 g.ax, .slice ra g.rs.length rc] 25)).cell? ⟨w.heap.size, 3, none⟩ = some (.slice ra g.rs.length rc) := by simp [go_sem]
  have hsz : (w.alloc (.cells #[.slice ta g.ts.length tc, .slice na g.ns.length nc, .int .i64 g.ax, .slice ra g.rs.length rc] 25)).heap.size = w.heap.size + 1 := by simp
  have hd : ∀ W : World, Below W.heap.size W W.drew := fun W => ⟨rfl, rfl, rfl, Nat.le_refl W.heap.size, fun _ _ => rfl⟩
  go_enter Tryz.func5, Tryz.ntmps5
  go_wp2_with fail
  generalize w.alloc (.cells #[.slice ta g.ts.length tc, .slice na g.ns.length nc, .int .i64 g.ax, .slice ra g.rs.length rc] 25) = W0 at *
  have hZ : Below W0.heap.size W0 (W0.alloc (.cells #[.slice none 0 0, .slice none 0 0, .int .i64 0, .slice none 0 0] 25)) := (Below.refl _ _).alloc (Nat.le_refl _) _
  have hZs : (W0.alloc (.cells #[.slice none 0 0, .slice none 0 0, .int .i64 0, .slice none 0 0] 25)).heap.size = w.heap.size + 2 := by simp [hsz]
  have z0 : (W0.alloc (.cells #[.slice none 0 0, .slice none 0 0, .int .i64 0, .slice none 0 0] 25)).cell? ⟨w.heap.size + 1, 0, none⟩ = some (.slice none 0 0) := by rw [← hsz]; simp [go_sem]
  have z1 : (W0.alloc (.cells #[.slice none 0 0, .slice none 0 0, .int .i64 0, .slice none 0 0] 25)).cell? ⟨w.heap.size + 1, 1, none⟩ = some (.slice none 0 0) := by rw [← hsz]; simp [go_sem]
  have z2 : (W0.alloc (.cells #[.slice none 0 0, .slice none 0 0, .int .i64 0, .slice none 0 0] 25)).cell? ⟨w.heap.size + 1, 2, none⟩ = some (.int .i64 0) := by rw [← hsz]; simp [go_sem]
  have z3 : (W0.alloc (.cells #[.slice none 0 0, .slice none 0 0, .int .i64 0, .slice none 0 0] 25)).cell? ⟨w.heap.size + 1, 3, none⟩ = some (.slice none 0 0) := by rw [← hsz]; simp [go_sem]
  have y0 : (W0.alloc (.cells #[.slice none 0 0, .slice none 0 0, .int .i64 0, .slice none 0 0] 25)).frozen? ⟨w.heap.size + 1, 0, none⟩ = false := by rw [← hsz]; simp [go_sem]
  have y1 : (W0.alloc (.cells #[.slice none 0 0, .slice none 0 0, .int .i64 0, .slice none 0 0] 25)).frozen? ⟨w.heap.size + 1, 1, none⟩ = false := by rw [← hsz]; simp [go_sem]
  have y2 : (W0.alloc (.cells #[.slice none 0 0, .slice none 0 0, .int .i64 0, .slice none 0 0] 25)).frozen? ⟨w.heap.size + 1, 2, none⟩ = false := by rw [← hsz]; simp [go_sem]
  have y3 : (W0.alloc (.cells #[.slice none 0 0, .slice none 0 0, .int .i64 0, .slice none 0 0] 25)).frozen? ⟨w.heap.size + 1, 3, none⟩ = false := by rw [← hsz]; simp [go_sem]
  have b0 := (hZ.cell (show w.heap.size < W0.heap.size by omega)).trans b0
  have b1 := (hZ.cell (show w.heap.size < W0.heap.size by omega)).trans b1
  have b2 := (hZ.cell (show w.heap.size < W0.heap.size by omega)).trans b2
  have b3 := (hZ.cell (show w.heap.size < W0.heap.size by omega)).trans b3
  have hB := hB.trans (hZ.mono (by omega))
  clear hZ
  generalize W0.alloc (.cells #[.slice none 0 0, .slice none 0 0, .int .i64 0, .slice none 0 0] 25) = Z at *
  have hS : ∀ w', Below Z.heap.size Z w' → (w'.cell? ⟨w.heap.size, 0, none⟩ = some (.slice ta g.ts.length tc) ∧ w'.cell? ⟨w.heap.size, 1, none⟩ = some (.slice na g.ns.length nc) ∧ w'.cell? ⟨w.heap.size, 2, none⟩ = some (.int .i64 g.ax) ∧ w'.cell? ⟨w.heap.size, 3, none⟩ = some (.slice ra g.rs.length rc)) := fun w' hb => ⟨(hb.cell (show w.heap.size < Z.heap.size by omega)).trans b0, (hb.cell (show w.heap.size < Z.heap.size by omega)).trans b1, (hb.cell (show w.heap.size < Z.heap.size by omega)).trans b2, (hb.cell (show w.heap.size < Z.heap.size by omega)).trans b3⟩
  have r1 := h.ts.below hB (Nat.le_refl _)
  have r2 := h.ns.below hB (Nat.le_refl _)
  have r3 := h.rs.below hB (Nat.le_refl _)
  have hdZ := hd Z
  clear hd
  have hlt : w.heap.size + 1 < Z.heap.size := by omega
  refine wp_region_noPanic ?_
  refine wp_region_held_drew (S := (fun w' => w'.cell? ⟨w.heap.size, 0, none⟩ = some (.slice ta g.ts.length tc) ∧ w'.cell? ⟨w.heap.size, 1, none⟩ = some (.slice na g.ns.length nc) ∧ w'.cell? ⟨w.heap.size, 2, none⟩ = some (.int .i64 g.ax) ∧ w'.cell? ⟨w.heap.size, 3, none⟩ = some (.slice ra g.rs.length rc))) (by kernel_rfl) (hS _ hdZ) (fun hHeld => ?_)
  refine wpAnyH_take (i := 0) (v := .pointer (some ⟨w.heap.size, 0, none⟩)) rfl (by kernel_rfl) (by kernel_rfl) (by kernel_rfl) (fun _ _ _ h => h) (Or.inl ⟨by rfl, fun w9 hSw => ?_⟩) hHeld ?_
  · obtain ⟨s0, s1, s2, s3⟩ := hSw
    go_simp
  simp only [List.getElem_toArray, List.getElem_cons_zero, Act.put, List.setIfInBounds_toArray, List.set_cons_zero, List.set_cons_succ]
  refine wpAnyH_take (i := 1) (v := .slice ta g.ts.length tc) rfl (by kernel_rfl) (by kernel_rfl) (by kernel_rfl) (fun _ _ _ h => h) (Or.inl ⟨by rfl, fun w9 hSw => ?_⟩) hHeld ?_
  · obtain ⟨s0, s1, s2, s3⟩ := hSw
    go_simp
  simp only [List.getElem_toArray, List.getElem_cons_zero, List.getElem_cons_succ, Act.put, List.setIfInBounds_toArray, List.set_cons_zero, List.set_cons_succ]
  refine wpAnyH_take (i := 3) (v := .pointer (some ⟨w.heap.size, 1, none⟩)) rfl (by kernel_rfl) (by kernel_rfl) (by kernel_rfl) (fun _ _ _ h => h) (Or.inl ⟨by rfl, fun w9 hSw => ?_⟩) hHeld ?_
  · obtain ⟨s0, s1, s2, s3⟩ := hSw
    go_simp
  simp only [List.getElem_toArray, List.getElem_cons_zero, List.getElem_cons_succ, Act.put, List.setIfInBounds_toArray, List.set_cons_zero, List.set_cons_succ]
  refine wpAnyH_take (i := 4) (v := .slice na g.ns.length nc) rfl (by kernel_rfl) (by kernel_rfl) (by kernel_rfl) (fun _ _ _ h => h) (Or.inl ⟨by rfl, fun w9 hSw => ?_⟩) hHeld ?_
  · obtain ⟨s0, s1, s2, s3⟩ := hSw
    go_simp
  simp only [List.getElem_toArray, List.getElem_cons_zero, List.getElem_cons_succ, Act.put, List.setIfInBounds_toArray, List.set_cons_zero, List.set_cons_succ]
  refine wpAnyH_take (i := 6) (v := .pointer (some ⟨w.heap.size, 2, none⟩)) rfl (by kernel_rfl) (by kernel_rfl) (by kernel_rfl) (fun _ _ _ h => h) (Or.inl ⟨by rfl, fun w9 hSw => ?_⟩) hHeld ?_
  · obtain ⟨s0, s1, s2, s3⟩ := hSw
    go_simp
  simp only [List.getElem_toArray, List.getElem_cons_zero, List.getElem_cons_succ, Act.put, List.setIfInBounds_toArray, List.set_cons_zero, List.set_cons_succ]
  refine wpAnyH_take (i := 7) (v := .int .i64 g.ax) rfl (by kernel_rfl) (by kernel_rfl) (by kernel_rfl) (fun _ _ _ h => h) (Or.inl ⟨by rfl, fun w9 hSw => ?_⟩) hHeld ?_
  · obtain ⟨s0, s1, s2, s3⟩ := hSw
    go_simp
  simp only [List.getElem_toArray, List.getElem_cons_zero, List.getElem_cons_succ, Act.put, List.setIfInBounds_toArray, List.set_cons_zero, List.set_cons_succ]
  refine wpAnyH_take (i := 8) (v := .pointer (some ⟨w.heap.size, 3, none⟩)) rfl (by kernel_rfl) (by kernel_rfl) (by kernel_rfl) (fun _ _ _ h => h) (Or.inl ⟨by rfl, fun w9 hSw => ?_⟩) hHeld ?_
  · obtain ⟨s0, s1, s2, s3⟩ := hSw
    go_simp
  simp only [List.getElem_toArray, List.getElem_cons_zero, List.getElem_cons_succ, Act.put, List.setIfInBounds_toArray, List.set_cons_zero, List.set_cons_succ]
  refine wpAnyH_take (i := 9) (v := .slice ra g.rs.length rc) rfl (by kernel_rfl) (by kernel_rfl) (by kernel_rfl) (fun _ _ _ h => h) (Or.inl ⟨by rfl, fun w9 hSw => ?_⟩) hHeld ?_
  · obtain ⟨s0, s1, s2, s3⟩ := hSw
    go_simp
  simp only [List.getElem_toArray, List.getElem_cons_zero, List.getElem_cons_succ, Act.put, List.setIfInBounds_toArray, List.set_cons_zero, List.set_cons_succ]
  refine wpAnyH_ready (rs := [2]) (by kernel_rfl) (by simp) ?_
  refine AllReadyH.cons rfl (fun K hK => ?_) AllReadyH.nil
  go_simp
  refine (lentS ta tc g.ts _ (r1.below hdZ (Nat.le_refl _)) h.tm h.tn).mono ?_
  rintro e w1 ⟨⟨g1, c1, rfl, htc, _, hg1, hts⟩, hb1⟩
  have hB1 := hdZ.trans hb1
  refine hK.out _ _ (hS _ hB1) (fun hHeld2 => ?_)
  clear hK K hHeld
  refine wpAnyH_ready (rs := [5]) (by kernel_rfl) (by simp) ?_
  refine AllReadyH.cons rfl (fun K hK => ?_) AllReadyH.nil
  go_simp
  refine (lentS na nc g.ns _ (r2.below hB1 (Nat.le_refl _)) h.nm h.nn).mono ?_
  rintro e w2 ⟨⟨g2, c2, rfl, hnc, _, hg2, hns⟩, hb2⟩
  have hB2 := hB1.trans (hb2.mono hB1.size)
  refine hK.out _ _ (hS _ hB2) (fun hHeld3 => ?_)
  clear hK K hHeld2
  refine wpAnyH_ready (rs := [10]) (by kernel_rfl) (by simp) ?_
  refine AllReadyH.cons rfl (fun K hK => ?_) AllReadyH.nil
  go_simp
  refine (lentR2 ra rc g.rs _ (r3.below hB2 (Nat.le_refl _)) h.rm h.each).mono ?_
  rintro e w3 ⟨⟨g3, c3, lq, rfl, hrc, _, hg3, hmap, hQ, hl, hF⟩, hb3⟩
  have hB3 := hB2.trans (hb3.mono hB2.size)
  refine hK.out _ _ (hS _ hB3) (fun hHeld4 => ?_)
  clear hK K hHeld3
  refine wpAnyH_ready (rs := [11]) (by kernel_rfl) (by simp) ?_
  refine AllReadyH.cons rfl (fun K hK => ?_) AllReadyH.nil
  go_simp
  refine hK.out _ _ (hS _ hB3) (fun hHeld5 => ?_)
  clear hK K hHeld4
  have x0 := (hB3.cell (p := ⟨w.heap.size + 1, 0, none⟩) hlt).trans z0
  have x1 := (hB3.cell (p := ⟨w.heap.size + 1, 1, none⟩) hlt).trans z1
  have x2 := (hB3.cell (p := ⟨w.heap.size + 1, 2, none⟩) hlt).trans z2
  have x3 := (hB3.cell (p := ⟨w.heap.size + 1, 3, none⟩) hlt).trans z3
  have u0 := (hB3.frozen (p := ⟨w.heap.size + 1, 0, none⟩) hlt).trans y0
  have u1 := (hB3.frozen (p := ⟨w.heap.size + 1, 1, none⟩) hlt).trans y1
  have u2 := (hB3.frozen (p := ⟨w.heap.size + 1, 2, none⟩) hlt).trans y2
  have u3 := (hB3.frozen (p := ⟨w.heap.size + 1, 3, none⟩) hlt).trans y3
  refine wpAnyH_ready (rs := [12]) (by kernel_rfl) (by simp) ?_
  refine AllReadyH.cons rfl (fun K hK => ?_) AllReadyH.nil
  go_simp
  have hs1 := hB1.size
  have hs2 := hB2.size
  have hg1 : w.heap.size + 2 ≤ g1 := by have : Z.drew.heap.size = Z.heap.size := rfl; omega
  have hC : Cut (w.heap.size + 1) w3 ((((w3.setCell ⟨w.heap.size + 1, 0, none⟩ (.slice (some ⟨g1, 0, none⟩) g.ts.length c1)).setCell ⟨w.heap.size + 1, 1, none⟩ (.slice (some ⟨g2, 0, none⟩) g.ns.length c2)).setCell ⟨w.heap.size + 1, 2, none⟩ (.int .i64 g.ax)).setCell ⟨w.heap.size + 1, 3, none⟩ (.slice (some ⟨g3, 0, none⟩) g.rs.length c3)) := (((Cut.set w3 _ _ _).trans (Cut.set _ _ _ _)).trans (Cut.set _ _ _ _)).trans (Cut.set _ _ _ _)
  have hBw : Below w.heap.size w ((((w3.setCell ⟨w.heap.size + 1, 0, none⟩ (.slice (some ⟨g1, 0, none⟩) g.ts.length c1)).setCell ⟨w.heap.size + 1, 1, none⟩ (.slice (some ⟨g2, 0, none⟩) g.ns.length c2)).setCell ⟨w.heap.size + 1, 2, none⟩ (.int .i64 g.ax)).setCell ⟨w.heap.size + 1, 3, none⟩ (.slice (some ⟨g3, 0, none⟩) g.rs.length c3)) := (((((hB.trans (hB3.mono (by omega))).setCell (by simp) _).setCell (by simp) _).setCell (by simp) _).setCell (by simp) _)
  have hS4 := hS _ hB3
  have hne : ∀ o, (⟨w.heap.size, o, none⟩ : Addr).block ≠ w.heap.size + 1 := fun o => by simp
  refine hK.out _ _ ⟨(hC _ (hne _)).trans hS4.1, (hC _ (hne _)).trans hS4.2.1, (hC _ (hne _)).trans hS4.2.2.1, (hC _ (hne _)).trans hS4.2.2.2⟩ (fun _ => ?_)
  clear hK K
  refine wpAnyH_done (by kernel_rfl) (NoPanic.normal ?_) _
  have hL : LentG ((((w3.setCell ⟨w.heap.size + 1, 0, none⟩ (.slice (some ⟨g1, 0, none⟩) g.ts.length c1)).setCell ⟨w.heap.size + 1, 1, none⟩ (.slice (some ⟨g2, 0, none⟩) g.ns.length c2)).setCell ⟨w.heap.size + 1, 2, none⟩ (.int .i64 g.ax)).setCell ⟨w.heap.size + 1, 3, none⟩ (.slice (some ⟨g3, 0, none⟩) g.rs.length c3)) g1 c1 g2 c2 g3 c3 lq g :=
    ⟨hC.s ((hts.below hb2 (Nat.le_refl _)).below hb3 (Nat.le_refl _)) (by omega), htc, hC.s (hns.below hb3 (Nat.le_refl _)) (by omega), hnc, hrc, hmap, hC.q hQ (by omega), fun x hx => hC.l (hl x hx) (by omega)⟩
  have hF4 : ∀ x ∈ lq, F3 w.heap.size ((((w3.setCell ⟨w.heap.size + 1, 0, none⟩ (.slice (some ⟨g1, 0, none⟩) g.ts.length c1)).setCell ⟨w.heap.size + 1, 1, none⟩ (.slice (some ⟨g2, 0, none⟩) g.ns.length c2)).setCell ⟨w.heap.size + 1, 2, none⟩ (.int .i64 g.ax)).setCell ⟨w.heap.size + 1, 3, none⟩ (.slice (some ⟨g3, 0, none⟩) g.rs.length c3)) x := fun x hx => by
    obtain ⟨b, h1, h0, _⟩ := hl x hx
    obtain ⟨b', cur, e1, e2, e3⟩ := hF x hx
    rw [h1] at e1
    obtain rfl : b = b' := by simpa using e1
    have hb9 : b ≠ w.heap.size + 1 := by omega
    exact ⟨b, cur, h1, by omega, (((e2.other hb9 _ _).other hb9 _ _).other hb9 _ _).other hb9 _ _, e3⟩
  clear hC hS hS4 r1 r2 r3 hQ hl hts hns hF
  have k0 : ((((w3.setCell ⟨w.heap.size + 1, 0, none⟩ (.slice (some ⟨g1, 0, none⟩) g.ts.length c1)).setCell ⟨w.heap.size + 1, 1, none⟩ (.slice (some ⟨g2, 0, none⟩) g.ns.length c2)).setCell ⟨w.heap.size + 1, 2, none⟩ (.int .i64 g.ax)).setCell ⟨w.heap.size + 1, 3, none⟩ (.slice (some ⟨g3, 0, none⟩) g.rs.length c3)).cell? ⟨w.heap.size + 1, 0, none⟩ = some (.slice (some ⟨g1, 0, none⟩) g.ts.length c1) := by simp [go_sem, x0]
  have k1 : ((((w3.setCell ⟨w.heap.size + 1, 0, none⟩ (.slice (some ⟨g1, 0, none⟩) g.ts.length c1)).setCell ⟨w.heap.size + 1, 1, none⟩ (.slice (some ⟨g2, 0, none⟩) g.ns.length c2)).setCell ⟨w.heap.size + 1, 2, none⟩ (.int .i64 g.ax)).setCell ⟨w.heap.size + 1, 3, none⟩ (.slice (some ⟨g3, 0, none⟩) g.rs.length c3)).cell? ⟨w.heap.size + 1, 1, none⟩ = some (.slice (some ⟨g2, 0, none⟩) g.ns.length c2) := by simp [go_sem, x1]
  have k2 : ((((w3.setCell ⟨w.heap.size + 1, 0, none⟩ (.slice (some ⟨g1, 0, none⟩) g.ts.length c1)).setCell ⟨w.heap.size + 1, 1, none⟩ (.slice (some ⟨g2, 0, none⟩) g.ns.length c2)).setCell ⟨w.heap.size + 1, 2, none⟩ (.int .i64 g.ax)).setCell ⟨w.heap.size + 1, 3, none⟩ (.slice (some ⟨g3, 0, none⟩) g.rs.length c3)).cell? ⟨w.heap.size + 1, 2, none⟩ = some (.int .i64 g.ax) := by simp [go_sem, x2]
  have k3 : ((((w3.setCell ⟨w.heap.size + 1, 0, none⟩ (.slice (some ⟨g1, 0, none⟩) g.ts.length c1)).setCell ⟨w.heap.size + 1, 1, none⟩ (.slice (some ⟨g2, 0, none⟩) g.ns.length c2)).setCell ⟨w.heap.size + 1, 2, none⟩ (.int .i64 g.ax)).setCell ⟨w.heap.size + 1, 3, none⟩ (.slice (some ⟨g3, 0, none⟩) g.rs.length c3)).cell? ⟨w.heap.size + 1, 3, none⟩ = some (.slice (some ⟨g3, 0, none⟩) g.rs.length c3) := by simp [go_sem, x3]
  generalize ((((w3.setCell ⟨w.heap.size + 1, 0, none⟩ (.slice (some ⟨g1, 0, none⟩) g.ts.length c1)).setCell ⟨w.heap.size + 1, 1, none⟩ (.slice (some ⟨g2, 0, none⟩) g.ns.length c2)).setCell ⟨w.heap.size + 1, 2, none⟩ (.int .i64 g.ax)).setCell ⟨w.heap.size + 1, 3, none⟩ (.slice (some ⟨g3, 0, none⟩) g.rs.length c3)) = W4 at *
  go_wp2
  refine bodyPost_ret (v := .agg #[.slice (some ⟨g1, 0, none⟩) g.ts.length c1, .slice (some ⟨g2, 0, none⟩) g.ns.length c2, .int .i64 g.ax, .slice (some ⟨g3, 0, none⟩) g.rs.length c3]) (by simp [results, Tryz.results5, go_sem, k0, k1, k2, k3]; try rfl) rfl ?_
  exact ⟨⟨g1, c1, g2, c2, g3, c3, rfl, lq, hL, hF4⟩, hBw⟩

end Go.Proofs.YtpdkjblmpgmcjaaGreatDoor.GramLent
