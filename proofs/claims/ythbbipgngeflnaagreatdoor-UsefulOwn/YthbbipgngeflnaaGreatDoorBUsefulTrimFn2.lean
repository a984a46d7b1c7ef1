/-
  Texts that stand together: UsefulTrimFn2.
-/
import Derived.Test.YthbbipgngeflnaaGreatDoorBUsefulTrimFn
import Derived.Test.YthbbipgngeflnaaGreatDoorBagRangeOwn
import Derived.Test.YthbbipgngeflnaaGreatDoorBagUsefulHeldR
namespace Go.Proofs.YthbbipgngeflnaaGreatDoor.UsefulTrim
open Go.RowKit Go.Proofs.YthbbipgngeflnaaGreatDoor.GramLess Go.Proofs.YthbbipgngeflnaaGreatDoor.GramMath Go.Proofs.YthbbipgngeflnaaGreatDoor.GramRow Go.Proofs.YthbbipgngeflnaaGreatDoor.GramOne Go.Proofs.YthbbipgngeflnaaGreatDoor.GramApart Go.Proofs.YthbbipgngeflnaaGreatDoor.GramCopy Go.Proofs.YthbbipgngeflnaaGreatDoor.GramRoll Go.Proofs.YthbbipgngeflnaaGreatDoor.SetsMath Go.Proofs.YthbbipgngeflnaaGreatDoor.UsefulMath Go.Proofs.YthbbipgngeflnaaGreatDoor.UsefulFn Go.Proofs.YthbbipgngeflnaaGreatDoor.UsefulTrimM Go.Proofs.YthbbipgngeflnaaGreatDoor.UsefulRange Go.Proofs.YthbbipgngeflnaaGreatDoor.UsefulTop
set_option linter.unusedVariables false
set_option linter.unusedSimpArgs false

theorem KeepsCM.of {w w' : World} (h : Below w.heap.size w w') : KeepsCM w w' := ⟨h.size, fun k o hk _ => (h.block k (Array.getElem?_eq_some_iff.1 hk).1).trans hk⟩
theorem _root_.Go.Proofs.YthbbipgngeflnaaGreatDoor.GramRoll.Build.below {w w' : World} {b base : Nat} {g : G} {nv mv nv2 mv2 rv : Value} {lq : List Q} (h : Build w b base g nv mv nv2 mv2 rv lq) (hb : Below w.heap.size w w') : Build w' b base g nv mv nv2 mv2 rv lq := UsefulRange.Build.keepCM h (KeepsCM.of hb)

def newX (g h : G) (x : Int) : Int := if x < 0 then -1 - idx h.ns (nmI g.ns (-1 - x)) else idx h.ts (nmI g.ts x)
/-- All symbols have names that the Builder knows. -/
def Known (g h : G) (zs : List Int) : Prop := ∀ x ∈ zs, (∃ m : Nat, x = (m : Int) ∧ m < g.ts.length ∧ memB (nmN g.ts m) h.ts = true) ∨ (∃ m : Nat, x = -1 - (m : Int) ∧ m < g.ns.length ∧ memB (nmN g.ns m) h.ns = true)

theorem newX_t (g h : G) (m : Nat) : newX g h (m : Int) = idx h.ts (nmN g.ts m) := by
  unfold newX nmI
  rw [if_neg (by omega), Int.toNat_natCast]
theorem newX_n (g h : G) (m : Nat) : newX g h (-1 - (m : Int)) = -1 - idx h.ns (nmN g.ns m) := by
  unfold newX nmI
  rw [if_pos (by omega), show -1 - (-1 - (m : Int)) = (m : Int) by omega, Int.toNat_natCast]
theorem idx_nat {ss : List ByteArray} {s : ByteArray} (h : memB s ss = true) : ∃ k : Nat, idx ss s = (k : Int) ∧ k < ss.length := by
  rcases idx_cases ss s with ⟨_, h2⟩ | ⟨k, h1, h2, _, _⟩
  · rw [h] at h2; cases h2
  · exact ⟨k, h1, (List.getElem?_eq_some_iff.1 h2).1⟩

theorem intsA_set (l : List Int) (k : Nat) (v : Int) : (intsA l).setIfInBounds k (.int .i64 v) = intsA (l.set k v) := by
  unfold intsA
  rw [List.setIfInBounds_toArray, List.map_set]
theorem made_ints (n : Nat) : madeCells #[.int .i64 0] n = intsA (List.replicate n 0) := by
  apply Array.ext
  · simp [intsA, madeCells]
  · intro i h1 h2
    simp [intsA, madeCells, Nat.mod_one]
theorem irow_at2 {w : World} {b : Nat} {l : List Int} {t : TypeId} (h : RowAt w b t (intsA l)) : IRow w (some ⟨b, 0, none⟩) l := fun k x hx => by
  refine ⟨b, 0, rfl, ?_⟩
  rw [Nat.zero_add, h.cell (q := k) (v := .int .i64 x) (by unfold intsA; simp [hx])]
theorem list_done {zs l : List Int} {f : Int → Int} (hl : l.length = zs.length) (h : ∀ j x, j < zs.length → zs[j]? = some x → l[j]? = some (f x)) : l = zs.map f := by
  apply List.ext_getElem?
  intro j
  rw [List.getElem?_map]
  by_cases hj : j < zs.length
  · rw [List.getElem?_eq_getElem hj]
    exact h j _ hj (List.getElem?_eq_getElem hj)
  · rw [List.getElem?_eq_none (by omega), List.getElem?_eq_none (by omega)]
    rfl
theorem list_put {zs l : List Int} {f : Int → Int} {k : Nat} {x : Int} (hl : l.length = zs.length) (hx : zs[k]? = some x) (h : ∀ j y, j < k → zs[j]? = some y → l[j]? = some (f y)) : ∀ j y, j < k + 1 → zs[j]? = some y → (l.set k (f x))[j]? = some (f y) := fun j y hj hy => by
  have hk := (List.getElem?_eq_some_iff.1 hx).1
  by_cases e : j = k
  · subst e
    rw [hx] at hy
    cases hy
    rw [List.getElem?_set_self (by omega)]
  · rw [List.getElem?_set_ne (by omega)]
    exact h j y (by omega) hy

set_option maxRecDepth 100000 in
set_option maxHeartbeats 4000000 in
theorem renumbered_any (ta na ra : Option Addr) (tc nc rc : Nat) (g h : G) (b base : Nat) (nv mv nv2 mv2 rv : Value) (lq : List Q) (qa : Option Addr) (qc : Nat) (zs : List Int) (w : World) (hT : SRow w ta g.ts) (hN : SRow w na g.ns) (hBd : Build w b base h nv mv nv2 mv2 rv lq) (hI : IRow w qa zs) (hz : zs.length ≤ 32) (hkn : Known g h zs) (st : ∀ s ∈ g.ts, s.size ≤ 281474976710656) (sn : ∀ s ∈ g.ns, s.size ≤ 281474976710656) (hht : h.ts.length ≤ 64) (hhn : h.ns.length ≤ 64) (hgt : g.ts.length ≤ 60) (hgn : g.ns.length ≤ 60) :
    Calls Tryz.prog 63 #[.agg #[.slice ta g.ts.length tc, .slice na g.ns.length nc, .int .i64 g.ax, .slice ra g.rs.length rc], .slice qa zs.length qc, .pointer (some ⟨b, 0, none⟩)] w fun e w' => (∃ bb, e = .returned (.slice (some ⟨bb, 0, none⟩) zs.length zs.length) ∧ IRow w' (some ⟨bb, 0, none⟩) (zs.map (newX g h))) ∧ Below w.heap.size w w' := by
  have hmk := fun W => madeI_any zs.length (by omega) W
  have hB1 : Below w.heap.size w (w.alloc (.cells #[.slice ta g.ts.length tc, .slice na g.ns.length nc, .int .i64 g.ax, .slice ra g.rs.length rc] 25)) := (Below.refl _ _).alloc (Nat.le_refl _) _
  have hbx1 := rowNew w #[.slice ta g.ts.length tc, .slice na g.ns.length nc, .int .i64 g.ax, .slice ra g.rs.length rc] 25
  have hz1 : (w.alloc (.cells #[.slice ta g.ts.length tc, .slice na g.ns.length nc, .int .i64 g.ax, .slice ra g.rs.length rc] 25)).heap.size = w.heap.size + 1 := by simp
  go_enter Tryz.func63, Tryz.ntmps63
  go_wp2
  generalize w.alloc (.cells #[.slice ta g.ts.length tc, .slice na g.ns.length nc, .int .i64 g.ax, .slice ra g.rs.length rc] 25) = W1 at *
  have hB2 : Below (w.heap.size + 1) W1 (W1.alloc (.cells (madeCells #[.int .i64 0] zs.length) 3)) := (Below.refl _ _).alloc (by omega) _
  have hr2 : RowAt (W1.alloc (.cells (madeCells #[.int .i64 0] zs.length) 3)) (w.heap.size + 1) 3 (intsA (List.replicate zs.length 0)) := by
    have := rowNew W1 (madeCells #[.int .i64 0] zs.length) 3
    rw [hz1] at this
    rw [← made_ints]
    exact this
  generalize W1.alloc (.cells (madeCells #[.int .i64 0] zs.length) 3) = W2 at *
  clear hmk
  go_loopw [15] (fun i wr => ∃ k : Nat, k ≤ zs.length ∧ i = .int .i64 k ∧ Below (w.heap.size + 1) W1 wr ∧ ∃ l : List Int, l.length = zs.length ∧ RowAt wr (w.heap.size + 1) 3 (intsA l) ∧ Hid (∀ j x, j < k → zs[j]? = some x → l[j]? = some (newX g h x))) (fun i _ => zs.length - (intOf i).toNat)
  case atStart => exact ⟨0, by omega, rfl, hB2, List.replicate zs.length 0, by simp, hr2, fun j x hj => absurd hj (by omega)⟩
  case round =>
    clear hr2 hB2
    obtain ⟨k, hk, rfl, hBr, l, hll, hrl, hfx⟩ := hrel
    have hBw : Below w.heap.size w wr := hB1.trans (hBr.mono (by omega))
    by_cases hlt : k < zs.length
    · obtain ⟨x, hx⟩ : ∃ x, zs[k]? = some x := ⟨zs[k], List.getElem?_eq_getElem hlt⟩
      obtain ⟨qb, qo, rfl, hc⟩ := (hI.below hBw (Nat.le_refl _)) k x hx
      have hlt2 : (k : Int) < (zs.length : Int) := by omega
      have hbx := hbx1.below hBr (by omega)
      have hBd2 := hBd.below hBw
      have hput : Hid (_) := list_put hll hx hfx.out
      have hfz := hrl.frozen k
      have hce : ∃ u, wr.cell? ⟨w.heap.size + 1, k, none⟩ = some u := ⟨.int .i64 (l[k]'(by omega)), hrl.cell (q := k) (by unfold intsA; simp [List.getElem?_eq_getElem (show k < l.length by omega)])⟩
      obtain ⟨u, hu⟩ := hce
      rcases hkn x (List.mem_of_getElem? hx) with ⟨m, rfl, hm, hmem⟩ | ⟨m, rfl, hm, hmem⟩
      · obtain ⟨nb, no, hna, hs⟩ := (hT.below hBw (Nat.le_refl _)) m _ (nmN_get hm)
        subst hna
        have hm2 : (m : Int) < (g.ts.length : Int) := by omega
        have hm3 : ¬ (m : Int) < 0 := by omega
        have hm4 : decide ((m : Int) < 0) = false := by simp
        have b0 := hbx.cell (q := 0) rfl
        have hcall := bterm_hit b base h nv mv nv2 mv2 rv lq (nmN g.ts m) wr hBd2 (st _ (List.mem_of_getElem? (nmN_get hm))) (by omega) hmem
        obtain ⟨q, hq, hq2⟩ := idx_nat hmem
        have E : Hid (newX g h (m : Int) = (q : Int)) := (newX_t g h m).trans hq
        rw [hq] at hcall
        have hfin := hrl.set k (.int .i64 (q : Int))
        rw [intsA_set] at hfin
        have hB3 : Below (w.heap.size + 1) W1 (wr.setCell ⟨w.heap.size + 1, k, none⟩ (.int .i64 (q : Int))) := hBr.setCell (p := ⟨w.heap.size + 1, k, none⟩) (Nat.le_refl _) _
        clear hfx hBd2 hx hmem hq hbx hrl hBw
        generalize nmN g.ts m = nm at *
        go_wp2_with fail
        refine hcall.mono ?_
        rintro e w2 ⟨rfl, hw2⟩
        obtain rfl := hw2.symm
        clear hcall
        go_wp2
        go_roundw
        case rel => exact ⟨k + 1, by omega, by go_num, hB3, l.set k (q : Int), by simpa using hll, hfin, by rw [E.out] at hput; exact hput⟩
        case measure => simp [intOf]; omega
      · obtain ⟨nb, no, hna, hs⟩ := (hN.below hBw (Nat.le_refl _)) m _ (nmN_get hm)
        subst hna
        have hm2 : (m : Int) < (g.ns.length : Int) := by omega
        have hm3 : (-1 - (m : Int)) < 0 := by omega
        have b1 := hbx.cell (q := 1) rfl
        have hcall := fun W hW => bnonterm_hit b base h nv mv nv2 mv2 rv lq (nmN g.ns m) W hW (sn _ (List.mem_of_getElem? (nmN_get hm))) (by omega) hmem
        obtain ⟨q, hq, hq2⟩ := idx_nat hmem
        have E : Hid (newX g h (-1 - (m : Int)) = -1 - (q : Int)) := (newX_n g h m).trans (by rw [hq])
        rw [hq] at hcall
        have hn1 : ∀ W, Calls Tryz.prog 73 #[.int .i64 (-1 - (m : Int))] W fun e w' => e = .returned (.int .i64 (m : Int)) ∧ w' = W := fun W => by
          have := unonterm_any (-1 - (m : Int)) W ⟨by omega, by omega⟩
          rwa [show -1 - (-1 - (m : Int)) = (m : Int) by omega] at this
        have hn2 : ∀ W, Calls Tryz.prog 73 #[.int .i64 (q : Int)] W fun e w' => e = .returned (.int .i64 (-1 - (q : Int))) ∧ w' = W := fun W => unonterm_any (q : Int) W ⟨by omega, by omega⟩
        have hrd : RowAt wr.drew (w.heap.size + 1) 3 (intsA l) := hrl
        have hfin := hrd.set k (.int .i64 (-1 - (q : Int)))
        rw [intsA_set] at hfin
        have hBr' : Below (w.heap.size + 1) W1 wr.drew := hBr.trans ⟨rfl, rfl, rfl, Nat.le_refl _, fun _ _ => rfl⟩
        have hB3 : Below (w.heap.size + 1) W1 (wr.drew.setCell ⟨w.heap.size + 1, k, none⟩ (.int .i64 (-1 - (q : Int)))) := hBr'.setCell (p := ⟨w.heap.size + 1, k, none⟩) (Nat.le_refl _) _
        have hBd3 : Hid (Build wr.drew b base h nv mv nv2 mv2 rv lq) := hBd2.below ⟨rfl, rfl, rfl, Nat.le_refl _, fun _ _ => rfl⟩
        have d1 : wr.drew.cell? ⟨w.heap.size, 1, none⟩ = some (.slice (some ⟨nb, no, none⟩) g.ns.length nc) := b1
        have d2 : wr.drew.cell? ⟨nb, no + m, none⟩ = some (.string (nmN g.ns m)) := hs
        have hne : (⟨w.heap.size + 1, k, none⟩ : Addr).block ≠ (⟨nb, no + m, none⟩ : Addr).block := fun e => by
          have e : w.heap.size + 1 = nb := e
          rw [← e] at hs
          have h9 : wr.cell? ⟨w.heap.size + 1, no + m, none⟩ = (intsA l)[no + m]? := by
            unfold World.cell?
            rw [show wr.heap[w.heap.size + 1]? = _ from hrl]
            rfl
          rw [h9] at hs
          unfold intsA at hs
          simp at hs
        have HC : Hid (_) := hcall
        clear hfx hBd2 hx hmem hq hbx hBw hcall hs b1 hrl hBr hBr'
        generalize nmN g.ns m = nm at *
        go_wp2_with fail
        refine wp_region_noPanic ?_
        refine wp_region_held_drew (S := (fun w' => w'.cell? ⟨w.heap.size, 1, none⟩ = some (.slice (some ⟨nb, no, none⟩) g.ns.length nc) ∧ w'.cell? ⟨nb, no + m, none⟩ = some (.string nm))) (by kernel_rfl) ⟨d1, d2⟩ (fun hHeld => ?_)
        refine wpAnyH_take (i := 0) (v := .slice (some ⟨w.heap.size + 1, 0, none⟩) zs.length zs.length) rfl (by kernel_rfl) (by kernel_rfl) (by kernel_rfl) (fun _ _ _ h => h) (Or.inl ⟨by rfl, fun w9 hSw => ?_⟩) hHeld ?_
        · obtain ⟨s1, s2⟩ := hSw
          go_simp
        simp only [List.getElem_toArray, List.getElem_cons_zero, List.getElem_cons_succ, Act.put, List.setIfInBounds_toArray, List.set_cons_zero, List.set_cons_succ]
        refine wpAnyH_take (i := 1) (v := .int .i64 (k : Int)) rfl (by kernel_rfl) (by kernel_rfl) (by kernel_rfl) (fun _ _ _ h => h) (Or.inl ⟨by rfl, fun w9 hSw => ?_⟩) hHeld ?_
        · obtain ⟨s1, s2⟩ := hSw
          go_simp
        simp only [List.getElem_toArray, List.getElem_cons_zero, List.getElem_cons_succ, Act.put, List.setIfInBounds_toArray, List.set_cons_zero, List.set_cons_succ]
        refine wpAnyH_take (i := 2) (v := .pointer (some ⟨b, 0, none⟩)) rfl (by kernel_rfl) (by kernel_rfl) (by kernel_rfl) (fun _ _ _ h => h) (Or.inl ⟨by rfl, fun w9 hSw => ?_⟩) hHeld ?_
        · obtain ⟨s1, s2⟩ := hSw
          go_simp
        simp only [List.getElem_toArray, List.getElem_cons_zero, List.getElem_cons_succ, Act.put, List.setIfInBounds_toArray, List.set_cons_zero, List.set_cons_succ]
        refine wpAnyH_take (i := 3) (v := .pointer (some ⟨w.heap.size, 1, none⟩)) rfl (by kernel_rfl) (by kernel_rfl) (by kernel_rfl) (fun _ _ _ h => h) (Or.inl ⟨by rfl, fun w9 hSw => ?_⟩) hHeld ?_
        · obtain ⟨s1, s2⟩ := hSw
          go_simp
        simp only [List.getElem_toArray, List.getElem_cons_zero, List.getElem_cons_succ, Act.put, List.setIfInBounds_toArray, List.set_cons_zero, List.set_cons_succ]
        refine wpAnyH_take (i := 4) (v := .slice (some ⟨nb, no, none⟩) g.ns.length nc) rfl (by kernel_rfl) (by kernel_rfl) (by kernel_rfl) (fun _ _ _ h => h) (Or.inl ⟨by rfl, fun w9 hSw => ?_⟩) hHeld ?_
        · obtain ⟨s1, s2⟩ := hSw
          go_simp
        simp only [List.getElem_toArray, List.getElem_cons_zero, List.getElem_cons_succ, Act.put, List.setIfInBounds_toArray, List.set_cons_zero, List.set_cons_succ]
        refine wpAnyH_take (i := 5) (v := .int .i64 (-1 - (m : Int))) rfl (by kernel_rfl) (by kernel_rfl) (by kernel_rfl) (fun _ _ _ h => h) (Or.inl ⟨by rfl, fun w9 hSw => ?_⟩) hHeld ?_
        · obtain ⟨s1, s2⟩ := hSw
          go_simp
        simp only [List.getElem_toArray, List.getElem_cons_zero, List.getElem_cons_succ, Act.put, List.setIfInBounds_toArray, List.set_cons_zero, List.set_cons_succ]
        refine wpAnyH_ready (rs := [6]) (by kernel_rfl) (by simp) ?_
        refine AllReadyH.cons rfl (fun K hK => ?_) AllReadyH.nil
        go_simp
        refine (hn1 _).mono ?_
        rintro e w2 ⟨rfl, hw2⟩
        obtain rfl := hw2.symm
        refine hK.out _ _ (⟨d1, d2⟩) (fun hHeld => ?_)
        clear hK K
        refine wpAnyH_take (i := 7) (v := .pointer (some ⟨nb, no + m, none⟩)) rfl (by kernel_rfl) (by kernel_rfl) (by kernel_rfl) (fun _ _ _ h => h) (Or.inl ⟨by rfl, fun w9 hSw => ?_⟩) hHeld ?_
        · obtain ⟨s1, s2⟩ := hSw
          go_simp
        simp only [List.getElem_toArray, List.getElem_cons_zero, List.getElem_cons_succ, Act.put, List.setIfInBounds_toArray, List.set_cons_zero, List.set_cons_succ]
        refine wpAnyH_take (i := 8) (v := .string nm) rfl (by kernel_rfl) (by kernel_rfl) (by kernel_rfl) (fun _ _ _ h => h) (Or.inl ⟨by rfl, fun w9 hSw => ?_⟩) hHeld ?_
        · obtain ⟨s1, s2⟩ := hSw
          go_simp
        simp only [List.getElem_toArray, List.getElem_cons_zero, List.getElem_cons_succ, Act.put, List.setIfInBounds_toArray, List.set_cons_zero, List.set_cons_succ]
        refine wpAnyH_ready (rs := [9]) (by kernel_rfl) (by simp) ?_
        refine AllReadyH.cons rfl (fun K hK => ?_) AllReadyH.nil
        go_simp
        refine (HC.out _ hBd3.out).mono ?_
        rintro e w2 ⟨rfl, hw2⟩
        obtain rfl := hw2.symm
        refine hK.out _ _ (⟨d1, d2⟩) (fun hHeld => ?_)
        clear hK K
        refine wpAnyH_ready (rs := [10]) (by kernel_rfl) (by simp) ?_
        refine AllReadyH.cons rfl (fun K hK => ?_) AllReadyH.nil
        go_simp
        refine (hn2 _).mono ?_
        rintro e w2 ⟨rfl, hw2⟩
        obtain rfl := hw2.symm
        refine hK.out _ _ (⟨d1, d2⟩) (fun hHeld => ?_)
        clear hK K
        refine wpAnyH_take (i := 11) (v := .pointer (some ⟨w.heap.size + 1, k, none⟩)) rfl (by kernel_rfl) (by kernel_rfl) (by kernel_rfl) (fun _ _ _ h => h) (Or.inl ⟨by rfl, fun w9 hSw => ?_⟩) hHeld ?_
        · obtain ⟨s1, s2⟩ := hSw
          go_simp
        simp only [List.getElem_toArray, List.getElem_cons_zero, List.getElem_cons_succ, Act.put, List.setIfInBounds_toArray, List.set_cons_zero, List.set_cons_succ]
        refine wpAnyH_ready (rs := [12]) (by kernel_rfl) (by simp) ?_
        refine AllReadyH.cons rfl (fun K hK => ?_) AllReadyH.nil
        go_simp
        refine hK.out _ _ (⟨(World.cell?_setCell_far _ _ _ _ (show w.heap.size + 1 ≠ w.heap.size by omega)).trans d1, (World.cell?_setCell_far _ _ _ _ hne).trans d2⟩) (fun hHeld => ?_)
        clear hK K
        refine wpAnyH_done (by kernel_rfl) (NoPanic.normal ?_) _
        go_wp2
        go_roundw
        case rel => exact ⟨k + 1, by omega, by go_num, hB3, l.set k (-1 - (q : Int)), by simpa using hll, hfin, by rw [E.out] at hput; exact hput⟩
        case measure => simp [intOf]; omega
    · have E : Hid (l = zs.map (newX g h)) := list_done hll (fun j x hj => hfx.out j x (by omega))
      have hfin : Hid (IRow wr (some ⟨w.heap.size + 1, 0, none⟩) (zs.map (newX g h))) := by
        show IRow _ _ _
        rw [← E.out]
        exact irow_at2 hrl
      clear hfx E
      go_wp2
      go_ret
      exact ⟨⟨_, rfl, hfin.out⟩, hBw⟩

end Go.Proofs.YthbbipgngeflnaaGreatDoor.UsefulTrim
