/-
  Of, whole: the sets of both sides for every grammar that may be, and what is wrong with the others.
-/
import Derived.Test.YtmepnjnpfmgokaaDoorEndsWiden
import Derived.Deep.RegionHeld3
namespace Go.Proofs.YtmepnjnpfmgokaaDoor.EndsFn
open Go.RowKit Go.Proofs.YtmepnjnpfmgokaaDoor.GramMath Go.Proofs.YtmepnjnpfmgokaaDoor.GramRow Go.Proofs.YtmepnjnpfmgokaaDoor.GramCheck Go.Proofs.YtmepnjnpfmgokaaDoor.EndsMath Go.Proofs.YtmepnjnpfmgokaaDoor.GramAboveFn
set_option linter.unusedVariables false

set_option maxHeartbeats 400000 in
theorem facing_any (b : Bool) (w : World) : Calls Tryd.prog 28 #[.bool b] w fun e w' => e = .returned (.func (.func 44) #[] #[.pointer (some ⟨w.heap.size, 0, none⟩)]) ∧ w'.cell? ⟨w.heap.size, 0, none⟩ = some (.bool b) ∧ w'.heap.size = w.heap.size + 1 ∧ Below w.heap.size w w' := by
  have hB : Below w.heap.size w (w.alloc (.cells #[.bool b] 4)) := (Below.refl _ _).alloc (Nat.le_refl _) _
  go_enter Tryd.func28, Tryd.ntmps28
  go_wp2
  go_ret
  exact ⟨rfl, by simp [go_sem], by simp, hB⟩

set_option maxRecDepth 100000 in
set_option maxHeartbeats 4000000 in
theorem shownBy_any (bb : Bool) (B : Nat) (ta na ra : Option Addr) (tc nc rc : Nat) (g : G) (w : World) (hg : GoodG g) (ho : okG g) (hR : RRow w ra g.rs) (hc : w.cell? ⟨B, 0, none⟩ = some (.bool bb)) :
    Calls Tryd.prog 27 #[.agg #[.slice ta g.ts.length tc, .slice na g.ns.length nc, .int .i64 g.ax, .slice ra g.rs.length rc], .func (.func 44) #[] #[.pointer (some ⟨B, 0, none⟩)]] w fun e w' => (∃ b V, e = .returned (.slice (some ⟨b, 0, none⟩) g.ns.length g.ns.length) ∧ w.heap.size ≤ b ∧ b < w'.heap.size ∧ VRow w' b g.ns.length V ∧ IsEnds bb g V) ∧ Below w.heap.size w w' := by
  have hfew := hg.few
  have hB1 : Below w.heap.size w (w.alloc (.cells #[.slice ta g.ts.length tc, .slice na g.ns.length nc, .int .i64 g.ax, .slice ra g.rs.length rc] 25)) := (Below.refl _ _).alloc (Nat.le_refl _) _
  have hsz : (w.alloc (.cells #[.slice ta g.ts.length tc, .slice na g.ns.length nc, .int .i64 g.ax, .slice ra g.rs.length rc] 25)).heap.size = w.heap.size + 1 := by simp
  have b3 : (w.alloc (.cells #[.slice ta g.ts.length tc, .slice na g.ns.length nc, .int .i64 g.ax, .slice ra g.rs.length rc] 25)).cell? ⟨w.heap.size, 3, none⟩ = some (.slice ra g.rs.length rc) := by simp [go_sem]
  have b1 : (w.alloc (.cells #[.slice ta g.ts.length tc, .slice na g.ns.length nc, .int .i64 g.ax, .slice ra g.rs.length rc] 25)).cell? ⟨w.heap.size, 1, none⟩ = some (.slice na g.ns.length nc) := by simp [go_sem]
  have hmk := fun W => made_any g.ns.length (by omega) W
  have hR1 := hR.below hB1 (Nat.le_refl _)
  have hc1 := (hB1.cell (p := ⟨B, 0, none⟩) (cell_lt hc)).trans hc
  have hrow0 := made_row g.ns.length (w.alloc (.cells #[.slice ta g.ts.length tc, .slice na g.ns.length nc, .int .i64 g.ax, .slice ra g.rs.length rc] 25))
  have hBm : Below (w.heap.size + 1) (w.alloc (.cells #[.slice ta g.ts.length tc, .slice na g.ns.length nc, .int .i64 g.ax, .slice ra g.rs.length rc] 25)) ((w.alloc (.cells #[.slice ta g.ts.length tc, .slice na g.ns.length nc, .int .i64 g.ax, .slice ra g.rs.length rc] 25)).alloc (.cells (madeCells #[.int .u64 0] g.ns.length) 57)) := (Below.refl _ _).alloc (by omega) _
  have hsm : ((w.alloc (.cells #[.slice ta g.ts.length tc, .slice na g.ns.length nc, .int .i64 g.ax, .slice ra g.rs.length rc] 25)).alloc (.cells (madeCells #[.int .u64 0] g.ns.length) 57)).heap.size = w.heap.size + 2 := by simp
  rw [hsz] at hrow0
  clear hR hc
  go_enter Tryd.func27, Tryd.ntmps27
  go_wp2
  generalize (w.alloc (.cells #[.slice ta g.ts.length tc, .slice na g.ns.length nc, .int .i64 g.ax, .slice ra g.rs.length rc] 25)).alloc (.cells (madeCells #[.int .u64 0] g.ns.length) 57) = W2 at *
  generalize w.alloc (.cells #[.slice ta g.ts.length tc, .slice na g.ns.length nc, .int .i64 g.ax, .slice ra g.rs.length rc] 25) = W1 at *
  clear hmk
  have hV0 : VRow W2 (w.heap.size + 1) g.ns.length (fun _ => 0) := hrow0.congr (fun i _ => rfl)
  clear hrow0
  go_loopw [] (fun wr2 => ∃ V, VRow wr2 (w.heap.size + 1) g.ns.length V ∧ InvE bb g V ∧ w.heap.size + 1 < wr2.heap.size ∧ Below (w.heap.size + 1) W1 wr2) (fun wr2 => g.ns.length * 1152921504606846976 - sumV (cellN wr2 (w.heap.size + 1)) g.ns.length)
  case atStart => exact ⟨_, hV0, InvE.zero bb g, by omega, hBm⟩
  case round =>
    clear hV0 hBm
    obtain ⟨V, hrow, hinv, hbk, hB⟩ := hrel
    have c3' := (hB.cell (p := ⟨w.heap.size, 3, none⟩) (show w.heap.size < _ by omega)).trans b3
    have hwd := widen_any bb B (w.heap.size + 1) ra rc g V W1 _ hg ho hR1 hc1 (by omega) hB hbk hinv hrow
    have hs3 : Hid (sumV (cellN wr (w.heap.size + 1)) g.ns.length = sumV V g.ns.length) := sumV_congr fun i hi => cellN_row hrow i hi
    go_wp2_with fail
    refine hwd.mono ?_
    rintro e w4 ⟨⟨q, V', rfl, hrow4, hinv4, hq1, hq2⟩, hb4⟩
    have hB4 := hB.trans hb4
    have hs4 := hb4.size
    cases q with
    | true =>
      have hs5 : Hid (sumV (cellN w4 (w.heap.size + 1)) g.ns.length = sumV V' g.ns.length) := sumV_congr fun i hi => cellN_row hrow4 i hi
      have hlt4 : Hid (sumV V g.ns.length < sumV V' g.ns.length) := hq1 rfl
      have hbd : Hid (sumV V' g.ns.length ≤ g.ns.length * 1152921504606846976) := sumV_bound fun i hi => Nat.le_of_lt (ends_small hg hinv4 hi)
      clear hq1 hq2
      go_wp2
      go_roundw
      case rel => exact ⟨V', hrow4, hinv4, by omega, hB4⟩
      case measure =>
        have a1 := hs3.out
        have a2 := hs5.out
        have a3 := hlt4.out
        have a4 := hbd.out
        rw [a1, a2]
        omega
    | false =>
      have hab := ends_of hg hinv4 (hq2 rfl)
      clear hq1 hq2
      go_wp2
      go_ret
      exact ⟨⟨_, V', rfl, by omega, by omega, hrow4, hab⟩, hB1.trans (hB4.mono (by omega))⟩

theorem ck_nil {base : Nat} {p : Nat → Addr} {z : Nat × Option Nat} {w : World} {v : Value} (h : CkV base p z w v) (h0 : z.1 = 0) : v = .nilIface := by
  match z, h, h0 with
  | (0, _), h, _ => exact h
theorem ck_of_nil {base : Nat} {p : Nat → Addr} {z : Nat × Option Nat} {w : World} (h0 : z.1 = 0) : CkV base p z w .nilIface := by
  match z, h0 with
  | (0, _), _ => exact rfl
theorem ck_iface {base : Nat} {p : Nat → Addr} {z : Nat × Option Nat} {w : World} {v : Value} (h : CkV base p z w v) (h0 : z.1 ≠ 0) : ∃ t u, v = .iface t u := by
  match z, h, h0 with
  | (0, _), _, h0 => exact absurd rfl h0
  | (k + 1, none), h, _ => exact ⟨_, _, h⟩
  | (k + 1, some i), ⟨_, _, h, _⟩, _ => exact ⟨_, _, h⟩

theorem _root_.Go.Proofs.YtmepnjnpfmgokaaDoor.GramRow.CkV.far {base b i : Nat} {p : Nat → Addr} {z : Nat × Option Nat} {w : World} {v u : Value} (h : CkV base p z w v) (hB : b < base) : CkV base p z (w.setCell ⟨b, i, none⟩ u) v := by
  match z, h with
  | (0, _), h => exact h
  | (k + 1, none), h => exact h
  | (k + 1, some j), ⟨c, h1, h2, h3⟩ => exact ⟨c, h1, h2, by rw [Below.heap_setCell _ _ _ _ (show c ≠ b by omega)]; exact h3⟩

theorem _root_.Go.Proofs.YtmepnjnpfmgokaaDoor.GramAboveFn.VRow.far {w : World} {b n c i : Nat} {V : Nat → Nat} {v : Value} (h : VRow w b n V) (hne : c ≠ b) : VRow (w.setCell ⟨c, i, none⟩ v) b n V := fun j hj =>
  ⟨by rw [World.cell?_setCell_other (h := fun e => hne (by cases e; rfl))]; exact (h j hj).1, by rw [World.frozen?_setCell]; exact (h j hj).2⟩

/-- A list of sets that was answered. -/
structure SetsAt (base : Nat) (w : World) (bb : Bool) (g : G) (b : Nat) (V : Nat → Nat) : Prop where
  ge : base ≤ b
  lt : b < w.heap.size
  row : VRow w b g.ns.length V
  ends : IsEnds bb g V

theorem SetsAt.below {base : Nat} {w w' : World} {bb : Bool} {g : G} {b B : Nat} {V : Nat → Nat} (h : SetsAt base w bb g b V) (hb : Below B w w') (hB : w.heap.size ≤ B) : SetsAt base w' bb g b V :=
  ⟨h.ge, Nat.lt_of_lt_of_le h.lt hb.size, h.row.below hb (Nat.lt_of_lt_of_le h.lt hB), h.ends⟩

/-- What Of answers. -/
def OfV (base : Nat) (g : G) (w : World) (u v : Value) : Prop :=
  ((checkG g).1 = 0 ∧ ∃ bl br Vl Vr, u = .slice (some ⟨bl, 0, none⟩) g.ns.length g.ns.length ∧ v = .slice (some ⟨br, 0, none⟩) g.ns.length g.ns.length ∧ SetsAt base w false g bl Vl ∧ SetsAt base w true g br Vr ∧ bl < br) ∨
  ((checkG g).1 ≠ 0 ∧ u = .slice none 0 0 ∧ v = .slice none 0 0)

theorem drew_in (w : World) : Below w.heap.size w w.drew := ⟨rfl, rfl, rfl, Nat.le_refl _, fun _ _ => rfl⟩

set_option maxRecDepth 100000 in
set_option maxHeartbeats 4000000 in
theorem Of_top (ta na ra : Option Addr) (tc nc rc : Nat) (g : G) (p : Nat → Addr) (w : World) (hG : GRow w ta na ra g) (hg : okG g) (htc : g.ts.length ≤ tc) (hnc : g.ns.length ≤ nc) (hS : Sents w p) :
    Calls Tryd.prog 9 #[.agg #[.slice ta g.ts.length tc, .slice na g.ns.length nc, .int .i64 g.ax, .slice ra g.rs.length rc]] w fun e w' => (∃ u v x, e = .returned (.tuple #[.agg #[u, v], x]) ∧ OfV w.heap.size g w' u v ∧ CkV w.heap.size p (checkG g) w' x) ∧ Below w.heap.size w w' := by
  have hneq := neq_nil
  have hB1 : Below w.heap.size w ((w.alloc (.cells #[.slice ta g.ts.length tc, .slice na g.ns.length nc, .int .i64 g.ax, .slice ra g.rs.length rc] 25)).alloc (.cells #[.slice none 0 0, .slice none 0 0] 29)) := ((Below.refl _ _).alloc (Nat.le_refl _) _).alloc (by simp) _
  have hbg : ∀ q v, #[Value.slice ta g.ts.length tc, .slice na g.ns.length nc, .int .i64 g.ax, .slice ra g.rs.length rc][q]? = some v → ((w.alloc (.cells #[.slice ta g.ts.length tc, .slice na g.ns.length nc, .int .i64 g.ax, .slice ra g.rs.length rc] 25)).alloc (.cells #[.slice none 0 0, .slice none 0 0] 29)).cell? ⟨w.heap.size, q, none⟩ = some v := fun q v hq => Lib.cell?_alloc_some _ (by rw [← hq]; exact World.cell?_alloc_mark w _ _ _ q)
  have b0 := hbg 0 _ rfl
  have b1 := hbg 1 _ rfl
  have b2 := hbg 2 _ rfl
  have b3 := hbg 3 _ rfl
  have e0 : ((w.alloc (.cells #[.slice ta g.ts.length tc, .slice na g.ns.length nc, .int .i64 g.ax, .slice ra g.rs.length rc] 25)).alloc (.cells #[.slice none 0 0, .slice none 0 0] 29)).cell? ⟨w.heap.size + 1, 0, none⟩ = some (.slice none 0 0) := by simp [go_sem]
  have e1 : ((w.alloc (.cells #[.slice ta g.ts.length tc, .slice na g.ns.length nc, .int .i64 g.ax, .slice ra g.rs.length rc] 25)).alloc (.cells #[.slice none 0 0, .slice none 0 0] 29)).cell? ⟨w.heap.size + 1, 1, none⟩ = some (.slice none 0 0) := by simp [go_sem]
  have y0 : ((w.alloc (.cells #[.slice ta g.ts.length tc, .slice na g.ns.length nc, .int .i64 g.ax, .slice ra g.rs.length rc] 25)).alloc (.cells #[.slice none 0 0, .slice none 0 0] 29)).frozen? ⟨w.heap.size + 1, 0, none⟩ = false := by simp [go_sem]
  have y1 : ((w.alloc (.cells #[.slice ta g.ts.length tc, .slice na g.ns.length nc, .int .i64 g.ax, .slice ra g.rs.length rc] 25)).alloc (.cells #[.slice none 0 0, .slice none 0 0] 29)).frozen? ⟨w.heap.size + 1, 1, none⟩ = false := by simp [go_sem]
  have hz : ((w.alloc (.cells #[.slice ta g.ts.length tc, .slice na g.ns.length nc, .int .i64 g.ax, .slice ra g.rs.length rc] 25)).alloc (.cells #[.slice none 0 0, .slice none 0 0] 29)).heap.size = w.heap.size + 2 := by simp
  have hck := check_any ta na ra tc nc rc g p _ (hG.below hB1 (Nat.le_refl _)) hg htc hnc (hS.below hB1 (Nat.le_refl _))
  clear hbg
  go_enter Tryd.func9, Tryd.ntmps9
  go_wp2_with fail
  generalize (w.alloc (.cells #[.slice ta g.ts.length tc, .slice na g.ns.length nc, .int .i64 g.ax, .slice ra g.rs.length rc] 25)).alloc (.cells #[.slice none 0 0, .slice none 0 0] 29) = W1 at *
  refine hck.mono ?_
  rintro e w1 ⟨⟨v, rfl, hv⟩, hb1⟩
  have hB2 := hB1.trans (hb1.mono (by omega))
  have c0 := (hb1.cell (p := ⟨w.heap.size, 0, none⟩) (by rw [hz]; simp)).trans b0
  have c1 := (hb1.cell (p := ⟨w.heap.size, 1, none⟩) (by rw [hz]; simp)).trans b1
  have c2 := (hb1.cell (p := ⟨w.heap.size, 2, none⟩) (by rw [hz]; simp)).trans b2
  have c3 := (hb1.cell (p := ⟨w.heap.size, 3, none⟩) (by rw [hz]; simp)).trans b3
  have f0 := (hb1.cell (p := ⟨w.heap.size + 1, 0, none⟩) (by rw [hz]; simp)).trans e0
  have f1 := (hb1.cell (p := ⟨w.heap.size + 1, 1, none⟩) (by rw [hz]; simp)).trans e1
  have x0 := (hb1.frozen (p := ⟨w.heap.size + 1, 0, none⟩) (by rw [hz]; simp)).trans y0
  have x1 := (hb1.frozen (p := ⟨w.heap.size + 1, 1, none⟩) (by rw [hz]; simp)).trans y1
  have hWz : w.heap.size + 1 < w1.heap.size := by have := hb1.size; omega
  clear hck b0 b1 b2 b3 e0 e1 y0 y1
  by_cases h0 : (checkG g).1 = 0
  · have hgood := good_of h0
    obtain rfl := ck_nil hv h0
    have hv2 : Hid (∀ W, CkV w.heap.size p (checkG g) W .nilIface) := fun W => ck_of_nil h0
    have H0 : Hid ((checkG g).1 = 0) := h0
    have hR1 := hG.2.2.below hB2 (Nat.le_refl _)
    clear hv h0 hG
    have hd1 := drew_in w1
    go_wp2_with fail
    have hS : ∀ w', Below w1.heap.size w1 w' → (w'.cell? ⟨w.heap.size, 0, none⟩ = some (.slice ta g.ts.length tc) ∧ w'.cell? ⟨w.heap.size, 1, none⟩ = some (.slice na g.ns.length nc) ∧ w'.cell? ⟨w.heap.size, 2, none⟩ = some (.int .i64 g.ax) ∧ w'.cell? ⟨w.heap.size, 3, none⟩ = some (.slice ra g.rs.length rc)) := fun w' hb => ⟨(hb.cell (p := ⟨w.heap.size, 0, none⟩) (show w.heap.size < w1.heap.size by omega)).trans c0, (hb.cell (p := ⟨w.heap.size, 1, none⟩) (show w.heap.size < w1.heap.size by omega)).trans c1, (hb.cell (p := ⟨w.heap.size, 2, none⟩) (show w.heap.size < w1.heap.size by omega)).trans c2, (hb.cell (p := ⟨w.heap.size, 3, none⟩) (show w.heap.size < w1.heap.size by omega)).trans c3⟩
    refine wp_region_noPanic ?_
    refine wp_region_held_drew (S := (fun w' => w'.cell? ⟨w.heap.size, 0, none⟩ = some (.slice ta g.ts.length tc) ∧ w'.cell? ⟨w.heap.size, 1, none⟩ = some (.slice na g.ns.length nc) ∧ w'.cell? ⟨w.heap.size, 2, none⟩ = some (.int .i64 g.ax) ∧ w'.cell? ⟨w.heap.size, 3, none⟩ = some (.slice ra g.rs.length rc))) (by kernel_rfl) (hS _ hd1) (fun hHeld => ?_)
    refine wpAnyH_take (i := 0) (v := .agg #[.slice ta g.ts.length tc, .slice na g.ns.length nc, .int .i64 g.ax, .slice ra g.rs.length rc]) rfl (by kernel_rfl) (by kernel_rfl) (by kernel_rfl) (fun _ _ _ h => h) (Or.inl ⟨by rfl, fun w9 hSw => ?_⟩) hHeld ?_
    · obtain ⟨s0, s1, s2, s3⟩ := hSw
      go_simp
    simp only [List.getElem_toArray, List.getElem_cons_zero, Act.put, List.setIfInBounds_toArray, List.set_cons_zero, List.set_cons_succ]
    refine wpAnyH_take (i := 3) (v := .agg #[.slice ta g.ts.length tc, .slice na g.ns.length nc, .int .i64 g.ax, .slice ra g.rs.length rc]) rfl (by kernel_rfl) (by kernel_rfl) (by kernel_rfl) (fun _ _ _ h => h) (Or.inl ⟨by rfl, fun w9 hSw => ?_⟩) hHeld ?_
    · obtain ⟨s0, s1, s2, s3⟩ := hSw
      go_simp
    simp only [List.getElem_toArray, List.getElem_cons_zero, List.getElem_cons_succ, Act.put, List.setIfInBounds_toArray, List.set_cons_zero, List.set_cons_succ]
    refine wpAnyH_ready (rs := [1]) (by kernel_rfl) (by simp) ?_
    refine AllReadyH.cons rfl (fun K hK => ?_) AllReadyH.nil
    go_simp
    refine (facing_any false _).mono ?_
    rintro e w2 ⟨rfl, hc2, hz2, hb2⟩
    have hC2 := hd1.trans hb2
    refine hK.out _ _ (hS _ hC2) (fun hHeld2 => ?_)
    clear hK K hHeld
    refine wpAnyH_ready (rs := [2]) (by kernel_rfl) (by simp) ?_
    refine AllReadyH.cons rfl (fun K hK => ?_) AllReadyH.nil
    go_simp
    refine (shownBy_any false _ ta na ra tc nc rc g w2 hgood hg (hR1.below hC2 (Nat.le_refl _)) hc2).mono ?_
    rintro e w3 ⟨⟨bl, Vl, rfl, hl1, hl2, hl3, hl4⟩, hb3⟩
    have hC3 := hC2.trans (hb3.mono hC2.size)
    refine hK.out _ _ (hS _ hC3) (fun hHeld3 => ?_)
    clear hK K hHeld2
    refine wpAnyH_ready (rs := [4]) (by kernel_rfl) (by simp) ?_
    refine AllReadyH.cons rfl (fun K hK => ?_) AllReadyH.nil
    go_simp
    refine (facing_any true _).mono ?_
    rintro e w4 ⟨rfl, hc4, hz4, hb4⟩
    have hC4 := hC3.trans (hb4.mono hC3.size)
    refine hK.out _ _ (hS _ hC4) (fun hHeld4 => ?_)
    clear hK K hHeld3
    refine wpAnyH_ready (rs := [5]) (by kernel_rfl) (by simp) ?_
    refine AllReadyH.cons rfl (fun K hK => ?_) AllReadyH.nil
    go_simp
    refine (shownBy_any true _ ta na ra tc nc rc g w4 hgood hg (hR1.below hC4 (Nat.le_refl _)) hc4).mono ?_
    rintro e w5 ⟨⟨br, Vr, rfl, hr1, hr2, hr3, hr4⟩, hb5⟩
    have hC5 := hC4.trans (hb5.mono hC4.size)
    refine hK.out _ _ (hS _ hC5) (fun hHeld5 => ?_)
    clear hK K hHeld4
    refine wpAnyH_ready (rs := [6]) (by kernel_rfl) (by simp) ?_
    refine AllReadyH.cons rfl (fun K hK => ?_) AllReadyH.nil
    go_simp
    refine hK.out _ _ (hS _ hC5) (fun hHeld6 => ?_)
    clear hK K hHeld5
    have k0 := (hC5.cell (p := ⟨w.heap.size + 1, 0, none⟩) hWz).trans f0
    have k1 := (hC5.cell (p := ⟨w.heap.size + 1, 1, none⟩) hWz).trans f1
    have u0 := (hC5.frozen (p := ⟨w.heap.size + 1, 0, none⟩) hWz).trans x0
    have u1 := (hC5.frozen (p := ⟨w.heap.size + 1, 1, none⟩) hWz).trans x1
    refine wpAnyH_ready (rs := [7]) (by kernel_rfl) (by simp) ?_
    refine AllReadyH.cons rfl (fun K hK => ?_) AllReadyH.nil
    go_simp
    have hS5 := hS _ hC5
    have hne : ∀ o, (⟨w.heap.size + 1, 0, none⟩ : Addr) ≠ ⟨w.heap.size, o, none⟩ ∧ (⟨w.heap.size + 1, 1, none⟩ : Addr) ≠ ⟨w.heap.size, o, none⟩ := fun o => ⟨fun h => by have := congrArg Addr.block h; simp at this, fun h => by have := congrArg Addr.block h; simp at this⟩
    have hfar : ∀ o x y, ((w5.setCell ⟨w.heap.size + 1, 0, none⟩ x).setCell ⟨w.heap.size + 1, 1, none⟩ y).cell? ⟨w.heap.size, o, none⟩ = w5.cell? ⟨w.heap.size, o, none⟩ := fun o x y => by rw [World.cell?_setCell_other (h := (hne o).2), World.cell?_setCell_other (h := (hne o).1)]
    refine hK.out _ _ ⟨(hfar _ _ _).trans hS5.1, (hfar _ _ _).trans hS5.2.1, (hfar _ _ _).trans hS5.2.2.1, (hfar _ _ _).trans hS5.2.2.2⟩ (fun hHeld7 => ?_)
    clear hK K hHeld6
    refine wpAnyH_take (i := 8) (v := .nilIface) rfl (by kernel_rfl) (by kernel_rfl) (by kernel_rfl) (fun _ _ _ h => h) (Or.inl ⟨by rfl, fun w9 hSw => ?_⟩) hHeld7 ?_
    · obtain ⟨s0, s1, s2, s3⟩ := hSw
      go_simp
    simp only [List.getElem_toArray, List.getElem_cons_zero, List.getElem_cons_succ, Act.put, List.setIfInBounds_toArray, List.set_cons_zero, List.set_cons_succ]
    refine wpAnyH_done (by kernel_rfl) (NoPanic.normal ?_) _
    have hz3 := hb3.size
    have hz5 := hb5.size
    have hC5z := hC5.size
    have hC2z := hC2.size
    have hC4z := hC4.size
    have hlne : w.heap.size + 1 ≠ bl := by omega
    have hrne : w.heap.size + 1 ≠ br := by omega
    have hbl : VRow w5 bl g.ns.length Vl := (hl3.below hb4 (by omega)).below hb5 (by omega)
    have hO : Hid (OfV w.heap.size g ((w5.setCell ⟨w.heap.size + 1, 0, none⟩ (.slice (some ⟨bl, 0, none⟩) g.ns.length g.ns.length)).setCell ⟨w.heap.size + 1, 1, none⟩ (.slice (some ⟨br, 0, none⟩) g.ns.length g.ns.length)) (.slice (some ⟨bl, 0, none⟩) g.ns.length g.ns.length) (.slice (some ⟨br, 0, none⟩) g.ns.length g.ns.length)) :=
      .inl ⟨H0.out, bl, br, Vl, Vr, rfl, rfl, ⟨by omega, by simp; omega, (hbl.far hlne).far hlne, hl4⟩, ⟨by omega, by simp; omega, (hr3.far hrne).far hrne, hr4⟩, by omega⟩
    have hBw : Below w.heap.size w ((w5.setCell ⟨w.heap.size + 1, 0, none⟩ (.slice (some ⟨bl, 0, none⟩) g.ns.length g.ns.length)).setCell ⟨w.heap.size + 1, 1, none⟩ (.slice (some ⟨br, 0, none⟩) g.ns.length g.ns.length)) := ((hB2.trans (hC5.mono (by omega))).setCell (by simp) _).setCell (by simp) _
    have q0 : ((w5.setCell ⟨w.heap.size + 1, 0, none⟩ (.slice (some ⟨bl, 0, none⟩) g.ns.length g.ns.length)).setCell ⟨w.heap.size + 1, 1, none⟩ (.slice (some ⟨br, 0, none⟩) g.ns.length g.ns.length)).cell? ⟨w.heap.size + 1, 0, none⟩ = some (.slice (some ⟨bl, 0, none⟩) g.ns.length g.ns.length) := by simp [go_sem, k0]
    have q1 : ((w5.setCell ⟨w.heap.size + 1, 0, none⟩ (.slice (some ⟨bl, 0, none⟩) g.ns.length g.ns.length)).setCell ⟨w.heap.size + 1, 1, none⟩ (.slice (some ⟨br, 0, none⟩) g.ns.length g.ns.length)).cell? ⟨w.heap.size + 1, 1, none⟩ = some (.slice (some ⟨br, 0, none⟩) g.ns.length g.ns.length) := by simp [go_sem, k1]
    clear hfar hS hS5 hbl hl3 hr3 hR1
    generalize (w5.setCell ⟨w.heap.size + 1, 0, none⟩ (.slice (some ⟨bl, 0, none⟩) g.ns.length g.ns.length)).setCell ⟨w.heap.size + 1, 1, none⟩ (.slice (some ⟨br, 0, none⟩) g.ns.length g.ns.length) = W6 at *
    go_wp2
    refine bodyPost_ret (v := .tuple #[.agg #[.slice (some ⟨bl, 0, none⟩) g.ns.length g.ns.length, .slice (some ⟨br, 0, none⟩) g.ns.length g.ns.length], .nilIface]) (by simp [results, Tryd.results9, go_sem, q0, q1]; try rfl) rfl ?_
    exact ⟨⟨_, _, _, rfl, hO.out, hv2.out _⟩, hBw⟩
  · obtain ⟨t, u, rfl⟩ := ck_iface hv h0
    have hv2 : Hid (CkV (w.heap.size + 2) p (checkG g) w1 (.iface t u)) := hv.mono (by omega)
    have H0 : Hid ((checkG g).1 ≠ 0) := h0
    have hv3 := (hv2.out.far (b := w.heap.size + 1) (i := 0) (u := .slice none 0 0) (hB := by omega)).far (b := w.heap.size + 1) (i := 1) (u := .slice none 0 0) (hB := by omega)
    have hv4 : Hid (_) := hv3.mono (base' := w.heap.size) (by omega)
    have hBw : Below w.heap.size w ((w1.setCell ⟨w.heap.size + 1, 0, none⟩ (.slice none 0 0)).setCell ⟨w.heap.size + 1, 1, none⟩ (.slice none 0 0)) := (hB2.setCell (by simp) _).setCell (by simp) _
    have q0 : ((w1.setCell ⟨w.heap.size + 1, 0, none⟩ (.slice none 0 0)).setCell ⟨w.heap.size + 1, 1, none⟩ (.slice none 0 0)).cell? ⟨w.heap.size + 1, 0, none⟩ = some (.slice none 0 0) := by simp [go_sem, f0]
    have q1 : ((w1.setCell ⟨w.heap.size + 1, 0, none⟩ (.slice none 0 0)).setCell ⟨w.heap.size + 1, 1, none⟩ (.slice none 0 0)).cell? ⟨w.heap.size + 1, 1, none⟩ = some (.slice none 0 0) := by simp [go_sem, f1]
    clear h0 hv hv2 hv3
    go_wp2
    refine bodyPost_ret (v := .tuple #[.agg #[.slice none 0 0, .slice none 0 0], .iface t u]) (by simp [results, Tryd.results9, go_sem, q0, q1]; try rfl) rfl ?_
    exact ⟨⟨_, _, _, rfl, .inr ⟨H0.out, rfl, rfl⟩, hv4.out⟩, hBw⟩

end Go.Proofs.YtmepnjnpfmgokaaDoor.EndsFn
