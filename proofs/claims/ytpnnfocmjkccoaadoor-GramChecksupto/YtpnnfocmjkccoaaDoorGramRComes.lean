/-
  The document's own Comes: which nonterminal comes to which.
-/
import Derived.Test.YtpnnfocmjkccoaaDoorGramRCheck
import Derived.Test.YtpnnfocmjkccoaaDoorGramComesMath
import Derived.Test.YtpnnfocmjkccoaaDoorGramApart0
namespace Go.Proofs.YtpnnfocmjkccoaaDoor.GramRef
open Go.RowKit Go.Proofs.YtpnnfocmjkccoaaDoor.GramMath Go.Proofs.YtpnnfocmjkccoaaDoor.GramRow Go.Proofs.YtpnnfocmjkccoaaDoor.GramOne Go.Proofs.YtpnnfocmjkccoaaDoor.GramAboveFn Go.Proofs.YtpnnfocmjkccoaaDoor.GramApart
set_option linter.unusedVariables false

/-- Booleans in a row of their own. -/
def BRow (w : World) (b n : Nat) (S : Nat → Bool) : Prop := ∀ i, i < n → w.cell? ⟨b, i, none⟩ = some (.bool (S i)) ∧ w.frozen? ⟨b, i, none⟩ = false

theorem BRow.below {w w' : World} {b n B : Nat} {S : Nat → Bool} (h : BRow w b n S) (hb : Below B w w') (hB : b < B) : BRow w' b n S := fun i hi =>
  ⟨(hb.cell (p := ⟨b, i, none⟩) hB).trans (h i hi).1, (hb.frozen (p := ⟨b, i, none⟩) hB).trans (h i hi).2⟩

theorem BRow.set {w : World} {b n t : Nat} {S : Nat → Bool} (h : BRow w b n S) (ht : t < n) : BRow (w.setCell ⟨b, t, none⟩ (.bool true)) b n (updB S t) := fun i hi => by
  refine ⟨?_, by rw [World.frozen?_setCell]; exact (h i hi).2⟩
  by_cases e : i = t
  · subst e
    rw [updB_at]
    exact World.cell?_setCell_same (h := (h i hi).1) ..
  · rw [updB_ne _ e, World.cell?_setCell_other (h := show (⟨b, t, none⟩ : Addr) ≠ ⟨b, i, none⟩ from fun h => e (by cases h; rfl))]
    exact (h i hi).1

theorem infoBool : (Tryd.prog.info? 4).map (fun i => (i.zero, i.size, i.bytes)) = some (some (.bool false), 1, 1) := by kernel_rfl

theorem madeB_any (n : Nat) (hn : n ≤ 60) (w : World) : (Instr.makeSlice 133 (.int .i64 (n : Int)) (.int .i64 (n : Int))).run Tryd.prog w = .ok (.slice (some ⟨w.heap.size, 0, none⟩) n n) (w.alloc (.cells (madeCells #[.bool false] n) 4)) := by
  obtain ⟨i0, hi, hz0, hz1, hz2⟩ := info_parts infoBool
  have h := run_makeSlice (P := Tryd.prog) w 133 4 i0 (.bool false) Tryd.underlying133 hi hz0 .i64 .i64 (n : Int) (n : Int) (by omega) (by omega) (by rw [hz1]; omega) (by rw [hz2]; omega) (by omega)
  rw [hz1] at h
  simpa [Value.cells] using h

theorem madeB_row (n : Nat) (w : World) : BRow (w.alloc (.cells (madeCells #[.bool false] n) 4)) w.heap.size n (fun _ => false) := fun i hi => by
  refine ⟨?_, by simp⟩
  have h := World.cell?_alloc_mark w (madeCells #[.bool false] n) 4 (0, 0) i
  rw [show (w.alloc (.cells (madeCells #[.bool false] n) 4)).cell? ⟨w.heap.size, i, none⟩ = (madeCells #[.bool false] n)[i]? from h]
  rw [← Array.getElem?_toList, toList_madeCells_one, List.getElem?_replicate, if_pos hi]

theorem madeS_row (n a : Nat) (w : World) : BRow (w.alloc (.cells ((madeCells #[.bool false] n).setIfInBounds a (.bool true)) 4)) w.heap.size n (updB (fun _ => false) a) := fun i hi => by
  refine ⟨?_, by simp⟩
  have h := World.cell?_alloc_mark w ((madeCells #[.bool false] n).setIfInBounds a (.bool true)) 4 (0, 0) i
  rw [show (w.alloc (.cells ((madeCells #[.bool false] n).setIfInBounds a (.bool true)) 4)).cell? ⟨w.heap.size, i, none⟩ = ((madeCells #[.bool false] n).setIfInBounds a (.bool true))[i]? from h]
  have hz : (madeCells #[Value.bool false] n).size = n := by rw [← Array.length_toList, toList_madeCells_one]; simp
  rw [Array.getElem?_setIfInBounds]
  by_cases e : a = i
  · subst e
    rw [if_pos rfl, if_pos (by omega), updB_at]
  · rw [if_neg e, updB_ne _ (fun h => e h.symm), ← Array.getElem?_toList, toList_madeCells_one, List.getElem?_replicate, if_pos hi]

theorem own_set {w : World} {base : Nat} {e : TypeId} {size n b o : Nat} {v u : Value} {xs : List Value} (h : w.ownsRow base e size v n xs) (hb : b < base) : (w.setCell ⟨b, o, none⟩ u).ownsRow base e size v n xs := by
  obtain ⟨h1, h | ⟨g, cap, cur, hv, hbb, hg, rest⟩⟩ := h
  · exact ⟨h1, .inl h⟩
  · exact ⟨h1, .inr ⟨g, cap, cur, hv, hbb, by rw [Below.heap_setCell _ _ _ _ (show g ≠ b by omega)]; exact hg, rest⟩⟩

def numV (x : Nat) : Value := .int .i64 (x : Int)

theorem own_one (w : World) (base x : Nat) (hb : base ≤ w.heap.size) : (w.alloc (.cells #[.int .i64 (x : Int)] 3)).ownsRow base 3 1 (.slice (some ⟨w.heap.size, 0, none⟩) 1 1) 1 ([x].map numV) :=
  ⟨rfl, .inr ⟨w.heap.size, 1, #[.int .i64 (x : Int)], rfl, hb, heap_new _ _, Nat.le_refl _, by decide, rfl, rfl⟩⟩

theorem own_get {w : World} {base g c : Nat} {T : List Nat} (h : w.ownsRow base 3 1 (.slice (some ⟨g, 0, none⟩) T.length c) T.length (T.map numV)) {i x : Nat} (hx : T[i]? = some x) : w.cell? ⟨g, i, none⟩ = some (.int .i64 (x : Int)) := by
  have hi := (List.getElem?_eq_some_iff.1 hx).1
  rw [h.cellAt i (by omega), List.getElem?_map, hx]
  rfl

set_option maxRecDepth 100000 in
set_option maxHeartbeats 1000000 in
theorem rcomes_any (ta na ra : Option Addr) (tc nc rc : Nat) (g : G) (a b : Nat) (w : World) (hR : RRow w ra g.rs) (ho : okG g) (hg : GoodG g) (ha : a < g.ns.length) (hb : b < g.ns.length) :
    Calls Tryd.prog 72 #[.agg #[.slice ta g.ts.length tc, .slice na g.ns.length nc, .int .i64 g.ax, .slice ra g.rs.length rc], .int .i64 (a : Int), .int .i64 (b : Int)] w fun e w' => e = .returned (.bool (comesB g a b)) ∧ Below w.heap.size w w' := by
  obtain ⟨g1, g2, g3, _, g5, _⟩ := id ho
  have hfew := hg.few
  have n60 : g.ns.length ≤ 60 := by omega
  have hrules := hg.rules
  obtain ⟨i0, hi, hz0, hz1, hz2⟩ := info_parts GramLent.infoI
  have hB1 : Below w.heap.size w (w.alloc (.cells #[.slice ta g.ts.length tc, .slice na g.ns.length nc, .int .i64 g.ax, .slice ra g.rs.length rc] 25)) := (Below.refl _ _).alloc (Nat.le_refl _) _
  have b1 : (w.alloc (.cells #[.slice ta g.ts.length tc, .slice na g.ns.length nc, .int .i64 g.ax, .slice ra g.rs.length rc] 25)).cell? ⟨w.heap.size, 1, none⟩ = some (.slice na g.ns.length nc) := by simp [go_sem]
  have b3 : (w.alloc (.cells #[.slice ta g.ts.length tc, .slice na g.ns.length nc, .int .i64 g.ax, .slice ra g.rs.length rc] 25)).cell? ⟨w.heap.size, 3, none⟩ = some (.slice ra g.rs.length rc) := by simp [go_sem]
  have hz : (w.alloc (.cells #[.slice ta g.ts.length tc, .slice na g.ns.length nc, .int .i64 g.ax, .slice ra g.rs.length rc] 25)).heap.size = w.heap.size + 1 := by simp
  have hR1 := hR.below hB1 (Nat.le_refl _)
  have hmk := fun W => madeB_any g.ns.length n60 W
  have ha2 : (a : Int) < (g.ns.length : Int) := by omega
  have hb2 : (b : Int) < (g.ns.length : Int) := by omega
  have hz2 : ((w.alloc (.cells #[.slice ta g.ts.length tc, .slice na g.ns.length nc, .int .i64 g.ax, .slice ra g.rs.length rc] 25)).alloc (.cells ((madeCells #[.bool false] g.ns.length).setIfInBounds a (.bool true)) 4)).heap.size = w.heap.size + 2 := by simp
  have hrow2 : BRow (((w.alloc (.cells #[.slice ta g.ts.length tc, .slice na g.ns.length nc, .int .i64 g.ax, .slice ra g.rs.length rc] 25)).alloc (.cells ((madeCells #[.bool false] g.ns.length).setIfInBounds a (.bool true)) 4)).alloc (.cells #[.int .i64 (a : Int)] 3)) (w.heap.size + 1) g.ns.length (updB (fun _ => false) a) := by
    have h1 := (madeS_row g.ns.length a (w.alloc (.cells #[.slice ta g.ts.length tc, .slice na g.ns.length nc, .int .i64 g.ax, .slice ra g.rs.length rc] 25))).below ((Below.refl (w.heap.size + 2) _).alloc (Nat.le_of_eq hz2.symm) (.cells #[.int .i64 (a : Int)] 3)) (by omega)
    rw [hz] at h1
    exact h1
  have hown2 : (((w.alloc (.cells #[.slice ta g.ts.length tc, .slice na g.ns.length nc, .int .i64 g.ax, .slice ra g.rs.length rc] 25)).alloc (.cells ((madeCells #[.bool false] g.ns.length).setIfInBounds a (.bool true)) 4)).alloc (.cells #[.int .i64 (a : Int)] 3)).ownsRow (w.heap.size + 2) 3 1 (.slice (some ⟨w.heap.size + 2, 0, none⟩) 1 1) 1 ([a].map numV) := by
    have h1 := own_one ((w.alloc (.cells #[.slice ta g.ts.length tc, .slice na g.ns.length nc, .int .i64 g.ax, .slice ra g.rs.length rc] 25)).alloc (.cells ((madeCells #[.bool false] g.ns.length).setIfInBounds a (.bool true)) 4)) (w.heap.size + 2) a (Nat.le_of_eq hz2.symm)
    rw [hz2] at h1
    exact h1
  have hB2 : Below (w.heap.size + 1) (w.alloc (.cells #[.slice ta g.ts.length tc, .slice na g.ns.length nc, .int .i64 g.ax, .slice ra g.rs.length rc] 25)) (((w.alloc (.cells #[.slice ta g.ts.length tc, .slice na g.ns.length nc, .int .i64 g.ax, .slice ra g.rs.length rc] 25)).alloc (.cells ((madeCells #[.bool false] g.ns.length).setIfInBounds a (.bool true)) 4)).alloc (.cells #[.int .i64 (a : Int)] 3)) := ((Below.refl _ _).alloc (by omega) _).alloc (by omega) _
  have hmc : (madeCells #[Value.bool false] g.ns.length)[a]? = some (.bool false) := by
    rw [← Array.getElem?_toList, toList_madeCells_one, List.getElem?_replicate, if_pos ha]
  have hzE : w.heap.size + 1 < (((w.alloc (.cells #[.slice ta g.ts.length tc, .slice na g.ns.length nc, .int .i64 g.ax, .slice ra g.rs.length rc] 25)).alloc (.cells ((madeCells #[.bool false] g.ns.length).setIfInBounds a (.bool true)) 4)).alloc (.cells #[.int .i64 (a : Int)] 3)).heap.size := by simp
  clear hz2
  go_enter Tryd.func72, Tryd.ntmps72
  go_wp2
  generalize (((w.alloc (.cells #[.slice ta g.ts.length tc, .slice na g.ns.length nc, .int .i64 g.ax, .slice ra g.rs.length rc] 25)).alloc (.cells ((madeCells #[.bool false] g.ns.length).setIfInBounds a (.bool true)) 4)).alloc (.cells #[.int .i64 (a : Int)] 3)) = W3 at *
  generalize (w.alloc (.cells #[.slice ta g.ts.length tc, .slice na g.ns.length nc, .int .i64 g.ax, .slice ra g.rs.length rc] 25)) = W1 at *
  clear hmk hmc
  go_loopw [8, 9] (fun td i wr => ∃ (k gT cT : Nat) (S : Nat → Bool) (T : List Nat), k ≤ T.length ∧ i = .int .i64 k ∧ td = .slice (some ⟨gT, 0, none⟩) T.length cT ∧ wr.ownsRow (w.heap.size + 2) 3 1 td T.length (T.map numV) ∧ BRow wr (w.heap.size + 1) g.ns.length S ∧ Bfs g a S T ∧ Hid (Through g S T k) ∧ w.heap.size + 1 < wr.heap.size ∧ Below (w.heap.size + 1) W1 wr) (fun _ i _ => g.ns.length - (intOf i).toNat)
  case atStart => exact ⟨0, w.heap.size + 2, 1, _, [a], by simp, rfl, rfl, hown2, hrow2, bfs_start ha, Through.zero _ _ _, hzE, hB2⟩
  case round =>
    clear hown2 hrow2 hB2 hzE
    obtain ⟨i, gT, cT, S, T, hiT, rfl, rfl, hown, hrow, hbf, hth, hzr, hB⟩ := hrel
    have hsm := hbf.small
    have hszr := hB.size
    by_cases hlt : i < T.length
    · obtain ⟨x, hx⟩ : ∃ x, T[i]? = some x := ⟨T[i], List.getElem?_eq_getElem hlt⟩
      have hlt2 : (i : Int) < (T.length : Int) := by omega
      go_wp2
      go_loopw [8, 10] (fun td j wr => ∃ (k gT cT : Nat) (S : Nat → Bool) (T : List Nat), k ≤ g.rs.length ∧ i < T.length ∧ j = .int .i64 k ∧ td = .slice (some ⟨gT, 0, none⟩) T.length cT ∧ wr.ownsRow (w.heap.size + 2) 3 1 td T.length (T.map numV) ∧ BRow wr (w.heap.size + 1) g.ns.length S ∧ Bfs g a S T ∧ Hid (Through g S T i ∧ Out g S x k ∧ T[i]? = some x) ∧ w.heap.size + 1 < wr.heap.size ∧ Below (w.heap.size + 1) W1 wr) (fun _ j _ => g.rs.length - (intOf j).toNat)
      case atStart => exact ⟨0, gT, cT, S, T, by omega, hlt, rfl, rfl, hown, hrow, hbf, ⟨hth.out, Out.zero _ _ _, hx⟩, hzr, hB⟩
      case round =>
        clear hown hrow hbf hth hzr hB hiT hlt hlt2 hx hsm hszr
        obtain ⟨k, gT2, cT2, S2, T2, hk, hiT, rfl, rfl, hown, hrow, hbf, hQ, hzr, hB⟩ := hrel
        have hsm := hbf.small
        have hszr := hB.size
        have c3 := (hB.cell (p := ⟨w.heap.size, 3, none⟩) (by simp)).trans b3
        have hRk := hR1.below hB (by omega)
        by_cases hkl : k < g.rs.length
        · obtain ⟨r, hr⟩ : ∃ r, g.rs[k]? = some r := ⟨g.rs[k], List.getElem?_eq_getElem hkl⟩
          obtain ⟨b4, off, qa, qc, hra, d0, d1, hI⟩ := hRk k r hr
          subst hra
          have hkl2 : (k : Int) < (g.rs.length : Int) := by omega
          have hit2 : (i : Int) < (T2.length : Int) := by omega
          have hrm := List.mem_of_getElem? hr
          have hok := g5 r hrm
          have hren := rren_any qa qc r wr hI hok
          have dlt := cell_lt d0
          dsimp only at dlt
          have hstep : ∀ w2, Below wr.heap.size wr w2 → w2.cell? ⟨w.heap.size, 3, none⟩ = some (.slice (some ⟨b4, off, none⟩) g.rs.length rc) ∧ w2.cell? ⟨b4, off + k * 2, none⟩ = some (.int .i64 r.left) ∧ w2.ownsRow (w.heap.size + 2) 3 1 (.slice (some ⟨gT2, 0, none⟩) T2.length cT2) T2.length (T2.map numV) ∧ BRow w2 (w.heap.size + 1) g.ns.length S2 ∧ w.heap.size + 1 < w2.heap.size ∧ Below (w.heap.size + 1) W1 w2 := fun w2 hb2 => ⟨(hb2.cell (p := ⟨w.heap.size, 3, none⟩) (show w.heap.size < _ by omega)).trans c3, (hb2.cell dlt).trans d0, GramApart.own_below hown hb2, hrow.below hb2 hzr, by have := hb2.size; omega, hB.trans (hb2.mono (by omega))⟩
          clear hI hRk hown hrow hB
          have hstep2 : Hid (_) := hstep
          clear hstep
          cases hrb : renB r with
          | false =>
            rw [hrb, ren_false hrb] at hren
            have hQ2 : Hid (Through g S2 T2 i ∧ Out g S2 x (k + 1) ∧ T2[i]? = some x) := ⟨hQ.out.1, hQ.out.2.1.next hr (fun h => by rw [hrb] at h; cases h), hQ.out.2.2⟩
            clear hQ hr hrb
            go_wp2_with fail
            refine hren.mono ?_
            rintro e w2 ⟨rfl, hb2⟩
            obtain ⟨k3, k0, hown, hrow, hz3, hB3⟩ := hstep2.out w2 hb2
            go_wp2
            go_quiet (fail)
            go_wp2
            go_roundw
            case rel => exact ⟨k + 1, gT2, cT2, S2, T2, by omega, hiT, by go_num, rfl, hown, hrow, hbf, hQ2, hz3, bdrew hB3 _⟩
            case measure => simp [intOf]; omega
          | true =>
            obtain ⟨_, h2, h3, h4⟩ := ruleK_ok (hg.each r hrm)
            obtain ⟨y, hy, hy0, hyn⟩ := ren_true hrb
            have h5 := h4 y (by rw [hy]; simp)
            obtain ⟨t, ht⟩ : ∃ t : Nat, renN r = (t : Int) := ⟨(renN r).toNat, by omega⟩
            have htn : t < g.ns.length := by omega
            have htn2 : (t : Int) < (g.ns.length : Int) := by omega
            rw [hrb, ht] at hren
            clear h4 hy
            by_cases hl : r.left = (x : Int)
            · have hlH : Hid (r.left = (x : Int)) := hl
              rw [hl] at hren d0
              clear hl
              cases hst : S2 t with
              | true =>
                have hQ2 : Hid (Through g S2 T2 i ∧ Out g S2 x (k + 1) ∧ T2[i]? = some x) := ⟨hQ.out.1, hQ.out.2.1.next hr (fun _ _ => by rw [ht, Int.toNat_natCast]; exact hst), hQ.out.2.2⟩
                have hxi := hQ.out.2.2
                have hxc : ∀ w2 : World, w2.ownsRow (w.heap.size + 2) 3 1 (.slice (some ⟨gT2, 0, none⟩) T2.length cT2) T2.length (T2.map numV) → w2.cell? ⟨gT2, i, none⟩ = some (.int .i64 (x : Int)) := fun w2 h => own_get h hxi
                clear hQ hr hrb hxi
                go_wp2_with fail
                refine hren.mono ?_
                rintro e w2 ⟨rfl, hb2⟩
                obtain ⟨k3, k0, hown, hrow, hz3, hB3⟩ := hstep2.out w2 hb2
                have kx := hxc w2 hown
                have ks := (hrow t htn).1
                rw [hst] at ks
                rw [hlH.out] at k0
                clear hxc hst
                go_wp2
                go_quiet (fail)
                go_wp2
                go_roundw
                case rel => exact ⟨k + 1, gT2, cT2, S2, T2, by omega, hiT, by go_num, rfl, hown, hrow, hbf, hQ2, hz3, bdrew hB3 _⟩
                case measure => simp [intOf]; omega
              | false =>
                have hxi := hQ.out.2.2
                have hxm := List.mem_of_getElem? hxi
                have hrn : Ren g x t := ⟨r, hrm, hrb, hlH.out, ht⟩
                have hbf2 := hbf.add htn hst hxm hrn
                have hQ2 : Hid (Through g (updB S2 t) (T2 ++ [t]) i ∧ Out g (updB S2 t) x (k + 1) ∧ (T2 ++ [t])[i]? = some x) := ⟨hQ.out.1.add (by omega) t, (hQ.out.2.1.up t).next hr (fun _ _ => by rw [ht, Int.toNat_natCast]; exact updB_at _ _), by rw [List.getElem?_append_left hiT]; exact hxi⟩
                have hxc : ∀ w2 : World, w2.ownsRow (w.heap.size + 2) 3 1 (.slice (some ⟨gT2, 0, none⟩) T2.length cT2) T2.length (T2.map numV) → w2.cell? ⟨gT2, i, none⟩ = some (.int .i64 (x : Int)) := fun w2 h => own_get h hxi
                clear hQ hr hrb hxi hxm hrn
                go_wp2_with fail
                refine hren.mono ?_
                rintro e w2 ⟨rfl, hb2⟩
                obtain ⟨k3, k0, hown, hrow, hz3, hB3⟩ := hstep2.out w2 hb2
                have kx := hxc w2 hown
                have ks := (hrow t htn).1
                have kf := (hrow t htn).2
                rw [hst] at ks
                rw [hlH.out] at k0
                clear hxc hst
                have hown9 : ∀ q, ((w2.drewN q).setCell ⟨w.heap.size + 1, t, none⟩ (.bool true)).ownsRow (w.heap.size + 2) 3 1 (.slice (some ⟨gT2, 0, none⟩) T2.length cT2) T2.length (T2.map numV) := fun q => own_set (show (w2.drewN q).ownsRow (w.heap.size + 2) 3 1 (.slice (some ⟨gT2, 0, none⟩) T2.length cT2) T2.length (T2.map numV) from hown) (by omega)
                have hrow9 : ∀ q, BRow ((w2.drewN q).setCell ⟨w.heap.size + 1, t, none⟩ (.bool true)) (w.heap.size + 1) g.ns.length (updB S2 t) := fun q => BRow.set (show BRow (w2.drewN q) (w.heap.size + 1) g.ns.length S2 from hrow) htn
                have hB9 : ∀ q, Below (w.heap.size + 1) W1 ((w2.drewN q).setCell ⟨w.heap.size + 1, t, none⟩ (.bool true)) := fun q => (bdrew hB3 q).setCell (Nat.le_refl _) _
                have hz9 : ∀ q, w.heap.size + 1 < ((w2.drewN q).setCell ⟨w.heap.size + 1, t, none⟩ (.bool true)).heap.size := fun q => by simpa using hz3
                have hc9 : ∀ q, ∀ (j : Nat) u, [Value.int .i64 (t : Int)][j]? = some u → (((w2.drewN q).setCell ⟨w.heap.size + 1, t, none⟩ (.bool true)).alloc (.cells #[.int .i64 (t : Int)] 3)).cell? ((⟨w2.heap.size, 0, none⟩ : Addr).add j) = some u := fun q j u hj => by
                  have h := cell_one_new ((w2.drewN q).setCell ⟨w.heap.size + 1, t, none⟩ (.bool true)) (.int .i64 (t : Int)) 3 j u hj
                  have e : ((w2.drewN q).setCell ⟨w.heap.size + 1, t, none⟩ (.bool true)).heap.size = w2.heap.size := by simp
                  rw [e] at h
                  exact h
                clear hown hrow
                go_wp2
                go_quiet (fail)
                go_wp2_with (at_builtin; refine wpList_append_own _ rfl (.tmp 68) (.tmp 70) 43 rfl (w.heap.size + 2) 3 i0 (.int .i64 0) 1 8 Tryd.underlying43 hi hz0 hz1 hz2 rfl (by decide) _ _ _ rfl ((hown9 _).alloc _) ⟨w2.heap.size, 0, none⟩ 1 1 [.int .i64 (t : Int)] rfl rfl (hc9 _) (by simp [Value.oneCell']) (by unfold maxLen; omega) (by omega) (by simp; omega) ?_; intro v2 w4 hown2 hgrow2 _)
                obtain ⟨g4, c4, rfl⟩ := ownsRow_succ hown2
                have O2 : w4.ownsRow (w.heap.size + 2) 3 1 (.slice (some ⟨g4, 0, none⟩) (T2.length + 1) c4) (T2 ++ [t]).length ((T2 ++ [t]).map numV) := by
                  rw [List.length_append, List.map_append]
                  exact hown2
                have B5 := ((Below.refl (w.heap.size + 2) ((w2.drewN nq).setCell ⟨w.heap.size + 1, t, none⟩ (.bool true))).alloc (show w.heap.size + 2 ≤ _ from hz9 nq) _).grown hgrow2 (by simp; omega) (fun j hj => ((hown9 nq).lt j hj).1)
                have R2 := (hrow9 nq).below B5 (by omega)
                have B2 := (hB9 nq).trans (B5.mono (by omega))
                have Z2 := B5.size
                have Z3 := hz9 nq
                clear hown2 hgrow2 hown9 hrow9 hB9 hz9 B5 hc9
                go_roundw
                case rel => exact ⟨k + 1, g4, c4, updB S2 t, T2 ++ [t], by omega, by simp; omega, by go_num, by simp, O2, R2, hbf2, hQ2, by omega, B2⟩
                case measure => simp [intOf]; omega
            · have hl1 : (r.left == (x : Int)) = false := by simpa using hl
              have hQ2 : Hid (Through g S2 T2 i ∧ Out g S2 x (k + 1) ∧ T2[i]? = some x) := ⟨hQ.out.1, hQ.out.2.1.next hr (fun _ h => absurd h hl), hQ.out.2.2⟩
              have hxi := hQ.out.2.2
              have hxc : ∀ w2 : World, w2.ownsRow (w.heap.size + 2) 3 1 (.slice (some ⟨gT2, 0, none⟩) T2.length cT2) T2.length (T2.map numV) → w2.cell? ⟨gT2, i, none⟩ = some (.int .i64 (x : Int)) := fun w2 h => own_get h hxi
              clear hQ hr hrb hxi hl
              go_wp2_with fail
              refine hren.mono ?_
              rintro e w2 ⟨rfl, hb2⟩
              obtain ⟨k3, k0, hown, hrow, hz3, hB3⟩ := hstep2.out w2 hb2
              have kx := hxc w2 hown
              clear hxc
              go_wp2
              go_quiet (fail)
              go_wp2
              go_roundw
              case rel => exact ⟨k + 1, gT2, cT2, S2, T2, by omega, hiT, by go_num, rfl, hown, hrow, hbf, hQ2, hz3, bdrew hB3 _⟩
              case measure => simp [intOf]; omega
        · have hQ2 : Hid (Through g S2 T2 (i + 1)) := by
            obtain rfl : k = g.rs.length := by omega
            exact hQ.out.1.next hQ.out.2.2 hQ.out.2.1
          have hnl : ¬ (k : Int) < (g.rs.length : Int) := by omega
          clear hQ hRk
          go_wp2
          go_roundw
          case rel => exact ⟨i + 1, gT2, cT2, S2, T2, by omega, by go_num, rfl, hown, hrow, hbf, hQ2, hzr, hB⟩
          case measure => simp [intOf]; omega
    · obtain rfl : i = T.length := by omega
      have E : Hid (S b = comesB g a b) := hbf.done hg hth.out hb
      have kb := (hrow b hb).1
      have hBw : Below w.heap.size w wr := hB1.trans (hB.mono (by omega))
      have hnl : ¬ (T.length : Int) < (T.length : Int) := by omega
      clear hth
      go_wp2
      go_ret
      exact ⟨ret_bool E.out, hBw⟩

end Go.Proofs.YtpnnfocmjkccoaaDoor.GramRef
