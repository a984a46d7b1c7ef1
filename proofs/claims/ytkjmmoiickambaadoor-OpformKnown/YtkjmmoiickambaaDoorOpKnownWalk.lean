/-
  The walk of OpformKnown: it answers true, and writes nothing that was there.
-/
import Derived.Test.YtkjmmoiickambaaDoorOpAwake
import Derived.Test.YtkjmmoiickambaaDoorOpFaults
import Derived.Test.YtkjmmoiickambaaDoorOpTermsUse
namespace Go.Proofs.YtkjmmoiickambaaDoor.OpKnownW
open Go.RowKit Go.Proofs.YtkjmmoiickambaaDoor.GramMath Go.Proofs.YtkjmmoiickambaaDoor.GramRow Go.Proofs.YtkjmmoiickambaaDoor.GramOne Go.Proofs.YtkjmmoiickambaaDoor.GramApart Go.Proofs.YtkjmmoiickambaaDoor.GramLent Go.Proofs.YtkjmmoiickambaaDoor.GramErrs Go.Proofs.YtkjmmoiickambaaDoor.GramSame Go.Proofs.YtkjmmoiickambaaDoor.OpRow Go.Proofs.YtkjmmoiickambaaDoor.OpTerms Go.Proofs.YtkjmmoiickambaaDoor.OpSkel Go.Proofs.YtkjmmoiickambaaDoor.OpFault Go.Proofs.YtkjmmoiickambaaDoor.OpCheck
set_option linter.unusedVariables false
attribute [local go_sem] Oper.semAt_some

/-- Places and terminals of the first k symbols, in a row. -/
def gotT (zs : List Int) : Nat → List Int
  | 0 => []
  | k + 1 => gotT zs k ++ if 0 ≤ zs.getD k 0 then [(k : Int), zs.getD k 0] else []
theorem gotT_len (zs : List Int) : ∀ k, (gotT zs k).length ≤ 2 * k
  | 0 => Nat.le_refl _
  | k + 1 => by
    have := gotT_len zs k
    unfold gotT
    rw [List.length_append]
    split <;> simp <;> omega

theorem g3 : opG (oneG [[0, -1, 1], [-1], []]) = (4, some 2) := by decide
theorem g4 : opG (oneG [[5], []]) = (1, some 0) := by decide
theorem rz1 (i : Nat) : ruleZ (1, some i) = (i : Int) := rfl
theorem f3 : fG (oneG [[-1, -1, -1], []]) = [(0, 1), (0, 2), (1, 0)] := by decide
theorem got4 : gotT [-3, 0, -1, 1] 4 = [1, 0, 3, 1] := by decide

theorem made40 (w : World) : (Instr.makeSlice 43 (.int .i64 40) (.int .i64 40)).run Tryd.prog w = .ok (.slice (some ⟨w.heap.size, 0, none⟩) 40 40) (w.alloc (.cells (madeCells #[.int .i64 0] 40) 3)) := madeI_any 40 (by omega) w

def long40 : List Int := (List.replicate 40 0).set 7 (-9)
theorem made_eq (n : Nat) : madeCells #[Value.int .i64 0] n = intsA (List.replicate n 0) := by
  unfold intsA
  rw [List.map_replicate, ← toList_madeCells_one]
theorem e40 : (madeCells #[Value.int .i64 0] 40).setIfInBounds 7 (.int .i64 (-9)) = intsA long40 := by rw [made_eq, intsA_set]; rfl
theorem skel40 : skel long40 = (List.replicate 40 0).set 7 (-1) := by decide

set_option maxRecDepth 100000 in
set_option maxHeartbeats 8000000 in
theorem walk (p : Nat → Addr) (w : World) (hE : Errs w p) (hT : ErrType w) :
    Calls Tryd.prog 5 #[] w fun e w' => e = .returned (.bool true) ∧ Below w.heap.size w w' := by
  refine (callsIn_wide (n := 6)).1 ?_
  have heq := fun W => eq2 4 2 W
  have heq2 := fun W => eq2 1 0 W
  have hmk := made40
  obtain ⟨i0, hi, hz0, hz1, hz2⟩ := info_parts infoI
  have hB1 : Below w.heap.size w ((w.alloc (.cells #[.int .i64 (-1), .int .i64 (-1), .int .i64 (-1)] 3)).alloc (.cells #[.slice (some ⟨w.heap.size, 0, none⟩) 3 3, .slice none 0 0] 43)) := ((Below.refl _ _).alloc (Nat.le_refl _) _).alloc (by simp) _
  have hL1 : LRow ((w.alloc (.cells #[.int .i64 (-1), .int .i64 (-1), .int .i64 (-1)] 3)).alloc (.cells #[.slice (some ⟨w.heap.size, 0, none⟩) 3 3, .slice none 0 0] 43)) (some ⟨w.heap.size + 1, 0, none⟩) [[-1, -1, -1], []] :=
    lrow2 rfl (qa := some ⟨w.heap.size, 0, none⟩) (ca := 3) (by simp [go_sem]) (GramAwake.three_int (by simp [go_sem]) (by simp [go_sem]) (by simp [go_sem])) (qb := none) (cb := 0) (by simp [go_sem]) (irow_nil _)
  have ho1 := one_any (some ⟨w.heap.size + 1, 0, none⟩) 2 [[-1, -1, -1], []] _ hL1 (by decide)
  refine callsIn_of_wp_marks Tryd.func5 rfl trivial ?_ rfl
  simp only [Tryd.ntmps5, List.size_toArray, List.length_nil, Nat.reduceSub, Array.replicate_succ, Array.replicate_zero, List.push_toArray, List.append_toArray, List.nil_append, List.cons_append]
  gi_wp2_with fail
  refine ⟨trivial, (callsIn_wide.2 ho1).mono ?_⟩
  rintro e w1 ⟨⟨ta, na, ra, rc, rfl, hG1⟩, hb1⟩
  have hB2 := hB1.trans (hb1.mono hB1.size)
  have hfa := faults_any ta na ra 2 1 rc (oneG [[-1, -1, -1], []]) w1 hG1.2.2 (by decide) (by decide) (by rw [f3]; decide)
  rw [f3] at hfa
  clear ho1 hL1 hB1 hb1
  gi_wp2_with fail
  refine ⟨trivial, (callsIn_wide.2 hfa).mono ?_⟩
  rintro e w2 ⟨⟨v, rfl, ho⟩, hb2⟩
  obtain ⟨g, cap, rfl⟩ := ownsRow_succ (k := 2) ho
  have hB3 := hB2.trans (hb2.mono hB2.size)
  have hl0 := ho.cellAt 0 (by decide)
  have hl1 := ho.cellAt 1 (by decide)
  have hl2 := ho.cellAt 2 (by decide)
  have hl3 := ho.cellAt 3 (by decide)
  have hl4 := ho.cellAt 4 (by decide)
  have hl5 := ho.cellAt 5 (by decide)
  have hgl := (ho.lt g rfl).2
  have l0 : w2.cell? ⟨g, 0, none⟩ = some (.int .i64 0) := hl0
  have l1 : w2.cell? ⟨g, 1, none⟩ = some (.int .i64 1) := hl1
  have l2 : w2.cell? ⟨g, 2, none⟩ = some (.int .i64 0) := hl2
  have l3 : w2.cell? ⟨g, 3, none⟩ = some (.int .i64 2) := hl3
  have l4 : w2.cell? ⟨g, 4, none⟩ = some (.int .i64 1) := hl4
  have l5 : w2.cell? ⟨g, 5, none⟩ = some (.int .i64 0) := hl5
  have haw := opawake_any p w2 (hE.below hB3 (Nat.le_refl _)) (hT.below hB3 (Nat.le_refl _))
  clear hfa hG1 hB2 hb2 ho hl0 hl1 hl2 hl3 hl4 hl5
  gi_wp2_with fail
  refine ⟨trivial, (callsIn_wide.2 haw).mono ?_⟩
  rintro e w3 ⟨rfl, hb3⟩
  have l0 := (hb3.cell (p := ⟨g, 0, none⟩) hgl).trans l0
  have l1 := (hb3.cell (p := ⟨g, 1, none⟩) hgl).trans l1
  have l2 := (hb3.cell (p := ⟨g, 2, none⟩) hgl).trans l2
  have l3 := (hb3.cell (p := ⟨g, 3, none⟩) hgl).trans l3
  have l4 := (hb3.cell (p := ⟨g, 4, none⟩) hgl).trans l4
  have l5 := (hb3.cell (p := ⟨g, 5, none⟩) hgl).trans l5
  have hgl3 : g < w3.heap.size := Nat.lt_of_lt_of_le hgl hb3.size
  have hB4 := hB3.trans (hb3.mono hB3.size)
  clear haw hb3 hB3 hgl
  have hB5 : Below w3.heap.size w3 (((w3.alloc (.cells #[.int .i64 0, .int .i64 (-1), .int .i64 1] 3)).alloc (.cells #[.int .i64 (-1)] 3)).alloc (.cells #[.slice (some ⟨w3.heap.size, 0, none⟩) 3 3, .slice (some ⟨w3.heap.size + 1, 0, none⟩) 1 1, .slice none 0 0] 43)) := (((Below.refl _ _).alloc (Nat.le_refl _) _).alloc (by simp) _).alloc (by simp; omega) _
  have hL2 : LRow (((w3.alloc (.cells #[.int .i64 0, .int .i64 (-1), .int .i64 1] 3)).alloc (.cells #[.int .i64 (-1)] 3)).alloc (.cells #[.slice (some ⟨w3.heap.size, 0, none⟩) 3 3, .slice (some ⟨w3.heap.size + 1, 0, none⟩) 1 1, .slice none 0 0] 43)) (some ⟨w3.heap.size + 1 + 1, 0, none⟩) [[0, -1, 1], [-1], []] :=
    lrow3 rfl (qa := some ⟨w3.heap.size, 0, none⟩) (ca := 3) (by simp [go_sem]) (GramAwake.three_int (by simp [go_sem]) (by simp [go_sem]) (by simp [go_sem])) (qb := some ⟨w3.heap.size + 1, 0, none⟩) (cb := 1) (by simp [go_sem]) (GramAwake.one_int (by simp [go_sem])) (qc := none) (cc := 0) (by simp [go_sem]) (irow_nil _)
  have ho2 := one_any (some ⟨w3.heap.size + 1 + 1, 0, none⟩) 3 [[0, -1, 1], [-1], []] _ hL2 (by decide)
  gi_wp2_with fail
  refine ⟨trivial, (callsIn_wide.2 ho2).mono ?_⟩
  rintro e w4 ⟨⟨ta4, na4, ra4, rc4, rfl, hG4⟩, hb4⟩
  have hb45 := hB5.trans (hb4.mono hB5.size)
  have hB6 := hB4.trans (hb45.mono hB4.size)
  have hw4 := wrong_any ta4 na4 ra4 2 1 rc4 (oneG [[0, -1, 1], [-1], []]) p w4 hG4 (oneG_ok _ (by decide) (by decide)) (by decide) (by decide) (hE.below hB6 (Nat.le_refl _)) (hT.below hB6 (Nat.le_refl _))
  rw [g3, rz4] at hw4
  clear ho2 hL2 hB5 hb4
  gi_wp2_with fail
  refine ⟨trivial, (callsIn_wide.2 hw4).mono ?_⟩
  rintro e w5 ⟨rfl, hb5⟩
  have hb35 := hb45.trans (hb5.mono hb45.size)
  have hB7 := hB4.trans (hb35.mono hB4.size)
  clear hw4 hG4 hB6 hb5 hb45
  have hB8 : Below w5.heap.size w5 ((w5.alloc (.cells #[.int .i64 5] 3)).alloc (.cells #[.slice (some ⟨w5.heap.size, 0, none⟩) 1 1, .slice none 0 0] 43)) := ((Below.refl _ _).alloc (Nat.le_refl _) _).alloc (by simp) _
  have hL3 : LRow ((w5.alloc (.cells #[.int .i64 5] 3)).alloc (.cells #[.slice (some ⟨w5.heap.size, 0, none⟩) 1 1, .slice none 0 0] 43)) (some ⟨w5.heap.size + 1, 0, none⟩) [[5], []] :=
    lrow2 rfl (qa := some ⟨w5.heap.size, 0, none⟩) (ca := 1) (by simp [go_sem]) (GramAwake.one_int (by simp [go_sem])) (qb := none) (cb := 0) (by simp [go_sem]) (irow_nil _)
  have ho3 := one_any (some ⟨w5.heap.size + 1, 0, none⟩) 2 [[5], []] _ hL3 (by decide)
  gi_wp2_with fail
  refine ⟨trivial, (callsIn_wide.2 ho3).mono ?_⟩
  rintro e w6 ⟨⟨ta6, na6, ra6, rc6, rfl, hG6⟩, hb6⟩
  have hb56 := hB8.trans (hb6.mono hB8.size)
  have hB9 := hB7.trans (hb56.mono hB7.size)
  have hw6 := wrong_any ta6 na6 ra6 2 1 rc6 (oneG [[5], []]) p w6 hG6 (oneG_ok _ (by decide) (by decide)) (by decide) (by decide) (hE.below hB9 (Nat.le_refl _)) (hT.below hB9 (Nat.le_refl _))
  rw [g4, rz1] at hw6
  clear ho3 hL3 hB8 hb6
  gi_wp2_with fail
  refine ⟨trivial, (callsIn_wide.2 hw6).mono ?_⟩
  rintro e w7 ⟨rfl, hb7⟩
  have hb57 := hb56.trans (hb7.mono hb56.size)
  have hb37 := hb35.trans (hb57.mono hb35.size)
  have l0 := (hb37.cell (p := ⟨g, 0, none⟩) hgl3).trans l0
  have l1 := (hb37.cell (p := ⟨g, 1, none⟩) hgl3).trans l1
  have l2 := (hb37.cell (p := ⟨g, 2, none⟩) hgl3).trans l2
  have l3 := (hb37.cell (p := ⟨g, 3, none⟩) hgl3).trans l3
  have l4 := (hb37.cell (p := ⟨g, 4, none⟩) hgl3).trans l4
  have l5 := (hb37.cell (p := ⟨g, 5, none⟩) hgl3).trans l5
  have hB10 := hB4.trans (hb37.mono hB4.size)
  clear hw6 hG6 hB9 hb7 hb56 hb57 hb37 hb35 hB7 hB4
  have hs10 := hB10.size
  have hBt : Below w7.heap.size w7 ((w7.alloc (.cells #[.slice none 0 0] 43)).alloc (.cells #[.int .i64 (-3), .int .i64 0, .int .i64 (-1), .int .i64 1] 3)) := ((Below.refl _ _).alloc (Nat.le_refl _) _).alloc (by simp) _
  have hzt : ((w7.alloc (.cells #[.slice none 0 0] 43)).alloc (.cells #[.int .i64 (-3), .int .i64 0, .int .i64 (-1), .int .i64 1] 3)).heap.size = w7.heap.size + 2 := by simp
  have hrt : RowAt ((w7.alloc (.cells #[.slice none 0 0] 43)).alloc (.cells #[.int .i64 (-3), .int .i64 0, .int .i64 (-1), .int .i64 1] 3)) (w7.heap.size + 1) 3 (intsA [-3, 0, -1, 1]) := by
    have := rowNew (w7.alloc (.cells #[.slice none 0 0] 43)) (intsA [-3, 0, -1, 1]) 3
    rwa [World.size_alloc] at this
  have htm := terms_any (some ⟨w7.heap.size + 1, 0, none⟩) 4 [-3, 0, -1, 1] _ (intsA_row hrt) (by decide)
  rw [hzt] at htm
  have hbx7 := (Boxed.new w7 43 (.slice none 0 0)).alloc (.cells #[.int .i64 (-3), .int .i64 0, .int .i64 (-1), .int .i64 1] 3)
  gi_wp2_with fail
  refine ⟨trivial, (callsIn_wide.2 htm).mono ?_⟩
  rintro e w8 ⟨⟨rfl, hT8, hz8⟩, hb8⟩
  have hbx8 : Boxed w8 w7.heap.size 43 (.slice none 0 0) := (hb8.block w7.heap.size (by omega)).trans hbx7
  have hb78 : Below w7.heap.size w7 w8 := hBt.trans (hb8.mono (by omega))
  clear htm hrt hbx7 hBt hb8
  have hs78 := hb78.size
  gi_wp2_with fail
  refine' range_terms 6 (by omega) (w7.heap.size + 2 + 1) (w7.heap.size + 2) [-3, 0, -1, 1] (by decide) rfl hT8 rfl
    (fun k W => (∃ v, Boxed W w7.heap.size 43 v ∧ W.ownsRow w8.heap.size 3 1 v (gotT [-3, 0, -1, 1] k).length ((gotT [-3, 0, -1, 1] k).map (Value.int .i64)) ∧ True) ∧ Below w7.heap.size w7 W)
    (fun _ _ => False)
    (OwnFrom.and (Own.from (holdsRow_own w8.heap.size w7.heap.size 43 3 1 (fun k => (gotT [-3, 0, -1, 1] k).length) (fun k => (gotT [-3, 0, -1, 1] k).map (Value.int .i64)) (fun _ _ => True)) _) (ownFrom_below (Nat.le_refl _) (by omega)))
    (fun _ _ _ _ _ hs _ _ => hs)
    ⟨⟨_, hbx8, World.ownsRow_nil _ _ _ _, trivial⟩, hb78⟩
    (fun k x W hx h0 h => by
      have e : gotT [-3, 0, -1, 1] (k + 1) = gotT [-3, 0, -1, 1] k := by
        unfold gotT
        rw [getD_of hx, if_neg (by omega)]
        simp
        cases k <;> rfl
      rw [e]
      exact h)
    _ ?assign ?body ?done ?stop
  case assign =>
    intro l k x W K hK
    gi_wp2
    exact hK
  case stop =>
    rintro D c W _ h _
    exact h.elim
  case body =>
    rintro l k x W hx h0 hTW ⟨⟨v, hv, hrow, _⟩, hBw⟩
    have hc := hv.cell
    have hkl : k < 4 := (List.getElem?_eq_some_iff.1 hx).1
    have hlen := gotT_len [-3, 0, -1, 1] k
    have hsw := hBw.size
    have hsw8 : w8.heap.size ≤ W.heap.size := by have := hTW.1.lt; omega
    have e : Hid (gotT [-3, 0, -1, 1] (k + 1) = gotT [-3, 0, -1, 1] k ++ [(k : Int), x]) := by
      show gotT [-3, 0, -1, 1] k ++ (if 0 ≤ ([-3, 0, -1, 1] : List Int).getD k 0 then [(k : Int), ([-3, 0, -1, 1] : List Int).getD k 0] else []) = _
      rw [getD_of hx, if_pos h0]
    gi_wp2_with (gi_at_builtin; refine wpListIn_append_own _ rfl _ _ 43 rfl w8.heap.size 3 i0 (.int .i64 0) 1 8 Tryd.underlying43 hi hz0 hz1 hz2 rfl (by decide) _ _ _ rfl (hrow.alloc _) ⟨W.heap.size, 0, none⟩ 2 2 [.int .i64 (k : Int), .int .i64 x] rfl rfl (cells_new W #[.int .i64 (k : Int), .int .i64 x] 3) (by simp [Value.oneCell']) (by unfold maxLen; omega) (by omega) (by simp; omega) ?_; intro v' w9 hown' hgrow _; obtain ⟨g', cap', rfl⟩ := ownsRow_succ hown'; have hv1 := (hv.alloc _).kept hgrow (hv.not_row (by decide) hrow); have hc1 := hv1.cell; have hf1 := hv1.frozen)
    have hT3 := (hTW.append (by omega) (by omega) hrow hgrow).set (b := w7.heap.size) (by omega) (by omega) 0 (.slice (some ⟨g', 0, none⟩) ((gotT [-3, 0, -1, 1] k).length + 2) cap')
    have hK3 : KeepsFrom w8.heap.size W (w9.setCell ⟨w7.heap.size, 0, none⟩ (.slice (some ⟨g', 0, none⟩) ((gotT [-3, 0, -1, 1] k).length + 2) cap')) := ((keeps_append hrow hgrow).trans (KeepsOthers.setCell _ _ _)).from _
    have hR3 := ownsRow_setCell_below hown' (a := ⟨w7.heap.size, 0, none⟩) (show w7.heap.size < w8.heap.size by omega) (.slice (some ⟨g', 0, none⟩) ((gotT [-3, 0, -1, 1] k).length + 2) cap')
    have hB3 := ((hBw.alloc hsw _).grown hgrow (by simp; omega) (fun j hj => by have := (hrow.lt j hj).1; omega)).setCell (p := ⟨w7.heap.size, 0, none⟩) (Nat.le_refl _) (.slice (some ⟨g', 0, none⟩) ((gotT [-3, 0, -1, 1] k).length + 2) cap')
    refine ⟨hK3, hT3, ⟨_, hv1.set _, ?_, trivial⟩, hB3⟩
    rw [e.out, List.length_append, List.map_append]
    exact hR3
  rintro D W hD ⟨⟨v, hv, hrow, _⟩, hBw⟩ hK
  have hrow : W.ownsRow w8.heap.size 3 1 v 4 ([1, 0, 3, 1].map (Value.int .i64)) := hrow
  obtain ⟨g9, c9, rfl⟩ := ownsRow_succ (k := 3) hrow
  have hc9 := hv.cell
  have hDlt : D < W.heap.size := (Array.getElem?_eq_some_iff.1 hK).1
  have hB11 := hB10.trans (hBw.mono hs10)
  have hs11 := hB11.size
  have hgot : IRow W (some ⟨g9, 0, none⟩) [1, 0, 3, 1] := lent_rowI hrow rfl
  have r40 := rowNew W ((madeCells #[.int .i64 0] 40).setIfInBounds 7 (.int .i64 (-9))) 3
  have r41 : RowAt (W.alloc (.cells ((madeCells #[.int .i64 0] 40).setIfInBounds 7 (.int .i64 (-9))) 3)) W.heap.size 3 (intsA long40) := by rw [← e40]; exact r40
  have c40 := (made_row W 40 3).cell (q := 7) (v := .int .i64 0) (intsA_get (by decide))
  have f40 := (made_row W 40 3).frozen 7
  have hB12 : Below W.heap.size W (W.alloc (.cells ((madeCells #[.int .i64 0] 40).setIfInBounds 7 (.int .i64 (-9))) 3)) := (Below.refl _ _).alloc (Nat.le_refl _) _
  have hsk := skel_any (some ⟨W.heap.size, 0, none⟩) 40 long40 _ (intsA_row r41) (by decide)
  have hz12 : (W.alloc (.cells ((madeCells #[.int .i64 0] 40).setIfInBounds 7 (.int .i64 (-9))) 3)).heap.size = W.heap.size + 1 := by simp
  rw [hz12, skel40] at hsk
  clear l0 l1 l2 l3 l4 l5
  gi_wp2_with fail
  refine ⟨trivial, (callsIn_wide.2 hsk).mono ?_⟩
  rintro e w13 ⟨⟨rfl, hr13⟩, hb13⟩
  have hbW : Below W.heap.size W w13 := hB12.trans (hb13.mono (by omega))
  have hc13 : w13.cell? ⟨w7.heap.size, 0, none⟩ = some (.slice (some ⟨g9, 0, none⟩) 4 c9) := (hbW.cell (p := ⟨w7.heap.size, 0, none⟩) hv.lt).trans hc9
  have hgot13 := hgot.below hbW (Nat.le_refl _)
  have hs13 := hbW.size
  have hl13 : w7.heap.size < w13.heap.size := Nat.lt_of_lt_of_le hv.lt hs13
  clear hsk hB12 hb13 r40 r41 c40 f40 hc9
  have hB14 : Below w13.heap.size w13 (w13.alloc (.cells #[.int .i64 1, .int .i64 0, .int .i64 3, .int .i64 1] 3)) := (Below.refl _ _).alloc (Nat.le_refl _) _
  have hq := ints_any (some ⟨g9, 0, none⟩) (some ⟨w13.heap.size, 0, none⟩) c9 4 [1, 0, 3, 1] [1, 0, 3, 1] (w13.alloc (.cells #[.int .i64 1, .int .i64 0, .int .i64 3, .int .i64 1] 3)) (hgot13.below hB14 (Nat.le_refl _)) (intsA_row (zs := [1, 0, 3, 1]) (heap_new _ _)) (by decide) (by decide)
  have et : eqI [1, 0, 3, 1] [1, 0, 3, 1] = true := by unfold eqI; exact decide_eq_true rfl
  rw [et] at hq
  gi_wp2_with fail
  refine ⟨trivial, (callsIn_wide.2 hq).mono ?_⟩
  rintro e w14 ⟨rfl, q, rfl⟩
  have hbW2 : Below W.heap.size W ((w13.alloc (.cells #[.int .i64 1, .int .i64 0, .int .i64 3, .int .i64 1] 3)).drewN q) := bdrew (hbW.trans (hB14.mono hs13)) q
  have hr14 : RowAt ((w13.alloc (.cells #[.int .i64 1, .int .i64 0, .int .i64 3, .int .i64 1] 3)).drewN q) (W.heap.size + 1) 3 (intsA ((List.replicate 40 0).set 7 (-1))) := hr13.alloc _
  clear hq hB14 hr13 hc13 hgot13
  generalize (w13.alloc (.cells #[.int .i64 1, .int .i64 0, .int .i64 3, .int .i64 1] 3)).drewN q = w14 at *
  have x7 := hr14.cell (q := 7) (v := .int .i64 (-1)) (intsA_get (by decide))
  have x8 := hr14.cell (q := 8) (v := .int .i64 0) (intsA_get (by decide))
  have x39 := hr14.cell (q := 39) (v := .int .i64 0) (intsA_get (by decide))
  have hsn := skel_any none 0 [] w14 (irow_nil _) (by decide)
  gi_wp2_with fail
  refine ⟨trivial, (callsIn_wide.2 hsn).mono ?_⟩
  rintro e w15 ⟨⟨rfl, _⟩, hb15⟩
  have hbW3 := hbW2.trans (hb15.mono hbW2.size)
  have hK15 := (hbW3.block D hDlt).trans hK
  have hBf := hB11.trans (hbW3.mono hs11)
  clear hsn x7 x8 x39 hr14 hb15 hbW2
  gi_wp2
  refine ⟨by simp, .inl ⟨_, _, rfl, run_takeDeferred hK15, ?_⟩⟩
  exact ⟨_, results_tmp rfl _ _ _, rfl, hBf.trans (belowK_b (w := w) (Nat.le_refl _) w15 D _ _ (by omega) hK15 rfl rfl)⟩

end Go.Proofs.YtkjmmoiickambaaDoor.OpKnownW
