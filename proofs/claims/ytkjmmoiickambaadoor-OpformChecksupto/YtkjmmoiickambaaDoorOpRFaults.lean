/-
  All faults of a grammar, by the document's answer.
-/
import Derived.Test.YtkjmmoiickambaaDoorOpFaults
namespace Go.Proofs.YtkjmmoiickambaaDoor.OpFault
open Go.RowKit Go.Proofs.YtkjmmoiickambaaDoor.GramMath Go.Proofs.YtkjmmoiickambaaDoor.GramRow Go.Proofs.YtkjmmoiickambaaDoor.GramApart Go.Proofs.YtkjmmoiickambaaDoor.GramLent Go.Proofs.YtkjmmoiickambaaDoor.OpRow Go.Proofs.YtkjmmoiickambaaDoor.OpSkel
set_option linter.unusedVariables false

theorem faultsTo_succ (zs : List Int) (k : Nat) : faultsTo zs (k + 1) = faultsTo zs k ++ if bad zs k = true then [(k : Int)] else [] := rfl
theorem faultsTo_mono (zs : List Int) (k : Nat) : ∀ d, (faultsTo zs k).length ≤ (faultsTo zs (k + d)).length
  | 0 => Nat.le_refl _
  | d + 1 => by
    have := faultsTo_mono zs k d
    show _ ≤ (faultsTo zs ((k + d) + 1)).length
    rw [faultsTo_succ, List.length_append]
    omega
theorem faultsTo_all {zs : List Int} {k : Nat} (h : k ≤ zs.length) (h0 : zs.length ≠ 0) : (faultsTo zs k).length ≤ (faults zs).length := by
  have := faultsTo_mono zs k (zs.length - k)
  rw [Nat.add_sub_cancel' h] at this
  unfold faults
  rw [if_neg h0]
  exact this

set_option maxRecDepth 100000 in
set_option maxHeartbeats 4000000 in
theorem rfaults_any (ta na ra : Option Addr) (tc nc rc : Nat) (g : G) (w : World) (hR : RRow w ra g.rs) (hr8 : ∀ r ∈ g.rs, r.right.length * 8 ≤ 140737488351232) (hrl : g.rs.length ≤ 1125899906842624) (hm : (fG g).length * 16 ≤ 140737488351232) :
    Calls Tryd.prog 12 #[.agg #[.slice ta g.ts.length tc, .slice na g.ns.length nc, .int .i64 g.ax, .slice ra g.rs.length rc]] w fun e w' => (∃ v, e = .returned v ∧ OwnP 40 w' w.heap.size v (fG g)) ∧ Below w.heap.size w w' := by
  obtain ⟨i0, hi, hz0, hz1, hz2⟩ := info_parts info2
  have hB1 : Below w.heap.size w (w.alloc (.cells #[.slice ta g.ts.length tc, .slice na g.ns.length nc, .int .i64 g.ax, .slice ra g.rs.length rc] 25)) := (Below.refl _ _).alloc (Nat.le_refl _) _
  have hs1 : (w.alloc (.cells #[.slice ta g.ts.length tc, .slice na g.ns.length nc, .int .i64 g.ax, .slice ra g.rs.length rc] 25)).heap.size = w.heap.size + 1 := by simp
  have hbx : RowAt (w.alloc (.cells #[.slice ta g.ts.length tc, .slice na g.ns.length nc, .int .i64 g.ax, .slice ra g.rs.length rc] 25)) w.heap.size 25 #[.slice ta g.ts.length tc, .slice na g.ns.length nc, .int .i64 g.ax, .slice ra g.rs.length rc] := heap_new _ _
  have hR1 := hR.below hB1 (Nat.le_refl _)
  clear hR
  go_enter Tryd.func12, Tryd.ntmps12
  go_wp2
  generalize w.alloc (.cells #[.slice ta g.ts.length tc, .slice na g.ns.length nc, .int .i64 g.ax, .slice ra g.rs.length rc] 25) = W1 at *
  go_loopw [3, 4] (fun v i wr => ∃ k : Nat, k ≤ g.rs.length ∧ i = .int .i64 k ∧ OwnP 40 wr W1.heap.size v (fTo g.rs k) ∧ Below W1.heap.size W1 wr) (fun _ i _ => g.rs.length - (intOf i).toNat)
  case atStart => exact ⟨0, by omega, rfl, World.ownsRow_nil _ _ _ _, Below.refl _ _⟩
  case round =>
    obtain ⟨k, hk, rfl, hown, hB⟩ := hrel
    have hBw : Below w.heap.size w wr := hB1.trans (hB.mono (by omega))
    have hsB := hB.size
    have e3 := (hbx.below hB hbx.lt).cell (q := 3) rfl
    by_cases hlt : k < g.rs.length
    · obtain ⟨r, hr⟩ : ∃ r, g.rs[k]? = some r := ⟨g.rs[k], List.getElem?_eq_getElem hlt⟩
      obtain ⟨b, off, qa, qc, rfl, d0, d1, hI⟩ := hR1 k r hr
      have d0 := (hB.cell (cell_lt d0)).trans d0
      have d1 := (hB.cell (cell_lt d1)).trans d1
      have hlt2 : (k : Int) < (g.rs.length : Int) := by omega
      have hq8 := hr8 r (List.mem_of_getElem? hr)
      have HEND : Hid (fTo g.rs (k + 1) = fTo g.rs k ++ (faults r.right).map (fun a => ((k : Int), a))) := by show _ = _; rw [fTo_succ, rget_of hr]
      have HLEN : Hid ((fTo g.rs k).length + (faults r.right).length ≤ (fG g).length) := by
        have h1 := fTo_all (g := g) (k := k + 1) hlt
        rw [HEND.out, List.length_append, List.length_map] at h1
        exact h1
      clear hr
      obtain ⟨rl, zs⟩ := r
      dsimp only at hI HEND HLEN d0 d1 hq8
      by_cases h0 : zs.length = 0
      · obtain rfl : zs = [] := List.length_eq_zero_iff.1 h0
        have hl1 := HLEN.out
        have hl2 : (fTo g.rs k).length + 1 ≤ (fG g).length := hl1
        generalize fTo g.rs k = acc at *
        clear hI hl1 h0
        go_wp2_with (at_builtin; refine wpList_append_own _ rfl (.tmp 23) (.tmp 26) 34 rfl W1.heap.size 40 i0 (.agg #[.int .i64 0, .int .i64 0]) 2 16 Tryd.underlying34 hi hz0 hz1 hz2 rfl (by decide) _ _ _ rfl (hown.alloc _) ⟨_, 0, none⟩ 1 1 [.int .i64 (k : Int), .int .i64 0] rfl rfl (cells_new _ #[_, _] _) (by simp [Value.oneCell']) (by unfold maxLen; omega) (by omega) (by simp; omega) ?_; intro v2 w2 hown2 hgrow2 _)
        have O2 : OwnP 40 w2 W1.heap.size v2 (fTo g.rs (k + 1)) := OwnP.next (x := ((k : Int), 0)) hown2 HEND.out
        have B2 : Below W1.heap.size W1 w2 := (hB.alloc hsB _).grown hgrow2 (by simp; omega) (fun j hj => (hown.lt j hj).1)
        clear hown2 hgrow2 hown e3 d0 d1
        go_loopw [3, 6] (fun v i ws => v = v2 ∧ i = .int .i64 1 ∧ ws = w2) (fun _ _ _ => 0)
        case atStart => exact ⟨rfl, rfl, rfl⟩
        case round =>
          obtain ⟨rfl, rfl, rfl⟩ := hrel
          go_wp2
          go_roundw
          case rel => exact ⟨k + 1, by omega, by go_num, O2, B2⟩
          case measure => simp [intOf]; omega
      · have hne : ((zs.length : Int) == 0) = false := by rw [beq_eq_false_iff_ne]; omega
        have HK : Hid (∀ j, j ≤ zs.length → (fTo g.rs k).length + (faultsTo zs j).length ≤ (fG g).length) := fun j hj => by
          have := faultsTo_all hj h0
          have := HLEN.out
          omega
        have HF : Hid (faults zs = faultsTo zs zs.length) := by show _ = _; unfold faults; rw [if_neg h0]
        have h1 : 1 ≤ zs.length := by omega
        clear h0 HLEN
        go_wp2
        clear e3 d0 d1
        go_loopw [3, 6] (fun v i ws => ∃ j : Nat, 1 ≤ j ∧ j ≤ zs.length ∧ i = .int .i64 j ∧ OwnP 40 ws W1.heap.size v (fTo g.rs k ++ (faultsTo zs j).map (fun a => ((k : Int), a))) ∧ Below W1.heap.size W1 ws) (fun _ i _ => zs.length - (intOf i).toNat)
        case atStart => exact ⟨1, by omega, by omega, rfl, by rw [faultsTo_one]; simpa using hown, hB⟩
        case round =>
          obtain ⟨j, hj1, hj, rfl, ho, hBs⟩ := hrel
          have hss := hBs.size
          by_cases hjl : j < zs.length
          · obtain ⟨x, hx⟩ : ∃ x, zs[j - 1]? = some x := ⟨zs[j - 1]'(by omega), List.getElem?_eq_getElem (by omega)⟩
            obtain ⟨y, hy⟩ : ∃ y, zs[j]? = some y := ⟨zs[j], List.getElem?_eq_getElem hjl⟩
            obtain ⟨b1, o1, rfl, hcx⟩ := hI (j - 1) x hx
            obtain ⟨b2, o2, hb2, hcy⟩ := hI j y hy
            cases hb2
            have hcx := (hBs.cell (cell_lt hcx)).trans hcx
            have hcy := (hBs.cell (cell_lt hcy)).trans hcy
            have hjl2 : (j : Int) < (zs.length : Int) := by omega
            have hj0 : (0 : Int) ≤ (j : Int) - 1 := by omega
            have hj2 : (j : Int) - 1 < (zs.length : Int) := by omega
            have hto : ((j : Int) - 1).toNat = j - 1 := by omega
            have hbad : bad zs j = (decide (x < 0) && decide (y < 0)) := by unfold bad; rw [getD_of hx, getD_of hy, decide_eq_true (show 0 < j by omega)]; simp
            have hF := faultsTo_succ zs j
            have hkj := HK.out (j + 1) hjl
            by_cases hx0 : x < 0
            · by_cases hy0 : y < 0
              · have E1 : faultsTo zs (j + 1) = faultsTo zs j ++ [(j : Int)] := by rw [hF, hbad, decide_eq_true hx0, decide_eq_true hy0]; rfl
                have E2 : Hid (fTo g.rs k ++ (faultsTo zs (j + 1)).map (fun a => ((k : Int), a)) = (fTo g.rs k ++ (faultsTo zs j).map (fun a => ((k : Int), a))) ++ [((k : Int), (j : Int))]) := by show _ = _; rw [E1]; simp
                have hlen : (fTo g.rs k ++ (faultsTo zs j).map (fun a => ((k : Int), a))).length + 1 ≤ (fG g).length := by
                  rw [E1, List.length_append] at hkj
                  rw [List.length_append, List.length_map]
                  exact hkj
                clear hF hbad hx hy hkj E1
                generalize fTo g.rs k ++ (faultsTo zs j).map (fun a => ((k : Int), a)) = cur at *
                go_wp2_with (at_builtin; refine wpList_append_own _ rfl (.tmp 47) (.tmp 51) 34 rfl W1.heap.size 40 i0 (.agg #[.int .i64 0, .int .i64 0]) 2 16 Tryd.underlying34 hi hz0 hz1 hz2 rfl (by decide) _ _ _ rfl (ho.alloc _) ⟨_, 0, none⟩ 1 1 [.int .i64 (k : Int), .int .i64 (j : Int)] rfl rfl (cells_new _ #[_, _] _) (by simp [Value.oneCell']) (by unfold maxLen; omega) (by omega) (by simp; omega) ?_; intro v2 w2 hown2 hgrow2 _)
                have O2 : OwnP 40 w2 W1.heap.size v2 (fTo g.rs k ++ (faultsTo zs (j + 1)).map (fun a => ((k : Int), a))) := OwnP.next (x := ((k : Int), (j : Int))) hown2 E2.out
                have B2 : Below W1.heap.size W1 w2 := (hBs.alloc hss _).grown hgrow2 (by simp; omega) (fun j hj => (ho.lt j hj).1)
                clear hown2 hgrow2 ho
                go_roundw
                case rel => exact ⟨j + 1, by omega, by omega, by go_num, O2, B2⟩
                case measure => simp [intOf]; omega
              · have E2 : Hid (faultsTo zs (j + 1) = faultsTo zs j) := by show _ = _; rw [hF, hbad, decide_eq_false hy0]; simp
                clear hF hbad hx hy hkj
                go_wp2
                go_roundw
                case rel => exact ⟨j + 1, by omega, by omega, by go_num, by rw [E2.out]; exact ho, hBs⟩
                case measure => simp [intOf]; omega
            · have E2 : Hid (faultsTo zs (j + 1) = faultsTo zs j) := by show _ = _; rw [hF, hbad, decide_eq_false hx0]; simp
              clear hF hbad hx hy hkj
              go_wp2
              go_roundw
              case rel => exact ⟨j + 1, by omega, by omega, by go_num, by rw [E2.out]; exact ho, hBs⟩
              case measure => simp [intOf]; omega
          · obtain rfl : j = zs.length := by omega
            have hnl : ¬ (zs.length : Int) < (zs.length : Int) := by omega
            rw [← HF.out, ← HEND.out] at ho
            go_wp2
            go_roundw
            case rel => exact ⟨k + 1, by omega, by go_num, ho, hBs⟩
            case measure => simp [intOf]; omega
    · obtain rfl : k = g.rs.length := by omega
      have hnl : ¬ (g.rs.length : Int) < (g.rs.length : Int) := by omega
      have hown2 : OwnP 40 wr w.heap.size _ (fG g) := own_le hown (by omega)
      clear hown
      go_wp2
      go_ret
      exact ⟨⟨_, rfl, hown2⟩, hBw⟩

end Go.Proofs.YtkjmmoiickambaaDoor.OpFault
