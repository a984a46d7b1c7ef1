/-
  Skeleton, by the document's answer.
-/
import Derived.Test.YtkjmmoiickambaaDoorOpFault
namespace Go.Proofs.YtkjmmoiickambaaDoor.OpFault
open Go.RowKit Go.Proofs.YtkjmmoiickambaaDoor.GramMath Go.Proofs.YtkjmmoiickambaaDoor.GramRow Go.Proofs.YtkjmmoiickambaaDoor.GramApart Go.Proofs.YtkjmmoiickambaaDoor.GramLent Go.Proofs.YtkjmmoiickambaaDoor.OpRow Go.Proofs.YtkjmmoiickambaaDoor.OpSkel
set_option linter.unusedVariables false

theorem skel_step {zs : List Int} {k : Nat} {x : Int} (h : zs[k]? = some x) : skel (zs.take (k + 1)) = skel (zs.take k) ++ [sk x] := by
  obtain ⟨hk, e⟩ := List.getElem?_eq_some_iff.1 h
  rw [List.take_succ_eq_append_getElem hk, e]
  unfold skel
  simp

set_option maxRecDepth 100000 in
set_option maxHeartbeats 2000000 in
theorem rskel_any (a : Option Addr) (c : Nat) (zs : List Int) (w : World) (hr : IRow w a zs) (hm : zs.length * 8 ≤ 140737488351232) :
    Calls Tryd.prog 19 #[.slice a zs.length c] w fun e w' => (∃ b d, e = .returned (.slice b zs.length d) ∧ IRow w' b (skel zs)) ∧ Below w.heap.size w w' := by
  obtain ⟨i0, hi, hz0, hz1, hz2⟩ := info_parts infoI
  go_enter Tryd.func19, Tryd.ntmps19
  go_wp2
  go_loopw [3, 4] (fun v i wr => ∃ k : Nat, k ≤ zs.length ∧ i = .int .i64 k ∧ wr.ownsRow w.heap.size 3 1 v k ((skel (zs.take k)).map (Value.int .i64)) ∧ Below w.heap.size w wr) (fun _ i _ => zs.length - (intOf i).toNat)
  case atStart => exact ⟨0, by omega, rfl, World.ownsRow_nil _ _ _ _, Below.refl _ _⟩
  case round =>
    obtain ⟨k, hk, rfl, hown, hB⟩ := hrel
    have hsz := hB.size
    by_cases hlt : k < zs.length
    · obtain ⟨x, hx⟩ : ∃ x, zs[k]? = some x := ⟨zs[k], List.getElem?_eq_getElem hlt⟩
      obtain ⟨b, off, rfl, hcx⟩ := hr k x hx
      have hcx := (hB.cell (cell_lt hcx)).trans hcx
      have hlt2 : (k : Int) < (zs.length : Int) := by omega
      have hst : Hid ((skel (zs.take (k + 1))).map (Value.int .i64) = (skel (zs.take k)).map (Value.int .i64) ++ [.int .i64 (sk x)]) := by show _ = _; rw [skel_step hx, List.map_append]; rfl
      by_cases hx0 : x < 0
      · have hsx : Hid (sk x = -1) := by show _ = _; unfold sk; rw [if_pos hx0]
        clear hr hx
        go_wp2_with (at_builtin; refine wpList_append_own _ rfl (.tmp 16) (.tmp 17) 43 rfl w.heap.size 3 i0 (.int .i64 0) 1 8 Tryd.underlying43 hi hz0 hz1 hz2 rfl (by decide) _ _ _ rfl (hown.alloc _) ⟨_, 0, none⟩ 1 1 [.int .i64 (-1)] rfl rfl (cell_one_new _ _ _) (by simp [Value.oneCell']) (by unfold maxLen; omega) (by omega) (by simp; omega) ?_; intro v2 w2 hown2 hgrow2 _)
        have O2 : w2.ownsRow w.heap.size 3 1 v2 (k + 1) ((skel (zs.take (k + 1))).map (Value.int .i64)) := by rw [hst.out, hsx.out]; exact hown2
        have B2 : Below w.heap.size w w2 := (hB.alloc hsz _).grown hgrow2 (by simp; omega) (fun j hj => (hown.lt j hj).1)
        clear hown2 hgrow2 hown
        go_roundw
        case rel => exact ⟨k + 1, by omega, by go_num, O2, B2⟩
        case measure => simp [intOf]; omega
      · have hsx : Hid (sk x = x) := by show _ = _; unfold sk; rw [if_neg hx0]
        clear hr hx
        go_wp2_with (at_builtin; refine wpList_append_own _ rfl (.tmp 19) (.tmp 24) 43 rfl w.heap.size 3 i0 (.int .i64 0) 1 8 Tryd.underlying43 hi hz0 hz1 hz2 rfl (by decide) _ _ _ rfl (hown.alloc _) ⟨_, 0, none⟩ 1 1 [.int .i64 x] rfl rfl (cell_one_new _ _ _) (by simp [Value.oneCell']) (by unfold maxLen; omega) (by omega) (by simp; omega) ?_; intro v2 w2 hown2 hgrow2 _)
        have O2 : w2.ownsRow w.heap.size 3 1 v2 (k + 1) ((skel (zs.take (k + 1))).map (Value.int .i64)) := by rw [hst.out, hsx.out]; exact hown2
        have B2 : Below w.heap.size w w2 := (hB.alloc hsz _).grown hgrow2 (by simp; omega) (fun j hj => (hown.lt j hj).1)
        clear hown2 hgrow2 hown
        go_roundw
        case rel => exact ⟨k + 1, by omega, by go_num, O2, B2⟩
        case measure => simp [intOf]; omega
    · obtain rfl : k = zs.length := by omega
      have hnl : ¬ (zs.length : Int) < (zs.length : Int) := by omega
      rw [List.take_length] at hown
      have hO : ∀ v, wr.ownsRow w.heap.size 3 1 v zs.length ((skel zs).map (Value.int .i64)) → Own wr w.heap.size v (skel zs) := fun v h => by unfold Own; rw [skel_len]; exact h
      obtain ⟨b, d, hv, hI⟩ := (hO _ hown).row
      rw [skel_len] at hv
      subst hv
      clear hown hO
      go_wp2
      go_ret
      exact ⟨⟨b, ⟨d, rfl⟩, hI⟩, hB⟩

end Go.Proofs.YtkjmmoiickambaaDoor.OpFault
