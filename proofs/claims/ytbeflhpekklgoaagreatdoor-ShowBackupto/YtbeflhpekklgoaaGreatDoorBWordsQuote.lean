/-
  Texts that stand together: WordsQuote.
-/
import Derived.Test.YtbeflhpekklgoaaGreatDoorBagShowMath
namespace Go.Proofs.YtbeflhpekklgoaaGreatDoor.WordsBytes
open Go.RowKit Go.Proofs.YtbeflhpekklgoaaGreatDoor.WordsMath Go.Proofs.YtbeflhpekklgoaaGreatDoor.WordsOne

set_option maxRecDepth 100000 in
set_option maxHeartbeats 4000000 in
theorem quote_any (s : ByteArray) (w : World) (hs : 4 * s.size + 2 ≤ 140737488355328) : Calls Tryz.prog 69 #[.string s] w fun e w' => e = .returned (.string ⟨(quoteL s.data.toList).toArray⟩) ∧ Below w.heap.size w w' := by
  obtain ⟨i0, hi, hz0, hz1, hz2⟩ := info_parts info5
  go_enter Tryz.func69, Tryz.ntmps69
  go_wp2
  go_loopw [3, 9] (fun t i wr => ∃ k g c : Nat, k ≤ s.size ∧ i = .int .i64 k ∧ t = .slice (some ⟨g, 0, none⟩) (accQ s k).length c ∧ wr.ownsRow w.heap.size 5 1 (.slice (some ⟨g, 0, none⟩) (accQ s k).length c) (accQ s k).length (Lib.byteCells (accQ s k)) ∧ Below w.heap.size w wr) (fun _ i _ => s.size - (intOf i).toNat)
  case atStart =>
    refine ⟨0, w.heap.size, 1, by omega, rfl, rfl, ?_, (Below.refl _ _).alloc (Nat.le_refl _) _⟩
    exact World.ownsRow_lit w #[.int .u8 34] 1 (Nat.le_refl _) (by unfold maxLen; omega) rfl
  case round =>
    obtain ⟨k, g, c, hk, rfl, rfl, hrow, hB⟩ := hrel
    have hA := accQ_len s k
    by_cases hlt : k < s.size
    · have F : Hid (_) := accQ_succ s hlt
      have hl := accQ_len s (k + 1)
      rw [accQ_succ s hlt, List.length_append] at hl
      have hb := byte_lt s hlt
      obtain ⟨d, hd⟩ : ∃ d, s[k] = d := ⟨_, rfl⟩
      rw [hd] at F hl hb
      by_cases h1 : d.toNat = 34 ∨ d.toNat = 92
      · have q : quoteB d = [92, d] := by unfold quoteB; rw [if_pos h1]
        rw [q] at F hl
        have E : Hid ([Value.int .u8 92, .int .u8 (d.toNat : Int)] = Lib.byteCells [92, d]) := by show _ = _; simp [Lib.byteCells]
        simp only [List.length_cons, List.length_nil] at hl
        clear q
        rcases h1 with h1 | h1
        · have k1 : ((d.toNat : Int) == 34) = true := by simp; omega
          clear h1
          go_wp2_with (at_builtin; refine wpList_append_own _ rfl _ _ 61 rfl w.heap.size 5 i0 (.int .u8 0) 1 1 Tryz.underlying61 hi hz0 hz1 hz2 rfl (by decide) _ _ _ rfl (hrow.alloc _) ⟨wr.heap.size, 0, none⟩ 2 2 [.int .u8 92, .int .u8 (d.toNat : Int)] rfl rfl (cells_new _ #[_, _] _) (by simp [Value.oneCell']) (by unfold maxLen; omega) (by omega) (by have := hB.size; simp; omega) ?_; intro v' w2 hown' hgrow _; obtain ⟨g', c', hv', hr'⟩ := row_step hown' E.out rfl F.out hA.1; rw [hv']; have hB' := Below.app hB hB.size hrow hgrow)
          go_wp2
          go_roundw
          case rel => exact ⟨k + 1, g', c', by omega, by go_num, rfl, hr', hB'⟩
          case measure => simp [intOf]; omega
        · have k1 : ((d.toNat : Int) == 34) = false := by simp; omega
          have k2 : ((d.toNat : Int) == 92) = true := by simp; omega
          clear h1
          go_wp2_with (at_builtin; refine wpList_append_own _ rfl _ _ 61 rfl w.heap.size 5 i0 (.int .u8 0) 1 1 Tryz.underlying61 hi hz0 hz1 hz2 rfl (by decide) _ _ _ rfl (hrow.alloc _) ⟨wr.heap.size, 0, none⟩ 2 2 [.int .u8 92, .int .u8 (d.toNat : Int)] rfl rfl (cells_new _ #[_, _] _) (by simp [Value.oneCell']) (by unfold maxLen; omega) (by omega) (by have := hB.size; simp; omega) ?_; intro v' w2 hown' hgrow _; obtain ⟨g', c', hv', hr'⟩ := row_step hown' E.out rfl F.out hA.1; rw [hv']; have hB' := Below.app hB hB.size hrow hgrow)
          go_wp2
          go_roundw
          case rel => exact ⟨k + 1, g', c', by omega, by go_num, rfl, hr', hB'⟩
          case measure => simp [intOf]; omega
      · have k1 : ((d.toNat : Int) == 34) = false := by simp; omega
        have k2 : ((d.toNat : Int) == 92) = false := by simp; omega
        by_cases h2 : d.toNat = 10
        · have q : quoteB d = [92, 110] := by unfold quoteB; rw [if_neg h1, if_pos h2]
          rw [q] at F hl
          have E : Hid ([Value.int .u8 92, .int .u8 110] = Lib.byteCells [92, 110]) := by show _ = _; simp [Lib.byteCells]
          simp only [List.length_cons, List.length_nil] at hl
          have k3 : ((d.toNat : Int) == 10) = true := by simp; omega
          clear q h1 h2
          go_wp2_with (at_builtin; refine wpList_append_own _ rfl _ _ 61 rfl w.heap.size 5 i0 (.int .u8 0) 1 1 Tryz.underlying61 hi hz0 hz1 hz2 rfl (by decide) _ _ _ rfl (hrow.alloc _) ⟨wr.heap.size, 0, none⟩ 2 2 [.int .u8 92, .int .u8 110] rfl rfl (cells_new _ #[_, _] _) (by simp [Value.oneCell']) (by unfold maxLen; omega) (by omega) (by have := hB.size; simp; omega) ?_; intro v' w2 hown' hgrow _; obtain ⟨g', c', hv', hr'⟩ := row_step hown' E.out rfl F.out hA.1; rw [hv']; have hB' := Below.app hB hB.size hrow hgrow)
          go_wp2
          go_roundw
          case rel => exact ⟨k + 1, g', c', by omega, by go_num, rfl, hr', hB'⟩
          case measure => simp [intOf]; omega
        · have k3 : ((d.toNat : Int) == 10) = false := by simp; omega
          by_cases h3 : d.toNat < 32 ∨ 127 ≤ d.toNat
          · have q : quoteB d = [92, 120, hexB (d.toNat / 16), hexB (d.toNat % 16)] := by unfold quoteB; rw [if_neg h1, if_neg h2, if_pos h3]
            rw [q] at F hl
            have E : Hid ([Value.int .u8 92, .int .u8 120, .int .u8 ((hexB (d.toNat / 16)).toNat : Int), .int .u8 ((hexB (d.toNat % 16)).toNat : Int)] = Lib.byteCells [92, 120, hexB (d.toNat / 16), hexB (d.toNat % 16)]) := by show _ = _; simp [Lib.byteCells]
            simp only [List.length_cons, List.length_nil] at hl
            have e1 : (d.toNat : Int) / 16 = ((d.toNat / 16 : Nat) : Int) := by omega
            have e2 := and15 d.toNat hb
            have ha : d.toNat / 16 < 16 := by omega
            have hb2 : d.toNat % 16 < 16 := by omega
            obtain ⟨D, hDs, hD2, hDat⟩ : ∃ D : ByteArray, ∃ h : D.size = 16, (⟨#[48, 49, 50, 51, 52, 53, 54, 55, 56, 57, 65, 66, 67, 68, 69, 70]⟩ : ByteArray) = D ∧ ∀ a (ha : a < 16), D[a]'(by omega) = hexB a := ⟨digitsB, rfl, rfl, digits_at⟩
            have d1 := hDat _ ha
            have d2 := hDat _ hb2
            clear hDat q
            generalize d.toNat / 16 = a at *
            generalize d.toNat % 16 = b at *
            generalize hexB a = x at *
            generalize hexB b = y at *
            have ha3 : (a : Int) < 16 := by omega
            have hb3 : (b : Int) < 16 := by omega
            rcases h3 with h3 | h3
            · have k4 : (d.toNat : Int) < 32 := by omega
              clear h1 h2
              go_wp2
              go_region_law (refine step_append_own rfl _ _ 61 rfl w.heap.size 5 i0 (.int .u8 0) 1 1 Tryz.underlying61 hi hz0 hz1 hz2 rfl (by decide) _ _ _ rfl (World.ownsRow.alloc (World.ownsRow.drew hrow) _) ⟨wr.drew.heap.size, 0, none⟩ 4 4 [.int .u8 92, .int .u8 120, .int .u8 (x.toNat : Int), .int .u8 (y.toNat : Int)] rfl rfl (cells_new _ #[_, _, _, _] _) (by simp [Value.oneCell']) (by unfold maxLen; omega) (by omega) (by have := hB.size; simp; omega) ?_; intro v' w2 hown' hgrow _; obtain ⟨g', c', hv', hr'⟩ := row_step hown' E.out rfl F.out hA.1; rw [hv']; have hB' := Below.app hB.drew hB.size hrow hgrow)
              all_goals go_wp2
              all_goals go_roundw
              all_goals first | exact ⟨k + 1, g', c', by omega, by go_num, rfl, hr', hB'⟩ | (simp [intOf]; omega)
            · have k4 : ¬ (d.toNat : Int) < 32 := by omega
              have k5 : (127 : Int) ≤ (d.toNat : Int) := by omega
              clear h1 h2
              go_wp2
              go_region_law (refine step_append_own rfl _ _ 61 rfl w.heap.size 5 i0 (.int .u8 0) 1 1 Tryz.underlying61 hi hz0 hz1 hz2 rfl (by decide) _ _ _ rfl (World.ownsRow.alloc (World.ownsRow.drew hrow) _) ⟨wr.drew.heap.size, 0, none⟩ 4 4 [.int .u8 92, .int .u8 120, .int .u8 (x.toNat : Int), .int .u8 (y.toNat : Int)] rfl rfl (cells_new _ #[_, _, _, _] _) (by simp [Value.oneCell']) (by unfold maxLen; omega) (by omega) (by have := hB.size; simp; omega) ?_; intro v' w2 hown' hgrow _; obtain ⟨g', c', hv', hr'⟩ := row_step hown' E.out rfl F.out hA.1; rw [hv']; have hB' := Below.app hB.drew hB.size hrow hgrow)
              all_goals go_wp2
              all_goals go_roundw
              all_goals first | exact ⟨k + 1, g', c', by omega, by go_num, rfl, hr', hB'⟩ | (simp [intOf]; omega)
          · have q : quoteB d = [d] := by unfold quoteB; rw [if_neg h1, if_neg h2, if_neg h3]
            rw [q] at F hl
            have E : Hid ([Value.int .u8 (d.toNat : Int)] = Lib.byteCells [d]) := by show _ = _; simp [Lib.byteCells]
            simp only [List.length_cons, List.length_nil] at hl
            have k4 : ¬ (d.toNat : Int) < 32 := by omega
            have k5 : ¬ (127 : Int) ≤ (d.toNat : Int) := by omega
            clear q h1 h2 h3
            go_wp2_with (at_builtin; refine wpList_append_own _ rfl _ _ 61 rfl w.heap.size 5 i0 (.int .u8 0) 1 1 Tryz.underlying61 hi hz0 hz1 hz2 rfl (by decide) _ _ _ rfl (hrow.alloc _) ⟨wr.heap.size, 0, none⟩ 1 1 [.int .u8 (d.toNat : Int)] rfl rfl (cells_new _ #[_] _) (by simp [Value.oneCell']) (by unfold maxLen; omega) (by omega) (by have := hB.size; simp; omega) ?_; intro v' w2 hown' hgrow _; obtain ⟨g', c', hv', hr'⟩ := row_step hown' E.out rfl F.out hA.1; rw [hv']; have hB' := Below.app hB hB.size hrow hgrow)
            go_wp2
            go_roundw
            case rel => exact ⟨k + 1, g', c', by omega, by go_num, rfl, hr', hB'⟩
            case measure => simp [intOf]; omega
    · have F : Hid (_) := accQ_end s (k := k) (by omega)
      have E : Hid ([Value.int .u8 34] = Lib.byteCells [34]) := by show _ = _; simp [Lib.byteCells]
      have hcv := fun (W : World) (g c : Nat) (h : W.ownsRow w.heap.size 5 1 (.slice (some ⟨g, 0, none⟩) (quoteL s.data.toList).length c) (quoteL s.data.toList).length (Lib.byteCells (quoteL s.data.toList))) => bytes_str h rfl
      go_wp2_with (at_builtin; refine wpList_append_own _ rfl _ _ 61 rfl w.heap.size 5 i0 (.int .u8 0) 1 1 Tryz.underlying61 hi hz0 hz1 hz2 rfl (by decide) _ _ _ rfl (hrow.alloc _) ⟨wr.heap.size, 0, none⟩ 1 1 [.int .u8 34] rfl rfl (cells_new _ #[_] _) (by simp [Value.oneCell']) (by unfold maxLen; omega) (by omega) (by have := hB.size; simp; omega) ?_; intro v' w2 hown' hgrow _; obtain ⟨g', c', hv', hr'⟩ := row_step hown' E.out rfl F.out.symm hA.1; rw [hv']; have hB' := Below.app hB hB.size hrow hgrow)
      have hc' := hcv _ _ _ hr'
      go_wp2
      go_ret
      exact ⟨rfl, hB'⟩

end Go.Proofs.YtbeflhpekklgoaaGreatDoor.WordsBytes
