/-
  Texts that stand together: WordsRQuote.
-/
import Derived.Test.YtbnajikkogdelaaDoorCagWordsQuote
namespace Go.Proofs.YtbnajikkogdelaaDoor.WordsBytes
open Go.RowKit Go.Proofs.YtbnajikkogdelaaDoor.WordsMath Go.Proofs.YtbnajikkogdelaaDoor.WordsOne

theorem ret_int {k : IntKind} {a b : Int} (h : a = b) : Ending.returned (.int k a) = .returned (.int k b) := by rw [h]

set_option maxHeartbeats 400000 in
theorem figure_any (n : Nat) (w : World) (hn : n < 16) : Calls Tryd.prog 74 #[.int .i64 (n : Int)] w fun e w' => e = .returned (.int .u8 ((hexB n).toNat : Int)) ∧ w' = w := by
  by_cases h : n < 10
  · have h1 : (n : Int) < 10 := by omega
    have t1 : IntKind.i64.wrap (48 + (n : Int)) = 48 + (n : Int) := by rw [IntKind.wrap_i64]; omega
    have t2 : IntKind.u8.wrap (48 + (n : Int)) = 48 + (n : Int) := by simp [IntKind.wrap, IntKind.bits, IntKind.signed]; omega
    have E : Hid (((hexB n).toNat : Int) = 48 + (n : Int)) := by
      show _ = _
      unfold hexB
      rw [if_pos h, UInt8.toNat_ofNat']
      omega
    go_enter Tryd.func74, Tryd.ntmps74
    go_wp2
    go_ret
    exact ⟨ret_int E.out.symm, rfl⟩
  · have h1 : ¬ (n : Int) < 10 := by omega
    have t1 : IntKind.i64.wrap (65 + (n : Int)) = 65 + (n : Int) := by rw [IntKind.wrap_i64]; omega
    have t3 : IntKind.i64.wrap (65 + (n : Int) - 10) = 65 + (n : Int) - 10 := by rw [IntKind.wrap_i64]; omega
    have t2 : IntKind.u8.wrap (65 + (n : Int) - 10) = 65 + (n : Int) - 10 := by simp [IntKind.wrap, IntKind.bits, IntKind.signed]; omega
    have E : Hid (((hexB n).toNat : Int) = 65 + (n : Int) - 10) := by
      show _ = _
      unfold hexB
      rw [if_neg h, UInt8.toNat_ofNat']
      omega
    go_enter Tryd.func74, Tryd.ntmps74
    go_wp2
    go_ret
    exact ⟨ret_int E.out.symm, rfl⟩

set_option maxRecDepth 100000 in
set_option maxHeartbeats 4000000 in
theorem rquote_any (s : ByteArray) (w : World) (hs : 4 * s.size + 2 ≤ 140737488355328) : Calls Tryd.prog 60 #[.string s] w fun e w' => e = .returned (.string ⟨(quoteL s.data.toList).toArray⟩) ∧ Below w.heap.size w w' := by
  obtain ⟨i0, hi, hz0, hz1, hz2⟩ := info_parts info5
  go_enter Tryd.func60, Tryd.ntmps60
  go_wp2
  go_loopw [3, 4] (fun t i wr => ∃ k g c : Nat, k ≤ s.size ∧ i = .int .i64 k ∧ t = .slice (some ⟨g, 0, none⟩) (accQ s k).length c ∧ wr.ownsRow w.heap.size 5 1 (.slice (some ⟨g, 0, none⟩) (accQ s k).length c) (accQ s k).length (Lib.byteCells (accQ s k)) ∧ Below w.heap.size w wr) (fun _ i _ => s.size - (intOf i).toNat)
  case atStart =>
    refine ⟨0, w.heap.size, 1, by omega, rfl, rfl, ?_, (Below.refl _ _).alloc (Nat.le_refl _) _⟩
    exact World.ownsRow_lit w #[.int .u8 34] 1 (Nat.le_refl _) (by unfold maxLen; omega) rfl
  case round =>
    obtain ⟨k, g, c, hk, rfl, rfl, hrow, hB⟩ := hrel
    have hA := accQ_len s k
    by_cases hlt : k < s.size
    · have F : Hid (_) := accQ_succ s hlt
      have hl := accQ_len s (k + 1)
      rw [accQ_succ s hlt, List.length_append] at hl
      have hb := byte_lt s hlt
      obtain ⟨d, hd⟩ : ∃ d, s[k] = d := ⟨_, rfl⟩
      rw [hd] at F hl hb
      by_cases h1 : d.toNat = 34 ∨ d.toNat = 92
      · have q : quoteB d = [92, d] := by unfold quoteB; rw [if_pos h1]
        rw [q] at F hl
        have E : Hid ([Value.int .u8 92, .int .u8 (d.toNat : Int)] = Lib.byteCells [92, d]) := by show _ = _; simp [Lib.byteCells]
        simp only [List.length_cons, List.length_nil] at hl
        clear q
        rcases h1 with h1 | h1
        · have k1 : ((d.toNat : Int) == 34) = true := by simp; omega
          clear h1
          go_wp2_with (at_builtin; refine wpList_append_own _ rfl _ _ 81 rfl w.heap.size 5 i0 (.int .u8 0) 1 1 Tryd.underlying81 hi hz0 hz1 hz2 rfl (by decide) _ _ _ rfl (hrow.alloc _) ⟨wr.heap.size, 0, none⟩ 2 2 [.int .u8 92, .int .u8 (d.toNat : Int)] rfl rfl (cells_new _ #[_, _] _) (by simp [Value.oneCell']) (by unfold maxLen; omega) (by omega) (by have := hB.size; simp; omega) ?_; intro v' w2 hown' hgrow _; obtain ⟨g', c', hv', hr'⟩ := row_step hown' E.out rfl F.out hA.1; rw [hv']; have hB' := Below.app hB hB.size hrow hgrow)
          go_wp2
          go_roundw
          case rel => exact ⟨k + 1, g', c', by omega, by go_num, rfl, hr', hB'⟩
          case measure => simp [intOf]; omega
        · have k1 : ((d.toNat : Int) == 34) = false := by simp; omega
          have k2 : ((d.toNat : Int) == 92) = true := by simp; omega
          clear h1
          go_wp2_with (at_builtin; refine wpList_append_own _ rfl _ _ 81 rfl w.heap.size 5 i0 (.int .u8 0) 1 1 Tryd.underlying81 hi hz0 hz1 hz2 rfl (by decide) _ _ _ rfl (hrow.alloc _) ⟨wr.heap.size, 0, none⟩ 2 2 [.int .u8 92, .int .u8 (d.toNat : Int)] rfl rfl (cells_new _ #[_, _] _) (by simp [Value.oneCell']) (by unfold maxLen; omega) (by omega) (by have := hB.size; simp; omega) ?_; intro v' w2 hown' hgrow _; obtain ⟨g', c', hv', hr'⟩ := row_step hown' E.out rfl F.out hA.1; rw [hv']; have hB' := Below.app hB hB.size hrow hgrow)
          go_wp2
          go_roundw
          case rel => exact ⟨k + 1, g', c', by omega, by go_num, rfl, hr', hB'⟩
          case measure => simp [intOf]; omega
      · have k1 : ((d.toNat : Int) == 34) = false := by simp; omega
        have k2 : ((d.toNat : Int) == 92) = false := by simp; omega
        by_cases h2 : d.toNat = 10
        · have q : quoteB d = [92, 110] := by unfold quoteB; rw [if_neg h1, if_pos h2]
          rw [q] at F hl
          have E : Hid ([Value.int .u8 92, .int .u8 110] = Lib.byteCells [92, 110]) := by show _ = _; simp [Lib.byteCells]
          simp only [List.length_cons, List.length_nil] at hl
          have k3 : ((d.toNat : Int) == 10) = true := by simp; omega
          clear q h1 h2
          go_wp2_with (at_builtin; refine wpList_append_own _ rfl _ _ 81 rfl w.heap.size 5 i0 (.int .u8 0) 1 1 Tryd.underlying81 hi hz0 hz1 hz2 rfl (by decide) _ _ _ rfl (hrow.alloc _) ⟨wr.heap.size, 0, none⟩ 2 2 [.int .u8 92, .int .u8 110] rfl rfl (cells_new _ #[_, _] _) (by simp [Value.oneCell']) (by unfold maxLen; omega) (by omega) (by have := hB.size; simp; omega) ?_; intro v' w2 hown' hgrow _; obtain ⟨g', c', hv', hr'⟩ := row_step hown' E.out rfl F.out hA.1; rw [hv']; have hB' := Below.app hB hB.size hrow hgrow)
          go_wp2
          go_roundw
          case rel => exact ⟨k + 1, g', c', by omega, by go_num, rfl, hr', hB'⟩
          case measure => simp [intOf]; omega
        · have k3 : ((d.toNat : Int) == 10) = false := by simp; omega
          by_cases h3 : d.toNat < 32 ∨ 127 ≤ d.toNat
          · have q : quoteB d = [92, 120, hexB (d.toNat / 16), hexB (d.toNat % 16)] := by unfold quoteB; rw [if_neg h1, if_neg h2, if_pos h3]
            rw [q] at F hl
            have E : Hid ([Value.int .u8 92, .int .u8 120, .int .u8 ((hexB (d.toNat / 16)).toNat : Int), .int .u8 ((hexB (d.toNat % 16)).toNat : Int)] = Lib.byteCells [92, 120, hexB (d.toNat / 16), hexB (d.toNat % 16)]) := by show _ = _; simp [Lib.byteCells]
            simp only [List.length_cons, List.length_nil] at hl
            have e1 : (d.toNat : Int) / 16 = ((d.toNat / 16 : Nat) : Int) := by omega
            have e2 : (d.toNat : Int) % 16 = ((d.toNat % 16 : Nat) : Int) := by omega
            have ha : d.toNat / 16 < 16 := by omega
            have hb2 : d.toNat % 16 < 16 := by omega
            clear q
            generalize d.toNat / 16 = a at *
            generalize d.toNat % 16 = b at *
            have ha3 : (a : Int) < 16 := by omega
            have hb3 : (b : Int) < 16 := by omega
            rcases h3 with h3 | h3
            · have k4 : (d.toNat : Int) < 32 := by omega
              clear h1 h2
              go_wp2_with (first | (go_at_call 74; refine (figure_any _ _ (by assumption)).mono ?_; rintro e w' ⟨rfl, hw'⟩; obtain rfl := hw'.symm) | (at_builtin; refine wpList_append_own _ rfl _ _ 81 rfl w.heap.size 5 i0 (.int .u8 0) 1 1 Tryd.underlying81 hi hz0 hz1 hz2 rfl (by decide) _ _ _ rfl (hrow.alloc _) ⟨wr.heap.size, 0, none⟩ 4 4 [.int .u8 92, .int .u8 120, .int .u8 ((hexB a).toNat : Int), .int .u8 ((hexB b).toNat : Int)] rfl rfl (cells_new _ #[_, _, _, _] _) (by simp [Value.oneCell']) (by unfold maxLen; omega) (by omega) (by have := hB.size; simp; omega) ?_; intro v' w2 hown' hgrow _; obtain ⟨g', c', hv', hr'⟩ := row_step hown' E.out rfl F.out hA.1; rw [hv']; have hB' := Below.app hB hB.size hrow hgrow))
              all_goals go_wp2
              all_goals go_roundw
              all_goals first | exact ⟨k + 1, g', c', by omega, by go_num, rfl, hr', hB'⟩ | (simp [intOf]; omega)
            · have k4 : ¬ (d.toNat : Int) < 32 := by omega
              have k5 : (126 : Int) < (d.toNat : Int) := by omega
              clear h1 h2
              go_wp2_with (first | (go_at_call 74; refine (figure_any _ _ (by assumption)).mono ?_; rintro e w' ⟨rfl, hw'⟩; obtain rfl := hw'.symm) | (at_builtin; refine wpList_append_own _ rfl _ _ 81 rfl w.heap.size 5 i0 (.int .u8 0) 1 1 Tryd.underlying81 hi hz0 hz1 hz2 rfl (by decide) _ _ _ rfl (hrow.alloc _) ⟨wr.heap.size, 0, none⟩ 4 4 [.int .u8 92, .int .u8 120, .int .u8 ((hexB a).toNat : Int), .int .u8 ((hexB b).toNat : Int)] rfl rfl (cells_new _ #[_, _, _, _] _) (by simp [Value.oneCell']) (by unfold maxLen; omega) (by omega) (by have := hB.size; simp; omega) ?_; intro v' w2 hown' hgrow _; obtain ⟨g', c', hv', hr'⟩ := row_step hown' E.out rfl F.out hA.1; rw [hv']; have hB' := Below.app hB hB.size hrow hgrow))
              all_goals go_wp2
              all_goals go_roundw
              all_goals first | exact ⟨k + 1, g', c', by omega, by go_num, rfl, hr', hB'⟩ | (simp [intOf]; omega)
          · have q : quoteB d = [d] := by unfold quoteB; rw [if_neg h1, if_neg h2, if_neg h3]
            rw [q] at F hl
            have E : Hid ([Value.int .u8 (d.toNat : Int)] = Lib.byteCells [d]) := by show _ = _; simp [Lib.byteCells]
            simp only [List.length_cons, List.length_nil] at hl
            have k4 : ¬ (d.toNat : Int) < 32 := by omega
            have k5 : ¬ (126 : Int) < (d.toNat : Int) := by omega
            clear q h1 h2 h3
            go_wp2_with (at_builtin; refine wpList_append_own _ rfl _ _ 81 rfl w.heap.size 5 i0 (.int .u8 0) 1 1 Tryd.underlying81 hi hz0 hz1 hz2 rfl (by decide) _ _ _ rfl (hrow.alloc _) ⟨wr.heap.size, 0, none⟩ 1 1 [.int .u8 (d.toNat : Int)] rfl rfl (cells_new _ #[_] _) (by simp [Value.oneCell']) (by unfold maxLen; omega) (by omega) (by have := hB.size; simp; omega) ?_; intro v' w2 hown' hgrow _; obtain ⟨g', c', hv', hr'⟩ := row_step hown' E.out rfl F.out hA.1; rw [hv']; have hB' := Below.app hB hB.size hrow hgrow)
            go_wp2
            go_roundw
            case rel => exact ⟨k + 1, g', c', by omega, by go_num, rfl, hr', hB'⟩
            case measure => simp [intOf]; omega
    · have F : Hid (_) := accQ_end s (k := k) (by omega)
      have E : Hid ([Value.int .u8 34] = Lib.byteCells [34]) := by show _ = _; simp [Lib.byteCells]
      have hcv := fun (W : World) (g c : Nat) (h : W.ownsRow w.heap.size 5 1 (.slice (some ⟨g, 0, none⟩) (quoteL s.data.toList).length c) (quoteL s.data.toList).length (Lib.byteCells (quoteL s.data.toList))) => bytes_str h rfl
      go_wp2_with (at_builtin; refine wpList_append_own _ rfl _ _ 81 rfl w.heap.size 5 i0 (.int .u8 0) 1 1 Tryd.underlying81 hi hz0 hz1 hz2 rfl (by decide) _ _ _ rfl (hrow.alloc _) ⟨wr.heap.size, 0, none⟩ 1 1 [.int .u8 34] rfl rfl (cells_new _ #[_] _) (by simp [Value.oneCell']) (by unfold maxLen; omega) (by omega) (by have := hB.size; simp; omega) ?_; intro v' w2 hown' hgrow _; obtain ⟨g', c', hv', hr'⟩ := row_step hown' E.out rfl F.out.symm hA.1; rw [hv']; have hB' := Below.app hB hB.size hrow hgrow)
      have hc' := hcv _ _ _ hr'
      go_wp2
      go_ret
      exact ⟨rfl, hB'⟩

end Go.Proofs.YtbnajikkogdelaaDoor.WordsBytes
