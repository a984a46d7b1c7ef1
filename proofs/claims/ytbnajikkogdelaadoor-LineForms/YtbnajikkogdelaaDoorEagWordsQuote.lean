/-
  Texts that stand together: WordsQuote, WordsBuilder.
-/
import Derived.Test.YtbnajikkogdelaaDoorEWordsBytes
import Derived.Shelf.Strings.BuilderK
import Derived.Test.YtbnajikkogdelaaDoorProg
namespace Go.Proofs.YtbnajikkogdelaaDoor.WordsBytes
open Go.RowKit Go.Proofs.YtbnajikkogdelaaDoor.WordsMath Go.Proofs.YtbnajikkogdelaaDoor.WordsOne

set_option maxRecDepth 100000 in
set_option maxHeartbeats 4000000 in
theorem quote_any (s : ByteArray) (w : World) (hs : 4 * s.size + 2 ≤ 140737488355328) : Calls Tryd.prog 39 #[.string s] w fun e w' => e = .returned (.string ⟨(quoteL s.data.toList).toArray⟩) ∧ Below w.heap.size w w' := by
  obtain ⟨i0, hi, hz0, hz1, hz2⟩ := info_parts info5
  go_enter Tryd.func39, Tryd.ntmps39
  go_wp2
  go_loopw [3, 9] (fun t i wr => ∃ k g c : Nat, k ≤ s.size ∧ i = .int .i64 k ∧ t = .slice (some ⟨g, 0, none⟩) (accQ s k).length c ∧ wr.ownsRow w.heap.size 5 1 (.slice (some ⟨g, 0, none⟩) (accQ s k).length c) (accQ s k).length (Lib.byteCells (accQ s k)) ∧ Below w.heap.size w wr) (fun _ i _ => s.size - (intOf i).toNat)
  case atStart =>
    refine ⟨0, w.heap.size, 1, by omega, rfl, rfl, ?_, (Below.refl _ _).alloc (Nat.le_refl _) _⟩
    exact World.ownsRow_lit w #[.int .u8 34] 1 (Nat.le_refl _) (by unfold maxLen; omega) rfl
  case round =>
    obtain ⟨k, g, c, hk, rfl, rfl, hrow, hB⟩ := hrel
    have hA := accQ_len s k
    by_cases hlt : k < s.size
    · have F : Hid (_) := accQ_succ s hlt
      have hl := accQ_len s (k + 1)
      rw [accQ_succ s hlt, List.length_append] at hl
      have hb := byte_lt s hlt
      obtain ⟨d, hd⟩ : ∃ d, s[k] = d := ⟨_, rfl⟩
      rw [hd] at F hl hb
      by_cases h1 : d.toNat = 34 ∨ d.toNat = 92
      · have q : quoteB d = [92, d] := by unfold quoteB; rw [if_pos h1]
        rw [q] at F hl
        have E : Hid ([Value.int .u8 92, .int .u8 (d.toNat : Int)] = Lib.byteCells [92, d]) := by show _ = _; simp [Lib.byteCells]
        simp only [List.length_cons, List.length_nil] at hl
        clear q
        rcases h1 with h1 | h1
        · have k1 : ((d.toNat : Int) == 34) = true := by simp; omega
          clear h1
          go_wp2_with (at_builtin; refine wpList_append_own _ rfl _ _ 81 rfl w.heap.size 5 i0 (.int .u8 0) 1 1 Tryd.underlying81 hi hz0 hz1 hz2 rfl (by decide) _ _ _ rfl (hrow.alloc _) ⟨wr.heap.size, 0, none⟩ 2 2 [.int .u8 92, .int .u8 (d.toNat : Int)] rfl rfl (cells_new _ #[_, _] _) (by simp [Value.oneCell']) (by unfold maxLen; omega) (by omega) (by have := hB.size; simp; omega) ?_; intro v' w2 hown' hgrow _; obtain ⟨g', c', hv', hr'⟩ := row_step hown' E.out rfl F.out hA.1; rw [hv']; have hB' := Below.app hB hB.size hrow hgrow)
          go_wp2
          go_roundw
          case rel => exact ⟨k + 1, g', c', by omega, by go_num, rfl, hr', hB'⟩
          case measure => simp [intOf]; omega
        · have k1 : ((d.toNat : Int) == 34) = false := by simp; omega
          have k2 : ((d.toNat : Int) == 92) = true := by simp; omega
          clear h1
          go_wp2_with (at_builtin; refine wpList_append_own _ rfl _ _ 81 rfl w.heap.size 5 i0 (.int .u8 0) 1 1 Tryd.underlying81 hi hz0 hz1 hz2 rfl (by decide) _ _ _ rfl (hrow.alloc _) ⟨wr.heap.size, 0, none⟩ 2 2 [.int .u8 92, .int .u8 (d.toNat : Int)] rfl rfl (cells_new _ #[_, _] _) (by simp [Value.oneCell']) (by unfold maxLen; omega) (by omega) (by have := hB.size; simp; omega) ?_; intro v' w2 hown' hgrow _; obtain ⟨g', c', hv', hr'⟩ := row_step hown' E.out rfl F.out hA.1; rw [hv']; have hB' := Below.app hB hB.size hrow hgrow)
          go_wp2
          go_roundw
          case rel => exact ⟨k + 1, g', c', by omega, by go_num, rfl, hr', hB'⟩
          case measure => simp [intOf]; omega
      · have k1 : ((d.toNat : Int) == 34) = false := by simp; omega
        have k2 : ((d.toNat : Int) == 92) = false := by simp; omega
        by_cases h2 : d.toNat = 10
        · have q : quoteB d = [92, 110] := by unfold quoteB; rw [if_neg h1, if_pos h2]
          rw [q] at F hl
          have E : Hid ([Value.int .u8 92, .int .u8 110] = Lib.byteCells [92, 110]) := by show _ = _; simp [Lib.byteCells]
          simp only [List.length_cons, List.length_nil] at hl
          have k3 : ((d.toNat : Int) == 10) = true := by simp; omega
          clear q h1 h2
          go_wp2_with (at_builtin; refine wpList_append_own _ rfl _ _ 81 rfl w.heap.size 5 i0 (.int .u8 0) 1 1 Tryd.underlying81 hi hz0 hz1 hz2 rfl (by decide) _ _ _ rfl (hrow.alloc _) ⟨wr.heap.size, 0, none⟩ 2 2 [.int .u8 92, .int .u8 110] rfl rfl (cells_new _ #[_, _] _) (by simp [Value.oneCell']) (by unfold maxLen; omega) (by omega) (by have := hB.size; simp; omega) ?_; intro v' w2 hown' hgrow _; obtain ⟨g', c', hv', hr'⟩ := row_step hown' E.out rfl F.out hA.1; rw [hv']; have hB' := Below.app hB hB.size hrow hgrow)
          go_wp2
          go_roundw
          case rel => exact ⟨k + 1, g', c', by omega, by go_num, rfl, hr', hB'⟩
          case measure => simp [intOf]; omega
        · have k3 : ((d.toNat : Int) == 10) = false := by simp; omega
          by_cases h3 : d.toNat < 32 ∨ 127 ≤ d.toNat
          · have q : quoteB d = [92, 120, hexB (d.toNat / 16), hexB (d.toNat % 16)] := by unfold quoteB; rw [if_neg h1, if_neg h2, if_pos h3]
            rw [q] at F hl
            have E : Hid ([Value.int .u8 92, .int .u8 120, .int .u8 ((hexB (d.toNat / 16)).toNat : Int), .int .u8 ((hexB (d.toNat % 16)).toNat : Int)] = Lib.byteCells [92, 120, hexB (d.toNat / 16), hexB (d.toNat % 16)]) := by show _ = _; simp [Lib.byteCells]
            simp only [List.length_cons, List.length_nil] at hl
            have e1 : (d.toNat : Int) / 16 = ((d.toNat / 16 : Nat) : Int) := by omega
            have e2 := and15 d.toNat hb
            have ha : d.toNat / 16 < 16 := by omega
            have hb2 : d.toNat % 16 < 16 := by omega
            obtain ⟨D, hDs, hD2, hDat⟩ : ∃ D : ByteArray, ∃ h : D.size = 16, (⟨#[48, 49, 50, 51, 52, 53, 54, 55, 56, 57, 65, 66, 67, 68, 69, 70]⟩ : ByteArray) = D ∧ ∀ a (ha : a < 16), D[a]'(by omega) = hexB a := ⟨digitsB, rfl, rfl, digits_at⟩
            have d1 := hDat _ ha
            have d2 := hDat _ hb2
            clear hDat q
            generalize d.toNat / 16 = a at *
            generalize d.toNat % 16 = b at *
            generalize hexB a = x at *
            generalize hexB b = y at *
            have ha3 : (a : Int) < 16 := by omega
            have hb3 : (b : Int) < 16 := by omega
            rcases h3 with h3 | h3
            · have k4 : (d.toNat : Int) < 32 := by omega
              clear h1 h2
              go_wp2
              go_region_law (refine step_append_own rfl _ _ 81 rfl w.heap.size 5 i0 (.int .u8 0) 1 1 Tryd.underlying81 hi hz0 hz1 hz2 rfl (by decide) _ _ _ rfl (World.ownsRow.alloc (World.ownsRow.drew hrow) _) ⟨wr.drew.heap.size, 0, none⟩ 4 4 [.int .u8 92, .int .u8 120, .int .u8 (x.toNat : Int), .int .u8 (y.toNat : Int)] rfl rfl (cells_new _ #[_, _, _, _] _) (by simp [Value.oneCell']) (by unfold maxLen; omega) (by omega) (by have := hB.size; simp; omega) ?_; intro v' w2 hown' hgrow _; obtain ⟨g', c', hv', hr'⟩ := row_step hown' E.out rfl F.out hA.1; rw [hv']; have hB' := Below.app hB.drew hB.size hrow hgrow)
              all_goals go_wp2
              all_goals go_roundw
              all_goals first | exact ⟨k + 1, g', c', by omega, by go_num, rfl, hr', hB'⟩ | (simp [intOf]; omega)
            · have k4 : ¬ (d.toNat : Int) < 32 := by omega
              have k5 : (127 : Int) ≤ (d.toNat : Int) := by omega
              clear h1 h2
              go_wp2
              go_region_law (refine step_append_own rfl _ _ 81 rfl w.heap.size 5 i0 (.int .u8 0) 1 1 Tryd.underlying81 hi hz0 hz1 hz2 rfl (by decide) _ _ _ rfl (World.ownsRow.alloc (World.ownsRow.drew hrow) _) ⟨wr.drew.heap.size, 0, none⟩ 4 4 [.int .u8 92, .int .u8 120, .int .u8 (x.toNat : Int), .int .u8 (y.toNat : Int)] rfl rfl (cells_new _ #[_, _, _, _] _) (by simp [Value.oneCell']) (by unfold maxLen; omega) (by omega) (by have := hB.size; simp; omega) ?_; intro v' w2 hown' hgrow _; obtain ⟨g', c', hv', hr'⟩ := row_step hown' E.out rfl F.out hA.1; rw [hv']; have hB' := Below.app hB.drew hB.size hrow hgrow)
              all_goals go_wp2
              all_goals go_roundw
              all_goals first | exact ⟨k + 1, g', c', by omega, by go_num, rfl, hr', hB'⟩ | (simp [intOf]; omega)
          · have q : quoteB d = [d] := by unfold quoteB; rw [if_neg h1, if_neg h2, if_neg h3]
            rw [q] at F hl
            have E : Hid ([Value.int .u8 (d.toNat : Int)] = Lib.byteCells [d]) := by show _ = _; simp [Lib.byteCells]
            simp only [List.length_cons, List.length_nil] at hl
            have k4 : ¬ (d.toNat : Int) < 32 := by omega
            have k5 : ¬ (127 : Int) ≤ (d.toNat : Int) := by omega
            clear q h1 h2 h3
            go_wp2_with (at_builtin; refine wpList_append_own _ rfl _ _ 81 rfl w.heap.size 5 i0 (.int .u8 0) 1 1 Tryd.underlying81 hi hz0 hz1 hz2 rfl (by decide) _ _ _ rfl (hrow.alloc _) ⟨wr.heap.size, 0, none⟩ 1 1 [.int .u8 (d.toNat : Int)] rfl rfl (cells_new _ #[_] _) (by simp [Value.oneCell']) (by unfold maxLen; omega) (by omega) (by have := hB.size; simp; omega) ?_; intro v' w2 hown' hgrow _; obtain ⟨g', c', hv', hr'⟩ := row_step hown' E.out rfl F.out hA.1; rw [hv']; have hB' := Below.app hB hB.size hrow hgrow)
            go_wp2
            go_roundw
            case rel => exact ⟨k + 1, g', c', by omega, by go_num, rfl, hr', hB'⟩
            case measure => simp [intOf]; omega
    · have F : Hid (_) := accQ_end s (k := k) (by omega)
      have E : Hid ([Value.int .u8 34] = Lib.byteCells [34]) := by show _ = _; simp [Lib.byteCells]
      have hcv := fun (W : World) (g c : Nat) (h : W.ownsRow w.heap.size 5 1 (.slice (some ⟨g, 0, none⟩) (quoteL s.data.toList).length c) (quoteL s.data.toList).length (Lib.byteCells (quoteL s.data.toList))) => bytes_str h rfl
      go_wp2_with (at_builtin; refine wpList_append_own _ rfl _ _ 81 rfl w.heap.size 5 i0 (.int .u8 0) 1 1 Tryd.underlying81 hi hz0 hz1 hz2 rfl (by decide) _ _ _ rfl (hrow.alloc _) ⟨wr.heap.size, 0, none⟩ 1 1 [.int .u8 34] rfl rfl (cells_new _ #[_] _) (by simp [Value.oneCell']) (by unfold maxLen; omega) (by omega) (by have := hB.size; simp; omega) ?_; intro v' w2 hown' hgrow _; obtain ⟨g', c', hv', hr'⟩ := row_step hown' E.out rfl F.out.symm hA.1; rw [hv']; have hB' := Below.app hB hB.size hrow hgrow)
      have hc' := hcv _ _ _ hr'
      go_wp2
      go_ret
      exact ⟨rfl, hB'⟩

end Go.Proofs.YtbnajikkogdelaaDoor.WordsBytes

namespace Go.Proofs
open Go.Shelf

def Tryd.lays166_ren : Go.Shelf.Ren := ⟨fun | 166 => 38 | 240 => 61 | 276 => 75 | n => n, fun | 0 => 0 | 3 => 3 | 4 => 4 | 5 => 5 | 9 => 9 | 20 => 20 | 37 => 81 | 70 => 80 | 72 => 83 | 75 => 29 | 80 => 89 | 164 => 106 | n => n, fun | n => n⟩
theorem Tryd.lays166 : Go.Proofs.Lays.n166 Tryd.prog Tryd.lays166_ren := {
  mixed := by kernel_rfl
  f166 := Tryd.func38.trans (congrArg some (by kernel_rfl))
  f240 := Tryd.func61.trans (congrArg some (by kernel_rfl))
  f276 := Tryd.func75.trans (congrArg some (by kernel_rfl))
  t0 := Tryd.underlying0
  a0 := Tryd.isAgg0
  z0 := Tryd.sizeOf0
  v0 := Tryd.zeroValue0
  t3 := Tryd.underlying3
  a3 := Tryd.isAgg3
  z3 := Tryd.sizeOf3
  v3 := Tryd.zeroValue3
  t4 := Tryd.underlying4
  a4 := Tryd.isAgg4
  z4 := Tryd.sizeOf4
  v4 := Tryd.zeroValue4
  t9 := Tryd.underlying9
  a9 := Tryd.isAgg9
  z9 := Tryd.sizeOf9
  v9 := Tryd.zeroValue9
  t20 := Tryd.underlying20
  a20 := Tryd.isAgg20
  z20 := Tryd.sizeOf20
  v20 := Tryd.zeroValue20
  t37 := Tryd.underlying81
  a37 := Tryd.isAgg81
  z37 := Tryd.sizeOf81
  v37 := Tryd.zeroValue81
  t70 := Tryd.underlying80
  a70 := Tryd.isAgg80
  z70 := Tryd.sizeOf80
  v70 := Tryd.zeroValue80
  t72 := Tryd.underlying83
  a72 := Tryd.isAgg83
  z72 := Tryd.sizeOf83
  v72 := Tryd.zeroValue83
  t75 := Tryd.underlying29
  a75 := Tryd.isAgg29
  z75 := Tryd.sizeOf29
  v75 := Tryd.zeroValue29
  t164 := Tryd.underlying106
  a164 := Tryd.isAgg106
  z164 := Tryd.sizeOf106
  v164 := Tryd.zeroValue106 }
theorem Tryd.Builder_Extra_166 : Builder.Extra Tryd.prog Tryd.lays166_ren := {
  sizeBuilder := by kernel_rfl
  liesBuilder := by kernel_rfl
  t5 := Tryd.underlying5
  a5 := Tryd.isAgg5
  z5 := Tryd.sizeOf5
  v5 := Tryd.zeroValue5
  infoByte := by kernel_rfl
  cellsByte := by kernel_rfl
  sizeByte := by kernel_rfl
  neB5 := by decide }

def Tryd.lays167_ren : Go.Shelf.Ren := ⟨fun | 167 => 36 | 240 => 61 | 276 => 75 | n => n, fun | 0 => 0 | 4 => 4 | 5 => 5 | 9 => 9 | 20 => 20 | 37 => 81 | 70 => 80 | 72 => 83 | 75 => 29 | 80 => 89 | 164 => 106 | n => n, fun | n => n⟩
theorem Tryd.lays167 : Go.Proofs.Lays.n167 Tryd.prog Tryd.lays167_ren := {
  mixed := by kernel_rfl
  f167 := Tryd.func36.trans (congrArg some (by kernel_rfl))
  f240 := Tryd.func61.trans (congrArg some (by kernel_rfl))
  f276 := Tryd.func75.trans (congrArg some (by kernel_rfl))
  t0 := Tryd.underlying0
  a0 := Tryd.isAgg0
  z0 := Tryd.sizeOf0
  v0 := Tryd.zeroValue0
  t4 := Tryd.underlying4
  a4 := Tryd.isAgg4
  z4 := Tryd.sizeOf4
  v4 := Tryd.zeroValue4
  t5 := Tryd.underlying5
  a5 := Tryd.isAgg5
  z5 := Tryd.sizeOf5
  v5 := Tryd.zeroValue5
  t9 := Tryd.underlying9
  a9 := Tryd.isAgg9
  z9 := Tryd.sizeOf9
  v9 := Tryd.zeroValue9
  t20 := Tryd.underlying20
  a20 := Tryd.isAgg20
  z20 := Tryd.sizeOf20
  v20 := Tryd.zeroValue20
  t37 := Tryd.underlying81
  a37 := Tryd.isAgg81
  z37 := Tryd.sizeOf81
  v37 := Tryd.zeroValue81
  t70 := Tryd.underlying80
  a70 := Tryd.isAgg80
  z70 := Tryd.sizeOf80
  v70 := Tryd.zeroValue80
  t72 := Tryd.underlying83
  a72 := Tryd.isAgg83
  z72 := Tryd.sizeOf83
  v72 := Tryd.zeroValue83
  t75 := Tryd.underlying29
  a75 := Tryd.isAgg29
  z75 := Tryd.sizeOf29
  v75 := Tryd.zeroValue29
  t164 := Tryd.underlying106
  a164 := Tryd.isAgg106
  z164 := Tryd.sizeOf106
  v164 := Tryd.zeroValue106 }
theorem Tryd.Builder_Extra_167 : Builder.Extra Tryd.prog Tryd.lays167_ren := {
  sizeBuilder := by kernel_rfl
  liesBuilder := by kernel_rfl
  t5 := Tryd.underlying5
  a5 := Tryd.isAgg5
  z5 := Tryd.sizeOf5
  v5 := Tryd.zeroValue5
  infoByte := by kernel_rfl
  cellsByte := by kernel_rfl
  sizeByte := by kernel_rfl
  neB5 := by decide }

open Go.RowKit in
theorem Tryd.Builder_WriteByte_k (B b : Nat) (bs : List Value) (c : Int) (w : World) (h : Lib.IsBuilderF 83 5 B b bs w) (hlen : bs.length + 1 ≤ 140737488355328) (hBw : B ≤ w.heap.size) :
    Calls Tryd.prog 36 #[.pointer (some ⟨b, 0, none⟩), .int .u8 c] w fun e w' => e = .returned .nilIface ∧ (Lib.BuilderAtF 83 5 B b (.pointer (some ⟨b, 0, none⟩)) (bs ++ [.int .u8 c]) w' ∧ Below B w w' ∧ Lib.OthersKept 5 (some b) w w') := Any.Builder_WriteByte_k Tryd.lays167 Tryd.Builder_Extra_167 B b bs c w h hlen hBw

open Go.RowKit in
theorem Tryd.Builder_WriteString_k (B b : Nat) (bs : List Value) (s : ByteArray) (w : World) (h : Lib.IsBuilderF 83 5 B b bs w) (hlen : bs.length + s.size ≤ 140737488355328) (hBw : B ≤ w.heap.size) :
    Calls Tryd.prog 38 #[.pointer (some ⟨b, 0, none⟩), .string s] w fun e w' => e = .returned (.tuple #[.int .i64 s.size, .nilIface]) ∧ (Lib.BuilderAtF 83 5 B b (.pointer (some ⟨b, 0, none⟩)) (bs ++ Lib.strCells s) w' ∧ Below B w w' ∧ Lib.OthersKept 5 (some b) w w') := Any.Builder_WriteString_k Tryd.lays166 Tryd.Builder_Extra_166 B b bs s w h hlen hBw

end Go.Proofs
