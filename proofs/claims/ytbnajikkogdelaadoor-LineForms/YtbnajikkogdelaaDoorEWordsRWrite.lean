/-
  Texts that stand together: WordsRWrite.
-/
import Derived.Test.YtbnajikkogdelaaDoorEagWordsRow
import Derived.Test.YtbnajikkogdelaaDoorEagLineWrite
import Derived.Lib.AppendStr
namespace Go.Proofs.YtbnajikkogdelaaDoor.WordsBytes
open Go.RowKit Go.Proofs.YtbnajikkogdelaaDoor.WordsMath Go.Proofs.YtbnajikkogdelaaDoor.WordsOne

theorem rwplain_list (t : List UInt8) (w : World) (ht : t.length ≤ 4611686018427387904) : Calls Tryd.prog 59 #[.string ⟨t.toArray⟩] w fun e w' => e = .returned (.bool (plainW t)) ∧ w' = w := by
  have h := rwplain_any ⟨t.toArray⟩ w (by rw [size_list]; exact ht)
  simpa using h

theorem rquote_list (t : List UInt8) (w : World) (ht : 4 * t.length + 2 ≤ 140737488355328) : Calls Tryd.prog 60 #[.string ⟨t.toArray⟩] w fun e w' => e = .returned (.string ⟨(quoteL t).toArray⟩) ∧ Below w.heap.size w w' := by
  have h := rquote_any ⟨t.toArray⟩ w (by rw [size_list]; exact ht)
  simpa using h

set_option maxRecDepth 100000 in
set_option maxHeartbeats 4000000 in
theorem rwrite_any (a : Option Addr) (c : Nat) (ws : List W) (w : World) (hr : WRow w a ws) (hn : ws.length ≤ 4611686018427387904) (ht : ∀ x ∈ ws, 4 * x.text.length + 2 ≤ 140737488355328) (hl : (allW ws).length ≤ 140737488355328) :
    Calls Tryd.prog 35 #[.slice a ws.length c] w fun e w' => e = .returned (.string ⟨(allW ws).toArray⟩) ∧ Below w.heap.size w w' := by
  obtain ⟨i0, hi, hz0, hz1, hz2⟩ := info_parts info5
  go_enter Tryd.func35, Tryd.ntmps35
  go_wp2
  go_loopw [3, 4] (fun v i wr => ∃ k : Nat, k ≤ ws.length ∧ i = .int .i64 k ∧ wr.ownsRow w.heap.size 5 1 v (outW ws k).length (Lib.byteCells (outW ws k)) ∧ Below w.heap.size w wr) (fun _ i _ => ws.length - (intOf i).toNat)
  case atStart => exact ⟨0, by omega, rfl, World.ownsRow_nil _ _ _ _, Below.refl _ _⟩
  case round =>
    obtain ⟨k, hk, rfl, hrow, hB⟩ := hrel
    by_cases hlt : k < ws.length
    · obtain ⟨x, hx⟩ : ∃ x, ws[k]? = some x := ⟨ws[k], List.getElem?_eq_getElem hlt⟩
      have hxt := ht x (List.mem_of_getElem? hx)
      obtain ⟨b, off, rfl, c1, c2, _⟩ := hr k x hx
      have hat : ∀ w', Below w.heap.size w w' → w'.cell? ⟨b, off + k * 3, none⟩ = some (.string ⟨x.text.toArray⟩) ∧ w'.cell? ⟨b, off + k * 3 + 1, none⟩ = some (.bool x.quoted) := fun w' hb => ⟨(hb.cell (cell_lt c1)).trans c1, (hb.cell (cell_lt c2)).trans c2⟩
      have hle := outW_le ws k
      have hle2 := outW_le ws (k + 1)
      obtain ⟨t, q, p⟩ := x
      dsimp only at hxt c1 c2 hat
      have hsB := hB.size
      clear c1 c2 hr ht
      by_cases hk0 : k = 0
      · have hk1 : ¬ (0 : Int) < (k : Int) := by omega
        cases q with
        | true =>
          have F : Hid (outW ws (k + 1) = outW ws k ++ (quoteL t)) := by
            show _ = _
            rw [outW_start hk0 hx]
            simp [wordL]
          rw [F.out] at hle2
          simp only [List.length_append] at hle2
          clear hk0
          have hr1 := hrow
          have hB1 := hB
          have d1 := (hat _ hB).1
          have d2 := (hat _ hB).2
          go_wp2_with (first | (go_at_call 60; refine (rquote_list t _ hxt).mono ?_; rintro e W2 ⟨rfl, hb2⟩; have hr2 := own_below hr1 hb2; have hB2 := hB1.trans (hb2.mono hB1.size); have hs2 := hB2.size) | (at_builtin; refine Lib.wpList_append_own_string _ rfl _ _ 81 9 rfl w.heap.size 5 i0 Tryd.underlying81 Tryd.underlying9 hi hz0 hz1 hz2 _ _ _ rfl hr2 ⟨(quoteL t).toArray⟩ rfl (by rw [size_list]; unfold maxLen; omega) (by rw [size_list]; omega) hs2 ?_; intro v3 w3 hown3 hgrow3 _; have hr3 := row_any hown3 (show Lib.strCells ⟨(quoteL t).toArray⟩ = Lib.byteCells (quoteL t) from rfl) (size_list _) F.out; have hB3 : Below w.heap.size w w3 := hB2.grown hgrow3 hs2 (fun k hk => (hr2.lt k hk).1)))
          go_roundw
          case rel => exact ⟨k + 1, by omega, by go_num, hr3, hB3⟩
          case measure => simp [intOf]; omega
        | false =>
          by_cases hp : plainW t = true
          · have F : Hid (outW ws (k + 1) = outW ws k ++ t) := by
              show _ = _
              rw [outW_start hk0 hx]
              simp [wordL, hp]
            rw [F.out] at hle2
            simp only [List.length_append] at hle2
            clear hk0
            have hr1 := hrow
            have hB1 := hB
            have d1 := (hat _ hB).1
            have d2 := (hat _ hB).2
            have hr2 := hrow
            have hB2 := hB
            have hs2 := hsB
            go_wp2_with (first | (go_at_call 59; refine (rwplain_list t _ (by omega)).mono ?_; rintro e wq ⟨rfl, hwq⟩; obtain rfl := hwq.symm; rw [hp]) | (at_builtin; refine Lib.wpList_append_own_string _ rfl _ _ 81 9 rfl w.heap.size 5 i0 Tryd.underlying81 Tryd.underlying9 hi hz0 hz1 hz2 _ _ _ rfl hr2 ⟨t.toArray⟩ rfl (by rw [size_list]; unfold maxLen; omega) (by rw [size_list]; omega) hs2 ?_; intro v3 w3 hown3 hgrow3 _; have hr3 := row_any hown3 (show Lib.strCells ⟨t.toArray⟩ = Lib.byteCells t from rfl) (size_list _) F.out; have hB3 : Below w.heap.size w w3 := hB2.grown hgrow3 hs2 (fun k hk => (hr2.lt k hk).1)))
            go_roundw
            case rel => exact ⟨k + 1, by omega, by go_num, hr3, hB3⟩
            case measure => simp [intOf]; omega
          · have hp : plainW t = false := by simpa using hp
            have F : Hid (outW ws (k + 1) = outW ws k ++ (quoteL t)) := by
              show _ = _
              rw [outW_start hk0 hx]
              simp [wordL, hp]
            rw [F.out] at hle2
            simp only [List.length_append] at hle2
            clear hk0
            have hr1 := hrow
            have hB1 := hB
            have d1 := (hat _ hB).1
            have d2 := (hat _ hB).2
            go_wp2_with (first | (go_at_call 59; refine (rwplain_list t _ (by omega)).mono ?_; rintro e wq ⟨rfl, hwq⟩; obtain rfl := hwq.symm; rw [hp]) | (go_at_call 60; refine (rquote_list t _ hxt).mono ?_; rintro e W2 ⟨rfl, hb2⟩; have hr2 := own_below hr1 hb2; have hB2 := hB1.trans (hb2.mono hB1.size); have hs2 := hB2.size) | (at_builtin; refine Lib.wpList_append_own_string _ rfl _ _ 81 9 rfl w.heap.size 5 i0 Tryd.underlying81 Tryd.underlying9 hi hz0 hz1 hz2 _ _ _ rfl hr2 ⟨(quoteL t).toArray⟩ rfl (by rw [size_list]; unfold maxLen; omega) (by rw [size_list]; omega) hs2 ?_; intro v3 w3 hown3 hgrow3 _; have hr3 := row_any hown3 (show Lib.strCells ⟨(quoteL t).toArray⟩ = Lib.byteCells (quoteL t) from rfl) (size_list _) F.out; have hB3 : Below w.heap.size w w3 := hB2.grown hgrow3 hs2 (fun k hk => (hr2.lt k hk).1)))
            go_roundw
            case rel => exact ⟨k + 1, by omega, by go_num, hr3, hB3⟩
            case measure => simp [intOf]; omega
      · have hk1 : (0 : Int) < (k : Int) := by omega
        have E32 : Hid ([Value.int .u8 32] = Lib.byteCells [32]) := by show _ = _; simp [Lib.byteCells]
        cases q with
        | true =>
          have F : Hid (outW ws (k + 1) = outW ws k ++ [32] ++ (quoteL t)) := by
            show _ = _
            rw [outW_next hx (by omega)]
            simp [wordL]
          rw [F.out] at hle2
          simp only [List.length_append, List.length_cons, List.length_nil] at hle2
          have hll : (outW ws k ++ [32]).length = (outW ws k).length + 1 := by simp
          go_wp2_with (first | (at_builtin; refine wpList_append_own _ rfl _ _ 81 rfl w.heap.size 5 i0 (.int .u8 0) 1 1 Tryd.underlying81 hi hz0 hz1 hz2 rfl (by decide) _ _ _ rfl (hrow.alloc _) ⟨wr.heap.size, 0, none⟩ 1 1 [.int .u8 32] rfl rfl (cells_new _ #[_] _) (by simp [Value.oneCell']) (by unfold maxLen; omega) (by omega) (by simp; omega) ?_; intro v1 w1 hown1 hgrow1 _; have hr1 := row_any hown1 E32.out rfl rfl; have hB1 := Below.app hB hB.size hrow hgrow1; have hs1 := hB1.size; have d1 := (hat _ hB1).1; have d2 := (hat _ hB1).2) | (go_at_call 60; refine (rquote_list t _ hxt).mono ?_; rintro e W2 ⟨rfl, hb2⟩; have hr2 := own_below hr1 hb2; have hB2 := hB1.trans (hb2.mono hB1.size); have hs2 := hB2.size) | (at_builtin; refine Lib.wpList_append_own_string _ rfl _ _ 81 9 rfl w.heap.size 5 i0 Tryd.underlying81 Tryd.underlying9 hi hz0 hz1 hz2 _ _ _ rfl hr2 ⟨(quoteL t).toArray⟩ rfl (by rw [size_list]; unfold maxLen; omega) (by rw [size_list]; omega) hs2 ?_; intro v3 w3 hown3 hgrow3 _; have hr3 := row_any hown3 (show Lib.strCells ⟨(quoteL t).toArray⟩ = Lib.byteCells (quoteL t) from rfl) (size_list _) F.out; have hB3 : Below w.heap.size w w3 := hB2.grown hgrow3 hs2 (fun k hk => (hr2.lt k hk).1)))
          go_roundw
          case rel => exact ⟨k + 1, by omega, by go_num, hr3, hB3⟩
          case measure => simp [intOf]; omega
        | false =>
          by_cases hp : plainW t = true
          · have F : Hid (outW ws (k + 1) = outW ws k ++ [32] ++ t) := by
              show _ = _
              rw [outW_next hx (by omega)]
              simp [wordL, hp]
            rw [F.out] at hle2
            simp only [List.length_append, List.length_cons, List.length_nil] at hle2
            have hll : (outW ws k ++ [32]).length = (outW ws k).length + 1 := by simp
            go_wp2_with (first | (at_builtin; refine wpList_append_own _ rfl _ _ 81 rfl w.heap.size 5 i0 (.int .u8 0) 1 1 Tryd.underlying81 hi hz0 hz1 hz2 rfl (by decide) _ _ _ rfl (hrow.alloc _) ⟨wr.heap.size, 0, none⟩ 1 1 [.int .u8 32] rfl rfl (cells_new _ #[_] _) (by simp [Value.oneCell']) (by unfold maxLen; omega) (by omega) (by simp; omega) ?_; intro v1 w1 hown1 hgrow1 _; have hr1 := row_any hown1 E32.out rfl rfl; have hB1 := Below.app hB hB.size hrow hgrow1; have hs1 := hB1.size; have d1 := (hat _ hB1).1; have d2 := (hat _ hB1).2; have hr2 := hr1; have hB2 := hB1; have hs2 := hs1) | (go_at_call 59; refine (rwplain_list t _ (by omega)).mono ?_; rintro e wq ⟨rfl, hwq⟩; obtain rfl := hwq.symm; rw [hp]) | (at_builtin; refine Lib.wpList_append_own_string _ rfl _ _ 81 9 rfl w.heap.size 5 i0 Tryd.underlying81 Tryd.underlying9 hi hz0 hz1 hz2 _ _ _ rfl hr2 ⟨t.toArray⟩ rfl (by rw [size_list]; unfold maxLen; omega) (by rw [size_list]; omega) hs2 ?_; intro v3 w3 hown3 hgrow3 _; have hr3 := row_any hown3 (show Lib.strCells ⟨t.toArray⟩ = Lib.byteCells t from rfl) (size_list _) F.out; have hB3 : Below w.heap.size w w3 := hB2.grown hgrow3 hs2 (fun k hk => (hr2.lt k hk).1)))
            go_roundw
            case rel => exact ⟨k + 1, by omega, by go_num, hr3, hB3⟩
            case measure => simp [intOf]; omega
          · have hp : plainW t = false := by simpa using hp
            have F : Hid (outW ws (k + 1) = outW ws k ++ [32] ++ (quoteL t)) := by
              show _ = _
              rw [outW_next hx (by omega)]
              simp [wordL, hp]
            rw [F.out] at hle2
            simp only [List.length_append, List.length_cons, List.length_nil] at hle2
            have hll : (outW ws k ++ [32]).length = (outW ws k).length + 1 := by simp
            go_wp2_with (first | (at_builtin; refine wpList_append_own _ rfl _ _ 81 rfl w.heap.size 5 i0 (.int .u8 0) 1 1 Tryd.underlying81 hi hz0 hz1 hz2 rfl (by decide) _ _ _ rfl (hrow.alloc _) ⟨wr.heap.size, 0, none⟩ 1 1 [.int .u8 32] rfl rfl (cells_new _ #[_] _) (by simp [Value.oneCell']) (by unfold maxLen; omega) (by omega) (by simp; omega) ?_; intro v1 w1 hown1 hgrow1 _; have hr1 := row_any hown1 E32.out rfl rfl; have hB1 := Below.app hB hB.size hrow hgrow1; have hs1 := hB1.size; have d1 := (hat _ hB1).1; have d2 := (hat _ hB1).2) | (go_at_call 59; refine (rwplain_list t _ (by omega)).mono ?_; rintro e wq ⟨rfl, hwq⟩; obtain rfl := hwq.symm; rw [hp]) | (go_at_call 60; refine (rquote_list t _ hxt).mono ?_; rintro e W2 ⟨rfl, hb2⟩; have hr2 := own_below hr1 hb2; have hB2 := hB1.trans (hb2.mono hB1.size); have hs2 := hB2.size) | (at_builtin; refine Lib.wpList_append_own_string _ rfl _ _ 81 9 rfl w.heap.size 5 i0 Tryd.underlying81 Tryd.underlying9 hi hz0 hz1 hz2 _ _ _ rfl hr2 ⟨(quoteL t).toArray⟩ rfl (by rw [size_list]; unfold maxLen; omega) (by rw [size_list]; omega) hs2 ?_; intro v3 w3 hown3 hgrow3 _; have hr3 := row_any hown3 (show Lib.strCells ⟨(quoteL t).toArray⟩ = Lib.byteCells (quoteL t) from rfl) (size_list _) F.out; have hB3 : Below w.heap.size w w3 := hB2.grown hgrow3 hs2 (fun k hk => (hr2.lt k hk).1)))
            go_roundw
            case rel => exact ⟨k + 1, by omega, by go_num, hr3, hB3⟩
            case measure => simp [intOf]; omega
    · have F : Hid (_) := outW_end (ws := ws) (k := k) (by omega)
      rw [F.out] at hrow
      have hcv := bytes_str_any hrow
      clear hr ht
      go_wp2
      go_ret
      exact ⟨rfl, hB⟩

end Go.Proofs.YtbnajikkogdelaaDoor.WordsBytes
