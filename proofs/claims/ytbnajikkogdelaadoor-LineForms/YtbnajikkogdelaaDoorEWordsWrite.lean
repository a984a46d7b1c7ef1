/-
  Texts that stand together: WordsWrite.
-/
import Derived.Test.YtbnajikkogdelaaDoorEagWordsRow
import Derived.Test.YtbnajikkogdelaaDoorEagWordsQuote
import Derived.Test.YtbnajikkogdelaaDoorEagShelf
namespace Go.Proofs.YtbnajikkogdelaaDoor.WordsBytes
open Go.RowKit Go.Proofs.YtbnajikkogdelaaDoor.WordsMath Go.Proofs.YtbnajikkogdelaaDoor.WordsOne

theorem wplain_list (t : List UInt8) (w : World) (ht : t.length ≤ 4611686018427387904) : Calls Tryd.prog 37 #[.string ⟨t.toArray⟩] w fun e w' => e = .returned (.bool (plainW t)) ∧ w' = w := by
  have h := wplain_any ⟨t.toArray⟩ w (by rw [size_list]; exact ht)
  simpa using h

theorem quote_list (t : List UInt8) (w : World) (ht : 4 * t.length + 2 ≤ 140737488355328) : Calls Tryd.prog 39 #[.string ⟨t.toArray⟩] w fun e w' => e = .returned (.string ⟨(quoteL t).toArray⟩) ∧ Below w.heap.size w w' := by
  have h := quote_any ⟨t.toArray⟩ w (by rw [size_list]; exact ht)
  simpa using h

theorem builder_below {T e : TypeId} {B b : Nat} {bs : List Value} {W W' : World} (h : Lib.IsBuilderF T e B b bs W) (hb : Below W.heap.size W W') : Lib.IsBuilderF T e B b bs W' := by
  have aux : ∀ p, Lib.BuilderAtF T e B b p bs W → Lib.BuilderAtF T e B b p bs W' := by
    rintro p ⟨hB, v, hbk, hown, hne⟩
    refine ⟨hB, v, (hb.block b (Array.getElem?_eq_some_iff.1 hbk).1).trans hbk, ?_, hne⟩
    obtain ⟨h1, h | ⟨g, cap, cur, fz, hv, hbb, hg, rest⟩⟩ := hown
    · exact ⟨h1, .inl h⟩
    · exact ⟨h1, .inr ⟨g, cap, cur, fz, hv, hbb, (hb.block g (Array.getElem?_eq_some_iff.1 hg).1).trans hg, rest⟩⟩
  rcases h with h | h
  · exact .inl (aux _ h)
  · exact .inr (aux _ h)

theorem blk_cell {W : World} {b : Nat} {C : Array Value} {t : TypeId} {fz : Nat × Nat} (h : W.heap[b]? = some (.cells C t fz)) (j : Nat) {v : Value} (hv : C[j]? = some v) : W.cell? ⟨b, j, none⟩ = some v := by
  unfold World.cell?
  rw [h]
  exact hv

set_option maxRecDepth 100000 in
set_option maxHeartbeats 4000000 in
theorem write_any (a : Option Addr) (c : Nat) (ws : List W) (w : World) (hr : WRow w a ws) (hn : ws.length ≤ 4611686018427387904) (ht : ∀ x ∈ ws, 4 * x.text.length + 2 ≤ 140737488355328) (hl : (allW ws).length ≤ 140737488355328) :
    Calls Tryd.prog 21 #[.slice a ws.length c] w fun e w' => e = .returned (.string ⟨(allW ws).toArray⟩) ∧ Below w.heap.size w w' := by
  go_enter Tryd.func21, Tryd.ntmps21
  go_wp2
  go_loopw [8] (fun i wr => ∃ k : Nat, k ≤ ws.length ∧ i = .int .i64 k ∧ Lib.IsBuilderF 83 5 w.heap.size w.heap.size (Lib.byteCells (outW ws k)) wr ∧ Below w.heap.size w wr ∧ w.heap.size < wr.heap.size) (fun i _ => ws.length - (intOf i).toNat)
  case atStart => exact ⟨0, by omega, rfl, Lib.IsBuilderF.of (Lib.fresh_isBuilder 83 5 w), (Below.refl _ _).alloc (Nat.le_refl _) _, by simp⟩
  case round =>
    obtain ⟨k, hk, rfl, hI, hB, hsz⟩ := hrel
    by_cases hlt : k < ws.length
    · obtain ⟨x, hx⟩ : ∃ x, ws[k]? = some x := ⟨ws[k], List.getElem?_eq_getElem hlt⟩
      have hxt := ht x (List.mem_of_getElem? hx)
      obtain ⟨b, off, rfl, c1, c2, c3⟩ := hr.below hB (Nat.le_refl _) k x hx
      have hle := outW_le ws k
      have hle2 := outW_le ws (k + 1)
      obtain ⟨t, q, p⟩ := x
      dsimp only at hxt c1 c2 c3
      have hI1 := hI.alloc (.cells #[.string ⟨t.toArray⟩, .bool q, .int .i64 (p : Int)] 48)
      have hB1 := hB.alloc (Nat.le_of_lt hsz) (.cells #[.string ⟨t.toArray⟩, .bool q, .int .i64 (p : Int)] 48)
      have hblk := heap_alloc_new wr (.cells #[.string ⟨t.toArray⟩, .bool q, .int .i64 (p : Int)] 48)
      have hs1 : w.heap.size < (wr.alloc (.cells #[.string ⟨t.toArray⟩, .bool q, .int .i64 (p : Int)] 48)).heap.size := by simp; omega
      by_cases hk0 : k = 0
      · have hk1 : ¬ (0 : Int) < (k : Int) := by omega
        cases q with
        | true =>
          have F : Hid (outW ws (k + 1) = outW ws k ++ (quoteL t)) := by
            show _ = _
            rw [outW_start hk0 hx]
            simp [wordL]
          clear hk0
          rw [F.out] at hle2
          simp only [List.length_append] at hle2
          have c4 := blk_cell hblk 0 rfl
          have c5 := blk_cell hblk 1 rfl
          go_wp2_with fail
          refine (quote_list t _ hxt).mono ?_
          rintro e W2 ⟨rfl, hb2⟩
          have hI2 := builder_below hI1 hb2
          have hB2 := hB1.trans (hb2.mono (Nat.le_of_lt hs1))
          have hs2 : w.heap.size < W2.heap.size := by have := hb2.size; omega
          go_wp2_with fail
          refine (Tryd.Builder_WriteString_k w.heap.size w.heap.size _ ⟨(quoteL t).toArray⟩ _ hI2 (by rw [Lib.byteCells_length, size_list]; first | omega | (simp only [List.length_append, List.length_cons, List.length_nil]; omega)) (Nat.le_of_lt hs2)).mono ?_
          rintro e W3 ⟨rfl, h3, b3, k3⟩
          have hs3 : w.heap.size < W3.heap.size := (Array.getElem?_eq_some_iff.1 h3.2.choose_spec.1).1
          go_wp2
          go_roundw
          case rel => exact ⟨k + 1, by omega, by go_num, by rw [F.out, Lib.byteCells_append]; exact .inr h3, hB2.trans b3, hs3⟩
          case measure => simp [intOf]; omega
        | false =>
          by_cases hp : plainW t = true
          · have F : Hid (outW ws (k + 1) = outW ws k ++ (t)) := by
              show _ = _
              rw [outW_start hk0 hx]
              simp [wordL, hp]
            clear hk0
            rw [F.out] at hle2
            simp only [List.length_append] at hle2
            have c4 := blk_cell hblk 0 rfl
            have c5 := blk_cell hblk 1 rfl
            go_wp2_with fail
            refine (wplain_list t _ (by omega)).mono ?_
            rintro e wq ⟨rfl, hwq⟩; obtain rfl := hwq.symm; rw [hp]
            have hI2 := hI1; have hB2 := hB1; have hs2 := hs1
            go_wp2_with fail
            refine (Tryd.Builder_WriteString_k w.heap.size w.heap.size _ ⟨t.toArray⟩ _ hI2 (by rw [Lib.byteCells_length, size_list]; first | omega | (simp only [List.length_append, List.length_cons, List.length_nil]; omega)) (Nat.le_of_lt hs2)).mono ?_
            rintro e W3 ⟨rfl, h3, b3, k3⟩
            have hs3 : w.heap.size < W3.heap.size := (Array.getElem?_eq_some_iff.1 h3.2.choose_spec.1).1
            go_wp2
            go_roundw
            case rel => exact ⟨k + 1, by omega, by go_num, by rw [F.out, Lib.byteCells_append]; exact .inr h3, hB2.trans b3, hs3⟩
            case measure => simp [intOf]; omega
          · have hp : plainW t = false := by simpa using hp
            have F : Hid (outW ws (k + 1) = outW ws k ++ (quoteL t)) := by
              show _ = _
              rw [outW_start hk0 hx]
              simp [wordL, hp]
            clear hk0
            rw [F.out] at hle2
            simp only [List.length_append] at hle2
            have c4 := blk_cell hblk 0 rfl
            have c5 := blk_cell hblk 1 rfl
            go_wp2_with fail
            refine (wplain_list t _ (by omega)).mono ?_
            rintro e wq ⟨rfl, hwq⟩; obtain rfl := hwq.symm; rw [hp]
            go_wp2_with fail
            refine (quote_list t _ hxt).mono ?_
            rintro e W2 ⟨rfl, hb2⟩
            have hI2 := builder_below hI1 hb2
            have hB2 := hB1.trans (hb2.mono (Nat.le_of_lt hs1))
            have hs2 : w.heap.size < W2.heap.size := by have := hb2.size; omega
            go_wp2_with fail
            refine (Tryd.Builder_WriteString_k w.heap.size w.heap.size _ ⟨(quoteL t).toArray⟩ _ hI2 (by rw [Lib.byteCells_length, size_list]; first | omega | (simp only [List.length_append, List.length_cons, List.length_nil]; omega)) (Nat.le_of_lt hs2)).mono ?_
            rintro e W3 ⟨rfl, h3, b3, k3⟩
            have hs3 : w.heap.size < W3.heap.size := (Array.getElem?_eq_some_iff.1 h3.2.choose_spec.1).1
            go_wp2
            go_roundw
            case rel => exact ⟨k + 1, by omega, by go_num, by rw [F.out, Lib.byteCells_append]; exact .inr h3, hB2.trans b3, hs3⟩
            case measure => simp [intOf]; omega
      · have hk1 : (0 : Int) < (k : Int) := by omega
        have hle3 : (outW ws k).length + 1 ≤ (allW ws).length := by
          rw [outW_next hx (by omega)] at hle2
          simp only [List.length_append, List.length_cons, List.length_nil] at hle2
          omega
        go_wp2_with fail
        refine (Tryd.Builder_WriteByte_k w.heap.size w.heap.size _ 32 _ hI1 (by rw [Lib.byteCells_length]; omega) (Nat.le_of_lt hs1)).mono ?_
        rintro e W1 ⟨rfl, h1, b1, k1⟩
        have hI3 : Lib.IsBuilderF 83 5 w.heap.size w.heap.size (Lib.byteCells (outW ws k ++ [32])) W1 := by rw [Lib.byteCells_append]; exact .inr h1
        have hB3 := hB1.trans b1
        have hs31 : w.heap.size < W1.heap.size := (Array.getElem?_eq_some_iff.1 h1.2.choose_spec.1).1
        have hblk1 : W1.heap[wr.heap.size]? = some (.cells #[.string ⟨t.toArray⟩, .bool q, .int .i64 (p : Int)] 48 (0, 0)) := k1 _ _ hblk (by simp; omega) (by intro c fz e; cases e)
        cases q with
        | true =>
          have F : Hid (outW ws (k + 1) = outW ws k ++ [32] ++ (quoteL t)) := by
            show _ = _
            rw [outW_next hx (by omega)]
            simp [wordL]
          rw [F.out] at hle2
          simp only [List.length_append, List.length_cons, List.length_nil] at hle2
          have c4 := blk_cell hblk1 0 rfl
          have c5 := blk_cell hblk1 1 rfl
          go_wp2_with fail
          refine (quote_list t _ hxt).mono ?_
          rintro e W2 ⟨rfl, hb2⟩
          have hI2 := builder_below hI3 hb2
          have hB2 := hB3.trans (hb2.mono (Nat.le_of_lt hs31))
          have hs2 : w.heap.size < W2.heap.size := by have := hb2.size; omega
          go_wp2_with fail
          refine (Tryd.Builder_WriteString_k w.heap.size w.heap.size _ ⟨(quoteL t).toArray⟩ _ hI2 (by rw [Lib.byteCells_length, size_list]; first | omega | (simp only [List.length_append, List.length_cons, List.length_nil]; omega)) (Nat.le_of_lt hs2)).mono ?_
          rintro e W3 ⟨rfl, h3, b3, k3⟩
          have hs3 : w.heap.size < W3.heap.size := (Array.getElem?_eq_some_iff.1 h3.2.choose_spec.1).1
          go_wp2
          go_roundw
          case rel => exact ⟨k + 1, by omega, by go_num, by rw [F.out, Lib.byteCells_append]; exact .inr h3, hB2.trans b3, hs3⟩
          case measure => simp [intOf]; omega
        | false =>
          by_cases hp : plainW t = true
          · have F : Hid (outW ws (k + 1) = outW ws k ++ [32] ++ (t)) := by
              show _ = _
              rw [outW_next hx (by omega)]
              simp [wordL, hp]
            rw [F.out] at hle2
            simp only [List.length_append, List.length_cons, List.length_nil] at hle2
            have c4 := blk_cell hblk1 0 rfl
            have c5 := blk_cell hblk1 1 rfl
            go_wp2_with fail
            refine (wplain_list t _ (by omega)).mono ?_
            rintro e wq ⟨rfl, hwq⟩; obtain rfl := hwq.symm; rw [hp]
            have hI2 := hI3; have hB2 := hB3; have hs2 := hs31
            go_wp2_with fail
            refine (Tryd.Builder_WriteString_k w.heap.size w.heap.size _ ⟨t.toArray⟩ _ hI2 (by rw [Lib.byteCells_length, size_list]; first | omega | (simp only [List.length_append, List.length_cons, List.length_nil]; omega)) (Nat.le_of_lt hs2)).mono ?_
            rintro e W3 ⟨rfl, h3, b3, k3⟩
            have hs3 : w.heap.size < W3.heap.size := (Array.getElem?_eq_some_iff.1 h3.2.choose_spec.1).1
            go_wp2
            go_roundw
            case rel => exact ⟨k + 1, by omega, by go_num, by rw [F.out, Lib.byteCells_append]; exact .inr h3, hB2.trans b3, hs3⟩
            case measure => simp [intOf]; omega
          · have hp : plainW t = false := by simpa using hp
            have F : Hid (outW ws (k + 1) = outW ws k ++ [32] ++ (quoteL t)) := by
              show _ = _
              rw [outW_next hx (by omega)]
              simp [wordL, hp]
            rw [F.out] at hle2
            simp only [List.length_append, List.length_cons, List.length_nil] at hle2
            have c4 := blk_cell hblk1 0 rfl
            have c5 := blk_cell hblk1 1 rfl
            go_wp2_with fail
            refine (wplain_list t _ (by omega)).mono ?_
            rintro e wq ⟨rfl, hwq⟩; obtain rfl := hwq.symm; rw [hp]
            go_wp2_with fail
            refine (quote_list t _ hxt).mono ?_
            rintro e W2 ⟨rfl, hb2⟩
            have hI2 := builder_below hI3 hb2
            have hB2 := hB3.trans (hb2.mono (Nat.le_of_lt hs31))
            have hs2 : w.heap.size < W2.heap.size := by have := hb2.size; omega
            go_wp2_with fail
            refine (Tryd.Builder_WriteString_k w.heap.size w.heap.size _ ⟨(quoteL t).toArray⟩ _ hI2 (by rw [Lib.byteCells_length, size_list]; first | omega | (simp only [List.length_append, List.length_cons, List.length_nil]; omega)) (Nat.le_of_lt hs2)).mono ?_
            rintro e W3 ⟨rfl, h3, b3, k3⟩
            have hs3 : w.heap.size < W3.heap.size := (Array.getElem?_eq_some_iff.1 h3.2.choose_spec.1).1
            go_wp2
            go_roundw
            case rel => exact ⟨k + 1, by omega, by go_num, by rw [F.out, Lib.byteCells_append]; exact .inr h3, hB2.trans b3, hs3⟩
            case measure => simp [intOf]; omega
    · have F : Hid (_) := outW_end (ws := ws) (k := k) (by omega)
      rw [F.out] at hI
      go_wp2_with fail
      refine (Tryd.Builder_String_any_k w.heap.size w.heap.size _ _ hI (Nat.le_of_lt hsz)).mono ?_
      rintro e W1 ⟨rfl, _, b1, _⟩
      go_wp2
      go_ret
      exact ⟨rfl, hB.trans b1⟩

end Go.Proofs.YtbnajikkogdelaaDoor.WordsBytes
