/-
  Texts that stand together: WordsUnquote.
-/
import Derived.Test.YtbeflhpekklgoaaGreatDoorBWordsEsc
namespace Go.Proofs.YtbeflhpekklgoaaGreatDoor.WordsBytes
open Go.RowKit Go.Proofs.YtbeflhpekklgoaaGreatDoor.WordsMath Go.Proofs.YtbeflhpekklgoaaGreatDoor.WordsOne

theorem cell_block {w : World} {p : Addr} {v : Value} (h : w.cell? p = some v) : p.block < w.heap.size := by
  unfold World.cell? at h
  by_cases hb : p.block < w.heap.size
  · exact hb
  · rw [Array.getElem?_eq_none (by omega)] at h
    simp at h

/-- A package-level variable holds an error of errors.New's. -/
def Sent (w : World) (g : Nat) (a : Addr) : Prop := w.cell? ⟨g, 0, none⟩ = some (.iface 183 (.pointer (some a)))

theorem Sent.below {w w' : World} {g B : Nat} {a : Addr} (h : Sent w g a) (hb : Below B w w') (hB : w.heap.size ≤ B) : Sent w' g a :=
  (hb.cell (Nat.lt_of_lt_of_le (cell_block h) hB)).trans h

/-- An error with its place, as it lies in memory. -/
def ErrAt (base : Nat) (aS : Addr) (p : Nat) (w' : World) (v : Value) : Prop :=
  ∃ b, base ≤ b ∧ v = .iface 116 (.pointer (some ⟨b, 0, none⟩)) ∧ w'.heap[b]? = some (.cells #[.int .i64 (p : Int), .iface 183 (.pointer (some aS))] 120 (0, 0))

theorem ErrAt.new {base : Nat} {aS : Addr} {p : Nat} {W : World} (h : base ≤ W.heap.size) : ErrAt base aS p (W.alloc (.cells #[.int .i64 (p : Int), .iface 183 (.pointer (some aS))] 120)) (.iface 116 (.pointer (some ⟨W.heap.size, 0, none⟩))) :=
  ⟨_, h, rfl, heap_alloc_new W _⟩

set_option maxHeartbeats 400000 in
theorem wrong_any (p : Nat) (aS : Addr) (w : World) (hS : Sent w 4 aS) : Calls Tryz.prog 99 #[.int .i64 (p : Int)] w fun e w' =>
    e = .returned (.iface 116 (.pointer (some ⟨w.heap.size, 0, none⟩))) ∧ w' = w.alloc (.cells #[.int .i64 (p : Int), .iface 183 (.pointer (some aS))] 120) := by
  have h : w.cell? ⟨4, 0, none⟩ = some (.iface 183 (.pointer (some aS))) := hS
  go_enter Tryz.func99, Tryz.ntmps99
  go_wp2
  go_ret
  exact ⟨rfl, rfl⟩

/-- What unquote hands back. -/
def UnqRes (base : Nat) (aS : Addr) (R : Except Nat (List UInt8 × Nat)) (e : Ending) (w' : World) : Prop :=
  match R with
  | .ok (t, n) => e = .returned (.tuple #[.string ⟨t.toArray⟩, .int .i64 (n : Int), .nilIface])
  | .error p => ∃ v, e = .returned (.tuple #[.string ⟨#[]⟩, .int .i64 0, v]) ∧ ErrAt base aS p w' v

theorem unqE_end {l : List UInt8} {i n : Nat} {t : List UInt8} (h : unqL l i [] = .ok (t, n)) (he : endsL (l.drop (n - i)) = true) : unqE l i = .ok (t, n) := by
  unfold unqE; rw [h]; simp [he]
theorem unqE_more {l : List UInt8} {i n : Nat} {t : List UInt8} (h : unqL l i [] = .ok (t, n)) (he : endsL (l.drop (n - i)) = false) : unqE l i = .error n := by
  unfold unqE; rw [h]; simp [he]
theorem unqE_err {l : List UInt8} {i p : Nat} (h : unqL l i [] = .error p) : unqE l i = .error p := by
  unfold unqE; rw [h]

theorem drop_from (l : List UInt8) {a k : Nat} (h : a ≤ k) : (l.drop a).drop (k - a) = l.drop k := by
  rw [List.drop_drop, Nat.add_sub_cancel' h]

set_option maxRecDepth 100000 in
set_option maxHeartbeats 4000000 in
theorem unquote_any (s : ByteArray) (a : Nat) (R : Except Nat (List UInt8 × Nat)) (aS : Addr) (w : World) (ha : a < s.size) (hs : s.size ≤ 1048576) (hS : Sent w 4 aS) (hR : Hid (unqE (s.data.toList.drop (a + 1)) (a + 1) = R)) :
    Calls Tryz.prog 97 #[.string s, .int .i64 (a : Int)] w fun e w' => UnqRes w.heap.size aS R e w' ∧ Below w.heap.size w w' := by
  obtain ⟨i0, hi, hz0, hz1, hz2⟩ := info_parts info5
  go_enter Tryz.func97, Tryz.ntmps97
  go_wp2
  go_loopw [7, 8] (fun v i wr => ∃ (k : Nat) (acc : List UInt8), a + 1 ≤ k ∧ k ≤ s.size ∧ i = .int .i64 k ∧ acc.length ≤ k ∧ Hid (unqL (s.data.toList.drop k) k acc = unqL (s.data.toList.drop (a + 1)) (a + 1) []) ∧ wr.ownsRow w.heap.size 5 1 v acc.length (Lib.byteCells acc) ∧ Below w.heap.size w wr) (fun _ i _ => s.size - (intOf i).toNat)
  case atStart => exact ⟨a + 1, [], by omega, by omega, by go_num, by simp, rfl, World.ownsRow_nil _ _ _ _, Below.refl _ _⟩
  case round =>
    obtain ⟨k, acc, hak, hk, rfl, hacc, hX, hrow, hB⟩ := hrel
    have hsB := hB.size
    have hS1 := hS.below hB (Nat.le_refl _)
    by_cases hlt : k < s.size
    · have hd := drop_cons s hlt
      obtain ⟨c, hc⟩ : ∃ c, s[k] = c := ⟨_, rfl⟩
      rw [hc] at hd
      have D : Hid (_) := hd
      clear hd
      have kk : (k : Int) < (s.size : Int) := by omega
      by_cases h34 : c.toNat = 34
      · have k1 : ((c.toNat : Int) == 34) = true := by simp; omega
        have hx := hX.out
        rw [D.out, unqL_end h34] at hx
        cases he : endsL (s.data.toList.drop (k + 1)) with
        | true =>
          have F : Hid (R = .ok (acc, k + 1)) := by
            show _ = _
            rw [← hR.out]
            exact unqE_end hx.symm (by rw [drop_from _ (by omega)]; exact he)
          have hcv := bytes_str_any hrow
          have hen := ends_any s (k + 1) wr (by omega)
          rw [he] at hen
          clear hX hx D he h34
          go_wp2_with fail
          refine hen.mono ?_
          rintro e w1 ⟨rfl, hw1⟩
          obtain rfl := hw1.symm
          go_wp2
          go_ret3
          refine ⟨?_, hB⟩
          rw [F.out]
          exact ret_eq rfl
        | false =>
          have F : Hid (R = .error (k + 1)) := by
            show _ = _
            rw [← hR.out]
            exact unqE_more hx.symm (by rw [drop_from _ (by omega)]; exact he)
          have hen := ends_any s (k + 1) wr (by omega)
          rw [he] at hen
          clear hX hx D he h34
          go_wp2_with fail
          refine hen.mono ?_
          rintro e w1 ⟨rfl, hw1⟩
          obtain rfl := hw1.symm
          go_wp2_with fail
          refine (wrong_any (k + 1) aS _ hS1).mono ?_
          rintro e w2 ⟨rfl, hw2⟩
          obtain rfl := hw2.symm
          go_wp2
          go_ret3
          refine ⟨?_, hB.alloc hsB _⟩
          rw [F.out]
          exact ⟨_, rfl, ErrAt.new hsB⟩
      · have k1 : ((c.toNat : Int) == 34) = false := by simp; omega
        by_cases h10 : c.toNat = 10
        · have k2 : ((c.toNat : Int) == 10) = true := by simp; omega
          have F : Hid (R = .error k) := by
            show _ = _
            rw [← hR.out]
            exact unqE_err (by rw [← hX.out, D.out]; exact unqL_none h34 (by simp [pieceL, h10]) _ _)
          clear hX D h34 h10
          go_wp2_with fail
          refine (wrong_any k aS _ hS1).mono ?_
          rintro e w2 ⟨rfl, hw2⟩
          obtain rfl := hw2.symm
          go_wp2
          go_ret3
          refine ⟨?_, hB.alloc hsB _⟩
          rw [F.out]
          exact ⟨_, rfl, ErrAt.new hsB⟩
        · have k2 : ((c.toNat : Int) == 10) = false := by simp; omega
          by_cases h92 : c.toNat = 92
          · have k3 : ((c.toNat : Int) == 92) = true := by simp; omega
            have hes := fun W => escaped_any (s.extract k s.size) (s.data.toList.drop (k + 1)) W (by rw [ByteArray.size_extract]; omega) (by show _ = _; rw [ext_list, List.drop_drop])
            have hxx := hX.out
            rw [D.out] at hxx
            cases hE : escL (s.data.toList.drop (k + 1)) with
            | none =>
              have F : Hid (R = .error k) := by
                show _ = _
                rw [← hR.out]
                exact unqE_err (by rw [← hxx]; exact unqL_none h34 (by simp [pieceL, h92, hE]) _ _)
              have hv : escV (s.data.toList.drop (k + 1)) = .tuple #[.int .u8 0, .int .i64 0] := by unfold escV; rw [hE]
              rw [hv] at hes
              clear hX D h34 h10 h92 hxx hE hv
              go_wp2_with fail
              refine (hes _).mono ?_
              rintro e w1 ⟨rfl, q, hw1⟩
              obtain rfl := hw1.symm
              go_wp2_with fail
              refine (wrong_any k aS _ (show Sent (wr.drewN q) 4 aS from hS1)).mono ?_
              rintro e w2 ⟨rfl, hw2⟩
              obtain rfl := hw2.symm
              go_wp2
              go_ret3
              refine ⟨?_, (show Below w.heap.size w (wr.drewN q) from ⟨hB.os, hB.tape, hB.output, hB.size, hB.block⟩).alloc hsB _⟩
              rw [F.out]
              exact ⟨_, rfl, ErrAt.new hsB⟩
            | some x =>
              obtain ⟨b, n⟩ := x
              have hln := escL_len hE
              have hld : (s.data.toList.drop (k + 1)).length = s.size - (k + 1) := by rw [List.length_drop, list_size]
              rw [hld] at hln
              rw [unqL_some h34 (show pieceL c (s.data.toList.drop (k + 1)) = some (b, n) by simp [pieceL, h92, hE]), List.drop_drop] at hxx
              have hX2 : Hid (unqL (s.data.toList.drop (k + (n + 1))) (k + (n + 1)) (acc ++ [b]) = unqL (s.data.toList.drop (a + 1)) (a + 1) []) := by
                show _ = _
                rw [show k + (n + 1) = k + 1 + n by omega]
                exact hxx
              have hv : escV (s.data.toList.drop (k + 1)) = .tuple #[.int .u8 (b.toNat : Int), .int .i64 ((n : Int) + 1)] := by unfold escV; rw [hE]
              rw [hv] at hes
              have E1 : Hid ([Value.int .u8 (b.toNat : Int)] = Lib.byteCells [b]) := by show _ = _; simp [Lib.byteCells]
              have n0 : ((n : Int) + 1 == 0) = false := by simp; omega
              clear hX D h34 h10 h92 hxx hE hv hld
              go_wp2_with fail
              refine (hes _).mono ?_
              rintro e w1 ⟨rfl, q, hw1⟩
              obtain rfl := hw1.symm
              have hrq : (wr.drewN q).ownsRow w.heap.size 5 1 _ acc.length (Lib.byteCells acc) := hrow
              have hBq : Below w.heap.size w (wr.drewN q) := ⟨hB.os, hB.tape, hB.output, hB.size, hB.block⟩
              go_wp2_with (at_builtin; refine wpList_append_own _ rfl _ _ 61 rfl w.heap.size 5 i0 (.int .u8 0) 1 1 Tryz.underlying61 hi hz0 hz1 hz2 rfl (by decide) _ _ _ rfl (hrq.alloc _) ⟨(wr.drewN q).heap.size, 0, none⟩ 1 1 [.int .u8 (b.toNat : Int)] rfl rfl (cells_new _ #[_] _) (by simp [Value.oneCell']) (by unfold maxLen; omega) (by omega) (by simp; omega) ?_; intro v1 w1 hown1 hgrow1 _; have hr1 := row_any hown1 E1.out rfl rfl; have hB1 := Below.app hBq hsB hrq hgrow1)
              go_roundw
              case rel => exact ⟨k + (n + 1), acc ++ [b], by omega, by omega, by go_num, by simp; omega, hX2, hr1, hB1⟩
              case measure => simp [intOf]; omega
          · have k3 : ((c.toNat : Int) == 92) = false := by simp; omega
            have hxx := hX.out
            rw [D.out, unqL_some h34 (show pieceL c (s.data.toList.drop (k + 1)) = some (c, 0) by simp [pieceL, h92, h10]), List.drop_zero, Nat.add_zero] at hxx
            have hX2 : Hid (unqL (s.data.toList.drop (k + 1)) (k + 1) (acc ++ [c]) = unqL (s.data.toList.drop (a + 1)) (a + 1) []) := hxx
            have E1 : Hid ([Value.int .u8 (c.toNat : Int)] = Lib.byteCells [c]) := by show _ = _; simp [Lib.byteCells]
            clear hX D h34 h10 h92 hxx
            go_wp2_with (at_builtin; refine wpList_append_own _ rfl _ _ 61 rfl w.heap.size 5 i0 (.int .u8 0) 1 1 Tryz.underlying61 hi hz0 hz1 hz2 rfl (by decide) _ _ _ rfl (hrow.alloc _) ⟨wr.heap.size, 0, none⟩ 1 1 [.int .u8 (c.toNat : Int)] rfl rfl (cells_new _ #[_] _) (by simp [Value.oneCell']) (by unfold maxLen; omega) (by omega) (by simp; omega) ?_; intro v1 w1 hown1 hgrow1 _; have hr1 := row_any hown1 E1.out rfl rfl; have hB1 := Below.app hB hsB hrow hgrow1)
            go_roundw
            case rel => exact ⟨k + 1, acc ++ [c], by omega, by omega, by go_num, by simp; omega, hX2, hr1, hB1⟩
            case measure => simp [intOf]; omega
    · have F : Hid (R = .error s.size) := by
        show _ = _
        rw [← hR.out]
        exact unqE_err (by rw [← hX.out, drop_end s (by omega), unqL_nil, show k = s.size by omega])
      clear hX
      go_wp2_with fail
      refine (wrong_any s.size aS _ hS1).mono ?_
      rintro e w2 ⟨rfl, hw2⟩
      obtain rfl := hw2.symm
      go_wp2
      go_ret3
      refine ⟨?_, hB.alloc hsB _⟩
      rw [F.out]
      exact ⟨_, rfl, ErrAt.new hsB⟩

end Go.Proofs.YtbeflhpekklgoaaGreatDoor.WordsBytes
