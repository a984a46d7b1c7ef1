/-
  Texts that stand together: WordsUnquote, WordsRow, WordsLists, WordsLine.
-/
import Derived.Test.YtjblkgephboajaaGreatDoorBagApartVals
import Derived.WalkMore
namespace Go.Proofs.YtjblkgephboajaaGreatDoor.WordsBytes
open Go.RowKit WordsMath WordsOne

theorem cell_block {w : World} {p : Addr} {v : Value} (h : w.cell? p = some v) : p.block < w.heap.size := by
  unfold World.cell? at h
  by_cases hb : p.block < w.heap.size
  · exact hb
  · rw [Array.getElem?_eq_none (by omega)] at h
    simp at h

/-- A package-level variable holds an error of errors.New's. -/
def Sent (w : World) (g : Nat) (a : Addr) : Prop := w.cell? ⟨g, 0, none⟩ = some (.iface 204 (.pointer (some a)))

theorem Sent.below {w w' : World} {g B : Nat} {a : Addr} (h : Sent w g a) (hb : Below B w w') (hB : w.heap.size ≤ B) : Sent w' g a :=
  (hb.cell (Nat.lt_of_lt_of_le (cell_block h) hB)).trans h

/-- An error with its place, as it lies in memory. -/
def ErrAt (base : Nat) (aS : Addr) (p : Nat) (w' : World) (v : Value) : Prop :=
  ∃ b, base ≤ b ∧ v = .iface 68 (.pointer (some ⟨b, 0, none⟩)) ∧ w'.heap[b]? = some (.cells #[.int .i64 (p : Int), .iface 204 (.pointer (some aS))] 72 (0, 0))

theorem ErrAt.new {base : Nat} {aS : Addr} {p : Nat} {W : World} (h : base ≤ W.heap.size) : ErrAt base aS p (W.alloc (.cells #[.int .i64 (p : Int), .iface 204 (.pointer (some aS))] 72)) (.iface 68 (.pointer (some ⟨W.heap.size, 0, none⟩))) :=
  ⟨_, h, rfl, heap_alloc_new W _⟩

set_option maxHeartbeats 400000 in
theorem wrong_any (p : Nat) (aS : Addr) (w : World) (hS : Sent w 1 aS) : Calls Tryz.prog 73 #[.int .i64 (p : Int)] w fun e w' =>
    e = .returned (.iface 68 (.pointer (some ⟨w.heap.size, 0, none⟩))) ∧ w' = w.alloc (.cells #[.int .i64 (p : Int), .iface 204 (.pointer (some aS))] 72) := by
  have h : w.cell? ⟨1, 0, none⟩ = some (.iface 204 (.pointer (some aS))) := hS
  go_enter Tryz.func73, Tryz.ntmps73
  go_wp2
  go_ret
  exact ⟨rfl, rfl⟩

/-- What unquote hands back. -/
def UnqRes (base : Nat) (aS : Addr) (R : Except Nat (List UInt8 × Nat)) (e : Ending) (w' : World) : Prop :=
  match R with
  | .ok (t, n) => e = .returned (.tuple #[.string ⟨t.toArray⟩, .int .i64 (n : Int), .nilIface])
  | .error p => ∃ v, e = .returned (.tuple #[.string ⟨#[]⟩, .int .i64 0, v]) ∧ ErrAt base aS p w' v

theorem unqE_end {l : List UInt8} {i n : Nat} {t : List UInt8} (h : unqL l i [] = .ok (t, n)) (he : endsL (l.drop (n - i)) = true) : unqE l i = .ok (t, n) := by
  unfold unqE; rw [h]; simp [he]
theorem unqE_more {l : List UInt8} {i n : Nat} {t : List UInt8} (h : unqL l i [] = .ok (t, n)) (he : endsL (l.drop (n - i)) = false) : unqE l i = .error n := by
  unfold unqE; rw [h]; simp [he]
theorem unqE_err {l : List UInt8} {i p : Nat} (h : unqL l i [] = .error p) : unqE l i = .error p := by
  unfold unqE; rw [h]

theorem drop_from (l : List UInt8) {a k : Nat} (h : a ≤ k) : (l.drop a).drop (k - a) = l.drop k := by
  rw [List.drop_drop, Nat.add_sub_cancel' h]

set_option maxRecDepth 100000 in
set_option maxHeartbeats 4000000 in
theorem unquote_any (s : ByteArray) (a : Nat) (R : Except Nat (List UInt8 × Nat)) (aS : Addr) (w : World) (ha : a < s.size) (hs : s.size ≤ 1048576) (hS : Sent w 1 aS) (hR : Hid (unqE (s.data.toList.drop (a + 1)) (a + 1) = R)) :
    Calls Tryz.prog 69 #[.string s, .int .i64 (a : Int)] w fun e w' => UnqRes w.heap.size aS R e w' ∧ Below w.heap.size w w' := by
  obtain ⟨i0, hi, hz0, hz1, hz2⟩ := info_parts info5
  go_enter Tryz.func69, Tryz.ntmps69
  go_wp2
  go_loopw [7, 8] (fun v i wr => ∃ (k : Nat) (acc : List UInt8), a + 1 ≤ k ∧ k ≤ s.size ∧ i = .int .i64 k ∧ acc.length ≤ k ∧ Hid (unqL (s.data.toList.drop k) k acc = unqL (s.data.toList.drop (a + 1)) (a + 1) []) ∧ wr.ownsRow w.heap.size 5 1 v acc.length (Lib.byteCells acc) ∧ Below w.heap.size w wr) (fun _ i _ => s.size - (intOf i).toNat)
  case atStart => exact ⟨a + 1, [], by omega, by omega, by go_num, by simp, rfl, World.ownsRow_nil _ _ _ _, Below.refl _ _⟩
  case round =>
    obtain ⟨k, acc, hak, hk, rfl, hacc, hX, hrow, hB⟩ := hrel
    have hsB := hB.size
    have hS1 := hS.below hB (Nat.le_refl _)
    by_cases hlt : k < s.size
    · have hd := drop_cons s hlt
      obtain ⟨c, hc⟩ : ∃ c, s[k] = c := ⟨_, rfl⟩
      rw [hc] at hd
      have D : Hid (_) := hd
      clear hd
      have kk : (k : Int) < (s.size : Int) := by omega
      by_cases h34 : c.toNat = 34
      · have k1 : ((c.toNat : Int) == 34) = true := by simp; omega
        have hx := hX.out
        rw [D.out, unqL_end h34] at hx
        cases he : endsL (s.data.toList.drop (k + 1)) with
        | true =>
          have F : Hid (R = .ok (acc, k + 1)) := by
            show _ = _
            rw [← hR.out]
            exact unqE_end hx.symm (by rw [drop_from _ (by omega)]; exact he)
          have hcv := bytes_str_any hrow
          have hen := ends_any s (k + 1) wr (by omega)
          rw [he] at hen
          clear hX hx D he h34
          go_wp2_with fail
          refine hen.mono ?_
          rintro e w1 ⟨rfl, hw1⟩
          obtain rfl := hw1.symm
          go_wp2
          go_ret3
          refine ⟨?_, hB⟩
          rw [F.out]
          exact ret_eq rfl
        | false =>
          have F : Hid (R = .error (k + 1)) := by
            show _ = _
            rw [← hR.out]
            exact unqE_more hx.symm (by rw [drop_from _ (by omega)]; exact he)
          have hen := ends_any s (k + 1) wr (by omega)
          rw [he] at hen
          clear hX hx D he h34
          go_wp2_with fail
          refine hen.mono ?_
          rintro e w1 ⟨rfl, hw1⟩
          obtain rfl := hw1.symm
          go_wp2_with fail
          refine (wrong_any (k + 1) aS _ hS1).mono ?_
          rintro e w2 ⟨rfl, hw2⟩
          obtain rfl := hw2.symm
          go_wp2
          go_ret3
          refine ⟨?_, hB.alloc hsB _⟩
          rw [F.out]
          exact ⟨_, rfl, ErrAt.new hsB⟩
      · have k1 : ((c.toNat : Int) == 34) = false := by simp; omega
        by_cases h10 : c.toNat = 10
        · have k2 : ((c.toNat : Int) == 10) = true := by simp; omega
          have F : Hid (R = .error k) := by
            show _ = _
            rw [← hR.out]
            exact unqE_err (by rw [← hX.out, D.out]; exact unqL_none h34 (by simp [pieceL, h10]) _ _)
          clear hX D h34 h10
          go_wp2_with fail
          refine (wrong_any k aS _ hS1).mono ?_
          rintro e w2 ⟨rfl, hw2⟩
          obtain rfl := hw2.symm
          go_wp2
          go_ret3
          refine ⟨?_, hB.alloc hsB _⟩
          rw [F.out]
          exact ⟨_, rfl, ErrAt.new hsB⟩
        · have k2 : ((c.toNat : Int) == 10) = false := by simp; omega
          by_cases h92 : c.toNat = 92
          · have k3 : ((c.toNat : Int) == 92) = true := by simp; omega
            have hes := fun W => escaped_any (s.extract k s.size) (s.data.toList.drop (k + 1)) W (by rw [ByteArray.size_extract]; omega) (by show _ = _; rw [ext_list, List.drop_drop])
            have hxx := hX.out
            rw [D.out] at hxx
            cases hE : escL (s.data.toList.drop (k + 1)) with
            | none =>
              have F : Hid (R = .error k) := by
                show _ = _
                rw [← hR.out]
                exact unqE_err (by rw [← hxx]; exact unqL_none h34 (by simp [pieceL, h92, hE]) _ _)
              have hv : escV (s.data.toList.drop (k + 1)) = .tuple #[.int .u8 0, .int .i64 0] := by unfold escV; rw [hE]
              rw [hv] at hes
              clear hX D h34 h10 h92 hxx hE hv
              go_wp2_with fail
              refine (hes _).mono ?_
              rintro e w1 ⟨rfl, q, hw1⟩
              obtain rfl := hw1.symm
              go_wp2_with fail
              refine (wrong_any k aS _ (show Sent (wr.drewN q) 1 aS from hS1)).mono ?_
              rintro e w2 ⟨rfl, hw2⟩
              obtain rfl := hw2.symm
              go_wp2
              go_ret3
              refine ⟨?_, (show Below w.heap.size w (wr.drewN q) from ⟨hB.os, hB.tape, hB.output, hB.size, hB.block⟩).alloc hsB _⟩
              rw [F.out]
              exact ⟨_, rfl, ErrAt.new hsB⟩
            | some x =>
              obtain ⟨b, n⟩ := x
              have hln := escL_len hE
              have hld : (s.data.toList.drop (k + 1)).length = s.size - (k + 1) := by rw [List.length_drop, list_size]
              rw [hld] at hln
              rw [unqL_some h34 (show pieceL c (s.data.toList.drop (k + 1)) = some (b, n) by simp [pieceL, h92, hE]), List.drop_drop] at hxx
              have hX2 : Hid (unqL (s.data.toList.drop (k + (n + 1))) (k + (n + 1)) (acc ++ [b]) = unqL (s.data.toList.drop (a + 1)) (a + 1) []) := by
                show _ = _
                rw [show k + (n + 1) = k + 1 + n by omega]
                exact hxx
              have hv : escV (s.data.toList.drop (k + 1)) = .tuple #[.int .u8 (b.toNat : Int), .int .i64 ((n : Int) + 1)] := by unfold escV; rw [hE]
              rw [hv] at hes
              have E1 : Hid ([Value.int .u8 (b.toNat : Int)] = Lib.byteCells [b]) := by show _ = _; simp [Lib.byteCells]
              have n0 : ((n : Int) + 1 == 0) = false := by simp; omega
              clear hX D h34 h10 h92 hxx hE hv hld
              go_wp2_with fail
              refine (hes _).mono ?_
              rintro e w1 ⟨rfl, q, hw1⟩
              obtain rfl := hw1.symm
              have hrq : (wr.drewN q).ownsRow w.heap.size 5 1 _ acc.length (Lib.byteCells acc) := hrow
              have hBq : Below w.heap.size w (wr.drewN q) := ⟨hB.os, hB.tape, hB.output, hB.size, hB.block⟩
              go_wp2_with (at_builtin; refine wpList_append_own _ rfl _ _ 160 rfl w.heap.size 5 i0 (.int .u8 0) 1 1 Tryz.underlying160 hi hz0 hz1 hz2 rfl (by decide) _ _ _ rfl (hrq.alloc _) ⟨(wr.drewN q).heap.size, 0, none⟩ 1 1 [.int .u8 (b.toNat : Int)] rfl rfl (cells_new _ #[_] _) (by simp [Value.oneCell']) (by unfold maxLen; omega) (by omega) (by simp; omega) ?_; intro v1 w1 hown1 hgrow1 _; have hr1 := row_any hown1 E1.out rfl rfl; have hB1 := Below.app hBq hsB hrq hgrow1)
              go_roundw
              case rel => exact ⟨k + (n + 1), acc ++ [b], by omega, by omega, by go_num, by simp; omega, hX2, hr1, hB1⟩
              case measure => simp [intOf]; omega
          · have k3 : ((c.toNat : Int) == 92) = false := by simp; omega
            have hxx := hX.out
            rw [D.out, unqL_some h34 (show pieceL c (s.data.toList.drop (k + 1)) = some (c, 0) by simp [pieceL, h92, h10]), List.drop_zero, Nat.add_zero] at hxx
            have hX2 : Hid (unqL (s.data.toList.drop (k + 1)) (k + 1) (acc ++ [c]) = unqL (s.data.toList.drop (a + 1)) (a + 1) []) := hxx
            have E1 : Hid ([Value.int .u8 (c.toNat : Int)] = Lib.byteCells [c]) := by show _ = _; simp [Lib.byteCells]
            clear hX D h34 h10 h92 hxx
            go_wp2_with (at_builtin; refine wpList_append_own _ rfl _ _ 160 rfl w.heap.size 5 i0 (.int .u8 0) 1 1 Tryz.underlying160 hi hz0 hz1 hz2 rfl (by decide) _ _ _ rfl (hrow.alloc _) ⟨wr.heap.size, 0, none⟩ 1 1 [.int .u8 (c.toNat : Int)] rfl rfl (cells_new _ #[_] _) (by simp [Value.oneCell']) (by unfold maxLen; omega) (by omega) (by simp; omega) ?_; intro v1 w1 hown1 hgrow1 _; have hr1 := row_any hown1 E1.out rfl rfl; have hB1 := Below.app hB hsB hrow hgrow1)
            go_roundw
            case rel => exact ⟨k + 1, acc ++ [c], by omega, by omega, by go_num, by simp; omega, hX2, hr1, hB1⟩
            case measure => simp [intOf]; omega
    · have F : Hid (R = .error s.size) := by
        show _ = _
        rw [← hR.out]
        exact unqE_err (by rw [← hX.out, drop_end s (by omega), unqL_nil, show k = s.size by omega])
      clear hX
      go_wp2_with fail
      refine (wrong_any s.size aS _ hS1).mono ?_
      rintro e w2 ⟨rfl, hw2⟩
      obtain rfl := hw2.symm
      go_wp2
      go_ret3
      refine ⟨?_, hB.alloc hsB _⟩
      rw [F.out]
      exact ⟨_, rfl, ErrAt.new hsB⟩

end Go.Proofs.YtjblkgephboajaaGreatDoor.WordsBytes

namespace Go.Proofs.YtjblkgephboajaaGreatDoor.WordsBytes
open Go.RowKit WordsMath WordsOne

def strV (t : List UInt8) : Value := .string ⟨t.toArray⟩
def wv (x : W) : List Value := [.string ⟨x.text.toArray⟩, .bool x.quoted, .int .i64 (x.place : Int)]
def cellsW (ws : List W) : List Value := ws.flatMap wv

/-- The words of a slice. -/
def WRow (w : World) (a : Option Addr) (ws : List W) : Prop := ∀ i x, ws[i]? = some x → ∃ b off, a = some ⟨b, off, none⟩ ∧ w.cell? ⟨b, off + i * 3, none⟩ = some (.string ⟨x.text.toArray⟩) ∧ w.cell? ⟨b, off + i * 3 + 1, none⟩ = some (.bool x.quoted) ∧ w.cell? ⟨b, off + i * 3 + 2, none⟩ = some (.int .i64 (x.place : Int))

theorem cellsW_snoc (ws : List W) (x : W) : cellsW (ws ++ [x]) = cellsW ws ++ wv x := by simp [cellsW]

theorem cellsW_get : ∀ (ws : List W) (i : Nat) (x : W), ws[i]? = some x → (cellsW ws)[i * 3]? = some (.string ⟨x.text.toArray⟩) ∧ (cellsW ws)[i * 3 + 1]? = some (.bool x.quoted) ∧ (cellsW ws)[i * 3 + 2]? = some (.int .i64 (x.place : Int))
  | [], i, x, h => by simp at h
  | y :: r, 0, x, h => by
    obtain rfl : y = x := by simpa using h
    exact ⟨rfl, rfl, rfl⟩
  | y :: r, i + 1, x, h => by
    have ih := cellsW_get r i x (by simpa using h)
    have e : cellsW (y :: r) = wv y ++ cellsW r := rfl
    rw [e, show (i + 1) * 3 = (wv y).length + i * 3 from by simp [wv]; omega]
    refine ⟨?_, ?_, ?_⟩
    · rw [List.getElem?_append_right (by omega), Nat.add_sub_cancel_left]; exact ih.1
    · rw [Nat.add_assoc, List.getElem?_append_right (by omega), Nat.add_sub_cancel_left]; exact ih.2.1
    · rw [Nat.add_assoc, List.getElem?_append_right (by omega), Nat.add_sub_cancel_left]; exact ih.2.2

theorem cell_lt {w : World} {p : Addr} {v : Value} (h : w.cell? p = some v) : p.block < w.heap.size := by
  unfold World.cell? at h
  by_cases hb : p.block < w.heap.size
  · exact hb
  · rw [Array.getElem?_eq_none (by omega)] at h
    simp at h

theorem WRow.of_own {w : World} {base : Nat} {e : TypeId} {g c : Nat} {ws : List W} (h : w.ownsRow base e 3 (.slice (some ⟨g, 0, none⟩) ws.length c) ws.length (cellsW ws)) : WRow w (some ⟨g, 0, none⟩) ws := by
  intro i x hi
  have hlt := (List.getElem?_eq_some_iff.1 hi).1
  obtain ⟨h1, h2, h3⟩ := cellsW_get ws i x hi
  refine ⟨g, 0, rfl, ?_, ?_, ?_⟩
  · rw [Nat.zero_add, h.cellAt (i * 3) (by omega)]; exact h1
  · rw [Nat.zero_add, h.cellAt (i * 3 + 1) (by omega)]; exact h2
  · rw [Nat.zero_add, h.cellAt (i * 3 + 2) (by omega)]; exact h3

/-- The words in turn, as they are written. -/
def pr (x : W) : List UInt8 × Bool := (x.text, x.quoted)
def outW (ws : List W) (k : Nat) : List UInt8 := writeL ((ws.take k).map pr)
def allW (ws : List W) : List UInt8 := writeL (ws.map pr)

end Go.Proofs.YtjblkgephboajaaGreatDoor.WordsBytes

namespace Go.Proofs.YtjblkgephboajaaGreatDoor.WordsBytes
open Go.RowKit WordsMath WordsOne

def SRow (w : World) (a : Option Addr) (n : Nat) (ss : List ByteArray) : Prop :=
  ∀ i, i < n → ∃ b off, a = some ⟨b, off, none⟩ ∧ w.cell? ⟨b, off + i, none⟩ = some (.string (ss.getD i ByteArray.empty))
def BRow (w : World) (a : Option Addr) (n : Nat) (qs : List Bool) : Prop :=
  ∀ i, i < n → ∃ b off, a = some ⟨b, off, none⟩ ∧ w.cell? ⟨b, off + i, none⟩ = some (.bool (qs.getD i false))

theorem SRow.below {w w' : World} {a : Option Addr} {n : Nat} {ss : List ByteArray} (h : SRow w a n ss) (hb : Below w.heap.size w w') : SRow w' a n ss := fun i hi => by
  obtain ⟨b, off, ha, hc⟩ := h i hi
  exact ⟨b, off, ha, by rw [hb.cell (cell_lt hc)]; exact hc⟩
/-- The words that the lists say. -/
def wAt (ss : List ByteArray) (qs : List Bool) (m : Nat) (step : Nat) (i : Nat) : W := ⟨(ss.getD i ByteArray.empty).data.toList, decide (i < m) && qs.getD i false, step * i⟩
def wsOf (ss : List ByteArray) (qs : List Bool) (m step n : Nat) : List W := (List.range n).map (wAt ss qs m step)

theorem own_shape {W : World} {base : Nat} {e : TypeId} {v : Value} {ws : List Go.Proofs.YtjblkgephboajaaGreatDoor.WordsMath.W} (h : W.ownsRow base e 3 v ws.length (cellsW ws)) : ∃ a c, v = .slice a ws.length c ∧ WRow W a ws := by
  obtain ⟨_, ⟨rfl, hn⟩ | ⟨g, cap, cur, rfl, _⟩⟩ := id h
  · obtain rfl : ws = [] := List.eq_nil_of_length_eq_zero hn
    exact ⟨none, 0, rfl, fun i x hx => by simp at hx⟩
  · exact ⟨_, cap, rfl, WRow.of_own h⟩

theorem app3 {B : Nat} {w w1 w2 : World} {o : Obj} {v : Value} {e : TypeId} {n : Nat} {xs : List Value} (hb : Below B w w1) (hB : B ≤ w1.heap.size) (hrow : w1.ownsRow B e 3 v n xs) (hg : (w1.alloc o).grownBy w2 v.ownBlock) : Below B w w2 :=
  (hb.alloc hB o).grown hg (by simp; omega) (fun k hk => (hrow.lt k hk).1)

theorem own_wrow {W : World} {base : Nat} {e : TypeId} {a : Option Addr} {c : Nat} {ws : List Go.Proofs.YtjblkgephboajaaGreatDoor.WordsMath.W} (h : W.ownsRow base e 3 (.slice a ws.length c) ws.length (cellsW ws)) : WRow W a ws := by
  obtain ⟨a', c', he, hw⟩ := own_shape h
  cases he
  exact hw

theorem infoW : (Tryz.prog.info? 102).map (fun i => (i.zero, i.size, i.bytes)) = some (some (.agg #[.string ⟨#[]⟩, .bool false, .int .i64 0]), 3, 32) := by kernel_rfl

theorem infoR : (Tryz.prog.info? 159).map (fun i => (i.zero, i.size, i.bytes)) = some (some (.agg #[.string ⟨#[]⟩, .bool false, .int .i64 0]), 3, 32) := by kernel_rfl

theorem row3 {W : World} {B : Nat} {e : TypeId} {v' : Value} {ws : List Go.Proofs.YtjblkgephboajaaGreatDoor.WordsMath.W} {n : Nat} {x : Go.Proofs.YtjblkgephboajaaGreatDoor.WordsMath.W} (h : W.ownsRow B e 3 v' (n + 1) (cellsW ws ++ wv x)) :
    ∃ g c, v' = .slice (some ⟨g, 0, none⟩) (n + 1) c ∧ W.ownsRow B e 3 (.slice (some ⟨g, 0, none⟩) (n + 1) c) (n + 1) (cellsW (ws ++ [x])) := by
  rw [← cellsW_snoc] at h
  obtain ⟨g, c, rfl⟩ := ownsRow_succ h
  exact ⟨g, c, rfl, h⟩

end Go.Proofs.YtjblkgephboajaaGreatDoor.WordsBytes

namespace Go.Proofs.YtjblkgephboajaaGreatDoor.WordsBytes
open Go.RowKit WordsMath WordsOne

theorem ends_plain0 {l : List UInt8} (h : endsL l = true) : plainLen l = 0 := by
  cases l with
  | nil => rfl
  | cons c r =>
    have hb : blankN c.toNat = true := h
    have hp : plainN c.toNat = false := by
      cases hp : plainN c.toNat with
      | false => rfl
      | true => rw [(plain_not hp).1] at hb; cases hb
    simp [plainLen, hp]

theorem plain_end {c : UInt8} {r : List UInt8} (hb : blankN c.toNat = false) (h35 : c.toNat ≠ 35) {n : Nat} (hp : plainLen (c :: r) = n + plainLen ((c :: r).drop n)) (he : endsL ((c :: r).drop n) = true) (i : Nat) (out : List W) :
    lineL (c :: r) i out = lineL ((c :: r).drop n) (i + n) (out ++ [⟨(c :: r).take n, false, i⟩]) := by
  rw [ends_plain0 he, Nat.add_zero] at hp
  cases hc : plainN c.toNat with
  | false =>
    have h0 : plainLen (c :: r) = 0 := by simp [plainLen, hc]
    rw [h0] at hp
    subst hp
    rw [List.drop_zero] at he
    rw [show endsL (c :: r) = blankN c.toNat from rfl, hb] at he
    cases he
  | true =>
    have h1 : plainLen (c :: r) = plainLen r + 1 := by simp [plainLen, hc]
    rw [h1] at hp
    subst hp
    rw [List.drop_succ_cons] at he ⊢
    rw [List.take_succ_cons, lineL_plain hc h35 he, show i + (plainLen r + 1) = i + 1 + plainLen r by omega]

theorem plain_bad {c : UInt8} {r : List UInt8} (hb : blankN c.toNat = false) (h35 : c.toNat ≠ 35) (h34 : c.toNat ≠ 34) {n : Nat} {d : UInt8} {t : List UInt8} (hd : (c :: r).drop n = d :: t) (hp : plainLen (c :: r) = n + plainLen ((c :: r).drop n)) (hq : plainN d.toNat = false) (he : blankN d.toNat = false) (i : Nat) (out : List W) :
    lineL (c :: r) i out = .error (i + n) := by
  have h0 : plainLen (d :: t) = 0 := by simp [plainLen, hq]
  rw [hd, h0, Nat.add_zero] at hp
  cases hc : plainN c.toNat with
  | false =>
    have h1 : plainLen (c :: r) = 0 := by simp [plainLen, hc]
    rw [h1] at hp
    subst hp
    exact lineL_wrong hc hb h34 r i out
  | true =>
    have h1 : plainLen (c :: r) = plainLen r + 1 := by simp [plainLen, hc]
    rw [h1] at hp
    subst hp
    rw [List.drop_succ_cons] at hd
    rw [lineL_cut hc h35 (by rw [hd]; exact he), show i + (plainLen r + 1) = i + 1 + plainLen r by omega]

/-- What Line hands back for a line that is not too long. -/
def LineRes (base : Nat) (aS : Addr) (R : Except Nat (List W)) (e : Ending) (w' : World) : Prop :=
  match R with
  | .ok ws => ∃ v, e = .returned (.tuple #[v, .nilIface]) ∧ w'.ownsRow base 102 3 v ws.length (cellsW ws)
  | .error p => ∃ v, e = .returned (.tuple #[.slice none 0 0, v]) ∧ ErrAt base aS p w' v

theorem iface_nil (t : TypeId) (v : Value) (w : World) : (binOp .neq 27 (.iface t v) .nilIface).run Tryz.prog w = .ok (.bool true) w := by kernel_rfl

theorem clone_any (s : ByteArray) (w : World) (hs : s.size ≤ 281474976710656) : Calls Tryz.prog 71 #[.string s] w fun e w' => e = .returned (.string s) ∧ Below w.heap.size w w' := by
  go_enter Tryz.func71, Tryz.ntmps71
  go_wp2_with fail
  refine (Tryz.stringslite_Clone s w hs).mono ?_
  rintro e w1 ⟨rfl, hb⟩
  go_wp2
  go_ret
  exact ⟨rfl, hb⟩

set_option maxRecDepth 100000 in
set_option maxHeartbeats 8000000 in
theorem line_any (s : ByteArray) (R : Except Nat (List W)) (aS : Addr) (w : World) (hs : s.size ≤ 1048576) (hS : Sent w 1 aS) (hR : Hid (lineL s.data.toList 0 [] = R)) :
    Calls Tryz.prog 40 #[.string s] w fun e w' => LineRes w.heap.size aS R e w' ∧ Below w.heap.size w w' := by
  obtain ⟨i0, hi, hz0, hz1, hz2⟩ := info_parts infoW
  have hk0 : ¬ (1048576 : Int) < (s.size : Int) := by omega
  go_enter Tryz.func40, Tryz.ntmps40
  go_wp2
  go_step3
  go_wp2
  go_step3
  go_wp2
  go_loopw [4, 5] (fun v i wr => ∃ (k : Nat) (out : List W), k ≤ s.size ∧ i = .int .i64 k ∧ out.length ≤ k ∧ Hid (lineL (s.data.toList.drop k) k out = R) ∧ wr.ownsRow w.heap.size 102 3 v out.length (cellsW out) ∧ Below w.heap.size w wr) (fun _ i _ => s.size - (intOf i).toNat)
  case atStart => exact ⟨0, [], by omega, rfl, by simp, by show lineL (s.data.toList.drop 0) 0 [] = R; rw [List.drop_zero]; exact hR.out, World.ownsRow_nil _ _ _ _, Below.refl _ _⟩
  case round =>
    obtain ⟨k, out, hk, rfl, hout, hX, hrow, hB⟩ := hrel
    have hsB := hB.size
    have hS1 := hS.below hB (Nat.le_refl _)
    by_cases hlt : k < s.size
    · have hd := drop_cons s hlt
      obtain ⟨c, hc⟩ : ∃ c, s[k] = c := ⟨_, rfl⟩
      rw [hc] at hd
      have D : Hid (_) := hd
      clear hd
      have kk : (k : Int) < (s.size : Int) := by omega
      cases hbl : blankN c.toNat with
      | true =>
        have hX2 : Hid (lineL (s.data.toList.drop (k + 1)) (k + 1) out = R) := by
          show _ = _
          rw [← hX.out, D.out, lineL_blank hbl]
        clear hX D
        go_wp2_with (go_at_call 68; refine (blank_any _ _).mono ?_; rintro e w1 ⟨rfl, hw1⟩; obtain rfl := hw1.symm; rw [hbl])
        go_roundw
        case rel => exact ⟨k + 1, out, by omega, by go_num, by omega, hX2, hrow, hB⟩
        case measure => simp [intOf]; omega
      | false =>
        by_cases h35 : c.toNat = 35
        · have k1 : ((c.toNat : Int) == 35) = true := by simp; omega
          have F : Hid (R = .ok out) := by
            show _ = _
            rw [← hX.out, D.out, lineL_comment h35]
          clear hX D h35
          go_wp2_with (go_at_call 68; refine (blank_any _ _).mono ?_; rintro e w1 ⟨rfl, hw1⟩; obtain rfl := hw1.symm; rw [hbl])
          rw [Exit.noGoto_ret]
          go_ret2
          refine ⟨?_, hB⟩
          rw [F.out]
          exact ⟨_, rfl, hrow⟩
        · have k1 : ((c.toNat : Int) == 35) = false := by simp; omega
          by_cases h34 : c.toNat = 34
          · have k2 : ((c.toNat : Int) == 34) = true := by simp; omega
            cases hU : unqE (s.data.toList.drop (k + 1)) (k + 1) with
            | error p =>
              have F : Hid (R = .error p) := by
                show _ = _
                rw [← hX.out, D.out, lineL_bad h34 hU]
              clear hX D h34 h35
              go_wp2_with (go_at_call 68; refine (blank_any _ _).mono ?_; rintro e w1 ⟨rfl, hw1⟩; obtain rfl := hw1.symm; rw [hbl])
              refine (unquote_any s k _ aS _ hlt hs hS1 hU).mono ?_
              rintro e w2 ⟨⟨v, he, hv⟩, hb2⟩
              subst he
              obtain ⟨b, hbb, rfl, hblk⟩ := hv
              have hne := fun W => iface_nil 68 (.pointer (some ⟨b, 0, none⟩)) W
              go_wp2
              rw [Exit.noGoto_ret]
              go_ret2
              refine ⟨?_, hB.trans (hb2.mono hsB)⟩
              rw [F.out]
              exact ⟨_, rfl, b, by omega, rfl, hblk⟩
            | ok x =>
              obtain ⟨t, n⟩ := x
              have hbd := unqE_bound.1 _ _ hU
              rw [List.length_drop, list_size] at hbd
              have hX2 : Hid (lineL (s.data.toList.drop n) n (out ++ [⟨t, true, k⟩]) = R) := by
                show _ = _
                rw [← hX.out, D.out, lineL_quoted h34 hU, drop_from _ (by omega)]
              have E : Hid ([Value.string ⟨t.toArray⟩, .bool true, .int .i64 (k : Int)] = wv ⟨t, true, k⟩) := rfl
              clear hX D h34 h35
              go_wp2_with (go_at_call 68; refine (blank_any _ _).mono ?_; rintro e w1 ⟨rfl, hw1⟩; obtain rfl := hw1.symm; rw [hbl])
              refine (unquote_any s k _ aS _ hlt hs hS1 hU).mono ?_
              rintro e w2 ⟨he, hb2⟩
              obtain rfl : e = _ := he
              have hrow2 := own_below hrow hb2
              have hB2 := hB.trans (hb2.mono hsB)
              have hs2 := hB2.size
              go_wp2_with (at_builtin; refine wpList_append_own _ rfl _ _ 86 rfl w.heap.size 102 i0 (.agg #[.string ⟨#[]⟩, .bool false, .int .i64 0]) 3 32 Tryz.underlying86 hi hz0 hz1 hz2 rfl (by decide) _ _ _ rfl (hrow2.alloc _) ⟨w2.heap.size, 0, none⟩ 1 1 [.string ⟨t.toArray⟩, .bool true, .int .i64 (k : Int)] rfl rfl (cells_new _ #[_, _, _] _) (by simp [Value.oneCell']) (by unfold maxLen; omega) (by omega) (by simp; omega) ?_; intro u1 w3 hown1 hgrow1 _; rw [E.out] at hown1; obtain ⟨g1, e1, hu1, hI1⟩ := row3 hown1; rw [hu1]; have hB3 := app3 hB2 hs2 hrow2 hgrow1)
              go_roundw
              case rel => exact ⟨n, out ++ [⟨t, true, k⟩], by omega, rfl, by simp; omega, hX2, by simpa using hI1, hB3⟩
              case measure => simp [intOf]; omega
          · have k2 : ((c.toNat : Int) == 34) = false := by simp; omega
            go_wp2_with (go_at_call 68; refine (blank_any _ _).mono ?_; rintro e w1 ⟨rfl, hw1⟩; obtain rfl := hw1.symm; rw [hbl])
            go_loopw [4, 5, 9] (fun v i e wr => ∃ j : Nat, k ≤ j ∧ j ≤ s.size ∧ i = .int .i64 k ∧ e = .int .i64 j ∧ Hid (plainLen (s.data.toList.drop k) = (j - k) + plainLen (s.data.toList.drop j)) ∧ wr.ownsRow w.heap.size 102 3 v out.length (cellsW out) ∧ Below w.heap.size w wr) (fun _ _ e _ => s.size - (intOf e).toNat)
            case atStart => exact ⟨k, by omega, by omega, rfl, rfl, by show plainLen _ = _; omega, hrow, hB⟩
            case round =>
              clear hrow hB hS1 hsB
              obtain ⟨j, hkj, hjs, rfl, rfl, hP, hrow, hB⟩ := hrel
              have hsB := hB.size
              have hS1 := hS.below hB (Nat.le_refl _)
              have hen := fun W => ends_any s j W hjs
              have hp := hP.out
              rw [← drop_from s.data.toList hkj, D.out] at hp
              cases he : endsL (s.data.toList.drop j) with
              | true =>
                have hne : k < j := by
                  rcases Nat.lt_or_ge k j with h | h
                  · exact h
                  · exfalso
                    rw [show j = k by omega, D.out, show endsL (c :: s.data.toList.drop (k + 1)) = blankN c.toNat from rfl, hbl] at he
                    cases he
                have hX2 : Hid (lineL (s.data.toList.drop j) j (out ++ [⟨(s.data.toList.drop k).take (j - k), false, k⟩]) = R) := by
                  show _ = _
                  rw [← hX.out, D.out, plain_end hbl h35 hp (by rw [← D.out, drop_from _ hkj]; exact he), ← D.out, drop_from _ hkj, Nat.add_sub_cancel' hkj]
                have hst : (⟨((s.data.toList.drop k).take (j - k)).toArray⟩ : ByteArray) = s.extract k j := by
                  rw [← Lib.extract_data]
                have E : Hid ([Value.string (s.extract k j), .bool false, .int .i64 (k : Int)] = wv ⟨(s.data.toList.drop k).take (j - k), false, k⟩) := by
                  show _ = _
                  unfold wv
                  rw [hst]
                have hes : (s.extract k j).size ≤ 1048576 := by rw [ByteArray.size_extract]; omega
                generalize (s.data.toList.drop k).take (j - k) = t at hX2 E
                have kj : (k : Int) ≤ (j : Int) := by omega
                have js : (j : Int) ≤ (s.size : Int) := by omega
                rw [he] at hen
                clear hX D h34 h35 hP hp hst he
                go_wp2_with fail
                refine (hen _).mono ?_
                rintro e w1 ⟨rfl, hw1⟩
                obtain rfl := hw1.symm
                go_wp2_with fail
                refine (clone_any (s.extract k j) _ (by omega)).mono ?_
                rintro e w2 ⟨rfl, hb2⟩
                have hrow2 := own_below hrow hb2
                have hB2 := hB.trans (hb2.mono hsB)
                have hs2 := hB2.size
                go_wp2_with (at_builtin; refine wpList_append_own _ rfl _ _ 86 rfl w.heap.size 102 i0 (.agg #[.string ⟨#[]⟩, .bool false, .int .i64 0]) 3 32 Tryz.underlying86 hi hz0 hz1 hz2 rfl (by decide) _ _ _ rfl (hrow2.alloc _) ⟨w2.heap.size, 0, none⟩ 1 1 [.string (s.extract k j), .bool false, .int .i64 (k : Int)] rfl rfl (cells_new _ #[_, _, _] _) (by simp [Value.oneCell']) (by unfold maxLen; omega) (by omega) (by simp; omega) ?_; intro u1 w3 hown1 hgrow1 _; rw [E.out] at hown1; obtain ⟨g1, e1, hu1, hI1⟩ := row3 hown1; rw [hu1]; have hB3 := app3 hB2 hs2 hrow2 hgrow1)
                go_roundw
                case rel => exact ⟨j, out ++ [⟨t, false, k⟩], by omega, rfl, by simp; omega, hX2, by simpa using hI1, hB3⟩
                case measure => simp [intOf]; omega
              | false =>
                have hjl : j < s.size := by
                  rcases Nat.lt_or_ge j s.size with h | h
                  · exact h
                  · exfalso
                    rw [drop_end s h] at he
                    cases he
                have hdj := drop_cons s hjl
                obtain ⟨d, hd1⟩ : ∃ d, s[j] = d := ⟨_, rfl⟩
                rw [hd1] at hdj
                have js : (j : Int) < (s.size : Int) := by omega
                have hbd : blankN d.toNat = false := by rw [hdj] at he; exact he
                rw [he] at hen
                cases hpl : plainN d.toNat with
                | true =>
                  have hP2 : Hid (plainLen (s.data.toList.drop k) = (j + 1 - k) + plainLen (s.data.toList.drop (j + 1))) := by
                    show _ = _
                    rw [hP.out, hdj]
                    simp only [plainLen, hpl, if_true]
                    omega
                  clear hP hp hdj he
                  go_wp2_with fail
                  refine (hen _).mono ?_
                  rintro e w1 ⟨rfl, hw1⟩
                  obtain rfl := hw1.symm
                  go_wp2_with fail
                  refine (plain_any _ _).mono ?_
                  rintro e w1 ⟨rfl, hw1⟩
                  obtain rfl := hw1.symm
                  rw [hpl]
                  go_wp2
                  go_roundw
                  case rel => exact ⟨j + 1, by omega, by omega, rfl, by go_num, hP2, hrow, hB⟩
                  case measure => simp [intOf]; omega
                | false =>
                  have F : Hid (R = .error j) := by
                    show _ = _
                    rw [← hX.out, D.out, plain_bad hbl h35 h34 (d := d) (t := s.data.toList.drop (j + 1)) (by rw [← D.out, drop_from _ hkj, hdj]) hp hpl hbd, Nat.add_sub_cancel' hkj]
                  clear hX D h34 h35 hP hp hdj he
                  go_wp2_with fail
                  refine (hen _).mono ?_
                  rintro e w1 ⟨rfl, hw1⟩
                  obtain rfl := hw1.symm
                  go_wp2_with fail
                  refine (plain_any _ _).mono ?_
                  rintro e w1 ⟨rfl, hw1⟩
                  obtain rfl := hw1.symm
                  rw [hpl]
                  go_wp2_with fail
                  refine (wrong_any j aS _ hS1).mono ?_
                  rintro e w2 ⟨rfl, hw2⟩
                  obtain rfl := hw2.symm
                  go_wp2
                  rw [Exit.noGoto_ret]
                  go_ret2
                  refine ⟨?_, hB.alloc hsB _⟩
                  rw [F.out]
                  exact ⟨_, rfl, ErrAt.new hsB⟩
    · have F : Hid (R = .ok out) := by
        show _ = _
        rw [← hX.out, drop_end s (by omega), lineL_nil]
      clear hX
      go_wp2
      rw [Exit.noGoto_ret]
      go_ret2
      refine ⟨?_, hB⟩
      rw [F.out]
      exact ⟨_, rfl, hrow⟩

end Go.Proofs.YtjblkgephboajaaGreatDoor.WordsBytes
