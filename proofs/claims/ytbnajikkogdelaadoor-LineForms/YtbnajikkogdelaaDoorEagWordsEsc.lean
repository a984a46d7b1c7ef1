/-
  Texts that stand together: WordsEsc, WordsUnquote.
-/
import Derived.Test.YtbnajikkogdelaaDoorEWordsBytes
import Derived.Test.YtbnajikkogdelaaDoorEagShelf
import Derived.Deep.QuietTactic
import Derived.BigQuiet
namespace Go.Proofs.YtbnajikkogdelaaDoor.WordsBytes
open Go.RowKit Go.Proofs.YtbnajikkogdelaaDoor.WordsMath Go.Proofs.YtbnajikkogdelaaDoor.WordsOne

/-- A digit's worth; -1: it is none. -/
def hexI (n : Nat) : Int := match hexN n with | some v => (v : Int) | none => -1

theorem hexN_lt {n v : Nat} (h : hexN n = some v) : v < 16 := by
  unfold hexN at h
  by_cases h1 : 48 ≤ n ∧ n ≤ 57
  · rw [if_pos h1] at h; cases h; omega
  · rw [if_neg h1] at h
    by_cases h2 : 65 ≤ n ∧ n ≤ 70
    · rw [if_pos h2] at h; cases h; omega
    · rw [if_neg h2] at h; cases h

set_option maxRecDepth 100000 in
theorem index_hex (c : UInt8) : Lib.indexByte digitsB.data.toList ((c.toNat : Int)).toNat.toUInt8 = hexI c.toNat := by
  have h : ∀ n : Fin 256, Lib.indexByte digitsB.data.toList ((n.1 : Int)).toNat.toUInt8 = hexI n.1 := by decide +kernel
  exact h ⟨c.toNat, c.toNat_lt⟩

theorem digit_any (c : UInt8) (w : World) : Calls Tryd.prog 77 #[.string ⟨#[48, 49, 50, 51, 52, 53, 54, 55, 56, 57, 65, 66, 67, 68, 69, 70]⟩, .int .u8 (c.toNat : Int)] w fun e w' => e = .returned (.int .i64 (hexI c.toNat)) ∧ w' = w := by
  have h := Tryd.strings_IndexByte digitsB (c.toNat : Int) w
  rw [index_hex] at h
  exact h

/-- What an escape comes to as the program tells it: the byte and its length; 0, 0: there is none. -/
def sixV (l : List UInt8) : Value := match sixL l with
  | some b => .tuple #[.int .u8 (b.toNat : Int), .int .i64 4]
  | none => .tuple #[.int .u8 0, .int .i64 0]

theorem or_hex (x y : Nat) (hx : x < 16) (hy : y < 16) : bits .or .i64 ((x : Int) * 16) (y : Int) = ((16 * x + y : Nat) : Int) := by
  have h : ∀ x y : Fin 16, bits .or .i64 ((x.1 : Int) * 16) (y.1 : Int) = ((16 * x.1 + y.1 : Nat) : Int) := by decide +kernel
  exact h ⟨x, hx⟩ ⟨y, hy⟩

theorem ret_eq {a b : Value} (h : a = b) : Ending.returned a = .returned b := by rw [h]

set_option maxRecDepth 100000 in
set_option maxHeartbeats 1000000 in
theorem sixteens_any (s : ByteArray) (w : World) (hs : s.size ≤ 4611686018427387904) : Calls Tryd.prog 90 #[.string s] w fun e w' => e = .returned (sixV s.data.toList) ∧ ∃ q, w' = w.drewN q := by
  by_cases h2 : s.size < 2
  · have E : Hid (sixV s.data.toList = .tuple #[.int .u8 0, .int .i64 0]) := by
      show _ = _
      have hl := list_size s
      match hm : s.data.toList with
      | [] => rfl
      | [_] => rfl
      | _ :: _ :: _ => rw [hm] at hl; simp at hl; omega
    have k1 : (s.size : Int) < 2 := by omega
    go_enter Tryd.func90, Tryd.ntmps90
    go_wp2
    go_ret2
    exact ⟨ret_eq E.out.symm, 0, rfl⟩
  · have k1 : ¬ (s.size : Int) < 2 := by omega
    have hd : s.data.toList = s[0] :: s[1] :: s.data.toList.drop 2 := by
      have h0 := drop_cons s (i := 0) (by omega)
      have h1 := drop_cons s (i := 1) (by omega)
      rw [List.drop_zero] at h0
      rw [h1] at h0
      exact h0
    obtain ⟨a, ha⟩ : ∃ a, s[0] = a := ⟨_, rfl⟩
    obtain ⟨b, hb⟩ : ∃ b, s[1] = b := ⟨_, rfl⟩
    rw [ha, hb] at hd
    have E : Hid (_) := hd
    clear hd
    have i0 : (0 : Int) < (s.size : Int) := by omega
    have i1 : (1 : Int) < (s.size : Int) := by omega
    cases hA : hexN a.toNat with
    | none =>
      have e1 : hexI a.toNat = -1 := by unfold hexI; rw [hA]
      have F : Hid (sixV s.data.toList = .tuple #[.int .u8 0, .int .i64 0]) := by show _ = _; unfold sixV; rw [E.out]; simp [sixL, hA]
      go_enter Tryd.func90, Tryd.ntmps90
      go_wp2
      go_quiet ((go_at_call 77; refine Calls.quiet_of_same (digit_any _ _)))
      rw [e1]
      go_wp2
      go_ret2
      exact ⟨ret_eq F.out.symm, _, rfl⟩
    | some x =>
      have hx := hexN_lt hA
      have e1 : hexI a.toNat = (x : Int) := by unfold hexI; rw [hA]
      have n1 : ¬ (x : Int) < 0 := by omega
      cases hB : hexN b.toNat with
      | none =>
        have e2 : hexI b.toNat = -1 := by unfold hexI; rw [hB]
        have F : Hid (sixV s.data.toList = .tuple #[.int .u8 0, .int .i64 0]) := by show _ = _; unfold sixV; rw [E.out]; simp [sixL, hA, hB]
        go_enter Tryd.func90, Tryd.ntmps90
        go_wp2
        go_quiet ((go_at_call 77; refine Calls.quiet_of_same (digit_any _ _)))
        rw [e1, e2]
        go_wp2
        go_ret2
        exact ⟨ret_eq F.out.symm, _, rfl⟩
      | some y =>
        have hy := hexN_lt hB
        have e2 : hexI b.toNat = (y : Int) := by unfold hexI; rw [hB]
        have n2 : ¬ (y : Int) < 0 := by omega
        have e3 := or_hex x y hx hy
        have F : Hid (sixV s.data.toList = .tuple #[.int .u8 (16 * (x : Int) + (y : Int)), .int .i64 4]) := by
          show _ = _
          have e5 : ((UInt8.ofNat (16 * x + y)).toNat : Int) = 16 * (x : Int) + (y : Int) := by rw [UInt8.toNat_ofNat']; omega
          rw [← e5]
          unfold sixV
          rw [E.out]
          simp [sixL, hA, hB]
        go_enter Tryd.func90, Tryd.ntmps90
        go_wp2
        go_quiet ((go_at_call 77; refine Calls.quiet_of_same (digit_any _ _)))
        rw [e1, e2]
        go_wp2
        go_ret2
        exact ⟨ret_eq F.out.symm, _, rfl⟩

theorem ext_list (s : ByteArray) (i : Nat) : (s.extract i s.size).data.toList = s.data.toList.drop i := by
  rw [Lib.extract_data]
  exact List.take_of_length_le (by rw [List.length_drop, list_size]; omega)

/-- What the escape behind a backslash comes to as the program tells it. -/
def escV (r : List UInt8) : Value := match escL r with
  | some (b, k) => .tuple #[.int .u8 (b.toNat : Int), .int .i64 ((k : Int) + 1)]
  | none => .tuple #[.int .u8 0, .int .i64 0]

theorem escV_six {d : UInt8} {r : List UInt8} (h : d.toNat = 120) : escV (d :: r) = sixV r := by
  unfold escV sixV escL
  simp only [h]
  cases sixL r <;> rfl

theorem sixV_shape (l : List UInt8) : ∃ a b : Int, sixV l = .tuple #[.int .u8 a, .int .i64 b] := by
  unfold sixV
  cases sixL l
  · exact ⟨_, _, rfl⟩
  · exact ⟨_, _, rfl⟩

set_option maxRecDepth 100000 in
set_option maxHeartbeats 1000000 in
theorem escaped_any (s : ByteArray) (r : List UInt8) (w : World) (hs : s.size ≤ 4611686018427387904) (hr : Hid (s.data.toList.drop 1 = r)) : Calls Tryd.prog 87 #[.string s] w fun e w' => e = .returned (escV r) ∧ ∃ q, w' = w.drewN q := by
  by_cases h2 : s.size < 2
  · have E : Hid (escV r = .tuple #[.int .u8 0, .int .i64 0]) := by
      show _ = _
      rw [← hr.out, drop_end s (by omega)]
      rfl
    have k1 : (s.size : Int) < 2 := by omega
    go_enter Tryd.func87, Tryd.ntmps87
    go_wp2
    go_ret2
    exact ⟨ret_eq E.out.symm, 0, rfl⟩
  · have k1 : ¬ (s.size : Int) < 2 := by omega
    have hd := drop_cons s (i := 1) (by omega)
    obtain ⟨d, hd1⟩ : ∃ d, s[1] = d := ⟨_, rfl⟩
    rw [hd1] at hd
    have i1 : (1 : Int) < (s.size : Int) := by omega
    have i2 : (2 : Int) ≤ (s.size : Int) := by omega
    have D : Hid (_) := hd
    clear hd
    by_cases h1 : d.toNat = 34 ∨ d.toNat = 92
    · have E : Hid (escV r = .tuple #[.int .u8 (d.toNat : Int), .int .i64 2]) := by
        show _ = _
        rw [← hr.out, D.out]
        unfold escV escL
        simp [h1]
      rcases h1 with h1 | h1
      · have k2 : ((d.toNat : Int) == 34) = true := by simp; omega
        clear h1
        go_enter Tryd.func87, Tryd.ntmps87
        go_wp2
        go_ret2
        exact ⟨ret_eq E.out.symm, 0, rfl⟩
      · have k2 : ((d.toNat : Int) == 34) = false := by simp; omega
        have k3 : ((d.toNat : Int) == 92) = true := by simp; omega
        clear h1
        go_enter Tryd.func87, Tryd.ntmps87
        go_wp2
        go_ret2
        exact ⟨ret_eq E.out.symm, 0, rfl⟩
    · have k2 : ((d.toNat : Int) == 34) = false := by simp; omega
      have k3 : ((d.toNat : Int) == 92) = false := by simp; omega
      by_cases h3 : d.toNat = 110
      · have E : Hid (escV r = .tuple #[.int .u8 10, .int .i64 2]) := by
          show _ = _
          rw [← hr.out, D.out]
          unfold escV escL
          simp [h3]
        have k4 : ((d.toNat : Int) == 110) = true := by simp; omega
        clear h1 h3
        go_enter Tryd.func87, Tryd.ntmps87
        go_wp2
        go_ret2
        exact ⟨ret_eq E.out.symm, 0, rfl⟩
      · have k4 : ((d.toNat : Int) == 110) = false := by simp; omega
        by_cases h4 : d.toNat = 120
        · have E : Hid (escV r = sixV (s.data.toList.drop 2)) := by
            show _ = _
            rw [← hr.out, D.out, escV_six h4]
          have k5 : ((d.toNat : Int) == 120) = true := by simp; omega
          have hc := sixteens_any (s.extract 2 s.size) w (by rw [ByteArray.size_extract]; omega)
          rw [ext_list] at hc
          obtain ⟨x, y, hxy⟩ := sixV_shape (s.data.toList.drop 2)
          rw [hxy] at E hc
          clear h1 h3 h4 hxy
          go_enter Tryd.func87, Tryd.ntmps87
          go_wp2_with fail
          refine hc.mono ?_
          rintro e w1 ⟨rfl, q, hw1⟩
          obtain rfl := hw1.symm
          go_wp2
          go_ret2
          exact ⟨ret_eq E.out.symm, q, rfl⟩
        · have E : Hid (escV r = .tuple #[.int .u8 0, .int .i64 0]) := by
            show _ = _
            rw [← hr.out, D.out]
            unfold escV escL
            simp [h1, h3, h4]
          have k5 : ((d.toNat : Int) == 120) = false := by simp; omega
          clear h1 h3 h4
          go_enter Tryd.func87, Tryd.ntmps87
          go_wp2
          go_ret2
          exact ⟨ret_eq E.out.symm, 0, rfl⟩

end Go.Proofs.YtbnajikkogdelaaDoor.WordsBytes

namespace Go.Proofs.YtbnajikkogdelaaDoor.WordsBytes
open Go.RowKit Go.Proofs.YtbnajikkogdelaaDoor.WordsMath Go.Proofs.YtbnajikkogdelaaDoor.WordsOne

theorem cell_block {w : World} {p : Addr} {v : Value} (h : w.cell? p = some v) : p.block < w.heap.size := by
  unfold World.cell? at h
  by_cases hb : p.block < w.heap.size
  · exact hb
  · rw [Array.getElem?_eq_none (by omega)] at h
    simp at h

/-- A package-level variable holds an error of errors.New's. -/
def Sent (w : World) (g : Nat) (a : Addr) : Prop := w.cell? ⟨g, 0, none⟩ = some (.iface 162 (.pointer (some a)))

theorem Sent.below {w w' : World} {g B : Nat} {a : Addr} (h : Sent w g a) (hb : Below B w w') (hB : w.heap.size ≤ B) : Sent w' g a :=
  (hb.cell (Nat.lt_of_lt_of_le (cell_block h) hB)).trans h

/-- An error with its place, as it lies in memory. -/
def ErrAt (base : Nat) (aS : Addr) (p : Nat) (w' : World) (v : Value) : Prop :=
  ∃ b, base ≤ b ∧ v = .iface 72 (.pointer (some ⟨b, 0, none⟩)) ∧ w'.heap[b]? = some (.cells #[.int .i64 (p : Int), .iface 162 (.pointer (some aS))] 76 (0, 0))

theorem ErrAt.new {base : Nat} {aS : Addr} {p : Nat} {W : World} (h : base ≤ W.heap.size) : ErrAt base aS p (W.alloc (.cells #[.int .i64 (p : Int), .iface 162 (.pointer (some aS))] 76)) (.iface 72 (.pointer (some ⟨W.heap.size, 0, none⟩))) :=
  ⟨_, h, rfl, heap_alloc_new W _⟩

set_option maxHeartbeats 400000 in
theorem wrong_any (p : Nat) (aS : Addr) (w : World) (hS : Sent w 1 aS) : Calls Tryd.prog 83 #[.int .i64 (p : Int)] w fun e w' =>
    e = .returned (.iface 72 (.pointer (some ⟨w.heap.size, 0, none⟩))) ∧ w' = w.alloc (.cells #[.int .i64 (p : Int), .iface 162 (.pointer (some aS))] 76) := by
  have h : w.cell? ⟨1, 0, none⟩ = some (.iface 162 (.pointer (some aS))) := hS
  go_enter Tryd.func83, Tryd.ntmps83
  go_wp2
  go_ret
  exact ⟨rfl, rfl⟩

/-- What unquote hands back. -/
def UnqRes (base : Nat) (aS : Addr) (R : Except Nat (List UInt8 × Nat)) (e : Ending) (w' : World) : Prop :=
  match R with
  | .ok (t, n) => e = .returned (.tuple #[.string ⟨t.toArray⟩, .int .i64 (n : Int), .nilIface])
  | .error p => ∃ v, e = .returned (.tuple #[.string ⟨#[]⟩, .int .i64 0, v]) ∧ ErrAt base aS p w' v

theorem unqE_end {l : List UInt8} {i n : Nat} {t : List UInt8} (h : unqL l i [] = .ok (t, n)) (he : endsL (l.drop (n - i)) = true) : unqE l i = .ok (t, n) := by
  unfold unqE; rw [h]; simp [he]
theorem unqE_more {l : List UInt8} {i n : Nat} {t : List UInt8} (h : unqL l i [] = .ok (t, n)) (he : endsL (l.drop (n - i)) = false) : unqE l i = .error n := by
  unfold unqE; rw [h]; simp [he]
theorem unqE_err {l : List UInt8} {i p : Nat} (h : unqL l i [] = .error p) : unqE l i = .error p := by
  unfold unqE; rw [h]

theorem drop_from (l : List UInt8) {a k : Nat} (h : a ≤ k) : (l.drop a).drop (k - a) = l.drop k := by
  rw [List.drop_drop, Nat.add_sub_cancel' h]

set_option maxRecDepth 100000 in
set_option maxHeartbeats 4000000 in
theorem unquote_any (s : ByteArray) (a : Nat) (R : Except Nat (List UInt8 × Nat)) (aS : Addr) (w : World) (ha : a < s.size) (hs : s.size ≤ 1048576) (hS : Sent w 1 aS) (hR : Hid (unqE (s.data.toList.drop (a + 1)) (a + 1) = R)) :
    Calls Tryd.prog 81 #[.string s, .int .i64 (a : Int)] w fun e w' => UnqRes w.heap.size aS R e w' ∧ Below w.heap.size w w' := by
  obtain ⟨i0, hi, hz0, hz1, hz2⟩ := info_parts info5
  go_enter Tryd.func81, Tryd.ntmps81
  go_wp2
  go_loopw [7, 8] (fun v i wr => ∃ (k : Nat) (acc : List UInt8), a + 1 ≤ k ∧ k ≤ s.size ∧ i = .int .i64 k ∧ acc.length ≤ k ∧ Hid (unqL (s.data.toList.drop k) k acc = unqL (s.data.toList.drop (a + 1)) (a + 1) []) ∧ wr.ownsRow w.heap.size 5 1 v acc.length (Lib.byteCells acc) ∧ Below w.heap.size w wr) (fun _ i _ => s.size - (intOf i).toNat)
  case atStart => exact ⟨a + 1, [], by omega, by omega, by go_num, by simp, rfl, World.ownsRow_nil _ _ _ _, Below.refl _ _⟩
  case round =>
    obtain ⟨k, acc, hak, hk, rfl, hacc, hX, hrow, hB⟩ := hrel
    have hsB := hB.size
    have hS1 := hS.below hB (Nat.le_refl _)
    by_cases hlt : k < s.size
    · have hd := drop_cons s hlt
      obtain ⟨c, hc⟩ : ∃ c, s[k] = c := ⟨_, rfl⟩
      rw [hc] at hd
      have D : Hid (_) := hd
      clear hd
      have kk : (k : Int) < (s.size : Int) := by omega
      by_cases h34 : c.toNat = 34
      · have k1 : ((c.toNat : Int) == 34) = true := by simp; omega
        have hx := hX.out
        rw [D.out, unqL_end h34] at hx
        cases he : endsL (s.data.toList.drop (k + 1)) with
        | true =>
          have F : Hid (R = .ok (acc, k + 1)) := by
            show _ = _
            rw [← hR.out]
            exact unqE_end hx.symm (by rw [drop_from _ (by omega)]; exact he)
          have hcv := bytes_str_any hrow
          have hen := ends_any s (k + 1) wr (by omega)
          rw [he] at hen
          clear hX hx D he h34
          go_wp2_with fail
          refine hen.mono ?_
          rintro e w1 ⟨rfl, hw1⟩
          obtain rfl := hw1.symm
          go_wp2
          go_ret3
          refine ⟨?_, hB⟩
          rw [F.out]
          exact ret_eq rfl
        | false =>
          have F : Hid (R = .error (k + 1)) := by
            show _ = _
            rw [← hR.out]
            exact unqE_more hx.symm (by rw [drop_from _ (by omega)]; exact he)
          have hen := ends_any s (k + 1) wr (by omega)
          rw [he] at hen
          clear hX hx D he h34
          go_wp2_with fail
          refine hen.mono ?_
          rintro e w1 ⟨rfl, hw1⟩
          obtain rfl := hw1.symm
          go_wp2_with fail
          refine (wrong_any (k + 1) aS _ hS1).mono ?_
          rintro e w2 ⟨rfl, hw2⟩
          obtain rfl := hw2.symm
          go_wp2
          go_ret3
          refine ⟨?_, hB.alloc hsB _⟩
          rw [F.out]
          exact ⟨_, rfl, ErrAt.new hsB⟩
      · have k1 : ((c.toNat : Int) == 34) = false := by simp; omega
        by_cases h10 : c.toNat = 10
        · have k2 : ((c.toNat : Int) == 10) = true := by simp; omega
          have F : Hid (R = .error k) := by
            show _ = _
            rw [← hR.out]
            exact unqE_err (by rw [← hX.out, D.out]; exact unqL_none h34 (by simp [pieceL, h10]) _ _)
          clear hX D h34 h10
          go_wp2_with fail
          refine (wrong_any k aS _ hS1).mono ?_
          rintro e w2 ⟨rfl, hw2⟩
          obtain rfl := hw2.symm
          go_wp2
          go_ret3
          refine ⟨?_, hB.alloc hsB _⟩
          rw [F.out]
          exact ⟨_, rfl, ErrAt.new hsB⟩
        · have k2 : ((c.toNat : Int) == 10) = false := by simp; omega
          by_cases h92 : c.toNat = 92
          · have k3 : ((c.toNat : Int) == 92) = true := by simp; omega
            have hes := fun W => escaped_any (s.extract k s.size) (s.data.toList.drop (k + 1)) W (by rw [ByteArray.size_extract]; omega) (by show _ = _; rw [ext_list, List.drop_drop])
            have hxx := hX.out
            rw [D.out] at hxx
            cases hE : escL (s.data.toList.drop (k + 1)) with
            | none =>
              have F : Hid (R = .error k) := by
                show _ = _
                rw [← hR.out]
                exact unqE_err (by rw [← hxx]; exact unqL_none h34 (by simp [pieceL, h92, hE]) _ _)
              have hv : escV (s.data.toList.drop (k + 1)) = .tuple #[.int .u8 0, .int .i64 0] := by unfold escV; rw [hE]
              rw [hv] at hes
              clear hX D h34 h10 h92 hxx hE hv
              go_wp2_with fail
              refine (hes _).mono ?_
              rintro e w1 ⟨rfl, q, hw1⟩
              obtain rfl := hw1.symm
              go_wp2_with fail
              refine (wrong_any k aS _ (show Sent (wr.drewN q) 1 aS from hS1)).mono ?_
              rintro e w2 ⟨rfl, hw2⟩
              obtain rfl := hw2.symm
              go_wp2
              go_ret3
              refine ⟨?_, (show Below w.heap.size w (wr.drewN q) from ⟨hB.os, hB.tape, hB.output, hB.size, hB.block⟩).alloc hsB _⟩
              rw [F.out]
              exact ⟨_, rfl, ErrAt.new hsB⟩
            | some x =>
              obtain ⟨b, n⟩ := x
              have hln := escL_len hE
              have hld : (s.data.toList.drop (k + 1)).length = s.size - (k + 1) := by rw [List.length_drop, list_size]
              rw [hld] at hln
              rw [unqL_some h34 (show pieceL c (s.data.toList.drop (k + 1)) = some (b, n) by simp [pieceL, h92, hE]), List.drop_drop] at hxx
              have hX2 : Hid (unqL (s.data.toList.drop (k + (n + 1))) (k + (n + 1)) (acc ++ [b]) = unqL (s.data.toList.drop (a + 1)) (a + 1) []) := by
                show _ = _
                rw [show k + (n + 1) = k + 1 + n by omega]
                exact hxx
              have hv : escV (s.data.toList.drop (k + 1)) = .tuple #[.int .u8 (b.toNat : Int), .int .i64 ((n : Int) + 1)] := by unfold escV; rw [hE]
              rw [hv] at hes
              have E1 : Hid ([Value.int .u8 (b.toNat : Int)] = Lib.byteCells [b]) := by show _ = _; simp [Lib.byteCells]
              have n0 : ((n : Int) + 1 == 0) = false := by simp; omega
              clear hX D h34 h10 h92 hxx hE hv hld
              go_wp2_with fail
              refine (hes _).mono ?_
              rintro e w1 ⟨rfl, q, hw1⟩
              obtain rfl := hw1.symm
              have hrq : (wr.drewN q).ownsRow w.heap.size 5 1 _ acc.length (Lib.byteCells acc) := hrow
              have hBq : Below w.heap.size w (wr.drewN q) := ⟨hB.os, hB.tape, hB.output, hB.size, hB.block⟩
              go_wp2_with (at_builtin; refine wpList_append_own _ rfl _ _ 81 rfl w.heap.size 5 i0 (.int .u8 0) 1 1 Tryd.underlying81 hi hz0 hz1 hz2 rfl (by decide) _ _ _ rfl (hrq.alloc _) ⟨(wr.drewN q).heap.size, 0, none⟩ 1 1 [.int .u8 (b.toNat : Int)] rfl rfl (cells_new _ #[_] _) (by simp [Value.oneCell']) (by unfold maxLen; omega) (by omega) (by simp; omega) ?_; intro v1 w1 hown1 hgrow1 _; have hr1 := row_any hown1 E1.out rfl rfl; have hB1 := Below.app hBq hsB hrq hgrow1)
              go_roundw
              case rel => exact ⟨k + (n + 1), acc ++ [b], by omega, by omega, by go_num, by simp; omega, hX2, hr1, hB1⟩
              case measure => simp [intOf]; omega
          · have k3 : ((c.toNat : Int) == 92) = false := by simp; omega
            have hxx := hX.out
            rw [D.out, unqL_some h34 (show pieceL c (s.data.toList.drop (k + 1)) = some (c, 0) by simp [pieceL, h92, h10]), List.drop_zero, Nat.add_zero] at hxx
            have hX2 : Hid (unqL (s.data.toList.drop (k + 1)) (k + 1) (acc ++ [c]) = unqL (s.data.toList.drop (a + 1)) (a + 1) []) := hxx
            have E1 : Hid ([Value.int .u8 (c.toNat : Int)] = Lib.byteCells [c]) := by show _ = _; simp [Lib.byteCells]
            clear hX D h34 h10 h92 hxx
            go_wp2_with (at_builtin; refine wpList_append_own _ rfl _ _ 81 rfl w.heap.size 5 i0 (.int .u8 0) 1 1 Tryd.underlying81 hi hz0 hz1 hz2 rfl (by decide) _ _ _ rfl (hrow.alloc _) ⟨wr.heap.size, 0, none⟩ 1 1 [.int .u8 (c.toNat : Int)] rfl rfl (cells_new _ #[_] _) (by simp [Value.oneCell']) (by unfold maxLen; omega) (by omega) (by simp; omega) ?_; intro v1 w1 hown1 hgrow1 _; have hr1 := row_any hown1 E1.out rfl rfl; have hB1 := Below.app hB hsB hrow hgrow1)
            go_roundw
            case rel => exact ⟨k + 1, acc ++ [c], by omega, by omega, by go_num, by simp; omega, hX2, hr1, hB1⟩
            case measure => simp [intOf]; omega
    · have F : Hid (R = .error s.size) := by
        show _ = _
        rw [← hR.out]
        exact unqE_err (by rw [← hX.out, drop_end s (by omega), unqL_nil, show k = s.size by omega])
      clear hX
      go_wp2_with fail
      refine (wrong_any s.size aS _ hS1).mono ?_
      rintro e w2 ⟨rfl, hw2⟩
      obtain rfl := hw2.symm
      go_wp2
      go_ret3
      refine ⟨?_, hB.alloc hsB _⟩
      rw [F.out]
      exact ⟨_, rfl, ErrAt.new hsB⟩

end Go.Proofs.YtbnajikkogdelaaDoor.WordsBytes
