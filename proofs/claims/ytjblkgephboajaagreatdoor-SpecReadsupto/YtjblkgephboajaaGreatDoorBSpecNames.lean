/-
  Texts that stand together: SpecNames.
-/
import Derived.Test.YtjblkgephboajaaGreatDoorBagSpecOpen
namespace Go.Proofs.YtjblkgephboajaaGreatDoor.SpecMem
open Go.RowKit Go.Maps Go.WideMaps GramMath GramRow GramOne GramApart GramRoll GramCopy LineMath SpecLn SpecMd WordsBytes
set_option linter.unusedVariables false
set_option linter.unusedSimpArgs false

theorem isEnd_b (x : Wd) (w : World) : Calls Tryz.prog 95 #[.agg #[.string ⟨x.text.toArray⟩, .bool x.quoted, .int .i64 (x.place : Int)]] w fun e w' => e = .returned (.bool (isEnd x)) ∧ Below w.heap.size w w' :=
  (isEnd_any x w).mono (fun e w' ⟨h1, h2⟩ => ⟨h1, by rw [h2]; exact (Below.refl _ _).alloc (Nat.le_refl _) _⟩)
theorem isMark_b (x : Wd) (c : UInt8) (w : World) : Calls Tryz.prog 96 #[.agg #[.string ⟨x.text.toArray⟩, .bool x.quoted, .int .i64 (x.place : Int)], .string ⟨#[c]⟩] w fun e w' => e = .returned (.bool (mk x c)) ∧ Below w.heap.size w w' :=
  (isMark_any x c w).mono (fun e w' ⟨h1, h2⟩ => ⟨h1, by rw [h2]; exact (Below.refl _ _).alloc (Nat.le_refl _) _⟩)
theorem wrongS_b (p : Nat) (aS : Addr) (w : World) (hS : WordsBytes.Sent w 1 aS) : Calls Tryz.prog 46 #[.int .i64 (p : Int)] w fun e w' => (∃ b, e = .returned (.iface 68 (.pointer (some ⟨b, 0, none⟩))) ∧ ErrAt w.heap.size aS p w' (.iface 68 (.pointer (some ⟨b, 0, none⟩)))) ∧ Below w.heap.size w w' :=
  (wrongS_any p aS w hS).mono (fun e w' ⟨h1, h2⟩ => ⟨⟨_, h1, by rw [h2]; exact ErrAt.new (Nat.le_refl _)⟩, by rw [h2]; exact (Below.refl _ _).alloc (Nat.le_refl _) _⟩)
theorem ErrAt.weak {B B' : Nat} {a : Addr} {n : Nat} {w : World} {v : Value} (h : WordsBytes.ErrAt B a n w v) (hB : B' ≤ B) : WordsBytes.ErrAt B' a n w v := by
  obtain ⟨b, h1, h2, h3⟩ := h
  exact ⟨b, by omega, h2, h3⟩
set_option maxRecDepth 100000 in
set_option maxHeartbeats 4000000 in
theorem names_any (rb bb mb base start : Nat) (nx : Value) (ln : Int) (ns : List ByteArray) (qs : List Qr) (D : DataW Unit) (rv nv mv : Value) (left : List UInt8) (x : Wd) (aS : Addr) (w : World) (h : RdN w rb bb mb base nx start ln ns qs D rv nv mv) (hlt : base ≤ w.heap.size) (hk : Knows ⟨.nam, left, qs.map (·.s)⟩ ln ns) (hS : WordsBytes.Sent w 1 aS) (hx : x.text.length ≤ 1048576) (hs : start + x.place + x.text.length ≤ 4611686018427387904) (hq : qs.length ≤ 1073741824) (hnm : ∀ q ∈ qs, q.s.names.length ≤ 1073741824) :
    Calls Tryz.prog 108 #[.pointer (some ⟨rb, 0, none⟩), .agg #[.string ⟨x.text.toArray⟩, .bool x.quoted, .int .i64 (x.place : Int)]] w fun e w' => StepR aS rb bb mb base nx start qs (SpecLn.step start ⟨.nam, left, qs.map (·.s)⟩ x) w e w' := by
  have hmf := makeFn
  have Hk : Hid (_) := hk
  obtain ⟨W1, hW1⟩ : ∃ W1, W1 = w.alloc (.cells #[.string ⟨x.text.toArray⟩, .bool x.quoted, .int .i64 (x.place : Int)] 102) := ⟨_, rfl⟩
  have hB1 : Below w.heap.size w W1 := by rw [hW1]; exact (Below.refl _ _).alloc (Nat.le_refl _) _
  have hz1 : w.heap.size < W1.heap.size := by rw [hW1]; simp
  have hx1 : RowAt W1 w.heap.size 102 #[.string ⟨x.text.toArray⟩, .bool x.quoted, .int .i64 (x.place : Int)] := by rw [hW1]; exact World.alloc_heap_new w _
  have y0 := hx1.cell (q := 0) rfl
  have y1 := hx1.cell (q := 1) rfl
  have y2 := hx1.cell (q := 2) rfl
  have hW : Hid (W1 = w.alloc (.cells #[.string ⟨x.text.toArray⟩, .bool x.quoted, .int .i64 (x.place : Int)] 102)) := hW1
  clear hk hW1
  have hne : qs ≠ [] := by have := Hk.out.1; simpa using this
  obtain ⟨qs0, q, rfl⟩ : ∃ l q, qs = l ++ [q] := ⟨qs.dropLast, qs.getLast hne, (List.dropLast_concat_getLast hne).symm⟩
  have hln : Hid (ln = idx ns (bt left)) := Hk.out.2.2.1
  have hmem : memB (bt left) ns = true := Hk.out.2.2.2
  clear hne
  cases hE : isEnd x with
  | true =>
    have E : Hid (SpecLn.step start ⟨.nam, left, (qs0 ++ [q]).map (·.s)⟩ x = .ok ⟨.fin, left, (qs0 ++ [q]).map (·.s)⟩) := by
      show _ = _
      unfold SpecLn.step
      simp only [hE, if_true]
    go_enter Tryz.func108, Tryz.ntmps108
    go_wp2_with fail
    rw [← hW.out]
    refine (isEnd_b x W1).mono ?_
    rintro e W2 ⟨rfl, hb⟩
    have hB2 : Below w.heap.size w W2 := hB1.trans (hb.mono (by omega))
    have hz2 : w.heap.size < W2.heap.size := Nat.lt_of_lt_of_le hz1 hb.size
    have hx2 := hx1.below hb hx1.lt
    have y0 := hx2.cell (q := 0) rfl
    have y1 := hx2.cell (q := 1) rfl
    have y2 := hx2.cell (q := 2) rfl
    clear hb
    rw [hE]
    have hR := h.below hB2
    have hC : Chg base rb bb mb (qs0 ++ [q]) (qs0 ++ [q]) w W2 := .of_below _ hB2 hlt
    go_wp2
    go_ret
    rw [E.out]
    exact ⟨rfl, _, _, _, _, _, _, _, hR, rfl, ⟨Hk.out.2.1, fun _ => Hk.out.2.2⟩, hC⟩
  | false =>
    cases hM : mk x 124 with
    | true =>
      have E : Hid (SpecLn.step start ⟨.nam, left, (qs0 ++ [q]).map (·.s)⟩ x = .ok (opened start left ((qs0 ++ [q]).map (·.s)) x)) := by
        show _ = _
        unfold SpecLn.step
        simp only [hE, hM, if_true, Bool.false_eq_true, if_false]
      go_enter Tryz.func108, Tryz.ntmps108
      go_wp2_with fail
      rw [← hW.out]
      refine (isEnd_b x W1).mono ?_
      rintro e W2 ⟨rfl, hb⟩
      have hB2 : Below w.heap.size w W2 := hB1.trans (hb.mono (by omega))
      have hz2 : w.heap.size < W2.heap.size := Nat.lt_of_lt_of_le hz1 hb.size
      have hx2 := hx1.below hb hx1.lt
      have y0 := hx2.cell (q := 0) rfl
      have y1 := hx2.cell (q := 1) rfl
      have y2 := hx2.cell (q := 2) rfl
      clear hb
      rw [hE]
      go_wp2_with fail
      refine (isMark_b x 124 W2).mono ?_
      rintro e W3 ⟨rfl, hb⟩
      have hB3 : Below w.heap.size w W3 := hB2.trans (hb.mono (by omega))
      have hz3 : w.heap.size < W3.heap.size := Nat.lt_of_lt_of_le hz2 hb.size
      have hx3 := hx2.below hb hx2.lt
      have y0 := hx3.cell (q := 0) rfl
      have y1 := hx3.cell (q := 1) rfl
      have y2 := hx3.cell (q := 2) rfl
      clear hb
      rw [hM]
      have hop := open_any rb bb mb base start nx ln ns (qs0 ++ [q]) D rv nv mv left x W3 (h.below hB3) (by omega) hln.out hmem hx hs hq
      go_wp2_with fail
      refine hop.mono ?_
      rintro e W4 ⟨rfl, rv', hR, hC⟩
      have hCf := (Chg.of_below (rb := rb) (bb := bb) (mb := mb) (qs0 ++ [q]) hB3 hlt).trans hC
      clear hop hC
      go_wp2
      go_ret
      rw [E.out]
      refine ⟨rfl, ln, ns, _, D, rv', nv, mv, hR, by simp [opened], ?_, hCf⟩
      refine ⟨by simp [opened], ?_, hln.out, hmem⟩
      show ns = ntsZ ((qs0 ++ [q]).map (·.s) ++ [_]) []
      rw [nts_app, ← Hk.out.2.1]
      exact (add_in hmem).symm
    | false =>
      cases hL : lenB x with
      | false =>
        have E : Hid (SpecLn.step start ⟨.nam, left, (qs0 ++ [q]).map (·.s)⟩ x = .error x.place) := by
          show _ = _
          unfold SpecLn.step
          simp only [hE, hM, hL, if_true, Bool.false_eq_true, if_false]
        go_enter Tryz.func108, Tryz.ntmps108
        go_wp2_with fail
        rw [← hW.out]
        refine (isEnd_b x W1).mono ?_
        rintro e W2 ⟨rfl, hb⟩
        have hB2 : Below w.heap.size w W2 := hB1.trans (hb.mono (by omega))
        have hz2 : w.heap.size < W2.heap.size := Nat.lt_of_lt_of_le hz1 hb.size
        have hx2 := hx1.below hb hx1.lt
        have y0 := hx2.cell (q := 0) rfl
        have y1 := hx2.cell (q := 1) rfl
        have y2 := hx2.cell (q := 2) rfl
        clear hb
        rw [hE]
        go_wp2_with fail
        refine (isMark_b x 124 W2).mono ?_
        rintro e W3 ⟨rfl, hb⟩
        have hB3 : Below w.heap.size w W3 := hB2.trans (hb.mono (by omega))
        have hz3 : w.heap.size < W3.heap.size := Nat.lt_of_lt_of_le hz2 hb.size
        have hx3 := hx2.below hb hx2.lt
        have y0 := hx3.cell (q := 0) rfl
        have y1 := hx3.cell (q := 1) rfl
        have y2 := hx3.cell (q := 2) rfl
        clear hb
        rw [hM]
        have hck := checkName_any x aS W3 (hS.below hB3 (Nat.le_refl _)) hx
        go_wp2_with fail
        refine hck.mono ?_
        rintro e W4 ⟨(⟨h1, _⟩ | ⟨_, v, rfl, hv⟩), hb⟩
        · rw [hL] at h1; cases h1
        have hB4 : Below w.heap.size w W4 := hB3.trans (hb.mono (by omega))
        have hv2 := ErrAt.weak (B' := w.heap.size) hv (by omega)
        clear hck hv hb
        go_wp2
        refine ⟨rfl, ?_⟩
        rw [E.out]
        exact ⟨⟨_, rfl, hv2⟩, hB4⟩
      | true =>
        have E : Hid (SpecLn.step start ⟨.nam, left, (qs0 ++ [q]).map (·.s)⟩ x = .ok ⟨.nam, left, push start ((qs0 ++ [q]).map (·.s)) x⟩) := by
          show _ = _
          unfold SpecLn.step
          simp only [hE, hM, hL, if_true, Bool.false_eq_true, if_false]
        have HP : Hid (push start ((qs0 ++ [q]).map (·.s)) x = qs0.map (·.s) ++ [⟨q.s.left, q.s.names ++ [x], if q.s.names = [] then start + x.place else q.s.at_⟩]) := by
          show _ = _
          unfold push
          rw [List.map_append, List.map_cons, List.map_nil, List.getLast?_append]
          simp
        have HN : Hid (ns = ntsZ (qs0.map (·.s) ++ [⟨q.s.left, q.s.names ++ [x], if q.s.names = [] then start + x.place else q.s.at_⟩]) []) := by
          have := Hk.out.2.1
          rw [List.map_append, List.map_cons, List.map_nil, nts_app] at this
          show _ = _
          rw [nts_app]
          exact this
        obtain ⟨i0, hi, hi0, hi1, hi2⟩ := info_parts infoW
        have hrl := h.rules
        rw [List.length_append, List.length_singleton] at hrl
        obtain ⟨g, gc, rfl, hgb, hgl⟩ := hrl.form (by omega)
        obtain ⟨va, vc, hv, _⟩ := WordsBytes.own_shape (h.each q (by simp))
        have hcl : ∀ {W : World} {qq : Qr}, W.ownsRow base 88 3 (.slice (some ⟨g, 0, none⟩) (qs0.length + 1) gc) (qs0.length + 1) (cellsR ns (qs0 ++ [qq])) → W.cell? ⟨g, qs0.length * 3 + 1, none⟩ = some qq.v ∧ W.cell? ⟨g, qs0.length * 3 + 2, none⟩ = some (.int .i64 (qq.s.at_ : Int)) ∧ (∀ j, W.frozen? ⟨g, j, none⟩ = false) := fun {W qq} hr => by
          refine ⟨?_, ?_, fun j => hr.frozenAt j⟩
          · rw [hr.cellAt _ (by omega), cellsR_app, List.getElem?_append_right (by rw [cellsR_len]; omega), cellsR_len, Nat.add_sub_cancel_left]
            rfl
          · rw [hr.cellAt _ (by omega), cellsR_app, List.getElem?_append_right (by rw [cellsR_len]; omega), cellsR_len, Nat.add_sub_cancel_left]
            rfl
        have Hcl : Hid (∀ {W : World} {qq : Qr}, W.ownsRow base 88 3 (.slice (some ⟨g, 0, none⟩) (qs0.length + 1) gc) (qs0.length + 1) (cellsR ns (qs0 ++ [qq])) → W.cell? ⟨g, qs0.length * 3 + 1, none⟩ = some qq.v ∧ W.cell? ⟨g, qs0.length * 3 + 2, none⟩ = some (.int .i64 (qq.s.at_ : Int)) ∧ (∀ j, W.frozen? ⟨g, j, none⟩ = false)) := @hcl
        have hnl : q.s.names.length ≤ 1073741824 := hnm q (by simp)
        have Hv : Hid (q.v = .slice va q.s.names.length vc) := hv
        have hq0 : qs0.length ≤ 1073741824 := by simp at hq; omega
        clear hcl hv hrl
        go_enter Tryz.func108, Tryz.ntmps108
        go_wp2_with fail
        rw [← hW.out]
        refine (isEnd_b x W1).mono ?_
        rintro e W2 ⟨rfl, hb⟩
        have hB2 : Below w.heap.size w W2 := hB1.trans (hb.mono (by omega))
        have hz2 : w.heap.size < W2.heap.size := Nat.lt_of_lt_of_le hz1 hb.size
        have hx2 := hx1.below hb hx1.lt
        have y0 := hx2.cell (q := 0) rfl
        have y1 := hx2.cell (q := 1) rfl
        have y2 := hx2.cell (q := 2) rfl
        clear hb
        rw [hE]
        go_wp2_with fail
        refine (isMark_b x 124 W2).mono ?_
        rintro e W3 ⟨rfl, hb⟩
        have hB3 : Below w.heap.size w W3 := hB2.trans (hb.mono (by omega))
        have hz3 : w.heap.size < W3.heap.size := Nat.lt_of_lt_of_le hz2 hb.size
        have hx3 := hx2.below hb hx2.lt
        have y0 := hx3.cell (q := 0) rfl
        have y1 := hx3.cell (q := 1) rfl
        have y2 := hx3.cell (q := 2) rfl
        clear hb
        rw [hM]
        have hck := checkName_any x aS W3 (hS.below hB3 (Nat.le_refl _)) hx
        go_wp2_with fail
        refine hck.mono ?_
        rintro e W4 ⟨(⟨_, rfl⟩ | ⟨h1, _⟩), hb⟩
        rotate_left
        · rw [hL] at h1; cases h1
        have hB4 : Below w.heap.size w W4 := hB3.trans (hb.mono (by omega))
        have hz4 : w.heap.size < W4.heap.size := Nat.lt_of_lt_of_le hz3 hb.size
        have hx4 := hx3.below hb hx3.lt
        clear hck hb y0 y1 y2
        go_wp2
        obtain ⟨W5, hW5⟩ : ∃ W5, W4.drew = W5 := ⟨_, rfl⟩
        have hB5 : Below w.heap.size w W5 := by rw [← hW5]; exact hB4.drew
        have hx5 : RowAt W5 w.heap.size 102 #[.string ⟨x.text.toArray⟩, .bool x.quoted, .int .i64 (x.place : Int)] := by rw [← hW5]; exact hx4
        have hR5 := h.below hB5
        have hbox5 := hR5.box
        have hz5 : w.heap.size < W5.heap.size := hx5.lt
        refine wp_region_noPanic ?_
        refine OrdersZ.region_Z (S := (fun w9 => RowAt w9 rb 85 #[nx, .int .i64 (start : Int), .int .i64 ln, .pointer (some ⟨bb, 0, none⟩), .map (some mb), .slice (some ⟨g, 0, none⟩) (qs0.length + 1) gc] ∧ True)) 11 (by kernel_rfl) (by rw [hW5]; exact ⟨hbox5, trivial⟩) (fun hHeld => ?_)
        rw [hW5]
        replace hHeld : RowAt W5 rb 85 #[nx, .int .i64 (start : Int), .int .i64 ln, .pointer (some ⟨bb, 0, none⟩), .map (some mb), .slice (some ⟨g, 0, none⟩) (qs0.length + 1) gc] ∧ True := ⟨hbox5, trivial⟩
        clear hW5
        refine OrdersZ.takeZ (i := 0) (v := .pointer (some ⟨rb, 0, none⟩)) rfl (by kernel_rfl) (by kernel_rfl) (by kernel_rfl) (by kernel_rfl) (by kernel_rfl) (fun _ _ _ h => h) (Or.inl ⟨by rfl, fun w9 hSw => ?_⟩) hHeld ?_
        · obtain ⟨s0, s1⟩ := hSw
          go_simp
        simp only [zA, zB, zC, Act.put, zD, zE, zF]
        refine OrdersZ.takeZ (i := 1) (v := .pointer (some ⟨rb, 0, none⟩)) rfl (by kernel_rfl) (by kernel_rfl) (by kernel_rfl) (by kernel_rfl) (by kernel_rfl) (fun _ _ _ h => h) (Or.inl ⟨by rfl, fun w9 hSw => ?_⟩) hHeld ?_
        · obtain ⟨s0, s1⟩ := hSw
          go_simp
        simp only [zA, zB, zC, Act.put, zD, zE, zF]
        refine OrdersZ.takeZ (i := 2) (v := .pointer (some ⟨rb, 5, none⟩)) rfl (by kernel_rfl) (by kernel_rfl) (by kernel_rfl) (by kernel_rfl) (by kernel_rfl) (fun _ _ _ h => h) (Or.inl ⟨by rfl, fun w9 hSw => ?_⟩) hHeld ?_
        · obtain ⟨s0, s1⟩ := hSw
          go_simp
        simp only [zA, zB, zC, Act.put, zD, zE, zF]
        refine OrdersZ.takeZ (i := 3) (v := .slice (some ⟨g, 0, none⟩) (qs0.length + 1) gc) rfl (by kernel_rfl) (by kernel_rfl) (by kernel_rfl) (by kernel_rfl) (by kernel_rfl) (fun _ _ _ h => h) (Or.inl ⟨by rfl, fun w9 hSw => ?_⟩) hHeld ?_
        · obtain ⟨s0, s1⟩ := hSw
          go_simp
          (have q := s0.cell (q := 5) rfl; go_simp)
        simp only [zA, zB, zC, Act.put, zD, zE, zF]
        refine OrdersZ.takeZ (i := 4) (v := .pointer (some ⟨rb, 0, none⟩)) rfl (by kernel_rfl) (by kernel_rfl) (by kernel_rfl) (by kernel_rfl) (by kernel_rfl) (fun _ _ _ h => h) (Or.inl ⟨by rfl, fun w9 hSw => ?_⟩) hHeld ?_
        · obtain ⟨s0, s1⟩ := hSw
          go_simp
        simp only [zA, zB, zC, Act.put, zD, zE, zF]
        refine OrdersZ.takeZ (i := 5) (v := .pointer (some ⟨rb, 0, none⟩)) rfl (by kernel_rfl) (by kernel_rfl) (by kernel_rfl) (by kernel_rfl) (by kernel_rfl) (fun _ _ _ h => h) (Or.inl ⟨by rfl, fun w9 hSw => ?_⟩) hHeld ?_
        · obtain ⟨s0, s1⟩ := hSw
          go_simp
        simp only [zA, zB, zC, Act.put, zD, zE, zF]
        refine OrdersZ.takeZ (i := 6) (v := .pointer (some ⟨rb, 5, none⟩)) rfl (by kernel_rfl) (by kernel_rfl) (by kernel_rfl) (by kernel_rfl) (by kernel_rfl) (fun _ _ _ h => h) (Or.inl ⟨by rfl, fun w9 hSw => ?_⟩) hHeld ?_
        · obtain ⟨s0, s1⟩ := hSw
          go_simp
        simp only [zA, zB, zC, Act.put, zD, zE, zF]
        refine OrdersZ.takeZ (i := 7) (v := .slice (some ⟨g, 0, none⟩) (qs0.length + 1) gc) rfl (by kernel_rfl) (by kernel_rfl) (by kernel_rfl) (by kernel_rfl) (by kernel_rfl) (fun _ _ _ h => h) (Or.inl ⟨by rfl, fun w9 hSw => ?_⟩) hHeld ?_
        · obtain ⟨s0, s1⟩ := hSw
          go_simp
          (have q := s0.cell (q := 5) rfl; go_simp)
        simp only [zA, zB, zC, Act.put, zD, zE, zF]
        refine OrdersZ.takeZ (i := 8) (v := .int .i64 ((qs0.length : Int) + 1)) rfl (by kernel_rfl) (by kernel_rfl) (by kernel_rfl) (by kernel_rfl) (by kernel_rfl) (fun _ _ _ h => h) (Or.inl ⟨by rfl, fun w9 hSw => ?_⟩) hHeld ?_
        · obtain ⟨s0, s1⟩ := hSw
          go_simp
        simp only [zA, zB, zC, Act.put, zD, zE, zF]
        refine OrdersZ.takeZ (i := 9) (v := .int .i64 (qs0.length : Int)) rfl (by kernel_rfl) (by kernel_rfl) (by kernel_rfl) (by kernel_rfl) (by kernel_rfl) (fun _ _ _ h => h) (Or.inl ⟨by rfl, fun w9 hSw => ?_⟩) hHeld ?_
        · obtain ⟨s0, s1⟩ := hSw
          go_simp
          (rw [IntKind.wrap_i64]; omega)
        simp only [zA, zB, zC, Act.put, zD, zE, zF]
        refine OrdersZ.takeZ (i := 10) (v := .pointer (some ⟨g, qs0.length * 3, none⟩)) rfl (by kernel_rfl) (by kernel_rfl) (by kernel_rfl) (by kernel_rfl) (by kernel_rfl) (fun _ _ _ h => h) (Or.inl ⟨by rfl, fun w9 hSw => ?_⟩) hHeld ?_
        · obtain ⟨s0, s1⟩ := hSw
          go_simp
          (intro hh; exact absurd hh (by omega))
        simp only [zA, zB, zC, Act.put, zD, zE, zF]
        refine OrdersZ.lastZ (by kernel_rfl) rfl (fun K hK => ?_)
        go_simp
        refine hK.out _ _ ?_
        clear hK K
        refine OrdersZ.doneZ (by kernel_rfl) (NoPanic.normal ?_) _
        have hrl5 := hR5.rules
        rw [List.length_append, List.length_singleton] at hrl5
        obtain ⟨hc5, hc5b, hf5⟩ := Hcl.out hrl5
        have Hc5 : Hid (W5.cell? ⟨g, qs0.length * 3 + 1, none⟩ = some q.v) := hc5
        rw [Hv.out] at hc5
        have hgl5 : g < W5.heap.size := (hrl5.lt g rfl).2
        have hft := hf5
        by_cases hnn : q.s.names = []
        · have k0 : ((q.s.names.length : Int) == 0) = true := by rw [hnn]; rfl
          have Hnn : Hid (q.s.names = []) := hnn
          clear hnn
          go_wp2
          have u1 := hbox5.cell (q := 1) rfl
          have u2 := hx5.cell (q := 2) rfl
          have u3 := hf5 (qs0.length * 3 + 2)
          have hsm : (start : Int) + (x.place : Int) ≤ 4611686018427387904 := by omega
          obtain ⟨hR6, hC6⟩ := hR5.putAt (by omega) (start + x.place)
          have hsE : ((start + x.place : Nat) : Int) = (start : Int) + (x.place : Int) := by omega
          rw [hsE] at hR6 hC6
          have HsE : Hid (_) := hsE
          clear hsE
          have hx6 := hx5.other (b' := g) (fun e => by
            obtain ⟨cur, hc⟩ := own_row hrl5 (g := g) rfl
            exact (hx5.ne hc (by decide)) e) (qs0.length * 3 + 2) (.int .i64 ((start : Int) + (x.place : Int)))
          have hb67 := drew_keep (W5.setCell ⟨g, qs0.length * 3 + 2, none⟩ (.int .i64 ((start : Int) + (x.place : Int))))
          have hR7 := hR6.below hb67
          have hx7 := hx6.below hb67 hx6.lt
          have hC7' := ((Chg.of_below (rb := rb) (bb := bb) (mb := mb) (qs0 ++ [q]) hB5 hlt).trans hC6).trans (Chg.of_below _ hb67 (by simp; omega))
          have hgl7 : g < (W5.setCell ⟨g, qs0.length * 3 + 2, none⟩ (.int .i64 ((start : Int) + (x.place : Int)))).drew.heap.size := by simpa using hgl5
          clear hx6 hR6 hC6 hb67
          go_region
          go_wp2
          generalize (W5.setCell ⟨g, qs0.length * 3 + 2, none⟩ (.int .i64 ((start : Int) + (x.place : Int)))).drew = W7 at *
          clear u1 u2 u3
          have hrl7 := hR7.rules
          rw [List.length_append, List.length_singleton] at hrl7
          have hE7 := hR7.each ⟨⟨q.s.left, q.s.names, start + x.place⟩, q.v⟩ (by simp)
          have HFin : Hid (∀ v', (qs0 ++ [(⟨⟨q.s.left, q.s.names ++ [x], start + x.place⟩, v'⟩ : Qr)]).map (·.s) = push start ((qs0 ++ [q]).map (·.s)) x) := fun v' => by
            rw [HP.out, if_pos Hnn.out]
            simp
          obtain ⟨W9, hW9⟩ : ∃ W9, W7.drew = W9 := ⟨_, rfl⟩
          have hb79 : Below W7.heap.size W7 W9 := by rw [← hW9]; exact drew_keep W7
          have hR9 := hR7.below hb79
          have hx9 := hx7.below hb79 hx7.lt
          obtain ⟨hc9, _, hf9a⟩ := Hcl.out hrl7
          have hc9 := (hb79.cell (p := ⟨g, qs0.length * 3 + 1, none⟩) hgl7).trans hc9
          have hf9 := (hb79.frozen (p := ⟨g, qs0.length * 3 + 1, none⟩) hgl7).trans (hf9a _)
          have hgl9 : g < W9.heap.size := Nat.lt_of_lt_of_le hgl7 hb79.size
          have HE9 : Hid (W9.ownsRow base 102 3 (.slice va q.s.names.length vc) q.s.names.length (cellsW q.s.names)) := by
            have := WordsBytes.own_below hE7 hb79
            rw [Hv.out] at this
            exact this
          have HX : Hid (some w.heap.size ≠ (Value.slice va q.s.names.length vc).ownBlock) := by
            have h1 := (HE9.out).lt
            have h2 := ((h.each q (by simp)).lt)
            rw [Hv.out] at h2
            intro e
            have := (h2 _ e.symm).2
            omega
          have HC : Hid (Chg base rb bb mb (qs0 ++ [q]) (qs0 ++ [⟨⟨q.s.left, q.s.names, start + x.place⟩, q.v⟩]) w W9) := by
            refine hC7'.trans (Chg.of_below _ hb79 ?_)
            have := hC7'.size
            omega
          have HF : Hid (_) := fun (g6 c6 : Nat) (w6 : World) (hown : w6.ownsRow base 102 3 (.slice (some ⟨g6, 0, none⟩) (q.s.names.length + 1) c6) (q.s.names.length + 1) (cellsW q.s.names ++ [.string ⟨x.text.toArray⟩, .bool x.quoted, .int .i64 (x.place : Int)])) (hg : (W9.alloc (.cells #[.string ⟨x.text.toArray⟩, .bool x.quoted, .int .i64 (x.place : Int)] 102)).grownBy w6 (Value.slice va q.s.names.length vc).ownBlock) (hat : (Value.slice va q.s.names.length vc).ownBlock = some g6 ∨ g6 = W9.heap.size + 1) =>
            RdN.name (q := ⟨⟨q.s.left, q.s.names, start + x.place⟩, q.v⟩) (x := x) hR9 (by have := hC7'.size; have := hb79.size; omega) (by show World.grownBy _ _ q.v.ownBlock; rw [Hv.out]; exact hg) hown (by show q.v.ownBlock = _ ∨ _; rw [Hv.out]; exact hat)
          have hzz : base ≤ W9.heap.size := by have := hC7'.size; have := hb79.size; omega
          have hc9 : W9.cell? ⟨g, qs0.length * 3 + 1, none⟩ = some (.slice va q.s.names.length vc) := by rw [hc9]; exact congrArg some Hv.out
          clear hE7 hrl7 hR7 hx7 hgl7 hC7' hf9a hb79 hrl5 hc5 Hc5 h
          refine wp_region_noPanic ?_
          refine OrdersZ.region_Z (S := (fun w9 => w9.cell? ⟨g, qs0.length * 3 + 1, none⟩ = some (.slice va q.s.names.length vc) ∧ RowAt w9 w.heap.size 102 #[.string ⟨x.text.toArray⟩, .bool x.quoted, .int .i64 (x.place : Int)])) 10 (by kernel_rfl) (by rw [hW9]; exact ⟨hc9, hx9⟩) (fun hHeld => ?_)
          rw [hW9]
          clear hW9
          replace hHeld : W9.cell? ⟨g, qs0.length * 3 + 1, none⟩ = some (.slice va q.s.names.length vc) ∧ RowAt W9 w.heap.size 102 #[.string ⟨x.text.toArray⟩, .bool x.quoted, .int .i64 (x.place : Int)] := ⟨hc9, hx9⟩
          refine OrdersZ.takeZ (i := 0) (v := .pointer (some ⟨g, qs0.length * 3, none⟩)) rfl (by kernel_rfl) (by kernel_rfl) (by kernel_rfl) (by kernel_rfl) (by kernel_rfl) (fun _ _ _ h => h) (Or.inl ⟨by rfl, fun w9 hSw => ?_⟩) hHeld ?_
          · obtain ⟨s0, s1⟩ := hSw
            go_simp
          simp only [zA, zB, zC, Act.put, zD, zE, zF]
          refine OrdersZ.takeZ (i := 1) (v := .pointer (some ⟨g, qs0.length * 3, none⟩)) rfl (by kernel_rfl) (by kernel_rfl) (by kernel_rfl) (by kernel_rfl) (by kernel_rfl) (fun _ _ _ h => h) (Or.inl ⟨by rfl, fun w9 hSw => ?_⟩) hHeld ?_
          · obtain ⟨s0, s1⟩ := hSw
            go_simp
          simp only [zA, zB, zC, Act.put, zD, zE, zF]
          refine OrdersZ.takeZ (i := 2) (v := .pointer (some ⟨g, qs0.length * 3, none⟩)) rfl (by kernel_rfl) (by kernel_rfl) (by kernel_rfl) (by kernel_rfl) (by kernel_rfl) (fun _ _ _ h => h) (Or.inl ⟨by rfl, fun w9 hSw => ?_⟩) hHeld ?_
          · obtain ⟨s0, s1⟩ := hSw
            go_simp
          simp only [zA, zB, zC, Act.put, zD, zE, zF]
          refine OrdersZ.takeZ (i := 3) (v := .pointer (some ⟨g, qs0.length * 3 + 1, none⟩)) rfl (by kernel_rfl) (by kernel_rfl) (by kernel_rfl) (by kernel_rfl) (by kernel_rfl) (fun _ _ _ h => h) (Or.inl ⟨by rfl, fun w9 hSw => ?_⟩) hHeld ?_
          · obtain ⟨s0, s1⟩ := hSw
            go_simp
          simp only [zA, zB, zC, Act.put, zD, zE, zF]
          refine OrdersZ.takeZ (i := 4) (v := .slice va q.s.names.length vc) rfl (by kernel_rfl) (by kernel_rfl) (by kernel_rfl) (by kernel_rfl) (by kernel_rfl) (fun _ _ _ h => h) (Or.inl ⟨by rfl, fun w9 hSw => ?_⟩) hHeld ?_
          · obtain ⟨s0, s1⟩ := hSw
            go_simp
          simp only [zA, zB, zC, Act.put, zD, zE, zF]
          refine OrdersZ.takeZ (i := 5) (v := .agg #[.string ⟨x.text.toArray⟩, .bool x.quoted, .int .i64 (x.place : Int)]) rfl (by kernel_rfl) (by kernel_rfl) (by kernel_rfl) (by kernel_rfl) (by kernel_rfl) (fun _ _ _ h => h) (Or.inl ⟨by rfl, fun w9 hSw => ?_⟩) hHeld ?_
          · obtain ⟨s0, s1⟩ := hSw
            go_simp
            (have q0 := s1.cell (q := 0) rfl; have q1 := s1.cell (q := 1) rfl; have q2 := s1.cell (q := 2) rfl; go_simp)
          simp only [zA, zB, zC, Act.put, zD, zE, zF]
          refine OrdersZ.readyZ (i := 6) (by kernel_rfl) rfl (fun K hK => ?_)
          go_simp
          have hB7 : Below W9.heap.size W9 (W9.alloc (.cells #[.string ⟨x.text.toArray⟩, .bool x.quoted, .int .i64 (x.place : Int)] 102)) := (Below.refl _ _).alloc (Nat.le_refl _) _
          refine hK.out _ _ ⟨(hB7.cell (p := ⟨g, qs0.length * 3 + 1, none⟩) hgl9).trans hc9, hx9.below hB7 hx9.lt⟩ (fun hHeld => ?_)
          clear hK K
          refine OrdersZ.readyZ (i := 7) (by kernel_rfl) rfl (fun K hK => ?_)
          refine step_append_lies _ rfl (.tmp 48) (.tmp 50) 86 rfl base 102 i0 (.agg #[.string ⟨#[]⟩, .bool false, .int .i64 0]) 3 32 Tryz.underlying86 hi hi0 hi1 hi2 rfl (by decide) (.slice va q.s.names.length vc) q.s.names.length (cellsW q.s.names) (by rfl) ((HE9.out).alloc _) ⟨W9.heap.size, 0, none⟩ 1 1 [.string ⟨x.text.toArray⟩, .bool x.quoted, .int .i64 (x.place : Int)] (by rfl) rfl (WordsBytes.cells_new _ #[_, _, _] _) (by simp [Value.oneCell']) (by omega) (by unfold maxLen; omega) (by omega) (by simp; omega) (W9.heap.size + 1) (by simp) ?_
          intro g6 c6 w6 hown6 hgrow6 hat6 hlt6
          obtain ⟨hR8, hC8, hg8⟩ := HF.out g6 c6 w6 hown6 hgrow6 hat6
          have hcx : w6.cell? ⟨g, qs0.length * 3 + 1, none⟩ = some (.slice va q.s.names.length vc) := (World.cell?_of_block hg8).trans hc9
          have hpx := (hx9.below hB7 hx9.lt).grown hgrow6 HX.out
          have hfx : w6.frozen? ⟨g, qs0.length * 3 + 1, none⟩ = false := (frozen_of_block hg8 _).trans hf9
          refine hK.out _ _ ⟨hcx, hpx⟩ (fun hHeld => ?_)
          clear hK K
          simp only [zA, zB, zC, Act.put, zD, zE, zF]
          refine OrdersZ.readyZ (i := 8) (by kernel_rfl) rfl (fun K hK => ?_)
          go_simp
          refine hK.out _ _ ⟨hcx, hpx⟩ (fun hHeld => ?_)
          clear hK K
          refine OrdersZ.takeZ (i := 9) (v := .pointer (some ⟨g, qs0.length * 3 + 1, none⟩)) rfl (by kernel_rfl) (by kernel_rfl) (by kernel_rfl) (by kernel_rfl) (by kernel_rfl) (fun _ _ _ h => h) (Or.inl ⟨by rfl, fun w9 hSw => ?_⟩) hHeld ?_
          · obtain ⟨s0, s1⟩ := hSw
            go_simp
          simp only [zA, zB, zC, Act.put, zD, zE, zF]
          refine OrdersZ.lastZ (by kernel_rfl) rfl (fun K hK => ?_)
          go_simp
          refine hK.out _ _ ?_
          clear hK K
          refine OrdersZ.doneZ (by kernel_rfl) (NoPanic.normal ?_) _
          have hCf := HC.out.trans hC8
          clear hown6 hgrow6 hat6 hlt6 hpx hcx hfx hB7
          go_wp2
          go_ret
          have E' := E.out
          simp only [List.map_append, List.map_cons, List.map_nil] at E'
          rw [E']
          have HP' := HP.out
          simp only [List.map_append, List.map_cons, List.map_nil] at HP'
          exact ⟨rfl, ln, ns, _, D, _, nv, mv, hR8, (HFin.out _).trans (by simp only [List.map_append, List.map_cons, List.map_nil]), ⟨by show push start _ x ≠ []; rw [HP']; simp, by show ns = ntsZ (push start _ x) []; rw [HP']; exact HN.out, hln.out, hmem⟩, hCf⟩
        · have k0 : ((q.s.names.length : Int) == 0) = false := by
            have := List.length_pos_iff.2 hnn
            simp
            exact hnn
          have Hnn : Hid (q.s.names ≠ []) := hnn
          clear hnn
          go_wp2
          have hR7 := hR5
          have hx7 := hx5
          have hgl7 := hgl5
          have hC7' := Chg.of_below (rb := rb) (bb := bb) (mb := mb) (qs0 ++ [q]) hB5 hlt
          clear hR5 hx5 hgl5 hB5 hc5b hf5 hft hbox5
          have hrl7 := hrl5
          have hE7 := hR7.each q (by simp)
          have HFin : Hid (∀ v', (qs0 ++ [(⟨⟨q.s.left, q.s.names ++ [x], q.s.at_⟩, v'⟩ : Qr)]).map (·.s) = push start ((qs0 ++ [q]).map (·.s)) x) := fun v' => by
            rw [HP.out, if_neg Hnn.out]
            simp
          generalize W5 = W7 at *
          obtain ⟨W9, hW9⟩ : ∃ W9, W7.drew = W9 := ⟨_, rfl⟩
          have hb79 : Below W7.heap.size W7 W9 := by rw [← hW9]; exact drew_keep W7
          have hR9 := hR7.below hb79
          have hx9 := hx7.below hb79 hx7.lt
          obtain ⟨hc9, _, hf9a⟩ := Hcl.out hrl7
          have hc9 := (hb79.cell (p := ⟨g, qs0.length * 3 + 1, none⟩) hgl7).trans hc9
          have hf9 := (hb79.frozen (p := ⟨g, qs0.length * 3 + 1, none⟩) hgl7).trans (hf9a _)
          have hgl9 : g < W9.heap.size := Nat.lt_of_lt_of_le hgl7 hb79.size
          have HE9 : Hid (W9.ownsRow base 102 3 (.slice va q.s.names.length vc) q.s.names.length (cellsW q.s.names)) := by
            have := WordsBytes.own_below hE7 hb79
            rw [Hv.out] at this
            exact this
          have HX : Hid (some w.heap.size ≠ (Value.slice va q.s.names.length vc).ownBlock) := by
            have h1 := (HE9.out).lt
            have h2 := ((h.each q (by simp)).lt)
            rw [Hv.out] at h2
            intro e
            have := (h2 _ e.symm).2
            omega
          have HC : Hid (Chg base rb bb mb (qs0 ++ [q]) (qs0 ++ [q]) w W9) := by
            refine hC7'.trans (Chg.of_below _ hb79 ?_)
            have := hC7'.size
            omega
          have HF : Hid (_) := fun (g6 c6 : Nat) (w6 : World) (hown : w6.ownsRow base 102 3 (.slice (some ⟨g6, 0, none⟩) (q.s.names.length + 1) c6) (q.s.names.length + 1) (cellsW q.s.names ++ [.string ⟨x.text.toArray⟩, .bool x.quoted, .int .i64 (x.place : Int)])) (hg : (W9.alloc (.cells #[.string ⟨x.text.toArray⟩, .bool x.quoted, .int .i64 (x.place : Int)] 102)).grownBy w6 (Value.slice va q.s.names.length vc).ownBlock) (hat : (Value.slice va q.s.names.length vc).ownBlock = some g6 ∨ g6 = W9.heap.size + 1) =>
            RdN.name (q := q) (x := x) hR9 (by have := hC7'.size; have := hb79.size; omega) (by show World.grownBy _ _ q.v.ownBlock; rw [Hv.out]; exact hg) hown (by show q.v.ownBlock = _ ∨ _; rw [Hv.out]; exact hat)
          have hzz : base ≤ W9.heap.size := by have := hC7'.size; have := hb79.size; omega
          have hc9 : W9.cell? ⟨g, qs0.length * 3 + 1, none⟩ = some (.slice va q.s.names.length vc) := by rw [hc9]; exact congrArg some Hv.out
          clear hE7 hrl7 hR7 hx7 hgl7 hC7' hf9a hb79 hrl5 hc5 Hc5 h
          refine wp_region_noPanic ?_
          refine OrdersZ.region_Z (S := (fun w9 => w9.cell? ⟨g, qs0.length * 3 + 1, none⟩ = some (.slice va q.s.names.length vc) ∧ RowAt w9 w.heap.size 102 #[.string ⟨x.text.toArray⟩, .bool x.quoted, .int .i64 (x.place : Int)])) 10 (by kernel_rfl) (by rw [hW9]; exact ⟨hc9, hx9⟩) (fun hHeld => ?_)
          rw [hW9]
          clear hW9
          replace hHeld : W9.cell? ⟨g, qs0.length * 3 + 1, none⟩ = some (.slice va q.s.names.length vc) ∧ RowAt W9 w.heap.size 102 #[.string ⟨x.text.toArray⟩, .bool x.quoted, .int .i64 (x.place : Int)] := ⟨hc9, hx9⟩
          refine OrdersZ.takeZ (i := 0) (v := .pointer (some ⟨g, qs0.length * 3, none⟩)) rfl (by kernel_rfl) (by kernel_rfl) (by kernel_rfl) (by kernel_rfl) (by kernel_rfl) (fun _ _ _ h => h) (Or.inl ⟨by rfl, fun w9 hSw => ?_⟩) hHeld ?_
          · obtain ⟨s0, s1⟩ := hSw
            go_simp
          simp only [zA, zB, zC, Act.put, zD, zE, zF]
          refine OrdersZ.takeZ (i := 1) (v := .pointer (some ⟨g, qs0.length * 3, none⟩)) rfl (by kernel_rfl) (by kernel_rfl) (by kernel_rfl) (by kernel_rfl) (by kernel_rfl) (fun _ _ _ h => h) (Or.inl ⟨by rfl, fun w9 hSw => ?_⟩) hHeld ?_
          · obtain ⟨s0, s1⟩ := hSw
            go_simp
          simp only [zA, zB, zC, Act.put, zD, zE, zF]
          refine OrdersZ.takeZ (i := 2) (v := .pointer (some ⟨g, qs0.length * 3, none⟩)) rfl (by kernel_rfl) (by kernel_rfl) (by kernel_rfl) (by kernel_rfl) (by kernel_rfl) (fun _ _ _ h => h) (Or.inl ⟨by rfl, fun w9 hSw => ?_⟩) hHeld ?_
          · obtain ⟨s0, s1⟩ := hSw
            go_simp
          simp only [zA, zB, zC, Act.put, zD, zE, zF]
          refine OrdersZ.takeZ (i := 3) (v := .pointer (some ⟨g, qs0.length * 3 + 1, none⟩)) rfl (by kernel_rfl) (by kernel_rfl) (by kernel_rfl) (by kernel_rfl) (by kernel_rfl) (fun _ _ _ h => h) (Or.inl ⟨by rfl, fun w9 hSw => ?_⟩) hHeld ?_
          · obtain ⟨s0, s1⟩ := hSw
            go_simp
          simp only [zA, zB, zC, Act.put, zD, zE, zF]
          refine OrdersZ.takeZ (i := 4) (v := .slice va q.s.names.length vc) rfl (by kernel_rfl) (by kernel_rfl) (by kernel_rfl) (by kernel_rfl) (by kernel_rfl) (fun _ _ _ h => h) (Or.inl ⟨by rfl, fun w9 hSw => ?_⟩) hHeld ?_
          · obtain ⟨s0, s1⟩ := hSw
            go_simp
          simp only [zA, zB, zC, Act.put, zD, zE, zF]
          refine OrdersZ.takeZ (i := 5) (v := .agg #[.string ⟨x.text.toArray⟩, .bool x.quoted, .int .i64 (x.place : Int)]) rfl (by kernel_rfl) (by kernel_rfl) (by kernel_rfl) (by kernel_rfl) (by kernel_rfl) (fun _ _ _ h => h) (Or.inl ⟨by rfl, fun w9 hSw => ?_⟩) hHeld ?_
          · obtain ⟨s0, s1⟩ := hSw
            go_simp
            (have q0 := s1.cell (q := 0) rfl; have q1 := s1.cell (q := 1) rfl; have q2 := s1.cell (q := 2) rfl; go_simp)
          simp only [zA, zB, zC, Act.put, zD, zE, zF]
          refine OrdersZ.readyZ (i := 6) (by kernel_rfl) rfl (fun K hK => ?_)
          go_simp
          have hB7 : Below W9.heap.size W9 (W9.alloc (.cells #[.string ⟨x.text.toArray⟩, .bool x.quoted, .int .i64 (x.place : Int)] 102)) := (Below.refl _ _).alloc (Nat.le_refl _) _
          refine hK.out _ _ ⟨(hB7.cell (p := ⟨g, qs0.length * 3 + 1, none⟩) hgl9).trans hc9, hx9.below hB7 hx9.lt⟩ (fun hHeld => ?_)
          clear hK K
          refine OrdersZ.readyZ (i := 7) (by kernel_rfl) rfl (fun K hK => ?_)
          refine step_append_lies _ rfl (.tmp 48) (.tmp 50) 86 rfl base 102 i0 (.agg #[.string ⟨#[]⟩, .bool false, .int .i64 0]) 3 32 Tryz.underlying86 hi hi0 hi1 hi2 rfl (by decide) (.slice va q.s.names.length vc) q.s.names.length (cellsW q.s.names) (by rfl) ((HE9.out).alloc _) ⟨W9.heap.size, 0, none⟩ 1 1 [.string ⟨x.text.toArray⟩, .bool x.quoted, .int .i64 (x.place : Int)] (by rfl) rfl (WordsBytes.cells_new _ #[_, _, _] _) (by simp [Value.oneCell']) (by omega) (by unfold maxLen; omega) (by omega) (by simp; omega) (W9.heap.size + 1) (by simp) ?_
          intro g6 c6 w6 hown6 hgrow6 hat6 hlt6
          obtain ⟨hR8, hC8, hg8⟩ := HF.out g6 c6 w6 hown6 hgrow6 hat6
          have hcx : w6.cell? ⟨g, qs0.length * 3 + 1, none⟩ = some (.slice va q.s.names.length vc) := (World.cell?_of_block hg8).trans hc9
          have hpx := (hx9.below hB7 hx9.lt).grown hgrow6 HX.out
          have hfx : w6.frozen? ⟨g, qs0.length * 3 + 1, none⟩ = false := (frozen_of_block hg8 _).trans hf9
          refine hK.out _ _ ⟨hcx, hpx⟩ (fun hHeld => ?_)
          clear hK K
          simp only [zA, zB, zC, Act.put, zD, zE, zF]
          refine OrdersZ.readyZ (i := 8) (by kernel_rfl) rfl (fun K hK => ?_)
          go_simp
          refine hK.out _ _ ⟨hcx, hpx⟩ (fun hHeld => ?_)
          clear hK K
          refine OrdersZ.takeZ (i := 9) (v := .pointer (some ⟨g, qs0.length * 3 + 1, none⟩)) rfl (by kernel_rfl) (by kernel_rfl) (by kernel_rfl) (by kernel_rfl) (by kernel_rfl) (fun _ _ _ h => h) (Or.inl ⟨by rfl, fun w9 hSw => ?_⟩) hHeld ?_
          · obtain ⟨s0, s1⟩ := hSw
            go_simp
          simp only [zA, zB, zC, Act.put, zD, zE, zF]
          refine OrdersZ.lastZ (by kernel_rfl) rfl (fun K hK => ?_)
          go_simp
          refine hK.out _ _ ?_
          clear hK K
          refine OrdersZ.doneZ (by kernel_rfl) (NoPanic.normal ?_) _
          have hCf := HC.out.trans hC8
          clear hown6 hgrow6 hat6 hlt6 hpx hcx hfx hB7
          go_wp2
          go_ret
          have E' := E.out
          simp only [List.map_append, List.map_cons, List.map_nil] at E'
          rw [E']
          have HP' := HP.out
          simp only [List.map_append, List.map_cons, List.map_nil] at HP'
          exact ⟨rfl, ln, ns, _, D, _, nv, mv, hR8, (HFin.out _).trans (by simp only [List.map_append, List.map_cons, List.map_nil]), ⟨by show push start _ x ≠ []; rw [HP']; simp, by show ns = ntsZ (push start _ x) []; rw [HP']; exact HN.out, hln.out, hmem⟩, hCf⟩

end Go.Proofs.YtjblkgephboajaaGreatDoor.SpecMem
