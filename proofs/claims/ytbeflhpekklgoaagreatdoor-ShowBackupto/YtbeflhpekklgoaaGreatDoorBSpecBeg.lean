/-
  Texts that stand together: SpecBeg.
-/
import Derived.Test.YtbeflhpekklgoaaGreatDoorBSpecNames
import Derived.Test.YtbeflhpekklgoaaGreatDoorBSpecBegM
namespace Go.Proofs.YtbeflhpekklgoaaGreatDoor.SpecMem
open Go.RowKit Go.Maps Go.WideMaps Go.Proofs.YtbeflhpekklgoaaGreatDoor.GramMath Go.Proofs.YtbeflhpekklgoaaGreatDoor.GramRow Go.Proofs.YtbeflhpekklgoaaGreatDoor.GramOne Go.Proofs.YtbeflhpekklgoaaGreatDoor.GramApart Go.Proofs.YtbeflhpekklgoaaGreatDoor.GramRoll Go.Proofs.YtbeflhpekklgoaaGreatDoor.GramCopy Go.Proofs.YtbeflhpekklgoaaGreatDoor.LineMath Go.Proofs.YtbeflhpekklgoaaGreatDoor.SpecLn Go.Proofs.YtbeflhpekklgoaaGreatDoor.SpecMd Go.Proofs.YtbeflhpekklgoaaGreatDoor.WordsBytes
set_option linter.unusedVariables false
set_option linter.unusedSimpArgs false

set_option maxRecDepth 100000 in
set_option maxHeartbeats 4000000 in
theorem colon_any (rb bb mb base start : Nat) (nx : Value) (ln : Int) (ns : List ByteArray) (qs : List Qr) (D : DataW Unit) (rv nv mv : Value) (left : List UInt8) (x : Wd) (aS : Addr) (w : World) (h : RdN w rb bb mb base nx start ln ns qs D rv nv mv) (hlt : base ≤ w.heap.size) (hk : Knows ⟨.col, left, qs.map (·.s)⟩ ln ns) (hS : WordsBytes.Sent w 4 aS) (hx : x.text.length ≤ 1048576) (hs : start + x.place + x.text.length ≤ 4611686018427387904) (hq : qs.length ≤ 1073741824) :
    Calls Tryz.prog 81 #[.pointer (some ⟨rb, 0, none⟩), .agg #[.string ⟨x.text.toArray⟩, .bool x.quoted, .int .i64 (x.place : Int)]] w fun e w' => StepR aS rb bb mb base nx start qs (SpecLn.step start ⟨.col, left, qs.map (·.s)⟩ x) w e w' := by
  have hmf := makeFn
  have Hk : Hid (_) := hk
  obtain ⟨W1, hW1⟩ : ∃ W1, W1 = w.alloc (.cells #[.string ⟨x.text.toArray⟩, .bool x.quoted, .int .i64 (x.place : Int)] 87) := ⟨_, rfl⟩
  have hB1 : Below w.heap.size w W1 := by rw [hW1]; exact (Below.refl _ _).alloc (Nat.le_refl _) _
  have hz1 : w.heap.size < W1.heap.size := by rw [hW1]; simp
  have hx1 : RowAt W1 w.heap.size 87 #[.string ⟨x.text.toArray⟩, .bool x.quoted, .int .i64 (x.place : Int)] := by rw [hW1]; exact World.alloc_heap_new w _
  have y0 := hx1.cell (q := 0) rfl
  have y1 := hx1.cell (q := 1) rfl
  have y2 := hx1.cell (q := 2) rfl
  have hW : Hid (W1 = w.alloc (.cells #[.string ⟨x.text.toArray⟩, .bool x.quoted, .int .i64 (x.place : Int)] 87)) := hW1
  clear hk hW1
  have hln : Hid (ln = idx ns (bt left)) := Hk.out.2.1
  have hmem : memB (bt left) ns = true := Hk.out.2.2
  cases hM : mk x 58 with
  | true =>
    have E : Hid (SpecLn.step start ⟨.col, left, qs.map (·.s)⟩ x = .ok (opened start left (qs.map (·.s)) x)) := by
      show _ = _
      unfold SpecLn.step
      simp only [hM, if_true]
    go_enter Tryz.func81, Tryz.ntmps81
    go_wp2_with fail
    rw [← hW.out]
    refine (isMark_b x 58 W1).mono ?_
    rintro e W2 ⟨rfl, hb⟩
    have hB2 : Below w.heap.size w W2 := hB1.trans (hb.mono (by omega))
    have hz2 : w.heap.size < W2.heap.size := Nat.lt_of_lt_of_le hz1 hb.size
    have hx2 := hx1.below hb hx1.lt
    have y0 := hx2.cell (q := 0) rfl
    have y1 := hx2.cell (q := 1) rfl
    have y2 := hx2.cell (q := 2) rfl
    clear hb
    rw [hM]
    have hop := open_any rb bb mb base start nx ln ns qs D rv nv mv left x W2 (h.below hB2) (by omega) hln.out hmem hx hs hq
    go_wp2_with fail
    refine hop.mono ?_
    rintro e W3 ⟨rfl, rv', hR, hC⟩
    have hCf := (Chg.of_below (rb := rb) (bb := bb) (mb := mb) qs hB2 hlt).trans hC
    clear hop hC
    go_wp2
    go_ret
    rw [E.out]
    refine ⟨rfl, ln, ns, _, D, rv', nv, mv, hR, by simp [opened], ?_, hCf⟩
    refine ⟨by simp [opened], ?_, hln.out, hmem⟩
    show ns = ntsZ (qs.map (·.s) ++ [_]) []
    rw [nts_app]
    exact Hk.out.1
  | false =>
    have E : Hid (SpecLn.step start ⟨.col, left, qs.map (·.s)⟩ x = .error x.place) := by
      show _ = _
      unfold SpecLn.step
      simp only [hM, Bool.false_eq_true, if_false]
    go_enter Tryz.func81, Tryz.ntmps81
    go_wp2_with fail
    rw [← hW.out]
    refine (isMark_b x 58 W1).mono ?_
    rintro e W2 ⟨rfl, hb⟩
    have hB2 : Below w.heap.size w W2 := hB1.trans (hb.mono (by omega))
    have hz2 : w.heap.size < W2.heap.size := Nat.lt_of_lt_of_le hz1 hb.size
    have hx2 := hx1.below hb hx1.lt
    have y0 := hx2.cell (q := 0) rfl
    have y1 := hx2.cell (q := 1) rfl
    have y2 := hx2.cell (q := 2) rfl
    clear hb
    rw [hM]
    go_wp2_with fail
    refine (wrongS_b x.place aS W2 (hS.below hB2 (Nat.le_refl _))).mono ?_
    rintro e W3 ⟨⟨b, rfl, hv⟩, hb⟩
    have hB3 : Below w.heap.size w W3 := hB2.trans (hb.mono (by omega))
    have hv2 := ErrAt.weak (B' := w.heap.size) hv (by omega)
    clear hv hb
    go_wp2
    refine ⟨rfl, ?_⟩
    rw [E.out]
    exact ⟨⟨_, rfl, hv2⟩, hB3⟩

set_option maxRecDepth 100000 in
set_option maxHeartbeats 4000000 in
theorem begin_any (rb bb mb base start : Nat) (nx : Value) (ln : Int) (ns : List ByteArray) (qs : List Qr) (D : DataW Unit) (rv nv mv : Value) (left : List UInt8) (x : Wd) (aS : Addr) (w : World) (h : RdN w rb bb mb base nx start ln ns qs D rv nv mv) (hlt : base ≤ w.heap.size) (hk : Knows ⟨.beg, left, qs.map (·.s)⟩ ln ns) (hS : WordsBytes.Sent w 4 aS) (hx : x.text.length ≤ 1048576) (hs : start + x.place + x.text.length ≤ 4611686018427387904) (hq : qs.length ≤ 1073741824) (hn0 : OwnM w mb start D) :
    Calls Tryz.prog 58 #[.pointer (some ⟨rb, 0, none⟩), .agg #[.string ⟨x.text.toArray⟩, .bool x.quoted, .int .i64 (x.place : Int)]] w fun e w' => StepR aS rb bb mb base nx start qs (SpecLn.step start ⟨.beg, left, qs.map (·.s)⟩ x) w e w' := by
  have hmf := makeFn
  have Hk : Hid (_) := hk
  obtain ⟨W1, hW1⟩ : ∃ W1, W1 = w.alloc (.cells #[.string ⟨x.text.toArray⟩, .bool x.quoted, .int .i64 (x.place : Int)] 87) := ⟨_, rfl⟩
  have hB1 : Below w.heap.size w W1 := by rw [hW1]; exact (Below.refl _ _).alloc (Nat.le_refl _) _
  have hz1 : w.heap.size < W1.heap.size := by rw [hW1]; simp
  have hx1 : RowAt W1 w.heap.size 87 #[.string ⟨x.text.toArray⟩, .bool x.quoted, .int .i64 (x.place : Int)] := by rw [hW1]; exact World.alloc_heap_new w _
  have y0 := hx1.cell (q := 0) rfl
  have y1 := hx1.cell (q := 1) rfl
  have y2 := hx1.cell (q := 2) rfl
  have hW : Hid (W1 = w.alloc (.cells #[.string ⟨x.text.toArray⟩, .bool x.quoted, .int .i64 (x.place : Int)] 87)) := hW1
  clear hk hW1
  have hbx1 := (h.below hB1).box.cell (q := 5) rfl
  obtain ⟨ra, rc, hrv⟩ : ∃ a c, rv = .slice a qs.length c := by
    obtain ⟨_, ⟨rfl, h2⟩ | ⟨g, cap, cur, rfl, _⟩⟩ := h.rules
    · exact ⟨none, 0, by rw [h2]⟩
    · exact ⟨_, _, rfl⟩
  rw [hrv] at hbx1
  have Hrv : Hid (_) := hrv
  clear hrv
  cases hE : isEnd x with
  | true =>
    have E : Hid (SpecLn.step start ⟨.beg, left, qs.map (·.s)⟩ x = .ok ⟨.fin, left, qs.map (·.s)⟩) := by
      show _ = _
      unfold SpecLn.step
      simp only [hE, if_true]
    go_enter Tryz.func58, Tryz.ntmps58
    go_wp2_with fail
    rw [← hW.out]
    refine (isEnd_b x W1).mono ?_
    rintro e W2 ⟨rfl, hb⟩
    have hB2 : Below w.heap.size w W2 := hB1.trans (hb.mono (by omega))
    have hz2 : w.heap.size < W2.heap.size := Nat.lt_of_lt_of_le hz1 hb.size
    have hx2 := hx1.below hb hx1.lt
    have y0 := hx2.cell (q := 0) rfl
    have y1 := hx2.cell (q := 1) rfl
    have y2 := hx2.cell (q := 2) rfl
    have hbx2 := (h.below hB2).box.cell (q := 5) rfl
    rw [Hrv.out] at hbx2
    clear hb
    rw [hE]
    have hR := h.below hB2
    have hC : Chg base rb bb mb qs qs w W2 := .of_below _ hB2 hlt
    go_wp2
    go_ret
    rw [E.out]
    exact ⟨rfl, _, _, _, _, _, _, _, hR, rfl, Hk.out, hC⟩
  | false =>
    cases hM : mk x 124 with
    | true =>
      by_cases hqe : qs = []
      · have E : Hid (SpecLn.step start ⟨.beg, left, qs.map (·.s)⟩ x = .error x.place) := by
          show _ = _
          unfold SpecLn.step
          simp only [hE, hM, hqe, List.map_nil, List.isEmpty_nil, Bool.not_true, Bool.and_false, Bool.true_or, if_true, Bool.false_eq_true, if_false]
        have k0 : ¬ (0 : Int) < (qs.length : Int) := by rw [hqe]; simp
        clear hqe
        go_enter Tryz.func58, Tryz.ntmps58
        go_wp2_with fail
        rw [← hW.out]
        refine (isEnd_b x W1).mono ?_
        rintro e W2 ⟨rfl, hb⟩
        have hB2 : Below w.heap.size w W2 := hB1.trans (hb.mono (by omega))
        have hz2 : w.heap.size < W2.heap.size := Nat.lt_of_lt_of_le hz1 hb.size
        have hx2 := hx1.below hb hx1.lt
        have y0 := hx2.cell (q := 0) rfl
        have y1 := hx2.cell (q := 1) rfl
        have y2 := hx2.cell (q := 2) rfl
        have hbx2 := (h.below hB2).box.cell (q := 5) rfl
        rw [Hrv.out] at hbx2
        clear hb
        rw [hE]
        go_wp2_with fail
        refine (isMark_b x 124 W2).mono ?_
        rintro e W3 ⟨rfl, hb⟩
        have hB3 : Below w.heap.size w W3 := hB2.trans (hb.mono (by omega))
        have hz3 : w.heap.size < W3.heap.size := Nat.lt_of_lt_of_le hz2 hb.size
        have hx3 := hx2.below hb hx2.lt
        have y0 := hx3.cell (q := 0) rfl
        have y1 := hx3.cell (q := 1) rfl
        have y2 := hx3.cell (q := 2) rfl
        have hbx3 := (h.below hB3).box.cell (q := 5) rfl
        rw [Hrv.out] at hbx3
        clear hb
        rw [hM]
        go_wp2_with fail
        refine (isMark_b x 124 W3).mono ?_
        rintro e W4 ⟨rfl, hb⟩
        have hB4 : Below w.heap.size w W4 := hB3.trans (hb.mono (by omega))
        have hz4 : w.heap.size < W4.heap.size := Nat.lt_of_lt_of_le hz3 hb.size
        have hx4 := hx3.below hb hx3.lt
        have y0 := hx4.cell (q := 0) rfl
        have y1 := hx4.cell (q := 1) rfl
        have y2 := hx4.cell (q := 2) rfl
        have hbx4 := (h.below hB4).box.cell (q := 5) rfl
        rw [Hrv.out] at hbx4
        clear hb
        rw [hM]
        go_wp2_with fail
        refine (wrongS_b x.place aS W4 (hS.below hB4 (Nat.le_refl _))).mono ?_
        rintro e W5 ⟨⟨b, rfl, hv⟩, hb⟩
        have hB5 : Below w.heap.size w W5 := hB4.trans (hb.mono (by omega))
        have hv2 := ErrAt.weak (B' := w.heap.size) hv (by omega)
        clear hv hb
        go_wp2
        refine ⟨rfl, ?_⟩
        rw [E.out]
        exact ⟨⟨_, rfl, hv2⟩, hB5⟩
      · have E : Hid (SpecLn.step start ⟨.beg, left, qs.map (·.s)⟩ x = .ok (opened start left (qs.map (·.s)) x)) := by
          have hme : (qs.map (·.s)).isEmpty = false := by cases qs with
            | nil => exact absurd rfl hqe
            | cons a l => rfl
          show _ = _
          unfold SpecLn.step
          simp only [hE, hM, hme, Bool.not_false, Bool.and_self, if_true, Bool.false_eq_true, if_false]
        have k0 : (0 : Int) < (qs.length : Int) := by have := List.length_pos_iff.2 hqe; omega
        have hkk := Hk.out.2 (by simpa using hqe)
        have hln : Hid (ln = idx ns (bt left)) := hkk.1
        have hmem : memB (bt left) ns = true := hkk.2
        clear hqe hkk
        go_enter Tryz.func58, Tryz.ntmps58
        go_wp2_with fail
        rw [← hW.out]
        refine (isEnd_b x W1).mono ?_
        rintro e W2 ⟨rfl, hb⟩
        have hB2 : Below w.heap.size w W2 := hB1.trans (hb.mono (by omega))
        have hz2 : w.heap.size < W2.heap.size := Nat.lt_of_lt_of_le hz1 hb.size
        have hx2 := hx1.below hb hx1.lt
        have y0 := hx2.cell (q := 0) rfl
        have y1 := hx2.cell (q := 1) rfl
        have y2 := hx2.cell (q := 2) rfl
        have hbx2 := (h.below hB2).box.cell (q := 5) rfl
        rw [Hrv.out] at hbx2
        clear hb
        rw [hE]
        go_wp2_with fail
        refine (isMark_b x 124 W2).mono ?_
        rintro e W3 ⟨rfl, hb⟩
        have hB3 : Below w.heap.size w W3 := hB2.trans (hb.mono (by omega))
        have hz3 : w.heap.size < W3.heap.size := Nat.lt_of_lt_of_le hz2 hb.size
        have hx3 := hx2.below hb hx2.lt
        have y0 := hx3.cell (q := 0) rfl
        have y1 := hx3.cell (q := 1) rfl
        have y2 := hx3.cell (q := 2) rfl
        have hbx3 := (h.below hB3).box.cell (q := 5) rfl
        rw [Hrv.out] at hbx3
        clear hb
        rw [hM]
        have hop := open_any rb bb mb base start nx ln ns qs D rv nv mv left x W3 (h.below hB3) (by omega) hln.out hmem hx hs hq
        go_wp2_with fail
        refine hop.mono ?_
        rintro e W4 ⟨rfl, rv', hR, hC⟩
        have hCf := (Chg.of_below (rb := rb) (bb := bb) (mb := mb) qs hB3 hlt).trans hC
        clear hop hC
        go_wp2
        go_ret
        rw [E.out]
        refine ⟨rfl, ln, ns, _, D, rv', nv, mv, hR, by simp [opened], ?_, hCf⟩
        refine ⟨by simp [opened], ?_, hln.out, hmem⟩
        show ns = ntsZ (qs.map (·.s) ++ [_]) []
        have hns : ns = ntsZ (qs.map (·.s)) [] := Hk.out.1
        rw [nts_app, ← hns]
        exact (add_in hmem).symm
    | false =>
      have hQQ : x.quoted = true ∨ x.quoted = false := by cases x.quoted <;> simp
      rcases hQQ with hQ | hQ
      · have E : Hid (SpecLn.step start ⟨.beg, left, qs.map (·.s)⟩ x = .error x.place) := by
          show _ = _
          unfold SpecLn.step
          simp only [hE, hM, hQ, Bool.false_and, Bool.false_or, if_true, Bool.false_eq_true, if_false]
        have HQ : Hid (x.quoted = true) := hQ
        clear hQ
        go_enter Tryz.func58, Tryz.ntmps58
        go_wp2_with fail
        rw [← hW.out]
        refine (isEnd_b x W1).mono ?_
        rintro e W2 ⟨rfl, hb⟩
        have hB2 : Below w.heap.size w W2 := hB1.trans (hb.mono (by omega))
        have hz2 : w.heap.size < W2.heap.size := Nat.lt_of_lt_of_le hz1 hb.size
        have hx2 := hx1.below hb hx1.lt
        have y0 := hx2.cell (q := 0) rfl
        have y1 := hx2.cell (q := 1) rfl
        have y2 := hx2.cell (q := 2) rfl
        have hbx2 := (h.below hB2).box.cell (q := 5) rfl
        rw [Hrv.out] at hbx2
        clear hb
        rw [hE]
        go_wp2_with fail
        refine (isMark_b x 124 W2).mono ?_
        rintro e W3 ⟨rfl, hb⟩
        have hB3 : Below w.heap.size w W3 := hB2.trans (hb.mono (by omega))
        have hz3 : w.heap.size < W3.heap.size := Nat.lt_of_lt_of_le hz2 hb.size
        have hx3 := hx2.below hb hx2.lt
        have y0 := hx3.cell (q := 0) rfl
        have y1 := hx3.cell (q := 1) rfl
        have y2 := hx3.cell (q := 2) rfl
        have hbx3 := (h.below hB3).box.cell (q := 5) rfl
        rw [Hrv.out] at hbx3
        clear hb
        rw [hM]
        go_wp2_with fail
        refine (isMark_b x 124 W3).mono ?_
        rintro e W4 ⟨rfl, hb⟩
        have hB4 : Below w.heap.size w W4 := hB3.trans (hb.mono (by omega))
        have hz4 : w.heap.size < W4.heap.size := Nat.lt_of_lt_of_le hz3 hb.size
        have hx4 := hx3.below hb hx3.lt
        have y0 := hx4.cell (q := 0) rfl
        have y1 := hx4.cell (q := 1) rfl
        have y2 := hx4.cell (q := 2) rfl
        have hbx4 := (h.below hB4).box.cell (q := 5) rfl
        rw [Hrv.out] at hbx4
        clear hb
        rw [hM]
        have hqq := HQ.out
        go_wp2_with fail
        refine (wrongS_b x.place aS W4 (hS.below hB4 (Nat.le_refl _))).mono ?_
        rintro e W5 ⟨⟨b, rfl, hv⟩, hb⟩
        have hB5 : Below w.heap.size w W5 := hB4.trans (hb.mono (by omega))
        have hv2 := ErrAt.weak (B' := w.heap.size) hv (by omega)
        clear hv hb
        go_wp2
        refine ⟨rfl, ?_⟩
        rw [E.out]
        exact ⟨⟨_, rfl, hv2⟩, hB5⟩
      · cases hL : lenB x with
        | false =>
          have E : Hid (SpecLn.step start ⟨.beg, left, qs.map (·.s)⟩ x = .error x.place) := by
            show _ = _
            unfold SpecLn.step
            simp only [hE, hM, hQ, hL, Bool.false_and, Bool.or_self, Bool.false_eq_true, if_false]
          have HQ : Hid (x.quoted = false) := hQ
          clear hQ
          go_enter Tryz.func58, Tryz.ntmps58
          go_wp2_with fail
          rw [← hW.out]
          refine (isEnd_b x W1).mono ?_
          rintro e W2 ⟨rfl, hb⟩
          have hB2 : Below w.heap.size w W2 := hB1.trans (hb.mono (by omega))
          have hz2 : w.heap.size < W2.heap.size := Nat.lt_of_lt_of_le hz1 hb.size
          have hx2 := hx1.below hb hx1.lt
          have y0 := hx2.cell (q := 0) rfl
          have y1 := hx2.cell (q := 1) rfl
          have y2 := hx2.cell (q := 2) rfl
          have hbx2 := (h.below hB2).box.cell (q := 5) rfl
          rw [Hrv.out] at hbx2
          clear hb
          rw [hE]
          go_wp2_with fail
          refine (isMark_b x 124 W2).mono ?_
          rintro e W3 ⟨rfl, hb⟩
          have hB3 : Below w.heap.size w W3 := hB2.trans (hb.mono (by omega))
          have hz3 : w.heap.size < W3.heap.size := Nat.lt_of_lt_of_le hz2 hb.size
          have hx3 := hx2.below hb hx2.lt
          have y0 := hx3.cell (q := 0) rfl
          have y1 := hx3.cell (q := 1) rfl
          have y2 := hx3.cell (q := 2) rfl
          have hbx3 := (h.below hB3).box.cell (q := 5) rfl
          rw [Hrv.out] at hbx3
          clear hb
          rw [hM]
          go_wp2_with fail
          refine (isMark_b x 124 W3).mono ?_
          rintro e W4 ⟨rfl, hb⟩
          have hB4 : Below w.heap.size w W4 := hB3.trans (hb.mono (by omega))
          have hz4 : w.heap.size < W4.heap.size := Nat.lt_of_lt_of_le hz3 hb.size
          have hx4 := hx3.below hb hx3.lt
          have y0 := hx4.cell (q := 0) rfl
          have y1 := hx4.cell (q := 1) rfl
          have y2 := hx4.cell (q := 2) rfl
          have hbx4 := (h.below hB4).box.cell (q := 5) rfl
          rw [Hrv.out] at hbx4
          clear hb
          rw [hM]
          have hqq := HQ.out
          have hck := checkName_any x aS W4 (hS.below hB4 (Nat.le_refl _)) hx
          rw [hqq] at hck
          go_wp2_with fail
          refine hck.mono ?_
          clear hqq
          rintro e W5 ⟨(⟨h1, _⟩ | ⟨_, v, rfl, hv⟩), hb⟩
          · rw [hL] at h1; cases h1
          have hB5 : Below w.heap.size w W5 := hB4.trans (hb.mono (by omega))
          have hv2 := ErrAt.weak (B' := w.heap.size) hv (by omega)
          clear hck hv hb
          go_wp2
          refine ⟨rfl, ?_⟩
          rw [E.out]
          exact ⟨⟨_, rfl, hv2⟩, hB5⟩
        | true =>
          have E : Hid (SpecLn.step start ⟨.beg, left, qs.map (·.s)⟩ x = .ok ⟨.col, x.text, qs.map (·.s)⟩) := by
            show _ = _
            unfold SpecLn.step
            simp only [hE, hM, hQ, hL, Bool.false_and, Bool.or_self, Bool.false_eq_true, if_false, if_true]
          have HQ : Hid (x.quoted = false) := hQ
          clear hQ
          have hnsl : ns.length ≤ 1000000000000 := by
            have h1 : ns = ntsZ (qs.map (·.s)) [] := Hk.out.1
            have h2 := nts_len (qs.map (·.s)) []
            rw [← h1] at h2
            simp at h2
            omega
          have hxs : (⟨x.text.toArray⟩ : ByteArray).size ≤ 281474976710656 := by simp [ByteArray.size]; omega
          have hkey : keyOf Tryz.prog 9 (.string ⟨x.text.toArray⟩) = some (keyL ⟨x.text.toArray⟩) := keyOf_string_mk Tryz.underlying9 (by unfold maxLen; omega)
          obtain ⟨n0, hn0s, hn0m⟩ := hn0
          go_enter Tryz.func58, Tryz.ntmps58
          go_wp2_with fail
          rw [← hW.out]
          refine (isEnd_b x W1).mono ?_
          rintro e W2 ⟨rfl, hb⟩
          have hB2 : Below w.heap.size w W2 := hB1.trans (hb.mono (by omega))
          have hz2 : w.heap.size < W2.heap.size := Nat.lt_of_lt_of_le hz1 hb.size
          have hx2 := hx1.below hb hx1.lt
          have y0 := hx2.cell (q := 0) rfl
          have y1 := hx2.cell (q := 1) rfl
          have y2 := hx2.cell (q := 2) rfl
          have hbx2 := (h.below hB2).box.cell (q := 5) rfl
          rw [Hrv.out] at hbx2
          clear hb
          rw [hE]
          go_wp2_with fail
          refine (isMark_b x 124 W2).mono ?_
          rintro e W3 ⟨rfl, hb⟩
          have hB3 : Below w.heap.size w W3 := hB2.trans (hb.mono (by omega))
          have hz3 : w.heap.size < W3.heap.size := Nat.lt_of_lt_of_le hz2 hb.size
          have hx3 := hx2.below hb hx2.lt
          have y0 := hx3.cell (q := 0) rfl
          have y1 := hx3.cell (q := 1) rfl
          have y2 := hx3.cell (q := 2) rfl
          have hbx3 := (h.below hB3).box.cell (q := 5) rfl
          rw [Hrv.out] at hbx3
          clear hb
          rw [hM]
          go_wp2_with fail
          refine (isMark_b x 124 W3).mono ?_
          rintro e W4 ⟨rfl, hb⟩
          have hB4 : Below w.heap.size w W4 := hB3.trans (hb.mono (by omega))
          have hz4 : w.heap.size < W4.heap.size := Nat.lt_of_lt_of_le hz3 hb.size
          have hx4 := hx3.below hb hx3.lt
          have y0 := hx4.cell (q := 0) rfl
          have y1 := hx4.cell (q := 1) rfl
          have y2 := hx4.cell (q := 2) rfl
          have hbx4 := (h.below hB4).box.cell (q := 5) rfl
          rw [Hrv.out] at hbx4
          clear hb
          rw [hM]
          have hqq := HQ.out
          have hck := checkName_any x aS W4 (hS.below hB4 (Nat.le_refl _)) hx
          rw [hqq] at hck
          go_wp2_with fail
          refine hck.mono ?_
          clear hqq
          rintro e W5 ⟨(⟨_, rfl⟩ | ⟨h1, _⟩), hb⟩
          rotate_left
          · rw [hL] at h1; cases h1
          have hB5 : Below w.heap.size w W5 := hB4.trans (hb.mono (by omega))
          have hz5 : w.heap.size < W5.heap.size := Nat.lt_of_lt_of_le hz4 hb.size
          have hx5 := hx4.below hb hx4.lt
          clear hck hb y0 y1 y2
          go_wp2
          obtain ⟨W6, hW6⟩ : ∃ W6, W5.drew = W6 := ⟨_, rfl⟩
          have hB6 : Below w.heap.size w W6 := by rw [← hW6]; exact hB5.drew
          have hx6 : RowAt W6 w.heap.size 87 #[.string ⟨x.text.toArray⟩, .bool x.quoted, .int .i64 (x.place : Int)] := by rw [← hW6]; exact hx5
          have hR6 := h.below hB6
          have hbox6 := hR6.box
          have hz6 : w.heap.size < W6.heap.size := hx6.lt
          have hnt := bnonterm_any bb base ⟨[], ns, 0, []⟩ (.slice none 0 0) (.map none) nv mv (.slice none 0 0) [] ⟨x.text.toArray⟩ W6 (hR6.bld (by omega)) hxs hnsl
          refine wp_region_noPanic ?_
          refine OrdersZ.region_Z (S := (fun w9 => RowAt w9 rb 76 #[nx, .int .i64 (start : Int), .int .i64 ln, .pointer (some ⟨bb, 0, none⟩), .map (some mb), rv] ∧ RowAt w9 w.heap.size 87 #[.string ⟨x.text.toArray⟩, .bool x.quoted, .int .i64 (x.place : Int)])) 10 (by kernel_rfl) (by rw [hW6]; exact ⟨hbox6, hx6⟩) (fun hHeld => ?_)
          rw [hW6]
          replace hHeld : RowAt W6 rb 76 #[nx, .int .i64 (start : Int), .int .i64 ln, .pointer (some ⟨bb, 0, none⟩), .map (some mb), rv] ∧ RowAt W6 w.heap.size 87 #[.string ⟨x.text.toArray⟩, .bool x.quoted, .int .i64 (x.place : Int)] := ⟨hbox6, hx6⟩
          clear hW6
          refine OrdersZ.takeZ (i := 0) (v := .pointer (some ⟨rb, 0, none⟩)) rfl (by kernel_rfl) (by kernel_rfl) (by kernel_rfl) (by kernel_rfl) (by kernel_rfl) (fun _ _ _ h => h) (Or.inl ⟨by rfl, fun w9 hSw => ?_⟩) hHeld ?_
          · obtain ⟨s0, s1⟩ := hSw
            go_simp
          simp only [List.getElem_toArray, List.getElem_cons_zero, List.getElem_cons_succ, Act.put, List.setIfInBounds_toArray, List.set_cons_zero, List.set_cons_succ]
          refine OrdersZ.takeZ (i := 1) (v := .pointer (some ⟨rb, 0, none⟩)) rfl (by kernel_rfl) (by kernel_rfl) (by kernel_rfl) (by kernel_rfl) (by kernel_rfl) (fun _ _ _ h => h) (Or.inl ⟨by rfl, fun w9 hSw => ?_⟩) hHeld ?_
          · obtain ⟨s0, s1⟩ := hSw
            go_simp
          simp only [List.getElem_toArray, List.getElem_cons_zero, List.getElem_cons_succ, Act.put, List.setIfInBounds_toArray, List.set_cons_zero, List.set_cons_succ]
          refine OrdersZ.takeZ (i := 2) (v := .pointer (some ⟨rb, 0, none⟩)) rfl (by kernel_rfl) (by kernel_rfl) (by kernel_rfl) (by kernel_rfl) (by kernel_rfl) (fun _ _ _ h => h) (Or.inl ⟨by rfl, fun w9 hSw => ?_⟩) hHeld ?_
          · obtain ⟨s0, s1⟩ := hSw
            go_simp
          simp only [List.getElem_toArray, List.getElem_cons_zero, List.getElem_cons_succ, Act.put, List.setIfInBounds_toArray, List.set_cons_zero, List.set_cons_succ]
          refine OrdersZ.takeZ (i := 3) (v := .pointer (some ⟨rb, 3, none⟩)) rfl (by kernel_rfl) (by kernel_rfl) (by kernel_rfl) (by kernel_rfl) (by kernel_rfl) (fun _ _ _ h => h) (Or.inl ⟨by rfl, fun w9 hSw => ?_⟩) hHeld ?_
          · obtain ⟨s0, s1⟩ := hSw
            go_simp
          simp only [List.getElem_toArray, List.getElem_cons_zero, List.getElem_cons_succ, Act.put, List.setIfInBounds_toArray, List.set_cons_zero, List.set_cons_succ]
          refine OrdersZ.takeZ (i := 4) (v := .pointer (some ⟨bb, 0, none⟩)) rfl (by kernel_rfl) (by kernel_rfl) (by kernel_rfl) (by kernel_rfl) (by kernel_rfl) (fun _ _ _ h => h) (Or.inl ⟨by rfl, fun w9 hSw => ?_⟩) hHeld ?_
          · obtain ⟨s0, s1⟩ := hSw
            go_simp
            (have q := s0.cell (q := 3) rfl; go_simp)
          simp only [List.getElem_toArray, List.getElem_cons_zero, List.getElem_cons_succ, Act.put, List.setIfInBounds_toArray, List.set_cons_zero, List.set_cons_succ]
          refine OrdersZ.takeZ (i := 5) (v := .pointer (some ⟨w.heap.size, 0, none⟩)) rfl (by kernel_rfl) (by kernel_rfl) (by kernel_rfl) (by kernel_rfl) (by kernel_rfl) (fun _ _ _ h => h) (Or.inl ⟨by rfl, fun w9 hSw => ?_⟩) hHeld ?_
          · obtain ⟨s0, s1⟩ := hSw
            go_simp
          simp only [List.getElem_toArray, List.getElem_cons_zero, List.getElem_cons_succ, Act.put, List.setIfInBounds_toArray, List.set_cons_zero, List.set_cons_succ]
          refine OrdersZ.takeZ (i := 6) (v := .string ⟨x.text.toArray⟩) rfl (by kernel_rfl) (by kernel_rfl) (by kernel_rfl) (by kernel_rfl) (by kernel_rfl) (fun _ _ _ h => h) (Or.inl ⟨by rfl, fun w9 hSw => ?_⟩) hHeld ?_
          · obtain ⟨s0, s1⟩ := hSw
            go_simp
            (have q := s1.cell (q := 0) rfl; go_simp)
          simp only [List.getElem_toArray, List.getElem_cons_zero, List.getElem_cons_succ, Act.put, List.setIfInBounds_toArray, List.set_cons_zero, List.set_cons_succ]
          refine OrdersZ.readyZ (i := 7) (by kernel_rfl) rfl (fun K hK => ?_)
          go_simp
          refine hnt.mono ?_
          rintro e W7 ⟨⟨nv', mv', rfl, hBld⟩, hKp⟩
          obtain ⟨a1, a2⟩ := hR6.after (by omega) hKp
          have hbox7 := a2 rb _ _ (by decide) hR6.rbb hbox6
          have hx7 := a2 w.heap.size _ _ (by decide) (by have := hR6.blt; omega) hx6
          refine hK.out _ _ ⟨hbox7, hx7⟩ (fun hHeld => ?_)
          clear hK K
          simp only [List.getElem_toArray, List.getElem_cons_zero, List.getElem_cons_succ, Act.put, List.setIfInBounds_toArray, List.set_cons_zero, List.set_cons_succ]
          refine OrdersZ.readyZ (i := 8) (by kernel_rfl) rfl (fun K hK => ?_)
          go_simp
          refine hK.out _ _ ⟨hbox7, hx7⟩ (fun hHeld => ?_)
          clear hK K
          refine OrdersZ.takeZ (i := 9) (v := .pointer (some ⟨rb, 2, none⟩)) rfl (by kernel_rfl) (by kernel_rfl) (by kernel_rfl) (by kernel_rfl) (by kernel_rfl) (fun _ _ _ h => h) (Or.inl ⟨by rfl, fun w9 hSw => ?_⟩) hHeld ?_
          · obtain ⟨s0, s1⟩ := hSw
            go_simp
          simp only [List.getElem_toArray, List.getElem_cons_zero, List.getElem_cons_succ, Act.put, List.setIfInBounds_toArray, List.set_cons_zero, List.set_cons_succ]
          have q2 := hbox7.cell (q := 2) rfl
          have f2 := hbox7.frozen 2
          refine OrdersZ.lastZ (by kernel_rfl) rfl (fun K hK => ?_)
          go_simp
          refine hK.out _ _ ?_
          clear hK K
          refine OrdersZ.doneZ (by kernel_rfl) (NoPanic.normal ?_) _
          clear hnt q2 f2 hHeld
          have hmr := hR6.mrb
          have hrw : rb ≠ w.heap.size := by have := hR6.rlt; omega
          have hbox8 : RowAt (W7.setCell ⟨rb, 2, none⟩ (.int .i64 (numZ ns ⟨x.text.toArray⟩))) rb 76 #[nx, .int .i64 (start : Int), .int .i64 (numZ ns ⟨x.text.toArray⟩), .pointer (some ⟨bb, 0, none⟩), .map (some mb), rv] := hbox7.set 2 _
          have hx8 := hx7.other (fun e => hrw e.symm) 2 (.int .i64 (numZ ns ⟨x.text.toArray⟩))
          have hm8 : (W7.setCell ⟨rb, 2, none⟩ (.int .i64 (numZ ns ⟨x.text.toArray⟩))).ownsMap (H := Unit) Tryz.prog 9 (plainElem Tryz.prog 3) mb n0 D :=
            ownsMap_of hn0m ((Below.heap_setCell _ _ _ _ hmr).trans ((a1 mb hR6.mlt hR6.mbb).trans (hB6.block mb (ownsMap_lt hn0m))))
          have HT : Hid (∀ w3, ((W7.setCell ⟨rb, 2, none⟩ (.int .i64 (numZ ns ⟨x.text.toArray⟩))).drew).grownBy w3 (some mb) → w3.ownsMap (H := Unit) Tryz.prog 9 (plainElem Tryz.prog 3) mb (n0 + 1) (D.put (keyL ⟨x.text.toArray⟩) (.lit (.int .i64 (numZ ns ⟨x.text.toArray⟩)))) → _) := fun w3 hg ho => hR6.told (s := ⟨x.text.toArray⟩) (by omega) hKp hBld hn0s hg ho
          have hC6 := Chg.of_below (rb := rb) (bb := bb) (mb := mb) qs hB6 hlt
          have hnum : (Lit.int .i64 (numZ ns ⟨x.text.toArray⟩)).wf = true := WalkArith.wf_i64 (by
            unfold numZ
            rcases idx_cases ns ⟨x.text.toArray⟩ with ⟨h1, h2⟩ | ⟨k, h1, h2, _, h3⟩
            · rw [if_neg (by rw [h2]; decide)]; omega
            · rw [if_pos h3, h1]
              have := (List.getElem?_eq_some_iff.1 h2).1
              omega)
          generalize hnum2 : numZ ns ⟨x.text.toArray⟩ = num at *
          have HNum : Hid (_) := hnum2
          clear hnum2 a1 a2 hbox7 hx7 hKp hBld hR6 hbox6 hx6
          generalize W7.setCell ⟨rb, 2, none⟩ (.int .i64 num) = W8 at *
          go_wp2
          obtain ⟨W9, hW9⟩ : ∃ W9, W8.drew = W9 := ⟨_, rfl⟩
          have hbox9 : RowAt W9 rb 76 #[nx, .int .i64 (start : Int), .int .i64 num, .pointer (some ⟨bb, 0, none⟩), .map (some mb), rv] := by rw [← hW9]; exact hbox8
          have hx9 : RowAt W9 w.heap.size 87 #[.string ⟨x.text.toArray⟩, .bool x.quoted, .int .i64 (x.place : Int)] := by rw [← hW9]; exact hx8
          have hm9 : W9.ownsMap (H := Unit) Tryz.prog 9 (plainElem Tryz.prog 3) mb n0 D := by rw [← hW9]; exact hm8
          refine wp_region_noPanic ?_
          refine OrdersZ.region_Z (S := (fun w9 => RowAt w9 rb 76 #[nx, .int .i64 (start : Int), .int .i64 num, .pointer (some ⟨bb, 0, none⟩), .map (some mb), rv] ∧ RowAt w9 w.heap.size 87 #[.string ⟨x.text.toArray⟩, .bool x.quoted, .int .i64 (x.place : Int)])) 10 (by kernel_rfl) (by rw [hW9]; exact ⟨hbox9, hx9⟩) (fun hHeld => ?_)
          rw [hW9]
          rw [hW9] at HT
          replace hHeld : RowAt W9 rb 76 #[nx, .int .i64 (start : Int), .int .i64 num, .pointer (some ⟨bb, 0, none⟩), .map (some mb), rv] ∧ RowAt W9 w.heap.size 87 #[.string ⟨x.text.toArray⟩, .bool x.quoted, .int .i64 (x.place : Int)] := ⟨hbox9, hx9⟩
          clear hW9
          refine OrdersZ.takeZ (i := 0) (v := .pointer (some ⟨rb, 0, none⟩)) rfl (by kernel_rfl) (by kernel_rfl) (by kernel_rfl) (by kernel_rfl) (by kernel_rfl) (fun _ _ _ h => h) (Or.inl ⟨by rfl, fun w9 hSw => ?_⟩) hHeld ?_
          · obtain ⟨s0, s1⟩ := hSw
            go_simp
          simp only [List.getElem_toArray, List.getElem_cons_zero, List.getElem_cons_succ, Act.put, List.setIfInBounds_toArray, List.set_cons_zero, List.set_cons_succ]
          refine OrdersZ.takeZ (i := 1) (v := .pointer (some ⟨rb, 0, none⟩)) rfl (by kernel_rfl) (by kernel_rfl) (by kernel_rfl) (by kernel_rfl) (by kernel_rfl) (fun _ _ _ h => h) (Or.inl ⟨by rfl, fun w9 hSw => ?_⟩) hHeld ?_
          · obtain ⟨s0, s1⟩ := hSw
            go_simp
          simp only [List.getElem_toArray, List.getElem_cons_zero, List.getElem_cons_succ, Act.put, List.setIfInBounds_toArray, List.set_cons_zero, List.set_cons_succ]
          refine OrdersZ.takeZ (i := 2) (v := .pointer (some ⟨rb, 4, none⟩)) rfl (by kernel_rfl) (by kernel_rfl) (by kernel_rfl) (by kernel_rfl) (by kernel_rfl) (fun _ _ _ h => h) (Or.inl ⟨by rfl, fun w9 hSw => ?_⟩) hHeld ?_
          · obtain ⟨s0, s1⟩ := hSw
            go_simp
          simp only [List.getElem_toArray, List.getElem_cons_zero, List.getElem_cons_succ, Act.put, List.setIfInBounds_toArray, List.set_cons_zero, List.set_cons_succ]
          refine OrdersZ.takeZ (i := 3) (v := .map (some mb)) rfl (by kernel_rfl) (by kernel_rfl) (by kernel_rfl) (by kernel_rfl) (by kernel_rfl) (fun _ _ _ h => h) (Or.inl ⟨by rfl, fun w9 hSw => ?_⟩) hHeld ?_
          · obtain ⟨s0, s1⟩ := hSw
            go_simp
            (have q := s0.cell (q := 4) rfl; go_simp)
          simp only [List.getElem_toArray, List.getElem_cons_zero, List.getElem_cons_succ, Act.put, List.setIfInBounds_toArray, List.set_cons_zero, List.set_cons_succ]
          refine OrdersZ.takeZ (i := 4) (v := .pointer (some ⟨w.heap.size, 0, none⟩)) rfl (by kernel_rfl) (by kernel_rfl) (by kernel_rfl) (by kernel_rfl) (by kernel_rfl) (fun _ _ _ h => h) (Or.inl ⟨by rfl, fun w9 hSw => ?_⟩) hHeld ?_
          · obtain ⟨s0, s1⟩ := hSw
            go_simp
          simp only [List.getElem_toArray, List.getElem_cons_zero, List.getElem_cons_succ, Act.put, List.setIfInBounds_toArray, List.set_cons_zero, List.set_cons_succ]
          refine OrdersZ.takeZ (i := 5) (v := .string ⟨x.text.toArray⟩) rfl (by kernel_rfl) (by kernel_rfl) (by kernel_rfl) (by kernel_rfl) (by kernel_rfl) (fun _ _ _ h => h) (Or.inl ⟨by rfl, fun w9 hSw => ?_⟩) hHeld ?_
          · obtain ⟨s0, s1⟩ := hSw
            go_simp
            (have q := s1.cell (q := 0) rfl; go_simp)
          simp only [List.getElem_toArray, List.getElem_cons_zero, List.getElem_cons_succ, Act.put, List.setIfInBounds_toArray, List.set_cons_zero, List.set_cons_succ]
          refine OrdersZ.takeZ (i := 6) (v := .pointer (some ⟨rb, 0, none⟩)) rfl (by kernel_rfl) (by kernel_rfl) (by kernel_rfl) (by kernel_rfl) (by kernel_rfl) (fun _ _ _ h => h) (Or.inl ⟨by rfl, fun w9 hSw => ?_⟩) hHeld ?_
          · obtain ⟨s0, s1⟩ := hSw
            go_simp
          simp only [List.getElem_toArray, List.getElem_cons_zero, List.getElem_cons_succ, Act.put, List.setIfInBounds_toArray, List.set_cons_zero, List.set_cons_succ]
          refine OrdersZ.takeZ (i := 7) (v := .pointer (some ⟨rb, 0, none⟩)) rfl (by kernel_rfl) (by kernel_rfl) (by kernel_rfl) (by kernel_rfl) (by kernel_rfl) (fun _ _ _ h => h) (Or.inl ⟨by rfl, fun w9 hSw => ?_⟩) hHeld ?_
          · obtain ⟨s0, s1⟩ := hSw
            go_simp
          simp only [List.getElem_toArray, List.getElem_cons_zero, List.getElem_cons_succ, Act.put, List.setIfInBounds_toArray, List.set_cons_zero, List.set_cons_succ]
          refine OrdersZ.takeZ (i := 8) (v := .pointer (some ⟨rb, 2, none⟩)) rfl (by kernel_rfl) (by kernel_rfl) (by kernel_rfl) (by kernel_rfl) (by kernel_rfl) (fun _ _ _ h => h) (Or.inl ⟨by rfl, fun w9 hSw => ?_⟩) hHeld ?_
          · obtain ⟨s0, s1⟩ := hSw
            go_simp
          simp only [List.getElem_toArray, List.getElem_cons_zero, List.getElem_cons_succ, Act.put, List.setIfInBounds_toArray, List.set_cons_zero, List.set_cons_succ]
          refine OrdersZ.takeZ (i := 9) (v := .int .i64 num) rfl (by kernel_rfl) (by kernel_rfl) (by kernel_rfl) (by kernel_rfl) (by kernel_rfl) (fun _ _ _ h => h) (Or.inl ⟨by rfl, fun w9 hSw => ?_⟩) hHeld ?_
          · obtain ⟨s0, s1⟩ := hSw
            go_simp
            (have q := s0.cell (q := 2) rfl; go_simp)
          simp only [List.getElem_toArray, List.getElem_cons_zero, List.getElem_cons_succ, Act.put, List.setIfInBounds_toArray, List.set_cons_zero, List.set_cons_succ]
          refine OrdersZ.lastZ (by kernel_rfl) rfl (fun K hK => ?_)
          refine step_mapUpdate_own rfl (.tmp 45) (.tmp 47) (.tmp 51) 71 rfl 9 3 keyed Tryz.underlying71 _ mb n0 D (by rfl) hm9 (by unfold maxLen; omega) (.string ⟨x.text.toArray⟩) (.int .i64 num) _ (by rfl) (by rfl) hkey _ [] (plainElem_int Tryz.underlying3 hnum) ?_
          intro w3 hown3 hg3
          obtain ⟨hRf, hCf⟩ := HT.out w3 hg3 hown3
          have hCt := hC6.trans hCf
          refine hK.out _ _ ?_
          clear hK K
          refine OrdersZ.doneZ (by kernel_rfl) (NoPanic.normal ?_) _
          clear HT hown3 hg3 hm9 hx9 hbox9 hC6 hCf hm8 hx8 hbox8 hnum
          go_wp2
          go_ret
          rw [E.out]
          obtain rfl := HNum.out
          refine ⟨rfl, _, _, qs, _, rv, _, _, hRf, rfl, ⟨?_, num_add ns _, add_mem ns _⟩, hCt⟩
          have h1 : ns = ntsZ (qs.map (·.s)) [] := Hk.out.1
          show addN ns _ = addN (ntsZ (qs.map (·.s)) []) _
          rw [← h1]
          rfl

end Go.Proofs.YtbeflhpekklgoaaGreatDoor.SpecMem
