/-
  The walk of WordsWritten: it answers true for every text, every list of texts and of marks, where none is longer than a million letters, and writes nothing that was there.
-/
import Derived.Test.YtbhgbfkepagnbaaWordsLists
import Derived.Test.YtbhgbfkepagnbaaWordsWrite
import Derived.Test.YtbhgbfkepagnbaaWordsRWrite
import Derived.Test.YtbhgbfkepagnbaaWordsSame
namespace Go.Proofs.Ytbhgbfkepagnbaa.WordsWrittenW
open Go.RowKit Go.Proofs.Ytbhgbfkepagnbaa.WordsMath Go.Proofs.Ytbhgbfkepagnbaa.WordsOne Go.Proofs.Ytbhgbfkepagnbaa.WordsBytes

set_option maxRecDepth 100000 in
set_option maxHeartbeats 8000000 in
theorem walk (s : ByteArray) (a : Option Addr) (n ca : Nat) (ss : List ByteArray) (b : Option Addr) (m cb : Nat) (qs : List Bool) (w : World) (hs : s.size ≤ 1048576) (hS : SRow w a n ss) (hz : ∀ i, i < n → (ss.getD i ByteArray.empty).size ≤ 1048576) (hn : n ≤ 1048576) (hQ : BRow w b m qs) :
    Calls Try.prog 3 #[.string s, .slice a n ca, .slice b m cb] w fun e w' => e = .returned (.bool true) ∧ Below w.heap.size w w' := by
  obtain ⟨i0, hi, hz0, hz1, hz2⟩ := info_parts infoW
  obtain ⟨j0, hj, hy0, hy1, hy2⟩ := info_parts infoR
  go_enter Try.func3, Try.ntmps3
  go_wp2
  go_loopw [7, 8, 9] (fun u v i wr => ∃ k : Nat, k ≤ n ∧ i = .int .i64 k ∧ wr.ownsRow w.heap.size 27 3 u k (cellsW (wsOf ss qs m 7 k)) ∧ wr.ownsRow w.heap.size 28 3 v k (cellsW (wsOf ss qs m 7 k)) ∧ Below w.heap.size w wr) (fun _ _ i _ => n - (intOf i).toNat)
  case atStart => exact ⟨0, by omega, rfl, World.ownsRow_nil _ _ _ _, World.ownsRow_nil _ _ _ _, Below.refl _ _⟩
  case round =>
    obtain ⟨k, hk, rfl, hI, hL, hB⟩ := hrel
    by_cases hlt : k < n
    · obtain ⟨b1, off1, rfl, c1⟩ := hS.below hB k hlt
      have hc1 : ∀ w', Below w.heap.size w w' → w'.cell? ⟨b1, off1 + k, none⟩ = some (.string (ss.getD k ByteArray.empty)) := fun w' hb => by
        obtain ⟨b', off', he, hc⟩ := hS.below hb k hlt
        cases he
        exact hc
      have hsB := hB.size
      by_cases hkm : k < m
      · obtain ⟨b2, off2, rfl, c3⟩ := hQ.below hB k hkm
        have E : Hid ([Value.string (ss.getD k ByteArray.empty), .bool (qs.getD k false), .int .i64 (7 * (k : Int))] = wv (wAt ss qs m 7 k)) := by
          show _ = _
          simp [wv, wAt, hkm]
        have hkm2 : (k : Int) < (m : Int) := by omega
        generalize hq : qs.getD k false = q at *
        have HQ : Hid (_) := hq
        clear hq hS hQ hz
        go_wp2_with (first | (at_builtin; refine wpList_append_own _ rfl _ _ 24 rfl w.heap.size 27 i0 (.agg #[.string ⟨#[]⟩, .bool false, .int .i64 0]) 3 32 Try.underlying24 hi hz0 hz1 hz2 rfl (by decide) _ _ _ rfl (hI.alloc _) ⟨wr.heap.size, 0, none⟩ 1 1 [.string (ss.getD k ByteArray.empty), .bool q, .int .i64 (7 * (k : Int))] rfl rfl (cells_new _ #[_, _, _] _) (by simp [Value.oneCell']) (by unfold maxLen; omega) (by omega) (by simp; omega) ?_; intro u1 w1 hown1 hgrow1 _; rw [E.out] at hown1; obtain ⟨g1, e1, hu1, hI1⟩ := row3 hown1; rw [← wsOf_succ] at hI1; rw [hu1]; have hB1 := app3 hB hsB hI hgrow1; have hL1 := (hL.alloc _).kept hgrow1 (own_ne hL hI (by decide)); have hs1 := hB1.size; have c2 := hc1 _ hB1) | (at_builtin; refine wpList_append_own _ rfl _ _ 25 rfl w.heap.size 28 j0 (.agg #[.string ⟨#[]⟩, .bool false, .int .i64 0]) 3 32 Try.underlying25 hj hy0 hy1 hy2 rfl (by decide) _ _ _ rfl (hL1.alloc _) ⟨w1.heap.size, 0, none⟩ 1 1 [.string (ss.getD k ByteArray.empty), .bool q, .int .i64 (7 * (k : Int))] rfl rfl (cells_new _ #[_, _, _] _) (by simp [Value.oneCell']) (by unfold maxLen; omega) (by omega) (by simp; omega) ?_; intro u2 w2 hown2 hgrow2 _; rw [E.out] at hown2; obtain ⟨g2, e2, hu2, hL2⟩ := row3 hown2; rw [← wsOf_succ] at hL2; rw [hu2]; have hB2 := app3 hB1 hs1 hL1 hgrow2; have hI2 := (hI1.alloc _).kept hgrow2 (own_ne hI1 hL1 (by decide))))
        go_roundw
        case rel => exact ⟨k + 1, by omega, by go_num, hI2, hL2, hB2⟩
        case measure => simp [intOf]; omega
      · have E : Hid ([Value.string (ss.getD k ByteArray.empty), .bool false, .int .i64 (7 * (k : Int))] = wv (wAt ss qs m 7 k)) := by
          show _ = _
          simp [wv, wAt, hkm]
        have hkm2 : decide ((k : Int) < (m : Int)) = false := by simp; omega
        clear hS hQ hz
        go_wp2_with (first | (at_builtin; refine wpList_append_own _ rfl _ _ 24 rfl w.heap.size 27 i0 (.agg #[.string ⟨#[]⟩, .bool false, .int .i64 0]) 3 32 Try.underlying24 hi hz0 hz1 hz2 rfl (by decide) _ _ _ rfl (hI.alloc _) ⟨wr.heap.size, 0, none⟩ 1 1 [.string (ss.getD k ByteArray.empty), .bool false, .int .i64 (7 * (k : Int))] rfl rfl (cells_new _ #[_, _, _] _) (by simp [Value.oneCell']) (by unfold maxLen; omega) (by omega) (by simp; omega) ?_; intro u1 w1 hown1 hgrow1 _; rw [E.out] at hown1; obtain ⟨g1, e1, hu1, hI1⟩ := row3 hown1; rw [← wsOf_succ] at hI1; rw [hu1]; have hB1 := app3 hB hsB hI hgrow1; have hL1 := (hL.alloc _).kept hgrow1 (own_ne hL hI (by decide)); have hs1 := hB1.size; have c2 := hc1 _ hB1) | (at_builtin; refine wpList_append_own _ rfl _ _ 25 rfl w.heap.size 28 j0 (.agg #[.string ⟨#[]⟩, .bool false, .int .i64 0]) 3 32 Try.underlying25 hj hy0 hy1 hy2 rfl (by decide) _ _ _ rfl (hL1.alloc _) ⟨w1.heap.size, 0, none⟩ 1 1 [.string (ss.getD k ByteArray.empty), .bool false, .int .i64 (7 * (k : Int))] rfl rfl (cells_new _ #[_, _, _] _) (by simp [Value.oneCell']) (by unfold maxLen; omega) (by omega) (by simp; omega) ?_; intro u2 w2 hown2 hgrow2 _; rw [E.out] at hown2; obtain ⟨g2, e2, hu2, hL2⟩ := row3 hown2; rw [← wsOf_succ] at hL2; rw [hu2]; have hB2 := app3 hB1 hs1 hL1 hgrow2; have hI2 := (hI1.alloc _).kept hgrow2 (own_ne hI1 hL1 (by decide))))
        go_roundw
        case rel => exact ⟨k + 1, by omega, by go_num, hI2, hL2, hB2⟩
        case measure => simp [intOf]; omega
    · obtain rfl : k = n := by omega
      have hws := wsOf_len ss qs m 7 k
      have hwt := wsOf_text (qs := qs) (m := m) (step := 7) hz
      have hwl := allW_len 1048576 _ hwt
      have hN : (wsOf ss qs m 7 k).length * (4 * 1048576 + 3) ≤ 1048576 * 4194307 := by rw [hws]; exact Nat.mul_le_mul_right _ hn
      generalize wsOf ss qs m 7 k = ws at *
      subst hws
      have hsB := hB.size
      clear hS hQ hz hlt
      obtain ⟨aL, cL, hv, _⟩ := own_shape hL
      subst hv
      have E : Hid ([Value.string ⟨#[60, 109, 97, 114, 107, 62]⟩, .bool false, .int .i64 0] = wv ⟨[60, 109, 97, 114, 107, 62], false, 0⟩) := rfl
      go_wp2_with (at_builtin; refine wpList_append_own _ rfl _ _ 24 rfl w.heap.size 27 i0 (.agg #[.string ⟨#[]⟩, .bool false, .int .i64 0]) 3 32 Try.underlying24 hi hz0 hz1 hz2 rfl (by decide) _ _ _ rfl (hI.alloc _) ⟨wr.heap.size, 0, none⟩ 1 1 [.string ⟨#[60, 109, 97, 114, 107, 62]⟩, .bool false, .int .i64 0] rfl rfl (cells_new _ #[_, _, _] _) (by simp [Value.oneCell']) (by unfold maxLen; omega) (by omega) (by simp; omega) ?_; intro u1 w1 hown1 hgrow1 _; rw [E.out] at hown1; obtain ⟨g1, e1, hu1, hI1⟩ := row3 hown1; rw [hu1]; have hB1 := app3 hB hsB hI hgrow1; have hL1 := (hL.alloc _).kept hgrow1 (own_ne hL hI (by decide)); have hs1 := hB1.size)
      have hcap : ws.length + 1 ≤ e1 := (own_cap3 hI1).1
      have hcap2 := (own_cap3 hI1).2
      have hW1 : WRow w1 (some ⟨g1, 0, none⟩) (ws ++ [⟨[60, 109, 97, 114, 107, 62], false, 0⟩]) := WRow.of_own (c := e1) (by simpa using hI1)
      have hWL : WRow w1 aL ws := own_wrow hL1
      clear hI1 hL1 hown1 hgrow1 hI hL
      refine (wplain_any s _ (by omega)).mono ?_
      rintro e w2 ⟨rfl, h2⟩
      obtain rfl := h2.symm
      go_wp2_with fail
      refine (rwplain_any s _ (by omega)).mono ?_
      rintro e w2 ⟨rfl, h2⟩
      obtain rfl := h2.symm
      go_wp2_with fail
      refine (quote_any s _ (by omega)).mono ?_
      rintro e w2 ⟨rfl, hb2⟩
      go_wp2_with fail
      refine (rquote_any s _ (by omega)).mono ?_
      rintro e w3 ⟨rfl, hb3⟩
      have B13 := hb2.trans (hb3.mono hb2.size)
      have hW3 := hW1.below B13 (Nat.le_refl _)
      have hWL3 := hWL.below B13 (Nat.le_refl _)
      go_wp2_with fail
      refine (write_any (some ⟨g1, 0, none⟩) e1 ws w3 (hW3.left _) (by omega) (fun x hx => by have := hwt x hx; omega) (by omega)).mono ?_
      rintro e w4 ⟨rfl, hb4⟩
      have hW4 := hW3.below hb4 (Nat.le_refl _)
      have hWL4 := hWL3.below hb4 (Nat.le_refl _)
      go_wp2_with fail
      refine (rwrite_any aL cL ws w4 hWL4 (by omega) (fun x hx => by have := hwt x hx; omega) (by omega)).mono ?_
      rintro e w5 ⟨rfl, hb5⟩
      have hW5 := hW4.below hb5 (Nat.le_refl _)
      have hWL5 := hWL4.below hb5 (Nat.le_refl _)
      have B35 := hb4.trans (hb5.mono hb4.size)
      have B15 := B13.trans (B35.mono B13.size)
      have B5 := hB1.trans (B15.mono hs1)
      go_wp2_with fail
      refine (same_any (some ⟨g1, 0, none⟩) aL e1 cL ws w5 (hW5.left _) hWL5 (by omega)).mono ?_
      rintro e w6 ⟨rfl, q, h6⟩
      obtain rfl := h6.symm
      have hc6 : (w5.drewN q).cell? ⟨g1, ws.length * 3, none⟩ = some (.string ⟨#[60, 109, 97, 114, 107, 62]⟩) := by
        obtain ⟨b', off', he, hc, _⟩ := hW5 ws.length ⟨[60, 109, 97, 114, 107, 62], false, 0⟩ (by simp)
        cases he
        rw [Nat.zero_add] at hc
        exact hc
      go_wp2
      go_ret
      exact ⟨rfl, B5.os, B5.tape, B5.output, B5.size, B5.block⟩

end Go.Proofs.Ytbhgbfkepagnbaa.WordsWrittenW
