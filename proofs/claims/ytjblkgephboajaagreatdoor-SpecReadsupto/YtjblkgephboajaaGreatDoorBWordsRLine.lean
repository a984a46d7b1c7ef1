/-
  Texts that stand together: WordsRLine.
-/
import Derived.Test.YtjblkgephboajaaGreatDoorBWordsRPiece
import Derived.Test.YtjblkgephboajaaGreatDoorBagWordsUnquote
namespace Go.Proofs.YtjblkgephboajaaGreatDoor.WordsBytes
open Go.RowKit WordsMath WordsOne

/-- What the document's own Line hands back for a line that is not too long. -/
def RLineRes (base : Nat) (R : Except Nat (List W)) (e : Ending) (w' : World) : Prop :=
  match R with
  | .ok ws => ∃ v, e = .returned (.tuple #[v, .int .i64 0, .int .i64 0]) ∧ w'.ownsRow base 159 3 v ws.length (cellsW ws)
  | .error p => e = .returned (.tuple #[.slice none 0 0, .int .i64 (p : Int), .int .i64 2])

theorem blk_set {W : World} {b : Nat} {C : Array Value} {t : TypeId} (h : W.heap[b]? = some (.cells C t (0, 0))) (j : Nat) (v : Value) : (W.setCell ⟨b, j, none⟩ v).heap[b]? = some (.cells (C.setIfInBounds j v) t (0, 0)) := by
  simp only [World.setCell, Array.getElem?_modify]
  simp [h]

theorem blk_frozen {W : World} {b : Nat} {C : Array Value} {t : TypeId} (h : W.heap[b]? = some (.cells C t (0, 0))) (q : Nat) : W.frozen? ⟨b, q, none⟩ = false := by
  simp [World.frozen?, h]

theorem blkC {W : World} {b : Nat} {C : Array Value} {t : TypeId} {fz : Nat × Nat} (h : W.heap[b]? = some (.cells C t fz)) (j : Nat) {v : Value} (hv : C[j]? = some v) : W.cell? ⟨b, j, none⟩ = some v := by
  unfold World.cell?
  rw [h]
  exact hv

set_option maxRecDepth 100000 in
set_option maxHeartbeats 16000000 in
theorem rline_any (s : ByteArray) (R : Except Nat (List W)) (w : World) (hs : s.size ≤ 1048576) (hR : Hid (lineL s.data.toList 0 [] = R)) :
    Calls Tryz.prog 51 #[.string s] w fun e w' => RLineRes w.heap.size R e w' ∧ Below w.heap.size w w' := by
  obtain ⟨i0, hi, hz0, hz1, hz2⟩ := info_parts infoR
  obtain ⟨i5, hi5, hy0, hy1, hy2⟩ := info_parts info5
  have hk0 : ¬ (1048576 : Int) < (s.size : Int) := by omega
  go_enter Tryz.func51, Tryz.ntmps51
  go_wp2
  go_loopw [5, 6] (fun v i wr => ∃ (k : Nat) (out : List W), k ≤ s.size ∧ i = .int .i64 k ∧ out.length ≤ k ∧ Hid (lineL (s.data.toList.drop k) k out = R) ∧ wr.ownsRow w.heap.size 159 3 v out.length (cellsW out) ∧ Below w.heap.size w wr) (fun _ i _ => s.size - (intOf i).toNat)
  case atStart => exact ⟨0, [], by omega, rfl, by simp, by show lineL (s.data.toList.drop 0) 0 [] = R; rw [List.drop_zero]; exact hR.out, World.ownsRow_nil _ _ _ _, Below.refl _ _⟩
  case round =>
    obtain ⟨k, out, hk, rfl, hout, hX, hrow, hB⟩ := hrel
    have hsB := hB.size
    obtain ⟨W0, hW0⟩ : ∃ W0, W0 = wr := ⟨_, rfl⟩
    subst hW0
    by_cases hlt : k < s.size
    · have hd := drop_cons s hlt
      obtain ⟨c, hc⟩ : ∃ c, s[k] = c := ⟨_, rfl⟩
      rw [hc] at hd
      have D : Hid (_) := hd
      clear hd
      have kk : (k : Int) < (s.size : Int) := by omega
      cases hbl : blankN c.toNat with
      | true =>
        have hX2 : Hid (lineL (s.data.toList.drop (k + 1)) (k + 1) out = R) := by
          show _ = _
          rw [← hX.out, D.out, lineL_blank hbl]
        clear hX D
        go_wp2_with (go_at_call 81; refine (rblank_any _ _).mono ?_; rintro e w1 ⟨rfl, hw1⟩; obtain rfl := hw1.symm; rw [hbl])
        go_roundw
        case rel => exact ⟨k + 1, out, by omega, by go_num, by omega, hX2, hrow, hB⟩
        case measure => simp [intOf]; omega
      | false =>
        by_cases h35 : c.toNat = 35
        · have k1 : ((c.toNat : Int) == 35) = true := by simp; omega
          have F : Hid (R = .ok out) := by
            show _ = _
            rw [← hX.out, D.out, lineL_comment h35]
          clear hX D h35
          go_wp2_with (go_at_call 81; refine (rblank_any _ _).mono ?_; rintro e w1 ⟨rfl, hw1⟩; obtain rfl := hw1.symm; rw [hbl])
          go_ret3
          refine ⟨?_, hB⟩
          rw [F.out]
          exact ⟨_, rfl, hrow⟩
        · have k1 : ((c.toNat : Int) == 35) = false := by simp; omega
          by_cases h34 : c.toNat = 34
          · have k2 : ((c.toNat : Int) == 34) = true := by simp; omega
            have H34 : Hid (c.toNat = 34) := h34
            clear h34
            go_wp2_with (go_at_call 81; refine (rblank_any _ _).mono ?_; rintro e w1 ⟨rfl, hw1⟩; obtain rfl := hw1.symm; rw [hbl])
            have hblk1 := heap_alloc_new W0 (.cells #[.string ⟨#[]⟩, .bool true, .int .i64 (k : Int)] 159)
            have hB1w := hB.alloc hsB (.cells #[.string ⟨#[]⟩, .bool true, .int .i64 (k : Int)] 159)
            have hs1w := hB1w.size
            have hrow1 := hrow.alloc (.cells #[.string ⟨#[]⟩, .bool true, .int .i64 (k : Int)] 159)
            generalize hW1 : W0.alloc (.cells #[.string ⟨#[]⟩, .bool true, .int .i64 (k : Int)] 159) = W1 at *
            have hlt1 : W0.heap.size < W1.heap.size := by rw [← hW1]; simp
            go_loopw [6, 8] (fun i v wr => ∃ (j : Nat) (acc : List UInt8), k + 1 ≤ j ∧ j ≤ s.size ∧ i = .int .i64 j ∧ acc.length ≤ j ∧ Hid (unqL (s.data.toList.drop j) j acc = unqL (s.data.toList.drop (k + 1)) (k + 1) []) ∧ wr.ownsRow W1.heap.size 5 1 v acc.length (Lib.byteCells acc) ∧ Below W1.heap.size W1 wr) (fun i _ _ => s.size - (intOf i).toNat)
            case atStart => exact ⟨k + 1, [], by omega, by omega, by go_num, by simp, rfl, World.ownsRow_nil _ _ _ _, Below.refl _ _⟩
            case round =>
              obtain ⟨j, acc, hkj, hjs, rfl, hacc, hU, hrb, hBb⟩ := hrel
              by_cases hjl : j < s.size
              · have hdj := drop_cons s hjl
                obtain ⟨d, hd1⟩ : ∃ d, s[j] = d := ⟨_, rfl⟩
                rw [hd1] at hdj
                have DJ : Hid (_) := hdj
                clear hdj
                have jj : (j : Int) < (s.size : Int) := by omega
                have hux := hU.out
                rw [DJ.out] at hux
                by_cases hq : d.toNat = 34
                · have m1 : ((d.toNat : Int) != 34) = false := by simp; omega
                  have jg : ¬ (s.size : Int) ≤ (j : Int) := by omega
                  rw [unqL_end hq] at hux
                  clear hq hU
                  by_cases hn : j + 1 < s.size
                  · have hdn := drop_cons s hn
                    obtain ⟨f, hf⟩ : ∃ f, s[j + 1] = f := ⟨_, rfl⟩
                    rw [hf] at hdn
                    have nn : (j : Int) + 1 < (s.size : Int) := by omega
                    cases hbf : blankN f.toNat with
                    | false =>
                      have F : Hid (R = .error (j + 1)) := by
                        show _ = _
                        rw [← hX.out, D.out]
                        exact lineL_bad H34.out (unqE_more hux.symm (by rw [drop_from _ (by omega), hdn]; exact hbf)) out
                      clear hX D DJ hdn hux
                      go_wp2_with (go_at_call 81; refine (rblank_any _ _).mono ?_; rintro e w1 ⟨rfl, hw1⟩; obtain rfl := hw1.symm; rw [hbf])
                      go_ret3
                      refine ⟨?_, hB1w.trans (hBb.mono hs1w)⟩
                      rw [F.out]
                      exact ret_eq rfl
                    | true =>
                      have hX2 : Hid (lineL (s.data.toList.drop (j + 1)) (j + 1) (out ++ [⟨acc, true, k⟩]) = R) := by
                        show _ = _
                        rw [← hX.out, D.out, lineL_quoted H34.out (unqE_end hux.symm (by rw [drop_from _ (by omega), hdn]; exact hbf)), drop_from _ (by omega)]
                      clear hX D DJ hdn hux
                      have hcv := bytes_str_any hrb
                      have hblk2 := (hBb.block W0.heap.size hlt1).trans hblk1
                      have hrow2 := own_below hrow1 hBb
                      have hB2 := hB1w.trans (hBb.mono hs1w)
                      have hs2 := hB2.size
                      have f0 := blk_frozen hblk2 0
                      have g0 := blkC hblk2 0 rfl
                      have hrowS : (wr.setCell ⟨W0.heap.size, 0, none⟩ (.string ⟨acc.toArray⟩)).ownsRow w.heap.size 159 3 _ out.length (cellsW out) := ownsRow_setCell_other hrow2 (fun e => by have := (hrow.lt _ e).2; simp at this) _
                      have hblk3 := blk_set hblk2 0 (.string ⟨acc.toArray⟩)
                      have hBS := hB2.setCell (p := ⟨W0.heap.size, 0, none⟩) hsB (.string ⟨acc.toArray⟩)
                      have hsS := hBS.size
                      have d0 := blkC hblk3 0 rfl
                      have d1 := blkC hblk3 1 rfl
                      have d2 := blkC hblk3 2 rfl
                      have E3 : Hid ([Value.string ⟨acc.toArray⟩, .bool true, .int .i64 (k : Int)] = wv ⟨acc, true, k⟩) := rfl
                      generalize hWS : wr.setCell ⟨W0.heap.size, 0, none⟩ (.string ⟨acc.toArray⟩) = WS at *
                      go_wp2_with (first | (go_at_call 81; refine (rblank_any _ _).mono ?_; rintro e w1 ⟨rfl, hw1⟩; obtain rfl := hw1.symm; rw [hbf]) | (at_builtin; refine wpList_append_own _ rfl _ _ 115 rfl w.heap.size 159 i0 (.agg #[.string ⟨#[]⟩, .bool false, .int .i64 0]) 3 32 Tryz.underlying115 hi hz0 hz1 hz2 rfl (by decide) _ _ _ rfl (hrowS.alloc _) ⟨WS.heap.size, 0, none⟩ 1 1 [.string ⟨acc.toArray⟩, .bool true, .int .i64 (k : Int)] rfl rfl (cells_new _ #[_, _, _] _) (by simp [Value.oneCell']) (by unfold maxLen; omega) (by omega) (by simp; omega) ?_; intro u1 w3 hown3 hgrow3 _; rw [E3.out] at hown3; obtain ⟨g1, e1, hu1, hI3⟩ := row3 hown3; rw [hu1]; have hB3 := app3 hBS hsS hrowS hgrow3))
                      go_roundw
                      case rel => exact ⟨j + 1, out ++ [⟨acc, true, k⟩], by omega, by go_num, by simp; omega, hX2, by simpa using hI3, hB3⟩
                      case measure => simp [intOf]; omega
                  · have nn : ¬ (j : Int) + 1 < (s.size : Int) := by omega
                    have nd : decide ((j : Int) + 1 < (s.size : Int)) = false := by simpa using nn
                    have hX2 : Hid (lineL (s.data.toList.drop (j + 1)) (j + 1) (out ++ [⟨acc, true, k⟩]) = R) := by
                      show _ = _
                      rw [← hX.out, D.out, lineL_quoted H34.out (unqE_end hux.symm (by rw [drop_from _ (by omega), drop_end s (by omega)]; rfl)), drop_from _ (by omega)]
                    clear hX D DJ hux
                    have hcv := bytes_str_any hrb
                    have hblk2 := (hBb.block W0.heap.size hlt1).trans hblk1
                    have hrow2 := own_below hrow1 hBb
                    have hB2 := hB1w.trans (hBb.mono hs1w)
                    have hs2 := hB2.size
                    have f0 := blk_frozen hblk2 0
                    have g0 := blkC hblk2 0 rfl
                    have hrowS : (wr.setCell ⟨W0.heap.size, 0, none⟩ (.string ⟨acc.toArray⟩)).ownsRow w.heap.size 159 3 _ out.length (cellsW out) := ownsRow_setCell_other hrow2 (fun e => by have := (hrow.lt _ e).2; simp at this) _
                    have hblk3 := blk_set hblk2 0 (.string ⟨acc.toArray⟩)
                    have hBS := hB2.setCell (p := ⟨W0.heap.size, 0, none⟩) hsB (.string ⟨acc.toArray⟩)
                    have hsS := hBS.size
                    have d0 := blkC hblk3 0 rfl
                    have d1 := blkC hblk3 1 rfl
                    have d2 := blkC hblk3 2 rfl
                    have E3 : Hid ([Value.string ⟨acc.toArray⟩, .bool true, .int .i64 (k : Int)] = wv ⟨acc, true, k⟩) := rfl
                    generalize hWS : wr.setCell ⟨W0.heap.size, 0, none⟩ (.string ⟨acc.toArray⟩) = WS at *
                    go_wp2_with (at_builtin; refine wpList_append_own _ rfl _ _ 115 rfl w.heap.size 159 i0 (.agg #[.string ⟨#[]⟩, .bool false, .int .i64 0]) 3 32 Tryz.underlying115 hi hz0 hz1 hz2 rfl (by decide) _ _ _ rfl (hrowS.alloc _) ⟨WS.heap.size, 0, none⟩ 1 1 [.string ⟨acc.toArray⟩, .bool true, .int .i64 (k : Int)] rfl rfl (cells_new _ #[_, _, _] _) (by simp [Value.oneCell']) (by unfold maxLen; omega) (by omega) (by simp; omega) ?_; intro u1 w3 hown3 hgrow3 _; rw [E3.out] at hown3; obtain ⟨g1, e1, hu1, hI3⟩ := row3 hown3; rw [hu1]; have hB3 := app3 hBS hsS hrowS hgrow3)
                    go_roundw
                    case rel => exact ⟨j + 1, out ++ [⟨acc, true, k⟩], by omega, by go_num, by simp; omega, hX2, by simpa using hI3, hB3⟩
                    case measure => simp [intOf]; omega
                · have m1 : ((d.toNat : Int) != 34) = true := by simp; omega
                  cases hp : pieceL d (s.data.toList.drop (j + 1)) with
                  | none =>
                    have F : Hid (R = .error j) := by
                      show _ = _
                      rw [← hX.out, D.out]
                      exact lineL_bad H34.out (unqE_err (by rw [← hux]; exact unqL_none hq hp _ _)) out
                    have hpv := rpiece_any s j d (.tuple #[.int .u8 0, .int .i64 0]) wr hjl hs hd1 hq (by show pieceV _ _ = _; unfold pieceV; rw [hp])
                    clear hX D DJ hux hU hq hp
                    go_wp2_with fail
                    refine hpv.mono ?_
                    rintro e w1 ⟨rfl, hw1⟩
                    obtain rfl := hw1.symm
                    go_wp2
                    go_ret3
                    refine ⟨?_, hB1w.trans (hBb.mono hs1w)⟩
                    rw [F.out]
                    exact ret_eq rfl
                  | some x =>
                    obtain ⟨b, n⟩ := x
                    have hln := pieceL_len hp
                    rw [List.length_drop, list_size] at hln
                    rw [unqL_some hq hp, List.drop_drop] at hux
                    have hU2 : Hid (unqL (s.data.toList.drop (j + (n + 1))) (j + (n + 1)) (acc ++ [b]) = unqL (s.data.toList.drop (k + 1)) (k + 1) []) := by
                      show _ = _
                      rw [show j + (n + 1) = j + 1 + n by omega]
                      exact hux
                    have hpv := rpiece_any s j d (.tuple #[.int .u8 (b.toNat : Int), .int .i64 ((n : Int) + 1)]) wr hjl hs hd1 hq (by show pieceV _ _ = _; unfold pieceV; rw [hp])
                    have E1 : Hid ([Value.int .u8 (b.toNat : Int)] = Lib.byteCells [b]) := by show _ = _; simp [Lib.byteCells]
                    have n0 : ((n : Int) + 1 == 0) = false := by simp; omega
                    clear DJ hux hU hq hp
                    go_wp2_with fail
                    refine hpv.mono ?_
                    rintro e w1 ⟨rfl, hw1⟩
                    obtain rfl := hw1.symm
                    go_wp2_with (at_builtin; refine wpList_append_own _ rfl _ _ 160 rfl W1.heap.size 5 i5 (.int .u8 0) 1 1 Tryz.underlying160 hi5 hy0 hy1 hy2 rfl (by decide) _ _ _ rfl (hrb.alloc _) ⟨wr.heap.size, 0, none⟩ 1 1 [.int .u8 (b.toNat : Int)] rfl rfl (cells_new _ #[_] _) (by simp [Value.oneCell']) (by unfold maxLen; omega) (by omega) (by have := hBb.size; simp; omega) ?_; intro v1 w1 hown1 hgrow1 _; have hr1 := row_any hown1 E1.out rfl rfl; have hB1 := Below.app hBb hBb.size hrb hgrow1)
                    go_roundw
                    case rel => exact ⟨j + (n + 1), acc ++ [b], by omega, by omega, by go_num, by simp; omega, hU2, hr1, hB1⟩
                    case measure => simp [intOf]; omega
              · have jj : ¬ (j : Int) < (s.size : Int) := by omega
                have jd : decide ((j : Int) < (s.size : Int)) = false := by simpa using jj
                have jg : (s.size : Int) ≤ (j : Int) := by omega
                have F : Hid (R = .error s.size) := by
                  show _ = _
                  rw [← hX.out, D.out]
                  exact lineL_bad H34.out (unqE_err (by rw [← hU.out, drop_end s (by omega), unqL_nil, show j = s.size by omega])) out
                clear hX D hU
                go_wp2
                go_ret3
                refine ⟨?_, hB1w.trans (hBb.mono hs1w)⟩
                rw [F.out]
                exact ret_eq rfl
          · have k2 : ((c.toNat : Int) == 34) = false := by simp; omega
            go_wp2_with (go_at_call 81; refine (rblank_any _ _).mono ?_; rintro e w1 ⟨rfl, hw1⟩; obtain rfl := hw1.symm; rw [hbl])
            have hblk1 := heap_alloc_new W0 (.cells #[.string ⟨#[]⟩, .bool false, .int .i64 (k : Int)] 159)
            have hB1w := hB.alloc hsB (.cells #[.string ⟨#[]⟩, .bool false, .int .i64 (k : Int)] 159)
            have hs1w := hB1w.size
            have hrow1 := hrow.alloc (.cells #[.string ⟨#[]⟩, .bool false, .int .i64 (k : Int)] 159)
            generalize hW1 : W0.alloc (.cells #[.string ⟨#[]⟩, .bool false, .int .i64 (k : Int)] 159) = W1 at *
            have hlt1 : W0.heap.size < W1.heap.size := by rw [← hW1]; simp
            go_loopw [6, 8] (fun i v wr => ∃ (j : Nat) (acc : List UInt8), k ≤ j ∧ j ≤ s.size ∧ i = .int .i64 j ∧ Hid (acc = (s.data.toList.drop k).take (j - k)) ∧ acc.length ≤ j ∧ Hid (plainLen (s.data.toList.drop k) = (j - k) + plainLen (s.data.toList.drop j)) ∧ wr.ownsRow W1.heap.size 5 1 v acc.length (Lib.byteCells acc) ∧ Below W1.heap.size W1 wr) (fun i _ _ => s.size - (intOf i).toNat)
            case atStart => exact ⟨k, [], by omega, by omega, rfl, by show _ = _; simp, by simp, by show plainLen _ = _; omega, World.ownsRow_nil _ _ _ _, Below.refl _ _⟩
            case round =>
              obtain ⟨j, acc, hkj, hjs, rfl, hacc, hal, hP, hrb, hBb⟩ := hrel
              have hp := hP.out
              rw [← drop_from s.data.toList hkj, D.out] at hp
              by_cases hjl : j < s.size
              · have hdj := drop_cons s hjl
                obtain ⟨d, hd1⟩ : ∃ d, s[j] = d := ⟨_, rfl⟩
                rw [hd1] at hdj
                have jj : (j : Int) < (s.size : Int) := by omega
                cases hpl : plainN d.toNat with
                | true =>
                  have hP2 : Hid (plainLen (s.data.toList.drop k) = (j + 1 - k) + plainLen (s.data.toList.drop (j + 1))) := by
                    show _ = _
                    rw [hP.out, hdj]
                    simp only [plainLen, hpl, if_true]
                    omega
                  have hacc2 : Hid (acc ++ [d] = (s.data.toList.drop k).take (j + 1 - k)) := by
                    show _ = _
                    rw [hacc.out, show j + 1 - k = (j - k) + 1 by omega, List.take_add_one, List.getElem?_drop, show k + (j - k) = j by omega]
                    have : s.data.toList[j]? = some d := by
                      have h9 : (s.data.toList.drop j)[0]? = some d := by rw [hdj]; rfl
                      rw [List.getElem?_drop, Nat.add_zero] at h9
                      exact h9
                    rw [this]
                    rfl
                  have E1 : Hid ([Value.int .u8 (d.toNat : Int)] = Lib.byteCells [d]) := by show _ = _; simp [Lib.byteCells]
                  clear hP hp hdj hacc
                  go_wp2_with (first | (go_at_call 83; refine (rplain_any _ _).mono ?_; rintro e w1 ⟨rfl, hw1⟩; obtain rfl := hw1.symm; rw [hpl]) | (at_builtin; refine wpList_append_own _ rfl _ _ 160 rfl W1.heap.size 5 i5 (.int .u8 0) 1 1 Tryz.underlying160 hi5 hy0 hy1 hy2 rfl (by decide) _ _ _ rfl (hrb.alloc _) ⟨wr.heap.size, 0, none⟩ 1 1 [.int .u8 (d.toNat : Int)] rfl rfl (cells_new _ #[_] _) (by simp [Value.oneCell']) (by unfold maxLen; omega) (by omega) (by have := hBb.size; simp; omega) ?_; intro v1 w1 hown1 hgrow1 _; have hr1 := row_any hown1 E1.out rfl rfl; have hB1 := Below.app hBb hBb.size hrb hgrow1))
                  go_roundw
                  case rel => exact ⟨j + 1, acc ++ [d], by omega, by omega, by go_num, hacc2, by simp; omega, hP2, hr1, hB1⟩
                  case measure => simp [intOf]; omega
                | false =>
                  cases hbd : blankN d.toNat with
                  | false =>
                    have F : Hid (R = .error j) := by
                      show _ = _
                      rw [← hX.out, D.out, plain_bad hbl h35 h34 (d := d) (t := s.data.toList.drop (j + 1)) (by rw [← D.out, drop_from _ hkj, hdj]) hp hpl hbd, Nat.add_sub_cancel' hkj]
                    clear hX D h34 h35 hP hp hdj hacc
                    go_wp2_with (first | (go_at_call 83; refine (rplain_any _ _).mono ?_; rintro e w1 ⟨rfl, hw1⟩; obtain rfl := hw1.symm; rw [hpl]) | (go_at_call 81; refine (rblank_any _ _).mono ?_; rintro e w1 ⟨rfl, hw1⟩; obtain rfl := hw1.symm; rw [hbd]))
                    go_ret3
                    refine ⟨?_, hB1w.trans (hBb.mono hs1w)⟩
                    rw [F.out]
                    exact ret_eq rfl
                  | true =>
                    have hne : k < j := by
                      rcases Nat.lt_or_ge k j with h | h
                      · exact h
                      · exfalso
                        have hjk : j = k := by omega
                        subst hjk
                        rw [D.out] at hdj
                        cases hdj
                        rw [hbl] at hbd
                        cases hbd
                    have hX2 : Hid (lineL (s.data.toList.drop j) j (out ++ [⟨acc, false, k⟩]) = R) := by
                      show _ = _
                      rw [hacc.out, ← hX.out, D.out, plain_end hbl h35 hp (by rw [← D.out, drop_from _ hkj, hdj]; exact hbd), ← D.out, drop_from _ hkj, Nat.add_sub_cancel' hkj]
                    clear hX D h34 h35 hP hp hdj hacc
                    have hcv := bytes_str_any hrb
                    have hblk2 := (hBb.block W0.heap.size hlt1).trans hblk1
                    have hrow2 := own_below hrow1 hBb
                    have hB2 := hB1w.trans (hBb.mono hs1w)
                    have hs2 := hB2.size
                    have f0 := blk_frozen hblk2 0
                    have g0 := blkC hblk2 0 rfl
                    have hrowS : (wr.setCell ⟨W0.heap.size, 0, none⟩ (.string ⟨acc.toArray⟩)).ownsRow w.heap.size 159 3 _ out.length (cellsW out) := ownsRow_setCell_other hrow2 (fun e => by have := (hrow.lt _ e).2; simp at this) _
                    have hblk3 := blk_set hblk2 0 (.string ⟨acc.toArray⟩)
                    have hBS := hB2.setCell (p := ⟨W0.heap.size, 0, none⟩) hsB (.string ⟨acc.toArray⟩)
                    have hsS := hBS.size
                    have d0 := blkC hblk3 0 rfl
                    have d1 := blkC hblk3 1 rfl
                    have d2 := blkC hblk3 2 rfl
                    have E3 : Hid ([Value.string ⟨acc.toArray⟩, .bool false, .int .i64 (k : Int)] = wv ⟨acc, false, k⟩) := rfl
                    generalize hWS : wr.setCell ⟨W0.heap.size, 0, none⟩ (.string ⟨acc.toArray⟩) = WS at *
                    go_wp2_with (first | (go_at_call 83; refine (rplain_any _ _).mono ?_; rintro e w1 ⟨rfl, hw1⟩; obtain rfl := hw1.symm; rw [hpl]) | (go_at_call 81; refine (rblank_any _ _).mono ?_; rintro e w1 ⟨rfl, hw1⟩; obtain rfl := hw1.symm; rw [hbd]) | (at_builtin; refine wpList_append_own _ rfl _ _ 115 rfl w.heap.size 159 i0 (.agg #[.string ⟨#[]⟩, .bool false, .int .i64 0]) 3 32 Tryz.underlying115 hi hz0 hz1 hz2 rfl (by decide) _ _ _ rfl (hrowS.alloc _) ⟨WS.heap.size, 0, none⟩ 1 1 [.string ⟨acc.toArray⟩, .bool false, .int .i64 (k : Int)] rfl rfl (cells_new _ #[_, _, _] _) (by simp [Value.oneCell']) (by unfold maxLen; omega) (by omega) (by simp; omega) ?_; intro u1 w3 hown3 hgrow3 _; rw [E3.out] at hown3; obtain ⟨g1, e1, hu1, hI3⟩ := row3 hown3; rw [hu1]; have hB3 := app3 hBS hsS hrowS hgrow3))
                    go_roundw
                    case rel => exact ⟨j, out ++ [⟨acc, false, k⟩], by omega, rfl, by simp; omega, hX2, by simpa using hI3, hB3⟩
                    case measure => simp [intOf]; omega
              · have jj : ¬ (j : Int) < (s.size : Int) := by omega
                have jd : decide ((j : Int) < (s.size : Int)) = false := by simpa using jj
                have hX2 : Hid (lineL (s.data.toList.drop j) j (out ++ [⟨acc, false, k⟩]) = R) := by
                  show _ = _
                  rw [hacc.out, ← hX.out, D.out, plain_end hbl h35 hp (by rw [← D.out, drop_from _ hkj, drop_end s (by omega)]; rfl), ← D.out, drop_from _ hkj, Nat.add_sub_cancel' hkj]
                clear hX D h34 h35 hP hp hacc
                have hcv := bytes_str_any hrb
                have hblk2 := (hBb.block W0.heap.size hlt1).trans hblk1
                have hrow2 := own_below hrow1 hBb
                have hB2 := hB1w.trans (hBb.mono hs1w)
                have hs2 := hB2.size
                have f0 := blk_frozen hblk2 0
                have g0 := blkC hblk2 0 rfl
                have hrowS : (wr.setCell ⟨W0.heap.size, 0, none⟩ (.string ⟨acc.toArray⟩)).ownsRow w.heap.size 159 3 _ out.length (cellsW out) := ownsRow_setCell_other hrow2 (fun e => by have := (hrow.lt _ e).2; simp at this) _
                have hblk3 := blk_set hblk2 0 (.string ⟨acc.toArray⟩)
                have hBS := hB2.setCell (p := ⟨W0.heap.size, 0, none⟩) hsB (.string ⟨acc.toArray⟩)
                have hsS := hBS.size
                have d0 := blkC hblk3 0 rfl
                have d1 := blkC hblk3 1 rfl
                have d2 := blkC hblk3 2 rfl
                have E3 : Hid ([Value.string ⟨acc.toArray⟩, .bool false, .int .i64 (k : Int)] = wv ⟨acc, false, k⟩) := rfl
                generalize hWS : wr.setCell ⟨W0.heap.size, 0, none⟩ (.string ⟨acc.toArray⟩) = WS at *
                go_wp2_with (at_builtin; refine wpList_append_own _ rfl _ _ 115 rfl w.heap.size 159 i0 (.agg #[.string ⟨#[]⟩, .bool false, .int .i64 0]) 3 32 Tryz.underlying115 hi hz0 hz1 hz2 rfl (by decide) _ _ _ rfl (hrowS.alloc _) ⟨WS.heap.size, 0, none⟩ 1 1 [.string ⟨acc.toArray⟩, .bool false, .int .i64 (k : Int)] rfl rfl (cells_new _ #[_, _, _] _) (by simp [Value.oneCell']) (by unfold maxLen; omega) (by omega) (by simp; omega) ?_; intro u1 w3 hown3 hgrow3 _; rw [E3.out] at hown3; obtain ⟨g1, e1, hu1, hI3⟩ := row3 hown3; rw [hu1]; have hB3 := app3 hBS hsS hrowS hgrow3)
                go_roundw
                case rel => exact ⟨j, out ++ [⟨acc, false, k⟩], by omega, rfl, by simp; omega, hX2, by simpa using hI3, hB3⟩
                case measure => simp [intOf]; omega
    · have F : Hid (R = .ok out) := by
        show _ = _
        rw [← hX.out, drop_end s (by omega), lineL_nil]
      clear hX
      go_wp2
      go_ret3
      refine ⟨?_, hB⟩
      rw [F.out]
      exact ⟨_, rfl, hrow⟩

end Go.Proofs.YtjblkgephboajaaGreatDoor.WordsBytes
