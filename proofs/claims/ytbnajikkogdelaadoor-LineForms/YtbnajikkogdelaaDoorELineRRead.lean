/-
  Texts that stand together: LineRRead.
-/
import Derived.Test.YtbnajikkogdelaaDoorELineRTerm
import Derived.Test.YtbnajikkogdelaaDoorELineText
namespace Go.Proofs.YtbnajikkogdelaaDoor.LineRead
open Go.RowKit Go.Proofs.YtbnajikkogdelaaDoor.GramMath Go.Proofs.YtbnajikkogdelaaDoor.GramRow Go.Proofs.YtbnajikkogdelaaDoor.GramOne Go.Proofs.YtbnajikkogdelaaDoor.GramCheck Go.Proofs.YtbnajikkogdelaaDoor.GramApart Go.Proofs.YtbnajikkogdelaaDoor.GramRef Go.Proofs.YtbnajikkogdelaaDoor.LineMath Go.Proofs.YtbnajikkogdelaaDoor.WordsCutM
set_option linter.unusedVariables false
set_option linter.unusedSimpArgs false

/-- What the document's reading answers: the place, the error. -/
def rzP : Rz → Int
  | .chk => -1
  | .long => -1
  | .err pl _ => (pl : Int)
  | .ok _ => -1
def rzK (g : G) : Rz → Int
  | .chk => ((checkG g).1 : Int)
  | .long => 12
  | .err _ k => (k : Int)
  | .ok _ => 0
def RxR (base : Nat) (R : Rz) (w' : World) (tv pv : Value) : Prop :=
  match R with
  | .ok st => Two w' base tv pv st.1 st.2 ∧ st.1.length ≤ 65536 ∧ st.2.length = st.1.length
  | _ => tv = .slice none 0 0 ∧ pv = .slice none 0 0

theorem ret_four {a a' b b' : Value} {x x' y y' : Int} (h1 : a = a') (h2 : b = b') (h3 : x = x') (h4 : y = y') : Ending.returned (.tuple #[a, b, .int .i64 x, .int .i64 y]) = .returned (.tuple #[a', b', .int .i64 x', .int .i64 y']) := by rw [h1, h2, h3, h4]

theorem own_lines {w : World} {base : Nat} {v : Value} {ls : List (List UInt8)} (h : w.ownsRow base 9 1 v ls.length (cellsL ls)) :
    ∃ a c, v = .slice a ls.length c ∧ ∀ (k : Nat) (x : List UInt8), ls[k]? = some x → ∃ g, a = some ⟨g, 0, none⟩ ∧ w.cell? ⟨g, k, none⟩ = some (.string ⟨x.toArray⟩) := by
  obtain ⟨a, c, rfl⟩ := own_sl h
  refine ⟨a, c, rfl, fun k x hx => ?_⟩
  have hk := (List.getElem?_eq_some_iff.1 hx).1
  obtain ⟨m, hm⟩ : ∃ m, ls.length = m + 1 := ⟨ls.length - 1, by omega⟩
  have h2 := h
  rw [hm] at h2
  obtain ⟨g, cap, hv⟩ := ownsRow_succ h2
  have ha : a = some ⟨g, 0, none⟩ := by
    have := hv
    rw [← hm] at this
    simpa using congrArg (fun v => match v with | .slice a _ _ => a | _ => none) this
  subst ha
  refine ⟨g, rfl, ?_⟩
  rw [h.cellAt k (by omega), cellsL, List.getElem?_map, hx]
  rfl

/-- A number appended to the first of two rows. -/
theorem two_append {W W' : World} {B g c : Nat} {tv pv : Value} {ts ps : List Int} {x : Int} (h : Two W B tv pv ts ps) (hB : B ≤ W.heap.size) (hown : W'.ownsRow B 3 1 (.slice (some ⟨g, 0, none⟩) (ts.length + 1) c) (ts.length + 1) (ts.map (Value.int .i64) ++ [.int .i64 x])) (hg : (W.alloc (.cells #[.int .i64 x] 3)).grownBy W' tv.ownBlock) (hat : tv.ownBlock = some g ∨ g = W.heap.size + 1) : Two W' B (.slice (some ⟨g, 0, none⟩) (ts.length + 1) c) pv (ts ++ [x]) ps ∧ Chg B B W W' := by
  have hb : Below W.heap.size W (W.alloc (.cells #[.int .i64 x] 3)) := (Below.refl _ _).alloc (Nat.le_refl _) _
  have h3 := h.below hb
  refine ⟨h3.push hown hg hat (fun j hj => by have := (h.plc.lt j hj).2; omega), (Chg.of_below hb hB).trans (.grown hg (fun j hj => (h.tok.lt j hj).1) (Nat.le_trans hB hb.size) (fun b t C h1 h2 => h2.not_own h1 h3.tok))⟩

set_option maxRecDepth 100000 in
set_option maxHeartbeats 8000000 in
theorem rread_any (ta na ra : Option Addr) (tc nc rc : Nat) (g : G) (s : ByteArray) (w : World) (hG : GRow w ta na ra g) (hg : okG g) :
    Calls Tryd.prog 11 #[.agg #[.slice ta g.ts.length tc, .slice na g.ns.length nc, .int .i64 g.ax, .slice ra g.rs.length rc], .string s] w fun e w' => (∃ tv pv, e = .returned (.tuple #[tv, pv, .int .i64 (rzP (readZ g s.data.toList)), .int .i64 (rzK g (readZ g s.data.toList))]) ∧ RxR w.heap.size (readZ g s.data.toList) w' tv pv) ∧ Below w.heap.size w w' := by
  obtain ⟨l, rfl⟩ : ∃ l : List UInt8, s = ⟨l.toArray⟩ := ⟨s.data.toList, (WordsLists_mk s).symm⟩
  rw [show (⟨l.toArray⟩ : ByteArray).data.toList = l from List.toList_toArray]
  have hsl : (⟨l.toArray⟩ : ByteArray).size = l.length := by simp [ByteArray.size]
  obtain ⟨i0, hi, hz0, hz1', hz2⟩ := info_parts infoI
  obtain ⟨W1, hW1⟩ : ∃ W1, W1 = w.alloc (.cells #[.slice ta g.ts.length tc, .slice na g.ns.length nc, .int .i64 g.ax, .slice ra g.rs.length rc] 25) := ⟨_, rfl⟩
  have hB1 : Below w.heap.size w W1 := by rw [hW1]; exact (Below.refl _ _).alloc (Nat.le_refl _) _
  have hz1 : W1.heap.size = w.heap.size + 1 := by rw [hW1]; simp
  have rG1 : RowAt W1 w.heap.size 25 #[.slice ta g.ts.length tc, .slice na g.ns.length nc, .int .i64 g.ax, .slice ra g.rs.length rc] := by rw [hW1]; exact heap_alloc_new w _
  have hck := rcheck_any ta na ra tc nc rc g W1 (hG.below hB1 (Nat.le_refl _)) hg
  rw [hW1] at hck
  go_enter Tryd.func11, Tryd.ntmps11
  go_wp2_with fail
  refine hck.mono ?_
  rw [← hW1]
  clear hck
  rintro e w2 ⟨rfl, hb2⟩
  have HB2 : Below w.heap.size w w2 := hB1.trans (hb2.mono (by omega))
  have rG2 := rG1.below hb2 (by omega)
  have hs2 : w.heap.size < w2.heap.size := by have := hb2.size; omega
  have hT2 := hG.1.below HB2 (Nat.le_refl _)
  clear hW1 rG1 hB1 hG hb2 hz1
  by_cases hc : (checkG g).1 = 0
  · have Hc : Hid ((checkG g).1 = 0) := hc
    rw [hc]
    clear hc
    by_cases hl : l.length ≤ 1048576
    · have hl2 : ¬ (1048576 : Int) < ((⟨l.toArray⟩ : ByteArray).size : Int) := by omega
      have hl3 : ¬ (1048576 : Int) < (l.length : Int) := by omega
      have hrl := WordsCutM.rlines_any ⟨l.toArray⟩ w2 (by omega)
      rw [show (⟨l.toArray⟩ : ByteArray).data.toList = l from List.toList_toArray] at hrl
      have h80 : (cutGo [] l).length ≤ 1048576 := by
        have h8 := cut_len l []
        simp only [List.length_nil, Nat.zero_add] at h8
        omega
      go_wp2_with fail
      refine hrl.mono ?_
      rintro e w3 ⟨v3, rfl, hrow3, hb3⟩
      obtain ⟨a3, c3, rfl, _⟩ := own_lines hrow3
      have rG3 := rG2.below hb3 (by omega)
      have HB3 : Below w.heap.size w w3 := HB2.trans (hb3.mono (by omega))
      have hT3 := hT2.below hb3 (Nat.le_refl _)
      have hs3 : w.heap.size < w3.heap.size := by have := hb3.size; omega
      obtain ⟨R0, hR0⟩ : ∃ R0, linesZ g (cutGo [] l) 0 ([], []) = R0 := ⟨_, rfl⟩
      have HR0 : Hid (_) := hR0
      have HL : Hid (l.length ≤ 1048576) := hl
      clear hrl hR0 hb3 HB2 hT2 rG2 hs2 hl hl2 hl3 hsl
      go_wp2
      go_loopw [10, 11, 13, 14] (fun tv pv s13 i wr => ∃ (k start : Nat) (st : TP), k ≤ (cutGo [] l).length ∧ i = .int .i64 k ∧ s13 = .int .i64 start ∧ start ≤ k * 1048577 ∧ Hid (linesZ g ((cutGo [] l).drop k) start st = R0) ∧ Two wr w3.heap.size tv pv st.1 st.2 ∧ Chg w3.heap.size w3.heap.size w3 wr ∧ st.1.length ≤ 65536 ∧ Hid (st.2.length = st.1.length)) (fun _ _ _ i _ => (cutGo [] l).length - (intOf i).toNat)
      case atStart => exact ⟨0, 0, ([], []), by omega, rfl, rfl, by omega, HR0.out, Two.nil _ _, Chg.refl _ _ _, by simp, rfl⟩
      case round =>
        obtain ⟨k, start, st, hk, rfl, rfl, hst, hX, hTw, hC, hln, hpn⟩ := hrel
        have hBw : Below w.heap.size w wr := HB3.trans (hC.below (by omega) (by omega))
        have hszr := hC.size
        by_cases hlt : k < (cutGo [] l).length
        · obtain ⟨x, hx⟩ : ∃ x, (cutGo [] l)[k]? = some x := ⟨(cutGo [] l)[k], List.getElem?_eq_getElem hlt⟩
          have hxl := cut_each l [] x (List.mem_of_getElem? hx)
          simp only [List.length_nil, Nat.zero_add] at hxl
          have hxl2 : x.length ≤ 1048576 := Nat.le_trans hxl HL.out
          have hst2 : start ≤ 1099512676352 := Nat.le_trans hst (Nat.le_trans (Nat.mul_le_mul_right _ (show k ≤ 1048576 by omega)) (by decide))
          have hst3 : start + x.length + 1 ≤ (k + 1) * 1048577 := by rw [Nat.succ_mul]; omega
          have hdr : (cutGo [] l).drop k = x :: (cutGo [] l).drop (k + 1) := by
            obtain ⟨hk', e⟩ := List.getElem?_eq_some_iff.1 hx
            rw [← e]
            exact List.drop_eq_getElem_cons hk'
          obtain ⟨a', c', he', hcells⟩ := own_lines (own_typed hrow3 (by decide) (by decide) hC)
          obtain ⟨rfl, rfl⟩ : a3 = a' ∧ c3 = c' := by simpa using he'
          obtain ⟨gl, rfl, hcl⟩ := hcells k x hx
          have hlt2 : (k : Int) < ((cutGo [] l).length : Int) := by omega
          have hsx : (⟨x.toArray⟩ : ByteArray).size = x.length := by simp [ByteArray.size]
          have Hx : Hid ((cutGo [] l)[k]? = some x) := hx
          clear hx he' hcells
          cases hR : WordsMath.lineL x 0 [] with
          | error q =>
            have hq := (WordsMath.lineL_err _ _ _ _ _ (Nat.le_refl _) hR).2
            have hln' := WordsBytes.rline_any ⟨x.toArray⟩ (.error q) wr (by omega) (show _ = _ by rw [show (⟨x.toArray⟩ : ByteArray).data.toList = x from List.toList_toArray]; exact hR)
            have F : Hid (R0 = .error (start + q, 2)) := by
              show _ = _
              rw [← hX.out, hdr, lines_bad (line_bad hR)]
            have E : Hid (readZ g l = .err (start + q) 2) := read_err Hc.out HL.out (HR0.out.trans F.out)
            clear hR hX hdr
            go_wp2_with fail
            refine hln'.mono ?_
            rintro e w4 ⟨he, hb4⟩
            change e = .returned (.tuple #[.slice none 0 0, .int .i64 (q : Int), .int .i64 2]) at he
            subst he
            have hBF := hBw.trans (hb4.mono hBw.size)
            have hq2 : (q : Int) ≤ 1048576 := by omega
            have hs4 : (start : Int) ≤ 1099512676352 := by omega
            clear hln'
            go_wp2
            refine bodyPost_ret (v := .tuple #[.slice none 0 0, .slice none 0 0, .int .i64 ((start : Int) + (q : Int)), .int .i64 2]) (by simp [results, Tryd.results11, go_sem]) rfl ?_
            rw [E.out]
            exact ⟨⟨_, _, ret_four rfl rfl (by show _ = ((start + q : Nat) : Int); omega) rfl, rfl, rfl⟩, hBF⟩
          | ok ws =>
            have hln' := WordsBytes.rline_any ⟨x.toArray⟩ (.ok ws) wr (by omega) (show _ = _ by rw [show (⟨x.toArray⟩ : ByteArray).data.toList = x from List.toList_toArray]; exact hR)
            obtain ⟨more, hm, hpw, hpl⟩ := WordsMath.lineL_ok _ _ _ _ _ (Nat.le_refl _) hR
            rw [List.nil_append] at hm
            subst hm
            have hwl2 : ws.length ≤ 1048576 := by
              have := WordsMath.rise_len ws 0 _ hpw hpl
              omega
            have hpl2 : Hid (∀ x ∈ ws, x.place ≤ 1048576) := fun y hy => by have := hpl y hy; omega
            obtain ⟨L0, hL0⟩ : ∃ L0, wordsZ g start ws st = L0 := ⟨_, rfl⟩
            have hXl : lineZ g start x st = L0 := (line_ok hR).trans hL0
            have HX1 : Hid (∀ pl kk, L0 = .error (pl, kk) → R0 = .error (start + pl, kk)) := fun pl kk h => by
              rw [← hX.out, hdr, lines_bad (by rw [hXl, h])]
            have HX2 : Hid (∀ st', L0 = .ok st' → linesZ g ((cutGo [] l).drop (k + 1)) (start + x.length + 1) st' = R0) := fun st' h => by
              rw [← hX.out, hdr, lines_ok (by rw [hXl, h])]
            have HL0 : Hid (wordsZ g start (ws.drop 0) st = L0) := hL0
            clear hR hpw hpl hL0 hXl hX hdr
            go_wp2_with fail
            refine hln'.mono ?_
            rintro e w5 ⟨⟨v5, he, hrow5⟩, hb5⟩
            subst he
            have hTw5 := hTw.below hb5
            have hC5 := hC.trans (.of_below hb5 hC.size)
            obtain ⟨a5, c5, rfl, _⟩ := WordsBytes.own_shape hrow5
            have hcl5 := (hb5.cell (cell_lt hcl)).trans hcl
            have hlb : gl < wr.heap.size := cell_lt hcl
            clear hln' hTw hC hb5 hBw hcl hszr
            go_wp2
            go_loopw [10, 11, 18] (fun tv pv i W => ∃ (j : Nat) (st' : TP), j ≤ ws.length ∧ i = .int .i64 j ∧ Hid (wordsZ g start (ws.drop j) st' = L0) ∧ Two W w3.heap.size tv pv st'.1 st'.2 ∧ Chg w3.heap.size w3.heap.size w5 W ∧ st'.1.length ≤ 65536 ∧ Hid (st'.2.length = st'.1.length)) (fun _ _ i _ => ws.length - (intOf i).toNat)
            case atStart => exact ⟨0, st, by omega, rfl, HL0, hTw5, Chg.refl _ _ _, hln, hpn⟩
            case round =>
              clear hTw5 hln hpn HL0
              obtain ⟨j, st', hj, rfl, hY, hTw, hCj, hln, hpn⟩ := hrel
              have hCw := hC5.trans hCj
              have hBw : Below w.heap.size w wr := HB3.trans (hCw.below (by omega) (by omega))
              have hszr := hCw.size
              obtain ⟨ta5, tc5, rfl⟩ := own_sl hTw.tok
              obtain ⟨pa5, pc5, rfl⟩ := own_sl hTw.plc
              by_cases hjl : j < ws.length
              · obtain ⟨y, hy⟩ : ∃ y, ws[j]? = some y := ⟨ws[j], List.getElem?_eq_getElem hjl⟩
                have hyp := hpl2.out y (List.mem_of_getElem? hy)
                obtain ⟨wb, wo, rfl, k1, k2, k3⟩ := WordsBytes.own_wrow (own_typed hrow5 (by decide) (by decide) hCj) j y hy
                have hjl2 : (j : Int) < (ws.length : Int) := by omega
                have hdr : ws.drop j = y :: ws.drop (j + 1) := by
                  obtain ⟨hk', e⟩ := List.getElem?_eq_some_iff.1 hy
                  rw [← e]
                  exact List.drop_eq_getElem_cons hk'
                have Hy : Hid (ws[j]? = some y) := hy
                have hyp2 : (y.place : Int) ≤ 1048576 := by omega
                have hst4 : (start : Int) ≤ 1099512676352 := by omega
                clear hy
                by_cases hlong : 65536 ≤ st'.1.length
                · have F := HX1.out y.place 12 (by rw [← hY.out, hdr, words_bad (take_long y hlong)])
                  have E : Hid (readZ g l = .err (start + y.place) 12) := read_err Hc.out HL.out (HR0.out.trans F)
                  have hle : (65536 : Int) ≤ (st'.1.length : Int) := by omega
                  clear F hY hdr
                  go_wp2
                  go_quiet (fail)
                  go_wp2
                  refine bodyPost_ret (v := .tuple #[.slice none 0 0, .slice none 0 0, .int .i64 ((start : Int) + (y.place : Int)), .int .i64 12]) (by simp [results, Tryd.results11, go_sem]) rfl ?_
                  rw [E.out]
                  exact ⟨⟨_, _, ret_four rfl rfl (by show _ = ((start + y.place : Nat) : Int); omega) rfl, rfl, rfl⟩, bdrew hBw _⟩
                · have hle : ¬ (65536 : Int) ≤ (st'.1.length : Int) := by omega
                  have rGr : RowAt wr w.heap.size 25 #[.slice ta g.ts.length tc, .slice na g.ns.length nc, .int .i64 g.ax, .slice ra g.rs.length rc] := (hCw.block _ (by omega) (by omega)).trans rG3
                  have hTr := hT3.below (B := w3.heap.size) (hCw.below (B := w3.heap.size) (Nat.le_refl _) (Nat.le_refl _)) (Nat.le_refl _)
                  have hBd := drew_below (B := wr.heap.size) wr 1
                  have hnm := rnum_any ta na ra tc nc rc g ⟨y.text.toArray⟩ wr.drew (hTr.below hBd (Nat.le_refl _)) hg.1
                  have HG : Hid (∀ W, Below wr.heap.size wr W → RowAt W w.heap.size 25 #[.slice ta g.ts.length tc, .slice na g.ns.length nc, .int .i64 g.ax, .slice ra g.rs.length rc] ∧ W.cell? ⟨wb, wo + j * 3, none⟩ = some (.string ⟨y.text.toArray⟩)) := fun W h => ⟨rGr.below h rGr.lt, (h.cell (cell_lt k1)).trans k1⟩
                  have k3w : Hid (wr.cell? ⟨wb, wo + j * 3 + 2, none⟩ = some (.int .i64 (y.place : Int))) := k3
                  have hwbl : wb < wr.heap.size := cell_lt k1
                  clear k2 rGr
                  go_wp2
                  refine wp_region_noPanic ?_
                  refine wp_region_held_drew (S := (fun W => RowAt W w.heap.size 25 #[.slice ta g.ts.length tc, .slice na g.ns.length nc, .int .i64 g.ax, .slice ra g.rs.length rc] ∧ W.cell? ⟨wb, wo + j * 3, none⟩ = some (.string ⟨y.text.toArray⟩))) (by kernel_rfl) (HG.out _ hBd) (fun hHeld => ?_)
                  refine wpAnyH_take (i := 0) (v := .agg #[.slice ta g.ts.length tc, .slice na g.ns.length nc, .int .i64 g.ax, .slice ra g.rs.length rc]) rfl (by kernel_rfl) (by kernel_rfl) (by kernel_rfl) (fun _ _ _ h => h) (Or.inl ⟨by rfl, fun w9 hSw => ?_⟩) hHeld ?_
                  · obtain ⟨s0, s1⟩ := hSw
                    go_simp
                    (have q0 := s0.cell (q := 0) rfl; have q1 := s0.cell (q := 1) rfl; have q2 := s0.cell (q := 2) rfl; have q3 := s0.cell (q := 3) rfl; go_simp)
                  simp only [List.getElem_toArray, List.getElem_cons_zero, List.getElem_cons_succ, Act.put, List.setIfInBounds_toArray, List.set_cons_zero, List.set_cons_succ]
                  refine wpAnyH_take (i := 1) (v := .slice (some ⟨wb, wo, none⟩) ws.length c5) rfl (by kernel_rfl) (by kernel_rfl) (by kernel_rfl) (fun _ _ _ h => h) (Or.inl ⟨by rfl, fun w9 hSw => ?_⟩) hHeld ?_
                  · obtain ⟨s0, s1⟩ := hSw
                    go_simp
                  simp only [List.getElem_toArray, List.getElem_cons_zero, List.getElem_cons_succ, Act.put, List.setIfInBounds_toArray, List.set_cons_zero, List.set_cons_succ]
                  refine wpAnyH_take (i := 2) (v := .int .i64 (j : Int)) rfl (by kernel_rfl) (by kernel_rfl) (by kernel_rfl) (fun _ _ _ h => h) (Or.inl ⟨by rfl, fun w9 hSw => ?_⟩) hHeld ?_
                  · obtain ⟨s0, s1⟩ := hSw
                    go_simp
                  simp only [List.getElem_toArray, List.getElem_cons_zero, List.getElem_cons_succ, Act.put, List.setIfInBounds_toArray, List.set_cons_zero, List.set_cons_succ]
                  refine wpAnyH_take (i := 3) (v := .pointer (some ⟨wb, wo + j * 3, none⟩)) rfl (by kernel_rfl) (by kernel_rfl) (by kernel_rfl) (fun _ _ _ h => h) (Or.inl ⟨by rfl, fun w9 hSw => ?_⟩) hHeld ?_
                  · obtain ⟨s0, s1⟩ := hSw
                    go_simp
                  simp only [List.getElem_toArray, List.getElem_cons_zero, List.getElem_cons_succ, Act.put, List.setIfInBounds_toArray, List.set_cons_zero, List.set_cons_succ]
                  refine wpAnyH_take (i := 4) (v := .pointer (some ⟨wb, wo + j * 3, none⟩)) rfl (by kernel_rfl) (by kernel_rfl) (by kernel_rfl) (fun _ _ _ h => h) (Or.inl ⟨by rfl, fun w9 hSw => ?_⟩) hHeld ?_
                  · obtain ⟨s0, s1⟩ := hSw
                    go_simp
                  simp only [List.getElem_toArray, List.getElem_cons_zero, List.getElem_cons_succ, Act.put, List.setIfInBounds_toArray, List.set_cons_zero, List.set_cons_succ]
                  refine wpAnyH_take (i := 5) (v := .string ⟨y.text.toArray⟩) rfl (by kernel_rfl) (by kernel_rfl) (by kernel_rfl) (fun _ _ _ h => h) (Or.inl ⟨by rfl, fun w9 hSw => ?_⟩) hHeld ?_
                  · obtain ⟨s0, s1⟩ := hSw
                    go_simp
                  simp only [List.getElem_toArray, List.getElem_cons_zero, List.getElem_cons_succ, Act.put, List.setIfInBounds_toArray, List.set_cons_zero, List.set_cons_succ]
                  refine wpAnyH_ready (rs := [6]) (by kernel_rfl) (by simp) ?_
                  refine AllReadyH.cons rfl (fun K hK => ?_) AllReadyH.nil
                  go_simp
                  refine hnm.mono ?_
                  rintro e w6 ⟨rfl, hb6⟩
                  have hb6' : Below wr.heap.size wr w6 := hBd.trans hb6
                  refine hK.out _ _ (HG.out _ hb6') (fun hHeld => ?_)
                  clear hK K
                  refine wpAnyH_ready (rs := [7]) (by kernel_rfl) (by simp) ?_
                  refine AllReadyH.cons rfl (fun K hK => ?_) AllReadyH.nil
                  go_simp
                  refine hK.out _ _ ((HG.out _ hb6')) (fun hHeld => ?_)
                  clear hK K
                  refine wpAnyH_done (by kernel_rfl) (NoPanic.normal ?_) _
                  have hTw6 := hTw.below hb6'
                  have hCw6 : Chg w3.heap.size w3.heap.size w5 w6 := hCj.trans (.of_below hb6' hszr)
                  have hBw6 := hBw.trans (hb6'.mono hBw.size)
                  have hsz6 := hb6'.size
                  have hk3 : w6.cell? ⟨wb, wo + j * 3 + 2, none⟩ = some (.int .i64 (y.place : Int)) := (hb6'.cell (p := ⟨wb, wo + j * 3 + 2, none⟩) hwbl).trans k3w.out
                  clear hnm HG hb6 hBd k1 k3 hTw hCj hCw
                  have hnum : idx g.ts ⟨y.text.toArray⟩ = num g y := rfl
                  rw [hnum]
                  clear hnum
                  by_cases hneg : num g y < 0
                  · have F := HX1.out y.place 10 (by rw [← hY.out, hdr, words_bad (take_name (by omega) hneg)])
                    have E : Hid (readZ g l = .err (start + y.place) 10) := read_err Hc.out HL.out (HR0.out.trans F)
                    clear F hY hdr
                    go_wp2
                    go_quiet (fail)
                    go_wp2
                    refine bodyPost_ret (v := .tuple #[.slice none 0 0, .slice none 0 0, .int .i64 ((start : Int) + (y.place : Int)), .int .i64 10]) (by simp [results, Tryd.results11, go_sem]) rfl ?_
                    rw [E.out]
                    exact ⟨⟨_, _, ret_four rfl rfl (by show _ = ((start + y.place : Nat) : Int); omega) rfl, rfl, rfl⟩, bdrew hBw6 _⟩
                  · have hlt65 : st'.1.length < 65536 := by omega
                    have hY2 : Hid (wordsZ g start (ws.drop (j + 1)) (st'.1 ++ [num g y], st'.2 ++ [(start : Int) + (y.place : Int)]) = L0) := by
                      show _ = _
                      rw [← hY.out, hdr, words_ok (take_ok hlt65 hneg), show ((start + y.place : Nat) : Int) = (start : Int) + (y.place : Int) by omega]
                    have hpl6 : st'.2.length ≤ 65536 := by have := hpn.out; omega
                    have HPN : Hid ((st'.2 ++ [(start : Int) + (y.place : Int)]).length = (st'.1 ++ [num g y]).length) := by
                      show _ = _
                      have := hpn.out
                      simp
                      omega
                    generalize num g y = N at *
                    have hwords : Hid (∀ W, Chg w3.heap.size w3.heap.size w5 W → W.cell? ⟨wb, wo + j * 3 + 2, none⟩ = some (.int .i64 (y.place : Int))) := fun W hW => by
                      obtain ⟨b', o', e', _, _, z3⟩ := WordsBytes.own_wrow (own_typed hrow5 (by decide) (by decide) hW) j y Hy.out
                      obtain ⟨rfl, rfl⟩ : wb = b' ∧ wo = o' := by simpa using e'
                      exact z3
                    have hbB : w3.heap.size ≤ w6.heap.size := by omega
                    have htok := hTw6.tok
                    clear hY hdr hpn hk3
                    go_wp2_with (first
                      | (at_builtin; refine wpList_append_lies _ rfl _ _ 27 rfl w3.heap.size 3 i0 (.int .i64 0) 1 8 Tryd.underlying27 hi hz0 hz1' hz2 rfl (by decide) (.slice ta5 st'.1.length tc5) st'.1.length (st'.1.map (Value.int .i64)) rfl (htok.alloc _) ⟨w6.heap.size, 0, none⟩ 1 1 [.int .i64 N] rfl rfl (cell_one_new _ _ _) (by simp [Value.oneCell']) (by omega) (by unfold maxLen; omega) (by omega) (by simp; omega) (w6.heap.size + 1) (by simp) ?_; intro g7 c7 w7 hown7 hgrow7 hat7 hlt7; obtain ⟨hTw7, hC7'⟩ := two_append hTw6 hbB hown7 hgrow7 hat7; have hC7 := hCw6.trans hC7'; have q7 := hwords.out _ hC7; have hb7 : w3.heap.size ≤ w7.heap.size := Nat.le_trans hbB hC7'.size; have hplc7 := hTw7.plc; clear hown7 hgrow7 hat7 hlt7)
                      | (at_builtin; refine wpList_append_lies _ rfl _ _ 27 rfl w3.heap.size 3 i0 (.int .i64 0) 1 8 Tryd.underlying27 hi hz0 hz1' hz2 rfl (by decide) (.slice pa5 st'.2.length pc5) st'.2.length (st'.2.map (Value.int .i64)) rfl (hplc7.alloc _) ⟨w7.heap.size, 0, none⟩ 1 1 [.int .i64 ((start : Int) + (y.place : Int))] rfl rfl (cell_one_new _ _ _) (by simp [Value.oneCell']) (by omega) (by unfold maxLen; omega) (by omega) (by simp; omega) (w7.heap.size + 1) (by simp) ?_; intro g8 c8 w8 hown8 hgrow8 hat8 hlt8; obtain ⟨hTw8, hC8'⟩ := two_append hTw7.swap hb7 hown8 hgrow8 hat8; have hC8 := hC7.trans hC8'; have hTw9 := hTw8.swap; clear hown8 hgrow8 hat8 hlt8))
                    go_roundw
                    case rel => exact ⟨j + 1, (st'.1 ++ [N], st'.2 ++ [(start : Int) + (y.place : Int)]), by omega, by go_num, hY2, hTw9, hC8, by simp; omega, HPN⟩
                    case measure => simp [intOf]; omega
              · have F : Hid (L0 = .ok st') := by
                  show _ = _
                  rw [← hY.out, List.drop_of_length_le (by omega)]
                  rfl
                have hX3 := HX2.out st' F.out
                have HX3 : Hid (_) := hX3
                have hcl6 : wr.cell? ⟨gl, k, none⟩ = some (.string ⟨x.toArray⟩) := by
                  obtain ⟨a', c', he', hcells⟩ := own_lines (own_typed hrow3 (by decide) (by decide) hCw)
                  obtain ⟨rfl, rfl⟩ : some ⟨gl, 0, none⟩ = a' ∧ c3 = c' := by simpa using he'
                  obtain ⟨g', e1, e2⟩ := hcells k x Hx.out
                  obtain rfl : gl = g' := by simpa using e1
                  exact e2
                have hsum : ((start + x.length + 1 : Nat) : Int) = (start : Int) + (x.length : Int) + 1 := by omega
                have hb1 : (start : Int) ≤ 1099512676352 := by omega
                have hb2 : (x.length : Int) ≤ 1048576 := by omega
                clear hX3 hY hBw
                go_wp2
                go_roundw
                case rel => exact ⟨k + 1, start + x.length + 1, st', by omega, by go_num, by rw [hsum], hst3, HX3, hTw, hCw, hln, hpn⟩
                case measure => simp [intOf]; omega
        · have F : Hid (R0 = .ok st) := by
            show _ = _
            rw [← hX.out, List.drop_of_length_le (by omega)]
            rfl
          have E : Hid (readZ g l = .ok st) := read_ok Hc.out HL.out (HR0.out.trans F.out)
          have hTwF := hTw.weak (B := w.heap.size) (by omega)
          clear hX hTw hC
          go_wp2
          refine bodyPost_ret (v := .tuple #[u10, u11, .int .i64 (-1), .int .i64 0]) (by simp [results, Tryd.results11, go_sem]) rfl ?_
          rw [E.out]
          exact ⟨⟨_, _, rfl, hTwF, hln, hpn.out⟩, hBw⟩
    · obtain e1 := read_long (g := g) (t := l) Hc.out (by omega)
      have E1 : Hid (_) := e1
      have hl2 : (1048576 : Int) < ((⟨l.toArray⟩ : ByteArray).size : Int) := by omega
      have hl3 : (1048576 : Int) < (l.length : Int) := by omega
      clear e1
      go_wp2
      refine bodyPost_ret (v := .tuple #[.slice none 0 0, .slice none 0 0, .int .i64 (-1), .int .i64 12]) (by simp [results, Tryd.results11, go_sem]) rfl ?_
      rw [E1.out]
      exact ⟨⟨_, _, rfl, rfl, rfl⟩, HB2⟩
  · have e1 := read_chk (t := l) hc
    have E1 : Hid (_) := e1
    obtain ⟨K, hK⟩ : ∃ K, (checkG g).1 = K := ⟨_, rfl⟩
    have HK : Hid (_) := hK
    rw [hK] at hc ⊢
    have hd : ((K : Int) != 0) = true := by simp; omega
    clear hK e1 hc
    go_wp2
    refine bodyPost_ret (v := .tuple #[.slice none 0 0, .slice none 0 0, .int .i64 (-1), .int .i64 (K : Int)]) (by simp [results, Tryd.results11, go_sem]) rfl ?_
    rw [E1.out]
    exact ⟨⟨_, _, by show _ = Ending.returned (.tuple #[_, _, .int .i64 (-1), .int .i64 ((checkG g).1 : Int)]); rw [HK.out], rfl, rfl⟩, HB2⟩

end Go.Proofs.YtbnajikkogdelaaDoor.LineRead
