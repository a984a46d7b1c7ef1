/-
  Texts that stand together: SpecRf4.
-/
import Derived.Test.YtjblkgephboajaaGreatDoorBagSpecRf1
namespace Go.Proofs.YtjblkgephboajaaGreatDoor.SpecRf
open Go.RowKit Go.Maps GramLess GramApart WordsMath WordsOne WordsBytes SpecLn SpecTx GramRow SpecMem SpecFn LineMath
set_option linter.unusedVariables false
set_option linter.unusedSimpArgs false

theorem infoSd : (Tryz.prog.info? 91).map (fun i => (i.zero, i.size, i.bytes)) = some (some (.agg #[.string ⟨#[]⟩, .slice none 0 0, .int .i64 0]), 3, 48) := by kernel_rfl
theorem infoNm : (Tryz.prog.info? 125).map (fun i => (i.zero, i.size, i.bytes)) = some (some (.agg #[.string ⟨#[]⟩, .bool false]), 2, 24) := by kernel_rfl
/-- What line answers. -/
def LnR (B : Nat) (R : Except Nat (List Sd × List UInt8)) (e : Ending) (w' : World) : Prop :=
  match R with
  | .error p => e = .returned (.tuple #[.slice none 0 0, .int .i64 (p : Int)])
  | .ok o => ∃ v qs, e = .returned (.tuple #[v, .int .i64 (-1)]) ∧ SdsAt w' B v qs ∧ qs.map (·.s) = o.1
theorem go_bar {L : List UInt8} {x : Wd} {r : List Wd} {out : List Sd} (h : mk x 124 = true) : docGo L (x :: r) out = docGo L r (out ++ [⟨L, [], x.place + 1⟩]) := by
  conv => lhs; unfold docGo
  rw [if_pos h]
theorem go_nm {L : List UInt8} {x : Wd} {r : List Wd} {out : List Sd} (h : mk x 124 = false) (h2 : nameB x = true) : docGo L (x :: r) out = docGo L r (push 0 out x) := by
  conv => lhs; unfold docGo
  rw [if_neg (by rw [h]; decide), if_pos h2]
theorem go_bad {L : List UInt8} {x : Wd} {r : List Wd} {out : List Sd} (h : mk x 124 = false) (h2 : nameB x = false) : docGo L (x :: r) out = .error x.place := by
  conv => lhs; unfold docGo
  rw [if_neg (by rw [h]; decide), if_neg (by rw [h2]; decide)]
theorem push_last (dn : List Sd) (s : Sd) (x : Wd) : push 0 (dn ++ [s]) x = dn ++ [⟨s.left, s.names ++ [x], if s.names = [] then 0 + x.place else s.at_⟩] := by
  unfold push
  rw [List.getLast?_append]
  simp

set_option maxRecDepth 100000 in
set_option maxHeartbeats 32000000 in
theorem rside_any (ws : List Wd) (a : Option Addr) (c : Nat) (left : List UInt8) (stop : Nat) (w : World) (hW : WRow w a ws) (hne : 0 < ws.length) (hl : ws.length ≤ 1048576) (hst : stop ≤ 1048576) (hx : ∀ x ∈ ws, x.text.length ≤ 2097152 ∧ x.place ≤ 1048576) :
    Calls Tryz.prog 52 #[.slice a ws.length c, .string ⟨left.toArray⟩, .int .i64 (stop : Int)] w fun e w' => LnR w.heap.size (docLine ws left stop) e w' ∧ Below w.heap.size w w' := by
  obtain ⟨i0, hi, hz0, hz1, hz2⟩ := info_parts infoSd
  obtain ⟨i1, hi1, hz3, hz4, hz5⟩ := info_parts infoNm
  obtain ⟨x0, hx0⟩ : ∃ x, ws[0]? = some x := ⟨_, List.getElem?_eq_getElem hne⟩
  obtain ⟨b, off, rfl, c0, c1, c2⟩ := hW 0 x0 hx0
  have HWC : Hid (∀ W, Below w.heap.size w W → ∀ (i : Nat) (x : Wd), ws[i]? = some x → W.cell? ⟨b, off + i * 3, none⟩ = some (.string ⟨x.text.toArray⟩) ∧ W.cell? ⟨b, off + i * 3 + 1, none⟩ = some (.bool x.quoted) ∧ W.cell? ⟨b, off + i * 3 + 2, none⟩ = some (.int .i64 (x.place : Int))) := by
    intro W hB i x hxi
    obtain ⟨b', off', e, d0, d1, d2⟩ := hW i x hxi
    cases e
    exact ⟨(hB.cell (GramRow.cell_lt d0)).trans d0, (hB.cell (GramRow.cell_lt d1)).trans d1, (hB.cell (GramRow.cell_lt d2)).trans d2⟩
  have HX : Hid (∀ x ∈ ws, x.text.length ≤ 2097152 ∧ x.place ≤ 1048576) := hx
  have hws : ws = x0 :: ws.drop 1 := by
    obtain ⟨hk', e⟩ := List.getElem?_eq_some_iff.1 hx0
    have := List.drop_eq_getElem_cons hk'
    rw [List.drop_zero, e] at this
    exact this
  have HWS : Hid (ws = x0 :: ws.drop 1) := hws
  have hx00 := hx x0 (List.mem_of_getElem? hx0)
  rw [Nat.zero_mul, Nat.add_zero] at c0 c1 c2
  have hne2 : (0 : Int) < (ws.length : Int) := by omega
  have HBW : Hid (b < w.heap.size) := GramRow.cell_lt c0
  have hm0 := mark_any x0 124 w
  have HX0 : Hid (ws[0]? = some x0) := hx0
  clear hW hx hws hx0
  unfold wdV at hm0
  go_enter Tryz.func52, Tryz.ntmps52
  go_wp2_with fail
  refine hm0.mono ?_
  rintro e w1 ⟨rfl, hb1⟩
  clear hm0 c0 c1 c2
  cases h124 : mk x0 124 with
  | true =>
    by_cases hl0 : left = []
    · have HD : Hid (docLine ws left stop = .error x0.place) := by
        show _ = _
        rw [HWS.out]
        unfold docLine
        simp only
        rw [if_pos h124, if_pos hl0]
      have hie : left.isEmpty = true := by rw [hl0]; rfl
      obtain ⟨c0, c1, c2⟩ := HWC.out w1 hb1 0 x0 HX0.out
      rw [Nat.zero_mul, Nat.add_zero] at c0 c1 c2
      clear h124 hl0 HWS
      go_wp2
      go_quiet (fail)
      go_wp2
      refine bodyPost_ret (v := .tuple #[.slice none 0 0, .int .i64 (x0.place : Int)]) (by simp [results, Tryz.results52, go_sem]) rfl ⟨?_, bdrew hb1 _⟩
      rw [HD.out]
      rfl
    · obtain ⟨RR, hRR⟩ : ∃ RR, RR = docGo left (x0 :: ws.drop 1) [] := ⟨_, rfl⟩
      have HD : Hid (docLine ws left stop = RR.map (·, left)) := by
        show _ = _
        rw [HWS.out, hRR]
        unfold docLine
        simp only
        rw [if_pos h124, if_neg hl0, ← HWS.out]
      have hR1 : RR = docGo left (ws.drop (0 + 1)) [⟨left, [], x0.place + 1⟩] := by rw [hRR, go_bar h124]; rfl
      have HR1 : Hid (_) := hR1
      have hie : left.isEmpty = false := by cases left with | nil => exact absurd rfl hl0 | cons c r => rfl
      clear h124 hl0 hRR hR1
      go_wp2
      go_loopw [8, 9] (fun ov iv W => ∃ (k : Nat) (v : Value) (qs : List Sq), k ≤ ws.length ∧ iv = .int .i64 k ∧ ov = v ∧ qs.length ≤ k ∧ SdsAt W w.heap.size v qs ∧ Hid ((qs = [] ∧ k ≤ 1 ∧ 0 ≤ k ∧ ∃ x, ws[k]? = some x ∧ RR = docGo (left) (ws.drop (k + 1)) [⟨left, [], x.place + 1⟩]) ∨ (qs ≠ [] ∧ 1 ≤ k ∧ RR = docGo (left) (ws.drop k) (qs.map (·.s)))) ∧ Hid (∀ q ∈ qs, q.s.names.length ≤ k) ∧ Below w.heap.size w W) (fun _ iv _ => ws.length - (intOf iv).toNat)
      case atStart => exact ⟨0, .slice none 0 0, [], Nat.zero_le _, rfl, rfl, Nat.zero_le _, SdsAt.nil _ _, Or.inl ⟨rfl, by omega, by omega, x0, HX0.out, HR1.out⟩, (fun q hq => by cases hq), hb1⟩
      case round =>
        obtain ⟨k, v, qs, hk, rfl, hve, hqk, hSd, HF, HN, hB⟩ := hrel
        obtain ⟨V, rfl⟩ : ∃ V, V = wr := ⟨_, rfl⟩
        have hsB := hB.size
        obtain ⟨va, vc, hv⟩ : ∃ va vc, v = .slice va qs.length vc := by
          obtain ⟨_, ⟨e1, e2⟩ | ⟨g, cap, cur, e1, _⟩⟩ := hSd.row
          · exact ⟨none, 0, by rw [e1, e2]⟩
          · exact ⟨_, _, e1⟩
        subst hv
        subst hve
        by_cases hlt : k < ws.length
        · have hlt2 : (k : Int) < (ws.length : Int) := by omega
          obtain ⟨x, hxk⟩ : ∃ x, ws[k]? = some x := ⟨_, List.getElem?_eq_getElem hlt⟩
          obtain ⟨e0, e1, e2⟩ := HWC.out V hB k x hxk
          obtain ⟨hxt, hxp⟩ := HX.out x (List.mem_of_getElem? hxk)
          have hdr : ws.drop k = x :: ws.drop (k + 1) := by
            obtain ⟨hk', e⟩ := List.getElem?_eq_some_iff.1 hxk
            rw [← e]
            exact List.drop_eq_getElem_cons hk'
          rcases HF.out with ⟨hq0, hk1, hk0, y, hy, hR⟩ | ⟨hqn, hlo, hR⟩
          · subst hq0
            rw [hxk] at hy
            cases hy
            have kk1 : (k : Int) ≤ 1 := by omega
            have HR : Hid (RR = docGo (left) (ws.drop (k + 1)) [⟨left, [], x.place + 1⟩]) := hR
            have hrow := hSd.row
            clear HF hR hdr hxk
            go_wp2_with (at_builtin; refine wpList_append_own _ rfl _ _ 60 rfl w.heap.size 91 i0 (.agg #[.string ⟨#[]⟩, .slice none 0 0, .int .i64 0]) 3 48 Tryz.underlying60 hi hz0 hz1 hz2 rfl (by decide) _ _ _ rfl (hrow.alloc _) ⟨V.heap.size, 0, none⟩ 1 1 [.string ⟨left.toArray⟩, .slice none 0 0, .int .i64 ((x.place : Int) + 1)] rfl rfl (cells_new _ #[_, _, _] _) (by simp [Value.oneCell']) (by unfold maxLen; omega) (by omega) (by simp; omega) ?_; intro u1 w3 hown1 hgrow1 _)
            have hB3 : Below w.heap.size w w3 := by
              have hgs := hgrow1.size
              rw [World.size_alloc] at hgs
              exact hB.trans ⟨hgrow1.os, hgrow1.tape, hgrow1.output, by omega, fun j hj => grown_far hgrow1 (by omega) (fun e => by have := (hrow.lt j e).1; omega)⟩
            have hSd3 := hSd.push (left := left) (at_ := x.place + 1) hown1 hgrow1
            clear hown1 hgrow1 hrow hSd hB e0 e1 e2
            go_wp2
            go_roundw
            case rel => exact ⟨k + 1, u1, _, by omega, by go_num, rfl, by simp, hSd3, Or.inr ⟨by simp, by omega, HR.out⟩, (fun q hq => by simp at hq; rw [hq]; exact Nat.zero_le _), hB3⟩
            case measure => simp [intOf]; omega
          · obtain ⟨dn, q, rfl⟩ : ∃ dn q, qs = dn ++ [q] := ⟨qs.dropLast, qs.getLast hqn, (List.dropLast_concat_getLast hqn).symm⟩
            rw [hdr] at hR
            obtain ⟨m, hm⟩ : ∃ m, m = dn.length := ⟨_, rfl⟩
            have hnl : (dn ++ [q]).length = m + 1 := by simp [hm]
            rw [hnl] at hqk
            have hrow := hSd.row
            obtain ⟨g, cap, hva, hgB, hgl⟩ := hrow.form (by rw [hnl]; omega)
            cases hva
            have HNL : Hid ((dn ++ [q]).length = m + 1) := hnl
            have HM : Hid (m = dn.length) := hm
            have hrw : V.ownsRow w.heap.size 91 3 (.slice (some ⟨g, 0, none⟩) (m + 1) vc) (m + 1) (cellsS (dn ++ [q])) := by rw [← hnl]; exact hrow
            obtain ⟨cur, hra, _, _⟩ := own_rowS hrw
            have hq1 : V.cell? ⟨g, m * 3 + 1, none⟩ = some q.v := by
              rw [hrw.cellAt _ (by omega), hm]
              exact (cellsS_at _ _ _ (at_last dn q)).2.1
            have hq2 : V.cell? ⟨g, m * 3 + 2, none⟩ = some (.int .i64 (q.s.at_ : Int)) := by
              rw [hrw.cellAt _ (by omega), hm]
              exact (cellsS_at _ _ _ (at_last dn q)).2.2
            obtain ⟨na, nc, hqv⟩ : ∃ na nc, q.v = .slice na q.s.names.length nc := by
              obtain ⟨_, ⟨e1, e2⟩ | ⟨g, cap, cur, e1, _⟩⟩ := hSd.each _ q (at_last dn q)
              · exact ⟨none, 0, by rw [e1, e2]⟩
              · exact ⟨_, _, e1⟩
            have hnq : q.s.names.length ≤ k := HN.out q (by simp)
            rw [hnl]
            have hmk := mark_any x 124 V
            unfold wdV at hmk
            clear hm hnl HF hrow hqn
            have kk2 : ¬ ((m : Int) + 1) = 0 := by omega
            have kk3 : (((m : Int) + 1) == 0) = false := by simp; omega
            by_cases hk1 : k ≤ 1
            · skip
              have kk1 : (k : Int) ≤ 1 := by omega
              go_wp2_with fail
              refine hmk.mono ?_
              rintro e w2 ⟨rfl, hb2⟩
              have hB2 := hB.trans (hb2.mono hsB)
              have hSd2 := hSd.below hb2
              have hra2 := hra.below hb2 hgl
              have hq12 := (hb2.cell (p := ⟨g, m * 3 + 1, none⟩) hgl).trans hq1
              have hq22 := (hb2.cell (p := ⟨g, m * 3 + 2, none⟩) hgl).trans hq2
              have hgl2 : g < w2.heap.size := Nat.lt_of_lt_of_le hgl hb2.size
              have HQV : Hid (q.v = .slice na q.s.names.length nc) := hqv
              clear hmk hb2 hSd hra hq1 hq2 hB hrw e0 e1 e2 hsB hgl
              have hsB2 := hB2.size
              obtain ⟨e0, e1, e2⟩ := HWC.out w2 hB2 k x hxk
              cases h124 : mk x 124 with
              | true =>
                rw [go_bar h124] at hR
                have HR : Hid (RR = docGo (left) (ws.drop (k + 1)) ((dn ++ [q]).map (·.s) ++ [⟨left, [], x.place + 1⟩])) := hR
                have hrow := hSd2.row
                rw [HNL.out] at hrow
                clear hR hdr hxk h124 hq12 hq22 hra2 hqv
                go_wp2_with (at_builtin; refine wpList_append_own _ rfl _ _ 60 rfl w.heap.size 91 i0 (.agg #[.string ⟨#[]⟩, .slice none 0 0, .int .i64 0]) 3 48 Tryz.underlying60 hi hz0 hz1 hz2 rfl (by decide) _ _ _ rfl (hrow.alloc _) ⟨w2.heap.size, 0, none⟩ 1 1 [.string ⟨left.toArray⟩, .slice none 0 0, .int .i64 ((x.place : Int) + 1)] rfl rfl (cells_new _ #[_, _, _] _) (by simp [Value.oneCell']) (by unfold maxLen; omega) (by omega) (by simp; omega) ?_; intro u1 w3 hown1 hgrow1 _)
                have hB3 : Below w.heap.size w w3 := by
                  have hgs := hgrow1.size
                  rw [World.size_alloc] at hgs
                  exact hB2.trans ⟨hgrow1.os, hgrow1.tape, hgrow1.output, by omega, fun j hj => grown_far hgrow1 (by omega) (fun e => by have := (hrow.lt j e).1; omega)⟩
                have hSd3 := SdsAt.push (left := left) (at_ := x.place + 1) (qs := dn ++ [q]) hSd2 (by rw [HNL.out]; exact hown1) (by rw [HNL.out]; exact hgrow1)
                clear hown1 hgrow1 hrow hSd2 hB2 e0 e1 e2
                go_wp2
                go_roundw
                case rel => exact ⟨k + 1, u1, _, by omega, by go_num, rfl, by have := HNL.out; simp at this ⊢; omega, hSd3, Or.inr ⟨by simp, by omega, by rw [HR.out]; simp⟩, (fun q' hq' => by
                  rcases List.mem_append.1 hq' with hq' | hq'
                  · have := HN.out q' hq'; omega
                  · rw [List.mem_singleton.1 hq']; exact Nat.zero_le _), hB3⟩
                case measure => simp [intOf]; omega
              | false =>
                have hnm := SpecRf.name_any x w2 (by omega)
                unfold wdV at hnm
                go_wp2_with fail
                refine hnm.mono ?_
                rintro e w3 ⟨rfl, hb3⟩
                have hB3 := hB2.trans (hb3.mono hsB2)
                have hSd3 := hSd2.below hb3
                have hra3 := hra2.below hb3 hgl2
                have hq13 := (hb3.cell (p := ⟨g, m * 3 + 1, none⟩) hgl2).trans hq12
                have hq23 := (hb3.cell (p := ⟨g, m * 3 + 2, none⟩) hgl2).trans hq22
                clear hnm hb3 hSd2 hra2 hq12 hq22 hB2 e0 e1 e2 hsB2
                have hsB3 := hB3.size
                obtain ⟨e0, e1, e2⟩ := HWC.out w3 hB3 k x hxk
                cases hnb : nameB x with
                | false =>
                  rw [go_bad h124 hnb] at hR
                  have HR : Hid (RR = .error x.place) := hR
                  clear hR hdr hxk h124 hnb hq13 hq23 hra3 hqv hSd3
                  go_wp2
                  go_quiet (fail)
                  go_wp2
                  refine bodyPost_ret (v := .tuple #[.slice none 0 0, .int .i64 (x.place : Int)]) (by simp [results, Tryz.results52, go_sem]) rfl ⟨?_, bdrew hB3 _⟩
                  rw [HD.out, HR.out]
                  rfl
                | true =>
                  rw [go_nm h124 hnb] at hR
                  rw [List.map_append, List.map_cons, List.map_nil, push_last] at hR
                  clear hdr h124 hnb
                  by_cases hn0 : q.s.names = []
                  · have hl0 : q.s.names.length = 0 := by rw [hn0]; rfl
                    have hqv0 : q.v = .slice na 0 nc := by rw [HQV.out, hl0]
                    have f2 := hra3.frozen (m * 3 + 2)
                    have hSd4 := hSd3.setAt (a := x.place) rfl
                    rw [HNL.out, ← HM.out] at hSd4
                    have hB4 := hB3.setCell (p := ⟨g, m * 3 + 2, none⟩) hgB (.int .i64 (x.place : Int))
                    have hra4 := hra3.set (m * 3 + 2) (.int .i64 (x.place : Int))
                    obtain ⟨W4, hW4⟩ : ∃ W4, W4 = w3.setCell ⟨g, m * 3 + 2, none⟩ (.int .i64 (x.place : Int)) := ⟨_, rfl⟩
                    have HW4 : Hid (_) := hW4
                    rw [← hW4] at hSd4 hB4 hra4
                    rw [hqv0] at hq13
                    have hcq : cur[m * 3 + 1]? = some (.slice na 0 nc) := by
                      have h9 := hq13
                      unfold World.cell? at h9
                      rw [show w3.heap[g]? = _ from hra3] at h9
                      exact h9
                    have hqc : W4.cell? ⟨g, m * 3 + 1, none⟩ = some (.slice na 0 nc) := hra4.cell (q := m * 3 + 1) (by rw [Array.getElem?_setIfInBounds_ne (by omega)]; exact hcq)
                    obtain ⟨q', hq'⟩ : ∃ q', q' = (⟨⟨q.s.left, q.s.names, x.place⟩, q.v⟩ : Sq) := ⟨_, rfl⟩
                    rw [← hq'] at hSd4
                    have HR : Hid (RR = docGo (left) (ws.drop (k + 1)) (dn.map (·.s) ++ [⟨q'.s.left, q'.s.names ++ [x], q'.s.at_⟩])) := by
                      show _ = _
                      rw [hR, if_pos hn0, Nat.zero_add, hq']
                    have HQ : Hid (q'.v = .slice na 0 nc) := by show _ = _; rw [hq']; exact hqv0
                    have HL : Hid (q'.s.names.length = 0) := by show _ = _; rw [hq']; exact hl0
                    clear hR hqv hqv0 hW4 hSd3 hB3 hra3 hq' hn0
                    obtain ⟨e0, e1, e2⟩ := HWC.out W4 hB4 k x hxk
                    have hsB4 := hB4.size
                    have hgl4 : g < W4.heap.size := hra4.lt
                    obtain ⟨Wd, hWd⟩ : ∃ Wd, W4.drew = Wd := ⟨_, rfl⟩
                    have hbd : Below W4.heap.size W4 Wd := by rw [← hWd]; exact ⟨rfl, rfl, rfl, Nat.le_refl _, fun _ _ => rfl⟩
                    have hSdd := hSd4.below hbd
                    have hBd := hB4.trans (hbd.mono hsB4)
                    have hrad := hra4.below hbd hgl4
                    have hd1 := (hbd.cell (p := ⟨g, m * 3 + 1, none⟩) hgl4).trans hqc
                    have hbl : b < W4.heap.size := GramRow.cell_lt e0
                    have hbw : b < w.heap.size := HBW.out
                    have hd2 := (hbd.cell (p := ⟨b, off + k * 3, none⟩) hbl).trans e0
                    have hd3 := (hbd.cell (p := ⟨b, off + k * 3 + 1, none⟩) hbl).trans e1
                    have hsBd := hBd.size
                    have hNown := hSdd.each _ q' (at_last dn q')
                    rw [HQ.out, HL.out] at hNown
                    clear hSd4 hB4 hra4 e0 e1 e2 hsB4
                    go_wp2_with (rw [← HW4.out])
                    clear hqc
                    refine wp_region_noPanic ?_
                    refine OrdersZ.region_Z (S := (fun w9 => w9.cell? ⟨g, m * 3 + 1, none⟩ = some (.slice na (0) nc) ∧ w9.cell? ⟨b, off + k * 3, none⟩ = some (.string ⟨x.text.toArray⟩) ∧ w9.cell? ⟨b, off + k * 3 + 1, none⟩ = some (.bool x.quoted))) 22 (by kernel_rfl) (by rw [hWd]; exact ⟨hd1, hd2, hd3⟩) (fun hHeld => ?_)
                    rw [hWd] at hHeld ⊢
                    clear hWd hbd
                    refine OrdersZ.takeZ (i := 0) (v := .slice (some ⟨g, 0, none⟩) (m + 1) vc) rfl (by kernel_rfl) (by kernel_rfl) (by kernel_rfl) (by kernel_rfl) (by kernel_rfl) (fun _ _ _ h => h) (Or.inl ⟨by rfl, fun w9 hSw => ?_⟩) hHeld ?_
                    · obtain ⟨s0, s1, s2⟩ := hSw
                      go_simp
                    simp only [zA, zB, zC, Act.put, zD, zE, zF]
                    refine OrdersZ.takeZ (i := 1) (v := .int .i64 (m : Int)) rfl (by kernel_rfl) (by kernel_rfl) (by kernel_rfl) (by kernel_rfl) (by kernel_rfl) (fun _ _ _ h => h) (Or.inl ⟨by rfl, fun w9 hSw => ?_⟩) hHeld ?_
                    · obtain ⟨s0, s1, s2⟩ := hSw
                      go_simp
                    simp only [zA, zB, zC, Act.put, zD, zE, zF]
                    refine OrdersZ.takeZ (i := 2) (v := .slice (some ⟨g, 0, none⟩) (m + 1) vc) rfl (by kernel_rfl) (by kernel_rfl) (by kernel_rfl) (by kernel_rfl) (by kernel_rfl) (fun _ _ _ h => h) (Or.inl ⟨by rfl, fun w9 hSw => ?_⟩) hHeld ?_
                    · obtain ⟨s0, s1, s2⟩ := hSw
                      go_simp
                    simp only [zA, zB, zC, Act.put, zD, zE, zF]
                    refine OrdersZ.takeZ (i := 3) (v := .int .i64 (m : Int)) rfl (by kernel_rfl) (by kernel_rfl) (by kernel_rfl) (by kernel_rfl) (by kernel_rfl) (fun _ _ _ h => h) (Or.inl ⟨by rfl, fun w9 hSw => ?_⟩) hHeld ?_
                    · obtain ⟨s0, s1, s2⟩ := hSw
                      go_simp
                    simp only [zA, zB, zC, Act.put, zD, zE, zF]
                    refine OrdersZ.takeZ (i := 4) (v := .pointer (some ⟨g, m * 3, none⟩)) rfl (by kernel_rfl) (by kernel_rfl) (by kernel_rfl) (by kernel_rfl) (by kernel_rfl) (fun _ _ _ h => h) (Or.inl ⟨by rfl, fun w9 hSw => ?_⟩) hHeld ?_
                    · obtain ⟨s0, s1, s2⟩ := hSw
                      go_simp
                      all_goals (first | rfl | omega | (simp; done) | (simp; omega) | (trace_state; sorry))
                    simp only [zA, zB, zC, Act.put, zD, zE, zF]
                    refine OrdersZ.takeZ (i := 5) (v := .pointer (some ⟨g, m * 3 + 1, none⟩)) rfl (by kernel_rfl) (by kernel_rfl) (by kernel_rfl) (by kernel_rfl) (by kernel_rfl) (fun _ _ _ h => h) (Or.inl ⟨by rfl, fun w9 hSw => ?_⟩) hHeld ?_
                    · obtain ⟨s0, s1, s2⟩ := hSw
                      go_simp
                    simp only [zA, zB, zC, Act.put, zD, zE, zF]
                    refine OrdersZ.takeZ (i := 6) (v := .slice na (0) nc) rfl (by kernel_rfl) (by kernel_rfl) (by kernel_rfl) (by kernel_rfl) (by kernel_rfl) (fun _ _ _ h => h) (Or.inl ⟨by rfl, fun w9 hSw => ?_⟩) hHeld ?_
                    · obtain ⟨s0, s1, s2⟩ := hSw
                      go_simp
                    simp only [zA, zB, zC, Act.put, zD, zE, zF]
                    refine OrdersZ.takeZ (i := 7) (v := .slice (some ⟨b, off, none⟩) ws.length c) rfl (by kernel_rfl) (by kernel_rfl) (by kernel_rfl) (by kernel_rfl) (by kernel_rfl) (fun _ _ _ h => h) (Or.inl ⟨by rfl, fun w9 hSw => ?_⟩) hHeld ?_
                    · obtain ⟨s0, s1, s2⟩ := hSw
                      go_simp
                    simp only [zA, zB, zC, Act.put, zD, zE, zF]
                    refine OrdersZ.takeZ (i := 8) (v := .int .i64 (k : Int)) rfl (by kernel_rfl) (by kernel_rfl) (by kernel_rfl) (by kernel_rfl) (by kernel_rfl) (fun _ _ _ h => h) (Or.inl ⟨by rfl, fun w9 hSw => ?_⟩) hHeld ?_
                    · obtain ⟨s0, s1, s2⟩ := hSw
                      go_simp
                    simp only [zA, zB, zC, Act.put, zD, zE, zF]
                    refine OrdersZ.takeZ (i := 9) (v := .pointer (some ⟨b, off + k * 3, none⟩)) rfl (by kernel_rfl) (by kernel_rfl) (by kernel_rfl) (by kernel_rfl) (by kernel_rfl) (fun _ _ _ h => h) (Or.inl ⟨by rfl, fun w9 hSw => ?_⟩) hHeld ?_
                    · obtain ⟨s0, s1, s2⟩ := hSw
                      go_simp
                      all_goals (first | rfl | omega | (simp; done) | (simp; omega) | (trace_state; sorry))
                    simp only [zA, zB, zC, Act.put, zD, zE, zF]
                    refine OrdersZ.takeZ (i := 10) (v := .pointer (some ⟨b, off + k * 3, none⟩)) rfl (by kernel_rfl) (by kernel_rfl) (by kernel_rfl) (by kernel_rfl) (by kernel_rfl) (fun _ _ _ h => h) (Or.inl ⟨by rfl, fun w9 hSw => ?_⟩) hHeld ?_
                    · obtain ⟨s0, s1, s2⟩ := hSw
                      go_simp
                    simp only [zA, zB, zC, Act.put, zD, zE, zF]
                    refine OrdersZ.takeZ (i := 11) (v := .string ⟨x.text.toArray⟩) rfl (by kernel_rfl) (by kernel_rfl) (by kernel_rfl) (by kernel_rfl) (by kernel_rfl) (fun _ _ _ h => h) (Or.inl ⟨by rfl, fun w9 hSw => ?_⟩) hHeld ?_
                    · obtain ⟨s0, s1, s2⟩ := hSw
                      go_simp
                    simp only [zA, zB, zC, Act.put, zD, zE, zF]
                    refine OrdersZ.takeZ (i := 12) (v := .slice (some ⟨b, off, none⟩) ws.length c) rfl (by kernel_rfl) (by kernel_rfl) (by kernel_rfl) (by kernel_rfl) (by kernel_rfl) (fun _ _ _ h => h) (Or.inl ⟨by rfl, fun w9 hSw => ?_⟩) hHeld ?_
                    · obtain ⟨s0, s1, s2⟩ := hSw
                      go_simp
                    simp only [zA, zB, zC, Act.put, zD, zE, zF]
                    refine OrdersZ.takeZ (i := 13) (v := .int .i64 (k : Int)) rfl (by kernel_rfl) (by kernel_rfl) (by kernel_rfl) (by kernel_rfl) (by kernel_rfl) (fun _ _ _ h => h) (Or.inl ⟨by rfl, fun w9 hSw => ?_⟩) hHeld ?_
                    · obtain ⟨s0, s1, s2⟩ := hSw
                      go_simp
                    simp only [zA, zB, zC, Act.put, zD, zE, zF]
                    refine OrdersZ.takeZ (i := 14) (v := .pointer (some ⟨b, off + k * 3, none⟩)) rfl (by kernel_rfl) (by kernel_rfl) (by kernel_rfl) (by kernel_rfl) (by kernel_rfl) (fun _ _ _ h => h) (Or.inl ⟨by rfl, fun w9 hSw => ?_⟩) hHeld ?_
                    · obtain ⟨s0, s1, s2⟩ := hSw
                      go_simp
                      all_goals (first | rfl | omega | (simp; done) | (simp; omega) | (trace_state; sorry))
                    simp only [zA, zB, zC, Act.put, zD, zE, zF]
                    refine OrdersZ.takeZ (i := 15) (v := .pointer (some ⟨b, off + k * 3 + 1, none⟩)) rfl (by kernel_rfl) (by kernel_rfl) (by kernel_rfl) (by kernel_rfl) (by kernel_rfl) (fun _ _ _ h => h) (Or.inl ⟨by rfl, fun w9 hSw => ?_⟩) hHeld ?_
                    · obtain ⟨s0, s1, s2⟩ := hSw
                      go_simp
                    simp only [zA, zB, zC, Act.put, zD, zE, zF]
                    refine OrdersZ.takeZ (i := 16) (v := .bool x.quoted) rfl (by kernel_rfl) (by kernel_rfl) (by kernel_rfl) (by kernel_rfl) (by kernel_rfl) (fun _ _ _ h => h) (Or.inl ⟨by rfl, fun w9 hSw => ?_⟩) hHeld ?_
                    · obtain ⟨s0, s1, s2⟩ := hSw
                      go_simp
                    simp only [zA, zB, zC, Act.put, zD, zE, zF]
                    refine OrdersZ.takeZ (i := 17) (v := .agg #[.string ⟨x.text.toArray⟩, .bool x.quoted]) rfl (by kernel_rfl) (by kernel_rfl) (by kernel_rfl) (by kernel_rfl) (by kernel_rfl) (fun _ _ _ h => h) (Or.inl ⟨by rfl, fun w9 hSw => ?_⟩) hHeld ?_
                    · obtain ⟨s0, s1, s2⟩ := hSw
                      go_simp
                      all_goals (first | rfl | omega | (simp; done) | (simp; omega) | (trace_state; sorry))
                    simp only [zA, zB, zC, Act.put, zD, zE, zF]
                    refine OrdersZ.readyZ (i := 18) (by kernel_rfl) rfl (fun K hK => ?_)
                    go_simp
                    have hB7 : Below Wd.heap.size Wd (Wd.alloc (.cells #[.string ⟨x.text.toArray⟩, .bool x.quoted] 125)) := (Below.refl _ _).alloc (Nat.le_refl _) _
                    refine hK.out _ _ ⟨(hB7.cell (p := ⟨g, m * 3 + 1, none⟩) hrad.lt).trans hd1, (hB7.cell (p := ⟨b, off + k * 3, none⟩) (GramRow.cell_lt hd2)).trans hd2, (hB7.cell (p := ⟨b, off + k * 3 + 1, none⟩) (GramRow.cell_lt hd3)).trans hd3⟩ (fun hHeld => ?_)
                    clear hK K
                    refine OrdersZ.readyZ (i := 19) (by kernel_rfl) rfl (fun K hK => ?_)
                    refine step_append_lies _ rfl (.tmp 120) (.tmp 132) 89 rfl w.heap.size 125 i1 (.agg #[.string ⟨#[]⟩, .bool false]) 2 24 Tryz.underlying89 hi1 hz3 hz4 hz5 rfl (by decide) (.slice na (0) nc) (0) (cellsN q'.s.names) (by rfl) (hNown.alloc _) ⟨Wd.heap.size, 0, none⟩ 1 1 [.string ⟨x.text.toArray⟩, .bool x.quoted] (by rfl) rfl (WordsBytes.cells_new _ #[_, _] _) (by simp [Value.oneCell']) (by omega) (by unfold maxLen; omega) (by omega) (by simp; omega) (Wd.heap.size + 1) (by simp) ?_
                    intro g6 c6 w6 hown6 hgrow6 hat6 hlt6
                    have hgs := hgrow6.size
                    rw [World.size_alloc] at hgs
                    obtain ⟨curN, hgne⟩ : ∃ c, (Value.slice na (0) nc).ownBlock = c := ⟨_, rfl⟩
                    have hng : (Value.slice na (0) nc).ownBlock ≠ some g := fun e => by
                      obtain ⟨_, ⟨e1, _⟩ | ⟨gg, cap2, cur2, e1, _, e3, _⟩⟩ := hNown
                      · rw [e1] at e; cases e
                      · rw [e1] at e
                        obtain rfl : gg = g := by simpa [Value.ownBlock] using e
                        have h5 : Wd.heap[gg]? = some (.cells _ 91 (0, 0)) := hrad
                        rw [e3] at h5
                        cases h5
                    have hfg : w6.heap[g]? = Wd.heap[g]? := grown_far hgrow6 hrad.lt hng
                    have hfb : w6.heap[b]? = Wd.heap[b]? := grown_far hgrow6 (GramRow.cell_lt hd2) (fun e => by have := (hNown.lt b e).1; omega)
                    have hra6 := hfg.trans hrad
                    have hc6 : w6.cell? ⟨g, m * 3 + 1, none⟩ = some (.slice na (0) nc) := (World.cell?_of_block hfg).trans hd1
                    have hc7 : w6.cell? ⟨b, off + k * 3, none⟩ = some (.string ⟨x.text.toArray⟩) := (World.cell?_of_block hfb).trans hd2
                    have hc8 : w6.cell? ⟨b, off + k * 3 + 1, none⟩ = some (.bool x.quoted) := (World.cell?_of_block hfb).trans hd3
                    refine hK.out _ _ ⟨hc6, hc7, hc8⟩ (fun hHeld => ?_)
                    clear hK K
                    try simp only [zA, zB, zC, Act.put, zD, zE, zF]
                    have hm9 : (m : Int) < (m : Int) + 1 := by omega
                    refine OrdersZ.readyZ (i := 20) (by kernel_rfl) rfl (fun K hK => ?_)
                    go_simp
                    refine hK.out _ _ ⟨hc6, hc7, hc8⟩ (fun hHeld => ?_)
                    clear hK K
                    try simp only [zA, zB, zC, Act.put, zD, zE, zF]
                    refine OrdersZ.readyZ (i := 21) (by kernel_rfl) rfl (fun K hK => ?_)
                    go_simp
                    refine hK.out _ _ ⟨hc6, hc7, hc8⟩ (fun hHeld => ?_)
                    clear hK K hm9
                    try simp only [zA, zB, zC, Act.put, zD, zE, zF]
                    have f6 := RowAt.frozen hra6 (m * 3 + 1)
                    refine OrdersZ.lastZ (by kernel_rfl) rfl (fun K hK => ?_)
                    go_simp
                    refine hK.out _ _ ?_
                    clear hK K
                    refine OrdersZ.doneZ (by kernel_rfl) (NoPanic.normal ?_) _
                    have hB6 : Below w.heap.size w w6 := hBd.trans ⟨hgrow6.os, hgrow6.tape, hgrow6.output, by omega, fun j hj => grown_far hgrow6 (by omega) (fun e => by have := (hNown.lt j e).1; omega)⟩
                    have hB8 := hB6.setCell (p := ⟨g, m * 3 + 1, none⟩) hgB (.slice (some ⟨g6, 0, none⟩) (0 + 1) c6)
                    have hSd8 := SdsAt.name (x := x) (g6 := g6) (c6 := c6) hSdd (by simp [HM.out]) (by rw [HL.out]; exact hown6) (by rw [HQ.out]; exact hgrow6) (by rw [HQ.out]; exact hat6)
                    rw [← HM.out, HL.out] at hSd8
                    clear hown6 hgrow6 hat6 hlt6 hSdd hNown hrad hd1 hd2 hd3 hc6 hc7 hc8 hfg hfb hra6 f6 hB6 hHeld hng hgne curN hB7
                    go_wp2
                    go_roundw
                    case rel => exact ⟨k + 1, _, _, by omega, by go_num, rfl, by simp [← HM.out]; omega, hSd8, Or.inr ⟨by simp, by omega, by rw [HR.out]; simp⟩, (fun r hr => by
                      rcases List.mem_append.1 hr with hr | hr
                      · have := HN.out r (by simp [hr]); omega
                      · rw [List.mem_singleton.1 hr]
                        show (q'.s.names ++ [x]).length ≤ _
                        rw [List.length_append, HL.out]
                        show 0 + 1 ≤ _
                        omega), hB8⟩
                    case measure => simp [intOf]; omega
                  · have HR : Hid (RR = docGo (left) (ws.drop (k + 1)) (dn.map (·.s) ++ [⟨q.s.left, q.s.names ++ [x], q.s.at_⟩])) := by
                      show _ = _
                      rw [hR, if_neg hn0]
                    have hl0 : ¬ (q.s.names.length : Int) = 0 := by
                      intro e
                      exact hn0 (List.length_eq_zero_iff.1 (by omega))
                    have hl1 : ((q.s.names.length : Int) == 0) = false := by simpa using hn0
                    rw [hqv] at hq13
                    obtain ⟨q', rfl⟩ : ∃ q', q' = q := ⟨_, rfl⟩
                    obtain ⟨W4, rfl⟩ : ∃ W4, W4 = w3 := ⟨_, rfl⟩
                    obtain ⟨qn, hqn9⟩ : ∃ qn, qn = q'.s.names.length := ⟨_, rfl⟩
                    have HL : Hid (q'.s.names.length = qn) := hqn9.symm
                    rw [← hqn9] at hq13 hl0 hl1 hnq
                    have HQ : Hid (q'.v = .slice na qn nc) := by show _ = _; rw [HQV.out, HL.out]
                    have hSd4 := hSd3
                    rw [HNL.out] at hSd4
                    have hB4 := hB3
                    have hra4 := hra3
                    have hqc := hq13
                    clear hR hqv hSd3 hB3 hra3 hq13 hn0 hqn9
                    obtain ⟨e0, e1, e2⟩ := HWC.out W4 hB4 k x hxk
                    have hsB4 := hB4.size
                    have hgl4 : g < W4.heap.size := hra4.lt
                    obtain ⟨Wd, hWd⟩ : ∃ Wd, W4.drew = Wd := ⟨_, rfl⟩
                    have hbd : Below W4.heap.size W4 Wd := by rw [← hWd]; exact ⟨rfl, rfl, rfl, Nat.le_refl _, fun _ _ => rfl⟩
                    have hSdd := hSd4.below hbd
                    have hBd := hB4.trans (hbd.mono hsB4)
                    have hrad := hra4.below hbd hgl4
                    have hd1 := (hbd.cell (p := ⟨g, m * 3 + 1, none⟩) hgl4).trans hqc
                    have hbl : b < W4.heap.size := GramRow.cell_lt e0
                    have hbw : b < w.heap.size := HBW.out
                    have hd2 := (hbd.cell (p := ⟨b, off + k * 3, none⟩) hbl).trans e0
                    have hd3 := (hbd.cell (p := ⟨b, off + k * 3 + 1, none⟩) hbl).trans e1
                    have hsBd := hBd.size
                    have hNown := hSdd.each _ q' (at_last dn q')
                    rw [HQ.out, HL.out] at hNown
                    clear hSd4 hB4 hra4 e0 e1 e2 hsB4
                    go_wp2_with fail
                    clear hqc
                    refine wp_region_noPanic ?_
                    refine OrdersZ.region_Z (S := (fun w9 => w9.cell? ⟨g, m * 3 + 1, none⟩ = some (.slice na (qn) nc) ∧ w9.cell? ⟨b, off + k * 3, none⟩ = some (.string ⟨x.text.toArray⟩) ∧ w9.cell? ⟨b, off + k * 3 + 1, none⟩ = some (.bool x.quoted))) 22 (by kernel_rfl) (by rw [hWd]; exact ⟨hd1, hd2, hd3⟩) (fun hHeld => ?_)
                    rw [hWd] at hHeld ⊢
                    clear hWd hbd
                    refine OrdersZ.takeZ (i := 0) (v := .slice (some ⟨g, 0, none⟩) (m + 1) vc) rfl (by kernel_rfl) (by kernel_rfl) (by kernel_rfl) (by kernel_rfl) (by kernel_rfl) (fun _ _ _ h => h) (Or.inl ⟨by rfl, fun w9 hSw => ?_⟩) hHeld ?_
                    · obtain ⟨s0, s1, s2⟩ := hSw
                      go_simp
                    simp only [zA, zB, zC, Act.put, zD, zE, zF]
                    refine OrdersZ.takeZ (i := 1) (v := .int .i64 (m : Int)) rfl (by kernel_rfl) (by kernel_rfl) (by kernel_rfl) (by kernel_rfl) (by kernel_rfl) (fun _ _ _ h => h) (Or.inl ⟨by rfl, fun w9 hSw => ?_⟩) hHeld ?_
                    · obtain ⟨s0, s1, s2⟩ := hSw
                      go_simp
                    simp only [zA, zB, zC, Act.put, zD, zE, zF]
                    refine OrdersZ.takeZ (i := 2) (v := .slice (some ⟨g, 0, none⟩) (m + 1) vc) rfl (by kernel_rfl) (by kernel_rfl) (by kernel_rfl) (by kernel_rfl) (by kernel_rfl) (fun _ _ _ h => h) (Or.inl ⟨by rfl, fun w9 hSw => ?_⟩) hHeld ?_
                    · obtain ⟨s0, s1, s2⟩ := hSw
                      go_simp
                    simp only [zA, zB, zC, Act.put, zD, zE, zF]
                    refine OrdersZ.takeZ (i := 3) (v := .int .i64 (m : Int)) rfl (by kernel_rfl) (by kernel_rfl) (by kernel_rfl) (by kernel_rfl) (by kernel_rfl) (fun _ _ _ h => h) (Or.inl ⟨by rfl, fun w9 hSw => ?_⟩) hHeld ?_
                    · obtain ⟨s0, s1, s2⟩ := hSw
                      go_simp
                    simp only [zA, zB, zC, Act.put, zD, zE, zF]
                    refine OrdersZ.takeZ (i := 4) (v := .pointer (some ⟨g, m * 3, none⟩)) rfl (by kernel_rfl) (by kernel_rfl) (by kernel_rfl) (by kernel_rfl) (by kernel_rfl) (fun _ _ _ h => h) (Or.inl ⟨by rfl, fun w9 hSw => ?_⟩) hHeld ?_
                    · obtain ⟨s0, s1, s2⟩ := hSw
                      go_simp
                      all_goals (first | rfl | omega | (simp; done) | (simp; omega) | (trace_state; sorry))
                    simp only [zA, zB, zC, Act.put, zD, zE, zF]
                    refine OrdersZ.takeZ (i := 5) (v := .pointer (some ⟨g, m * 3 + 1, none⟩)) rfl (by kernel_rfl) (by kernel_rfl) (by kernel_rfl) (by kernel_rfl) (by kernel_rfl) (fun _ _ _ h => h) (Or.inl ⟨by rfl, fun w9 hSw => ?_⟩) hHeld ?_
                    · obtain ⟨s0, s1, s2⟩ := hSw
                      go_simp
                    simp only [zA, zB, zC, Act.put, zD, zE, zF]
                    refine OrdersZ.takeZ (i := 6) (v := .slice na (qn) nc) rfl (by kernel_rfl) (by kernel_rfl) (by kernel_rfl) (by kernel_rfl) (by kernel_rfl) (fun _ _ _ h => h) (Or.inl ⟨by rfl, fun w9 hSw => ?_⟩) hHeld ?_
                    · obtain ⟨s0, s1, s2⟩ := hSw
                      go_simp
                    simp only [zA, zB, zC, Act.put, zD, zE, zF]
                    refine OrdersZ.takeZ (i := 7) (v := .slice (some ⟨b, off, none⟩) ws.length c) rfl (by kernel_rfl) (by kernel_rfl) (by kernel_rfl) (by kernel_rfl) (by kernel_rfl) (fun _ _ _ h => h) (Or.inl ⟨by rfl, fun w9 hSw => ?_⟩) hHeld ?_
                    · obtain ⟨s0, s1, s2⟩ := hSw
                      go_simp
                    simp only [zA, zB, zC, Act.put, zD, zE, zF]
                    refine OrdersZ.takeZ (i := 8) (v := .int .i64 (k : Int)) rfl (by kernel_rfl) (by kernel_rfl) (by kernel_rfl) (by kernel_rfl) (by kernel_rfl) (fun _ _ _ h => h) (Or.inl ⟨by rfl, fun w9 hSw => ?_⟩) hHeld ?_
                    · obtain ⟨s0, s1, s2⟩ := hSw
                      go_simp
                    simp only [zA, zB, zC, Act.put, zD, zE, zF]
                    refine OrdersZ.takeZ (i := 9) (v := .pointer (some ⟨b, off + k * 3, none⟩)) rfl (by kernel_rfl) (by kernel_rfl) (by kernel_rfl) (by kernel_rfl) (by kernel_rfl) (fun _ _ _ h => h) (Or.inl ⟨by rfl, fun w9 hSw => ?_⟩) hHeld ?_
                    · obtain ⟨s0, s1, s2⟩ := hSw
                      go_simp
                      all_goals (first | rfl | omega | (simp; done) | (simp; omega) | (trace_state; sorry))
                    simp only [zA, zB, zC, Act.put, zD, zE, zF]
                    refine OrdersZ.takeZ (i := 10) (v := .pointer (some ⟨b, off + k * 3, none⟩)) rfl (by kernel_rfl) (by kernel_rfl) (by kernel_rfl) (by kernel_rfl) (by kernel_rfl) (fun _ _ _ h => h) (Or.inl ⟨by rfl, fun w9 hSw => ?_⟩) hHeld ?_
                    · obtain ⟨s0, s1, s2⟩ := hSw
                      go_simp
                    simp only [zA, zB, zC, Act.put, zD, zE, zF]
                    refine OrdersZ.takeZ (i := 11) (v := .string ⟨x.text.toArray⟩) rfl (by kernel_rfl) (by kernel_rfl) (by kernel_rfl) (by kernel_rfl) (by kernel_rfl) (fun _ _ _ h => h) (Or.inl ⟨by rfl, fun w9 hSw => ?_⟩) hHeld ?_
                    · obtain ⟨s0, s1, s2⟩ := hSw
                      go_simp
                    simp only [zA, zB, zC, Act.put, zD, zE, zF]
                    refine OrdersZ.takeZ (i := 12) (v := .slice (some ⟨b, off, none⟩) ws.length c) rfl (by kernel_rfl) (by kernel_rfl) (by kernel_rfl) (by kernel_rfl) (by kernel_rfl) (fun _ _ _ h => h) (Or.inl ⟨by rfl, fun w9 hSw => ?_⟩) hHeld ?_
                    · obtain ⟨s0, s1, s2⟩ := hSw
                      go_simp
                    simp only [zA, zB, zC, Act.put, zD, zE, zF]
                    refine OrdersZ.takeZ (i := 13) (v := .int .i64 (k : Int)) rfl (by kernel_rfl) (by kernel_rfl) (by kernel_rfl) (by kernel_rfl) (by kernel_rfl) (fun _ _ _ h => h) (Or.inl ⟨by rfl, fun w9 hSw => ?_⟩) hHeld ?_
                    · obtain ⟨s0, s1, s2⟩ := hSw
                      go_simp
                    simp only [zA, zB, zC, Act.put, zD, zE, zF]
                    refine OrdersZ.takeZ (i := 14) (v := .pointer (some ⟨b, off + k * 3, none⟩)) rfl (by kernel_rfl) (by kernel_rfl) (by kernel_rfl) (by kernel_rfl) (by kernel_rfl) (fun _ _ _ h => h) (Or.inl ⟨by rfl, fun w9 hSw => ?_⟩) hHeld ?_
                    · obtain ⟨s0, s1, s2⟩ := hSw
                      go_simp
                      all_goals (first | rfl | omega | (simp; done) | (simp; omega) | (trace_state; sorry))
                    simp only [zA, zB, zC, Act.put, zD, zE, zF]
                    refine OrdersZ.takeZ (i := 15) (v := .pointer (some ⟨b, off + k * 3 + 1, none⟩)) rfl (by kernel_rfl) (by kernel_rfl) (by kernel_rfl) (by kernel_rfl) (by kernel_rfl) (fun _ _ _ h => h) (Or.inl ⟨by rfl, fun w9 hSw => ?_⟩) hHeld ?_
                    · obtain ⟨s0, s1, s2⟩ := hSw
                      go_simp
                    simp only [zA, zB, zC, Act.put, zD, zE, zF]
                    refine OrdersZ.takeZ (i := 16) (v := .bool x.quoted) rfl (by kernel_rfl) (by kernel_rfl) (by kernel_rfl) (by kernel_rfl) (by kernel_rfl) (fun _ _ _ h => h) (Or.inl ⟨by rfl, fun w9 hSw => ?_⟩) hHeld ?_
                    · obtain ⟨s0, s1, s2⟩ := hSw
                      go_simp
                    simp only [zA, zB, zC, Act.put, zD, zE, zF]
                    refine OrdersZ.takeZ (i := 17) (v := .agg #[.string ⟨x.text.toArray⟩, .bool x.quoted]) rfl (by kernel_rfl) (by kernel_rfl) (by kernel_rfl) (by kernel_rfl) (by kernel_rfl) (fun _ _ _ h => h) (Or.inl ⟨by rfl, fun w9 hSw => ?_⟩) hHeld ?_
                    · obtain ⟨s0, s1, s2⟩ := hSw
                      go_simp
                      all_goals (first | rfl | omega | (simp; done) | (simp; omega) | (trace_state; sorry))
                    simp only [zA, zB, zC, Act.put, zD, zE, zF]
                    refine OrdersZ.readyZ (i := 18) (by kernel_rfl) rfl (fun K hK => ?_)
                    go_simp
                    have hB7 : Below Wd.heap.size Wd (Wd.alloc (.cells #[.string ⟨x.text.toArray⟩, .bool x.quoted] 125)) := (Below.refl _ _).alloc (Nat.le_refl _) _
                    refine hK.out _ _ ⟨(hB7.cell (p := ⟨g, m * 3 + 1, none⟩) hrad.lt).trans hd1, (hB7.cell (p := ⟨b, off + k * 3, none⟩) (GramRow.cell_lt hd2)).trans hd2, (hB7.cell (p := ⟨b, off + k * 3 + 1, none⟩) (GramRow.cell_lt hd3)).trans hd3⟩ (fun hHeld => ?_)
                    clear hK K
                    refine OrdersZ.readyZ (i := 19) (by kernel_rfl) rfl (fun K hK => ?_)
                    refine step_append_lies _ rfl (.tmp 120) (.tmp 132) 89 rfl w.heap.size 125 i1 (.agg #[.string ⟨#[]⟩, .bool false]) 2 24 Tryz.underlying89 hi1 hz3 hz4 hz5 rfl (by decide) (.slice na (qn) nc) (qn) (cellsN q'.s.names) (by rfl) (hNown.alloc _) ⟨Wd.heap.size, 0, none⟩ 1 1 [.string ⟨x.text.toArray⟩, .bool x.quoted] (by rfl) rfl (WordsBytes.cells_new _ #[_, _] _) (by simp [Value.oneCell']) (by omega) (by unfold maxLen; omega) (by omega) (by simp; omega) (Wd.heap.size + 1) (by simp) ?_
                    intro g6 c6 w6 hown6 hgrow6 hat6 hlt6
                    have hgs := hgrow6.size
                    rw [World.size_alloc] at hgs
                    obtain ⟨curN, hgne⟩ : ∃ c, (Value.slice na (qn) nc).ownBlock = c := ⟨_, rfl⟩
                    have hng : (Value.slice na (qn) nc).ownBlock ≠ some g := fun e => by
                      obtain ⟨_, ⟨e1, _⟩ | ⟨gg, cap2, cur2, e1, _, e3, _⟩⟩ := hNown
                      · rw [e1] at e; cases e
                      · rw [e1] at e
                        obtain rfl : gg = g := by simpa [Value.ownBlock] using e
                        have h5 : Wd.heap[gg]? = some (.cells _ 91 (0, 0)) := hrad
                        rw [e3] at h5
                        cases h5
                    have hfg : w6.heap[g]? = Wd.heap[g]? := grown_far hgrow6 hrad.lt hng
                    have hfb : w6.heap[b]? = Wd.heap[b]? := grown_far hgrow6 (GramRow.cell_lt hd2) (fun e => by have := (hNown.lt b e).1; omega)
                    have hra6 := hfg.trans hrad
                    have hc6 : w6.cell? ⟨g, m * 3 + 1, none⟩ = some (.slice na (qn) nc) := (World.cell?_of_block hfg).trans hd1
                    have hc7 : w6.cell? ⟨b, off + k * 3, none⟩ = some (.string ⟨x.text.toArray⟩) := (World.cell?_of_block hfb).trans hd2
                    have hc8 : w6.cell? ⟨b, off + k * 3 + 1, none⟩ = some (.bool x.quoted) := (World.cell?_of_block hfb).trans hd3
                    refine hK.out _ _ ⟨hc6, hc7, hc8⟩ (fun hHeld => ?_)
                    clear hK K
                    try simp only [zA, zB, zC, Act.put, zD, zE, zF]
                    have hm9 : (m : Int) < (m : Int) + 1 := by omega
                    refine OrdersZ.readyZ (i := 20) (by kernel_rfl) rfl (fun K hK => ?_)
                    go_simp
                    refine hK.out _ _ ⟨hc6, hc7, hc8⟩ (fun hHeld => ?_)
                    clear hK K
                    try simp only [zA, zB, zC, Act.put, zD, zE, zF]
                    refine OrdersZ.readyZ (i := 21) (by kernel_rfl) rfl (fun K hK => ?_)
                    go_simp
                    refine hK.out _ _ ⟨hc6, hc7, hc8⟩ (fun hHeld => ?_)
                    clear hK K hm9
                    try simp only [zA, zB, zC, Act.put, zD, zE, zF]
                    have f6 := RowAt.frozen hra6 (m * 3 + 1)
                    refine OrdersZ.lastZ (by kernel_rfl) rfl (fun K hK => ?_)
                    go_simp
                    refine hK.out _ _ ?_
                    clear hK K
                    refine OrdersZ.doneZ (by kernel_rfl) (NoPanic.normal ?_) _
                    have hB6 : Below w.heap.size w w6 := hBd.trans ⟨hgrow6.os, hgrow6.tape, hgrow6.output, by omega, fun j hj => grown_far hgrow6 (by omega) (fun e => by have := (hNown.lt j e).1; omega)⟩
                    have hB8 := hB6.setCell (p := ⟨g, m * 3 + 1, none⟩) hgB (.slice (some ⟨g6, 0, none⟩) (qn + 1) c6)
                    have hSd8 := SdsAt.name (x := x) (g6 := g6) (c6 := c6) hSdd (by simp [HM.out]) (by rw [HL.out]; exact hown6) (by rw [HQ.out]; exact hgrow6) (by rw [HQ.out]; exact hat6)
                    rw [← HM.out, HL.out] at hSd8
                    clear hown6 hgrow6 hat6 hlt6 hSdd hNown hrad hd1 hd2 hd3 hc6 hc7 hc8 hfg hfb hra6 f6 hB6 hHeld hng hgne curN hB7
                    go_wp2
                    go_roundw
                    case rel => exact ⟨k + 1, _, _, by omega, by go_num, rfl, by simp [← HM.out]; omega, hSd8, Or.inr ⟨by simp, by omega, by rw [HR.out]; simp⟩, (fun r hr => by
                      rcases List.mem_append.1 hr with hr | hr
                      · have := HN.out r (by simp [hr]); omega
                      · rw [List.mem_singleton.1 hr]
                        show (q'.s.names ++ [x]).length ≤ _
                        rw [List.length_append, HL.out]
                        show qn + 1 ≤ _
                        omega), hB8⟩
                    case measure => simp [intOf]; omega
            · skip
              have kk1 : ¬ (k : Int) ≤ 1 := by omega
              go_wp2_with fail
              refine hmk.mono ?_
              rintro e w2 ⟨rfl, hb2⟩
              have hB2 := hB.trans (hb2.mono hsB)
              have hSd2 := hSd.below hb2
              have hra2 := hra.below hb2 hgl
              have hq12 := (hb2.cell (p := ⟨g, m * 3 + 1, none⟩) hgl).trans hq1
              have hq22 := (hb2.cell (p := ⟨g, m * 3 + 2, none⟩) hgl).trans hq2
              have hgl2 : g < w2.heap.size := Nat.lt_of_lt_of_le hgl hb2.size
              have HQV : Hid (q.v = .slice na q.s.names.length nc) := hqv
              clear hmk hb2 hSd hra hq1 hq2 hB hrw e0 e1 e2 hsB hgl
              have hsB2 := hB2.size
              obtain ⟨e0, e1, e2⟩ := HWC.out w2 hB2 k x hxk
              cases h124 : mk x 124 with
              | true =>
                rw [go_bar h124] at hR
                have HR : Hid (RR = docGo (left) (ws.drop (k + 1)) ((dn ++ [q]).map (·.s) ++ [⟨left, [], x.place + 1⟩])) := hR
                have hrow := hSd2.row
                rw [HNL.out] at hrow
                clear hR hdr hxk h124 hq12 hq22 hra2 hqv
                go_wp2_with (at_builtin; refine wpList_append_own _ rfl _ _ 60 rfl w.heap.size 91 i0 (.agg #[.string ⟨#[]⟩, .slice none 0 0, .int .i64 0]) 3 48 Tryz.underlying60 hi hz0 hz1 hz2 rfl (by decide) _ _ _ rfl (hrow.alloc _) ⟨w2.heap.size, 0, none⟩ 1 1 [.string ⟨left.toArray⟩, .slice none 0 0, .int .i64 ((x.place : Int) + 1)] rfl rfl (cells_new _ #[_, _, _] _) (by simp [Value.oneCell']) (by unfold maxLen; omega) (by omega) (by simp; omega) ?_; intro u1 w3 hown1 hgrow1 _)
                have hB3 : Below w.heap.size w w3 := by
                  have hgs := hgrow1.size
                  rw [World.size_alloc] at hgs
                  exact hB2.trans ⟨hgrow1.os, hgrow1.tape, hgrow1.output, by omega, fun j hj => grown_far hgrow1 (by omega) (fun e => by have := (hrow.lt j e).1; omega)⟩
                have hSd3 := SdsAt.push (left := left) (at_ := x.place + 1) (qs := dn ++ [q]) hSd2 (by rw [HNL.out]; exact hown1) (by rw [HNL.out]; exact hgrow1)
                clear hown1 hgrow1 hrow hSd2 hB2 e0 e1 e2
                go_wp2
                go_roundw
                case rel => exact ⟨k + 1, u1, _, by omega, by go_num, rfl, by have := HNL.out; simp at this ⊢; omega, hSd3, Or.inr ⟨by simp, by omega, by rw [HR.out]; simp⟩, (fun q' hq' => by
                  rcases List.mem_append.1 hq' with hq' | hq'
                  · have := HN.out q' hq'; omega
                  · rw [List.mem_singleton.1 hq']; exact Nat.zero_le _), hB3⟩
                case measure => simp [intOf]; omega
              | false =>
                have hnm := SpecRf.name_any x w2 (by omega)
                unfold wdV at hnm
                go_wp2_with fail
                refine hnm.mono ?_
                rintro e w3 ⟨rfl, hb3⟩
                have hB3 := hB2.trans (hb3.mono hsB2)
                have hSd3 := hSd2.below hb3
                have hra3 := hra2.below hb3 hgl2
                have hq13 := (hb3.cell (p := ⟨g, m * 3 + 1, none⟩) hgl2).trans hq12
                have hq23 := (hb3.cell (p := ⟨g, m * 3 + 2, none⟩) hgl2).trans hq22
                clear hnm hb3 hSd2 hra2 hq12 hq22 hB2 e0 e1 e2 hsB2
                have hsB3 := hB3.size
                obtain ⟨e0, e1, e2⟩ := HWC.out w3 hB3 k x hxk
                cases hnb : nameB x with
                | false =>
                  rw [go_bad h124 hnb] at hR
                  have HR : Hid (RR = .error x.place) := hR
                  clear hR hdr hxk h124 hnb hq13 hq23 hra3 hqv hSd3
                  go_wp2
                  go_quiet (fail)
                  go_wp2
                  refine bodyPost_ret (v := .tuple #[.slice none 0 0, .int .i64 (x.place : Int)]) (by simp [results, Tryz.results52, go_sem]) rfl ⟨?_, bdrew hB3 _⟩
                  rw [HD.out, HR.out]
                  rfl
                | true =>
                  rw [go_nm h124 hnb] at hR
                  rw [List.map_append, List.map_cons, List.map_nil, push_last] at hR
                  clear hdr h124 hnb
                  by_cases hn0 : q.s.names = []
                  · have hl0 : q.s.names.length = 0 := by rw [hn0]; rfl
                    have hqv0 : q.v = .slice na 0 nc := by rw [HQV.out, hl0]
                    have f2 := hra3.frozen (m * 3 + 2)
                    have hSd4 := hSd3.setAt (a := x.place) rfl
                    rw [HNL.out, ← HM.out] at hSd4
                    have hB4 := hB3.setCell (p := ⟨g, m * 3 + 2, none⟩) hgB (.int .i64 (x.place : Int))
                    have hra4 := hra3.set (m * 3 + 2) (.int .i64 (x.place : Int))
                    obtain ⟨W4, hW4⟩ : ∃ W4, W4 = w3.setCell ⟨g, m * 3 + 2, none⟩ (.int .i64 (x.place : Int)) := ⟨_, rfl⟩
                    have HW4 : Hid (_) := hW4
                    rw [← hW4] at hSd4 hB4 hra4
                    rw [hqv0] at hq13
                    have hcq : cur[m * 3 + 1]? = some (.slice na 0 nc) := by
                      have h9 := hq13
                      unfold World.cell? at h9
                      rw [show w3.heap[g]? = _ from hra3] at h9
                      exact h9
                    have hqc : W4.cell? ⟨g, m * 3 + 1, none⟩ = some (.slice na 0 nc) := hra4.cell (q := m * 3 + 1) (by rw [Array.getElem?_setIfInBounds_ne (by omega)]; exact hcq)
                    obtain ⟨q', hq'⟩ : ∃ q', q' = (⟨⟨q.s.left, q.s.names, x.place⟩, q.v⟩ : Sq) := ⟨_, rfl⟩
                    rw [← hq'] at hSd4
                    have HR : Hid (RR = docGo (left) (ws.drop (k + 1)) (dn.map (·.s) ++ [⟨q'.s.left, q'.s.names ++ [x], q'.s.at_⟩])) := by
                      show _ = _
                      rw [hR, if_pos hn0, Nat.zero_add, hq']
                    have HQ : Hid (q'.v = .slice na 0 nc) := by show _ = _; rw [hq']; exact hqv0
                    have HL : Hid (q'.s.names.length = 0) := by show _ = _; rw [hq']; exact hl0
                    clear hR hqv hqv0 hW4 hSd3 hB3 hra3 hq' hn0
                    obtain ⟨e0, e1, e2⟩ := HWC.out W4 hB4 k x hxk
                    have hsB4 := hB4.size
                    have hgl4 : g < W4.heap.size := hra4.lt
                    obtain ⟨Wd, hWd⟩ : ∃ Wd, W4.drew = Wd := ⟨_, rfl⟩
                    have hbd : Below W4.heap.size W4 Wd := by rw [← hWd]; exact ⟨rfl, rfl, rfl, Nat.le_refl _, fun _ _ => rfl⟩
                    have hSdd := hSd4.below hbd
                    have hBd := hB4.trans (hbd.mono hsB4)
                    have hrad := hra4.below hbd hgl4
                    have hd1 := (hbd.cell (p := ⟨g, m * 3 + 1, none⟩) hgl4).trans hqc
                    have hbl : b < W4.heap.size := GramRow.cell_lt e0
                    have hbw : b < w.heap.size := HBW.out
                    have hd2 := (hbd.cell (p := ⟨b, off + k * 3, none⟩) hbl).trans e0
                    have hd3 := (hbd.cell (p := ⟨b, off + k * 3 + 1, none⟩) hbl).trans e1
                    have hsBd := hBd.size
                    have hNown := hSdd.each _ q' (at_last dn q')
                    rw [HQ.out, HL.out] at hNown
                    clear hSd4 hB4 hra4 e0 e1 e2 hsB4
                    go_wp2_with (rw [← HW4.out])
                    clear hqc
                    refine wp_region_noPanic ?_
                    refine OrdersZ.region_Z (S := (fun w9 => w9.cell? ⟨g, m * 3 + 1, none⟩ = some (.slice na (0) nc) ∧ w9.cell? ⟨b, off + k * 3, none⟩ = some (.string ⟨x.text.toArray⟩) ∧ w9.cell? ⟨b, off + k * 3 + 1, none⟩ = some (.bool x.quoted))) 22 (by kernel_rfl) (by rw [hWd]; exact ⟨hd1, hd2, hd3⟩) (fun hHeld => ?_)
                    rw [hWd] at hHeld ⊢
                    clear hWd hbd
                    refine OrdersZ.takeZ (i := 0) (v := .slice (some ⟨g, 0, none⟩) (m + 1) vc) rfl (by kernel_rfl) (by kernel_rfl) (by kernel_rfl) (by kernel_rfl) (by kernel_rfl) (fun _ _ _ h => h) (Or.inl ⟨by rfl, fun w9 hSw => ?_⟩) hHeld ?_
                    · obtain ⟨s0, s1, s2⟩ := hSw
                      go_simp
                    simp only [zA, zB, zC, Act.put, zD, zE, zF]
                    refine OrdersZ.takeZ (i := 1) (v := .int .i64 (m : Int)) rfl (by kernel_rfl) (by kernel_rfl) (by kernel_rfl) (by kernel_rfl) (by kernel_rfl) (fun _ _ _ h => h) (Or.inl ⟨by rfl, fun w9 hSw => ?_⟩) hHeld ?_
                    · obtain ⟨s0, s1, s2⟩ := hSw
                      go_simp
                    simp only [zA, zB, zC, Act.put, zD, zE, zF]
                    refine OrdersZ.takeZ (i := 2) (v := .slice (some ⟨g, 0, none⟩) (m + 1) vc) rfl (by kernel_rfl) (by kernel_rfl) (by kernel_rfl) (by kernel_rfl) (by kernel_rfl) (fun _ _ _ h => h) (Or.inl ⟨by rfl, fun w9 hSw => ?_⟩) hHeld ?_
                    · obtain ⟨s0, s1, s2⟩ := hSw
                      go_simp
                    simp only [zA, zB, zC, Act.put, zD, zE, zF]
                    refine OrdersZ.takeZ (i := 3) (v := .int .i64 (m : Int)) rfl (by kernel_rfl) (by kernel_rfl) (by kernel_rfl) (by kernel_rfl) (by kernel_rfl) (fun _ _ _ h => h) (Or.inl ⟨by rfl, fun w9 hSw => ?_⟩) hHeld ?_
                    · obtain ⟨s0, s1, s2⟩ := hSw
                      go_simp
                    simp only [zA, zB, zC, Act.put, zD, zE, zF]
                    refine OrdersZ.takeZ (i := 4) (v := .pointer (some ⟨g, m * 3, none⟩)) rfl (by kernel_rfl) (by kernel_rfl) (by kernel_rfl) (by kernel_rfl) (by kernel_rfl) (fun _ _ _ h => h) (Or.inl ⟨by rfl, fun w9 hSw => ?_⟩) hHeld ?_
                    · obtain ⟨s0, s1, s2⟩ := hSw
                      go_simp
                      all_goals (first | rfl | omega | (simp; done) | (simp; omega) | (trace_state; sorry))
                    simp only [zA, zB, zC, Act.put, zD, zE, zF]
                    refine OrdersZ.takeZ (i := 5) (v := .pointer (some ⟨g, m * 3 + 1, none⟩)) rfl (by kernel_rfl) (by kernel_rfl) (by kernel_rfl) (by kernel_rfl) (by kernel_rfl) (fun _ _ _ h => h) (Or.inl ⟨by rfl, fun w9 hSw => ?_⟩) hHeld ?_
                    · obtain ⟨s0, s1, s2⟩ := hSw
                      go_simp
                    simp only [zA, zB, zC, Act.put, zD, zE, zF]
                    refine OrdersZ.takeZ (i := 6) (v := .slice na (0) nc) rfl (by kernel_rfl) (by kernel_rfl) (by kernel_rfl) (by kernel_rfl) (by kernel_rfl) (fun _ _ _ h => h) (Or.inl ⟨by rfl, fun w9 hSw => ?_⟩) hHeld ?_
                    · obtain ⟨s0, s1, s2⟩ := hSw
                      go_simp
                    simp only [zA, zB, zC, Act.put, zD, zE, zF]
                    refine OrdersZ.takeZ (i := 7) (v := .slice (some ⟨b, off, none⟩) ws.length c) rfl (by kernel_rfl) (by kernel_rfl) (by kernel_rfl) (by kernel_rfl) (by kernel_rfl) (fun _ _ _ h => h) (Or.inl ⟨by rfl, fun w9 hSw => ?_⟩) hHeld ?_
                    · obtain ⟨s0, s1, s2⟩ := hSw
                      go_simp
                    simp only [zA, zB, zC, Act.put, zD, zE, zF]
                    refine OrdersZ.takeZ (i := 8) (v := .int .i64 (k : Int)) rfl (by kernel_rfl) (by kernel_rfl) (by kernel_rfl) (by kernel_rfl) (by kernel_rfl) (fun _ _ _ h => h) (Or.inl ⟨by rfl, fun w9 hSw => ?_⟩) hHeld ?_
                    · obtain ⟨s0, s1, s2⟩ := hSw
                      go_simp
                    simp only [zA, zB, zC, Act.put, zD, zE, zF]
                    refine OrdersZ.takeZ (i := 9) (v := .pointer (some ⟨b, off + k * 3, none⟩)) rfl (by kernel_rfl) (by kernel_rfl) (by kernel_rfl) (by kernel_rfl) (by kernel_rfl) (fun _ _ _ h => h) (Or.inl ⟨by rfl, fun w9 hSw => ?_⟩) hHeld ?_
                    · obtain ⟨s0, s1, s2⟩ := hSw
                      go_simp
                      all_goals (first | rfl | omega | (simp; done) | (simp; omega) | (trace_state; sorry))
                    simp only [zA, zB, zC, Act.put, zD, zE, zF]
                    refine OrdersZ.takeZ (i := 10) (v := .pointer (some ⟨b, off + k * 3, none⟩)) rfl (by kernel_rfl) (by kernel_rfl) (by kernel_rfl) (by kernel_rfl) (by kernel_rfl) (fun _ _ _ h => h) (Or.inl ⟨by rfl, fun w9 hSw => ?_⟩) hHeld ?_
                    · obtain ⟨s0, s1, s2⟩ := hSw
                      go_simp
                    simp only [zA, zB, zC, Act.put, zD, zE, zF]
                    refine OrdersZ.takeZ (i := 11) (v := .string ⟨x.text.toArray⟩) rfl (by kernel_rfl) (by kernel_rfl) (by kernel_rfl) (by kernel_rfl) (by kernel_rfl) (fun _ _ _ h => h) (Or.inl ⟨by rfl, fun w9 hSw => ?_⟩) hHeld ?_
                    · obtain ⟨s0, s1, s2⟩ := hSw
                      go_simp
                    simp only [zA, zB, zC, Act.put, zD, zE, zF]
                    refine OrdersZ.takeZ (i := 12) (v := .slice (some ⟨b, off, none⟩) ws.length c) rfl (by kernel_rfl) (by kernel_rfl) (by kernel_rfl) (by kernel_rfl) (by kernel_rfl) (fun _ _ _ h => h) (Or.inl ⟨by rfl, fun w9 hSw => ?_⟩) hHeld ?_
                    · obtain ⟨s0, s1, s2⟩ := hSw
                      go_simp
                    simp only [zA, zB, zC, Act.put, zD, zE, zF]
                    refine OrdersZ.takeZ (i := 13) (v := .int .i64 (k : Int)) rfl (by kernel_rfl) (by kernel_rfl) (by kernel_rfl) (by kernel_rfl) (by kernel_rfl) (fun _ _ _ h => h) (Or.inl ⟨by rfl, fun w9 hSw => ?_⟩) hHeld ?_
                    · obtain ⟨s0, s1, s2⟩ := hSw
                      go_simp
                    simp only [zA, zB, zC, Act.put, zD, zE, zF]
                    refine OrdersZ.takeZ (i := 14) (v := .pointer (some ⟨b, off + k * 3, none⟩)) rfl (by kernel_rfl) (by kernel_rfl) (by kernel_rfl) (by kernel_rfl) (by kernel_rfl) (fun _ _ _ h => h) (Or.inl ⟨by rfl, fun w9 hSw => ?_⟩) hHeld ?_
                    · obtain ⟨s0, s1, s2⟩ := hSw
                      go_simp
                      all_goals (first | rfl | omega | (simp; done) | (simp; omega) | (trace_state; sorry))
                    simp only [zA, zB, zC, Act.put, zD, zE, zF]
                    refine OrdersZ.takeZ (i := 15) (v := .pointer (some ⟨b, off + k * 3 + 1, none⟩)) rfl (by kernel_rfl) (by kernel_rfl) (by kernel_rfl) (by kernel_rfl) (by kernel_rfl) (fun _ _ _ h => h) (Or.inl ⟨by rfl, fun w9 hSw => ?_⟩) hHeld ?_
                    · obtain ⟨s0, s1, s2⟩ := hSw
                      go_simp
                    simp only [zA, zB, zC, Act.put, zD, zE, zF]
                    refine OrdersZ.takeZ (i := 16) (v := .bool x.quoted) rfl (by kernel_rfl) (by kernel_rfl) (by kernel_rfl) (by kernel_rfl) (by kernel_rfl) (fun _ _ _ h => h) (Or.inl ⟨by rfl, fun w9 hSw => ?_⟩) hHeld ?_
                    · obtain ⟨s0, s1, s2⟩ := hSw
                      go_simp
                    simp only [zA, zB, zC, Act.put, zD, zE, zF]
                    refine OrdersZ.takeZ (i := 17) (v := .agg #[.string ⟨x.text.toArray⟩, .bool x.quoted]) rfl (by kernel_rfl) (by kernel_rfl) (by kernel_rfl) (by kernel_rfl) (by kernel_rfl) (fun _ _ _ h => h) (Or.inl ⟨by rfl, fun w9 hSw => ?_⟩) hHeld ?_
                    · obtain ⟨s0, s1, s2⟩ := hSw
                      go_simp
                      all_goals (first | rfl | omega | (simp; done) | (simp; omega) | (trace_state; sorry))
                    simp only [zA, zB, zC, Act.put, zD, zE, zF]
                    refine OrdersZ.readyZ (i := 18) (by kernel_rfl) rfl (fun K hK => ?_)
                    go_simp
                    have hB7 : Below Wd.heap.size Wd (Wd.alloc (.cells #[.string ⟨x.text.toArray⟩, .bool x.quoted] 125)) := (Below.refl _ _).alloc (Nat.le_refl _) _
                    refine hK.out _ _ ⟨(hB7.cell (p := ⟨g, m * 3 + 1, none⟩) hrad.lt).trans hd1, (hB7.cell (p := ⟨b, off + k * 3, none⟩) (GramRow.cell_lt hd2)).trans hd2, (hB7.cell (p := ⟨b, off + k * 3 + 1, none⟩) (GramRow.cell_lt hd3)).trans hd3⟩ (fun hHeld => ?_)
                    clear hK K
                    refine OrdersZ.readyZ (i := 19) (by kernel_rfl) rfl (fun K hK => ?_)
                    refine step_append_lies _ rfl (.tmp 120) (.tmp 132) 89 rfl w.heap.size 125 i1 (.agg #[.string ⟨#[]⟩, .bool false]) 2 24 Tryz.underlying89 hi1 hz3 hz4 hz5 rfl (by decide) (.slice na (0) nc) (0) (cellsN q'.s.names) (by rfl) (hNown.alloc _) ⟨Wd.heap.size, 0, none⟩ 1 1 [.string ⟨x.text.toArray⟩, .bool x.quoted] (by rfl) rfl (WordsBytes.cells_new _ #[_, _] _) (by simp [Value.oneCell']) (by omega) (by unfold maxLen; omega) (by omega) (by simp; omega) (Wd.heap.size + 1) (by simp) ?_
                    intro g6 c6 w6 hown6 hgrow6 hat6 hlt6
                    have hgs := hgrow6.size
                    rw [World.size_alloc] at hgs
                    obtain ⟨curN, hgne⟩ : ∃ c, (Value.slice na (0) nc).ownBlock = c := ⟨_, rfl⟩
                    have hng : (Value.slice na (0) nc).ownBlock ≠ some g := fun e => by
                      obtain ⟨_, ⟨e1, _⟩ | ⟨gg, cap2, cur2, e1, _, e3, _⟩⟩ := hNown
                      · rw [e1] at e; cases e
                      · rw [e1] at e
                        obtain rfl : gg = g := by simpa [Value.ownBlock] using e
                        have h5 : Wd.heap[gg]? = some (.cells _ 91 (0, 0)) := hrad
                        rw [e3] at h5
                        cases h5
                    have hfg : w6.heap[g]? = Wd.heap[g]? := grown_far hgrow6 hrad.lt hng
                    have hfb : w6.heap[b]? = Wd.heap[b]? := grown_far hgrow6 (GramRow.cell_lt hd2) (fun e => by have := (hNown.lt b e).1; omega)
                    have hra6 := hfg.trans hrad
                    have hc6 : w6.cell? ⟨g, m * 3 + 1, none⟩ = some (.slice na (0) nc) := (World.cell?_of_block hfg).trans hd1
                    have hc7 : w6.cell? ⟨b, off + k * 3, none⟩ = some (.string ⟨x.text.toArray⟩) := (World.cell?_of_block hfb).trans hd2
                    have hc8 : w6.cell? ⟨b, off + k * 3 + 1, none⟩ = some (.bool x.quoted) := (World.cell?_of_block hfb).trans hd3
                    refine hK.out _ _ ⟨hc6, hc7, hc8⟩ (fun hHeld => ?_)
                    clear hK K
                    try simp only [zA, zB, zC, Act.put, zD, zE, zF]
                    have hm9 : (m : Int) < (m : Int) + 1 := by omega
                    refine OrdersZ.readyZ (i := 20) (by kernel_rfl) rfl (fun K hK => ?_)
                    go_simp
                    refine hK.out _ _ ⟨hc6, hc7, hc8⟩ (fun hHeld => ?_)
                    clear hK K
                    try simp only [zA, zB, zC, Act.put, zD, zE, zF]
                    refine OrdersZ.readyZ (i := 21) (by kernel_rfl) rfl (fun K hK => ?_)
                    go_simp
                    refine hK.out _ _ ⟨hc6, hc7, hc8⟩ (fun hHeld => ?_)
                    clear hK K hm9
                    try simp only [zA, zB, zC, Act.put, zD, zE, zF]
                    have f6 := RowAt.frozen hra6 (m * 3 + 1)
                    refine OrdersZ.lastZ (by kernel_rfl) rfl (fun K hK => ?_)
                    go_simp
                    refine hK.out _ _ ?_
                    clear hK K
                    refine OrdersZ.doneZ (by kernel_rfl) (NoPanic.normal ?_) _
                    have hB6 : Below w.heap.size w w6 := hBd.trans ⟨hgrow6.os, hgrow6.tape, hgrow6.output, by omega, fun j hj => grown_far hgrow6 (by omega) (fun e => by have := (hNown.lt j e).1; omega)⟩
                    have hB8 := hB6.setCell (p := ⟨g, m * 3 + 1, none⟩) hgB (.slice (some ⟨g6, 0, none⟩) (0 + 1) c6)
                    have hSd8 := SdsAt.name (x := x) (g6 := g6) (c6 := c6) hSdd (by simp [HM.out]) (by rw [HL.out]; exact hown6) (by rw [HQ.out]; exact hgrow6) (by rw [HQ.out]; exact hat6)
                    rw [← HM.out, HL.out] at hSd8
                    clear hown6 hgrow6 hat6 hlt6 hSdd hNown hrad hd1 hd2 hd3 hc6 hc7 hc8 hfg hfb hra6 f6 hB6 hHeld hng hgne curN hB7
                    go_wp2
                    go_roundw
                    case rel => exact ⟨k + 1, _, _, by omega, by go_num, rfl, by simp [← HM.out]; omega, hSd8, Or.inr ⟨by simp, by omega, by rw [HR.out]; simp⟩, (fun r hr => by
                      rcases List.mem_append.1 hr with hr | hr
                      · have := HN.out r (by simp [hr]); omega
                      · rw [List.mem_singleton.1 hr]
                        show (q'.s.names ++ [x]).length ≤ _
                        rw [List.length_append, HL.out]
                        show 0 + 1 ≤ _
                        omega), hB8⟩
                    case measure => simp [intOf]; omega
                  · have HR : Hid (RR = docGo (left) (ws.drop (k + 1)) (dn.map (·.s) ++ [⟨q.s.left, q.s.names ++ [x], q.s.at_⟩])) := by
                      show _ = _
                      rw [hR, if_neg hn0]
                    have hl0 : ¬ (q.s.names.length : Int) = 0 := by
                      intro e
                      exact hn0 (List.length_eq_zero_iff.1 (by omega))
                    have hl1 : ((q.s.names.length : Int) == 0) = false := by simpa using hn0
                    rw [hqv] at hq13
                    obtain ⟨q', rfl⟩ : ∃ q', q' = q := ⟨_, rfl⟩
                    obtain ⟨W4, rfl⟩ : ∃ W4, W4 = w3 := ⟨_, rfl⟩
                    obtain ⟨qn, hqn9⟩ : ∃ qn, qn = q'.s.names.length := ⟨_, rfl⟩
                    have HL : Hid (q'.s.names.length = qn) := hqn9.symm
                    rw [← hqn9] at hq13 hl0 hl1 hnq
                    have HQ : Hid (q'.v = .slice na qn nc) := by show _ = _; rw [HQV.out, HL.out]
                    have hSd4 := hSd3
                    rw [HNL.out] at hSd4
                    have hB4 := hB3
                    have hra4 := hra3
                    have hqc := hq13
                    clear hR hqv hSd3 hB3 hra3 hq13 hn0 hqn9
                    obtain ⟨e0, e1, e2⟩ := HWC.out W4 hB4 k x hxk
                    have hsB4 := hB4.size
                    have hgl4 : g < W4.heap.size := hra4.lt
                    obtain ⟨Wd, hWd⟩ : ∃ Wd, W4.drew = Wd := ⟨_, rfl⟩
                    have hbd : Below W4.heap.size W4 Wd := by rw [← hWd]; exact ⟨rfl, rfl, rfl, Nat.le_refl _, fun _ _ => rfl⟩
                    have hSdd := hSd4.below hbd
                    have hBd := hB4.trans (hbd.mono hsB4)
                    have hrad := hra4.below hbd hgl4
                    have hd1 := (hbd.cell (p := ⟨g, m * 3 + 1, none⟩) hgl4).trans hqc
                    have hbl : b < W4.heap.size := GramRow.cell_lt e0
                    have hbw : b < w.heap.size := HBW.out
                    have hd2 := (hbd.cell (p := ⟨b, off + k * 3, none⟩) hbl).trans e0
                    have hd3 := (hbd.cell (p := ⟨b, off + k * 3 + 1, none⟩) hbl).trans e1
                    have hsBd := hBd.size
                    have hNown := hSdd.each _ q' (at_last dn q')
                    rw [HQ.out, HL.out] at hNown
                    clear hSd4 hB4 hra4 e0 e1 e2 hsB4
                    go_wp2_with fail
                    clear hqc
                    refine wp_region_noPanic ?_
                    refine OrdersZ.region_Z (S := (fun w9 => w9.cell? ⟨g, m * 3 + 1, none⟩ = some (.slice na (qn) nc) ∧ w9.cell? ⟨b, off + k * 3, none⟩ = some (.string ⟨x.text.toArray⟩) ∧ w9.cell? ⟨b, off + k * 3 + 1, none⟩ = some (.bool x.quoted))) 22 (by kernel_rfl) (by rw [hWd]; exact ⟨hd1, hd2, hd3⟩) (fun hHeld => ?_)
                    rw [hWd] at hHeld ⊢
                    clear hWd hbd
                    refine OrdersZ.takeZ (i := 0) (v := .slice (some ⟨g, 0, none⟩) (m + 1) vc) rfl (by kernel_rfl) (by kernel_rfl) (by kernel_rfl) (by kernel_rfl) (by kernel_rfl) (fun _ _ _ h => h) (Or.inl ⟨by rfl, fun w9 hSw => ?_⟩) hHeld ?_
                    · obtain ⟨s0, s1, s2⟩ := hSw
                      go_simp
                    simp only [zA, zB, zC, Act.put, zD, zE, zF]
                    refine OrdersZ.takeZ (i := 1) (v := .int .i64 (m : Int)) rfl (by kernel_rfl) (by kernel_rfl) (by kernel_rfl) (by kernel_rfl) (by kernel_rfl) (fun _ _ _ h => h) (Or.inl ⟨by rfl, fun w9 hSw => ?_⟩) hHeld ?_
                    · obtain ⟨s0, s1, s2⟩ := hSw
                      go_simp
                    simp only [zA, zB, zC, Act.put, zD, zE, zF]
                    refine OrdersZ.takeZ (i := 2) (v := .slice (some ⟨g, 0, none⟩) (m + 1) vc) rfl (by kernel_rfl) (by kernel_rfl) (by kernel_rfl) (by kernel_rfl) (by kernel_rfl) (fun _ _ _ h => h) (Or.inl ⟨by rfl, fun w9 hSw => ?_⟩) hHeld ?_
                    · obtain ⟨s0, s1, s2⟩ := hSw
                      go_simp
                    simp only [zA, zB, zC, Act.put, zD, zE, zF]
                    refine OrdersZ.takeZ (i := 3) (v := .int .i64 (m : Int)) rfl (by kernel_rfl) (by kernel_rfl) (by kernel_rfl) (by kernel_rfl) (by kernel_rfl) (fun _ _ _ h => h) (Or.inl ⟨by rfl, fun w9 hSw => ?_⟩) hHeld ?_
                    · obtain ⟨s0, s1, s2⟩ := hSw
                      go_simp
                    simp only [zA, zB, zC, Act.put, zD, zE, zF]
                    refine OrdersZ.takeZ (i := 4) (v := .pointer (some ⟨g, m * 3, none⟩)) rfl (by kernel_rfl) (by kernel_rfl) (by kernel_rfl) (by kernel_rfl) (by kernel_rfl) (fun _ _ _ h => h) (Or.inl ⟨by rfl, fun w9 hSw => ?_⟩) hHeld ?_
                    · obtain ⟨s0, s1, s2⟩ := hSw
                      go_simp
                      all_goals (first | rfl | omega | (simp; done) | (simp; omega) | (trace_state; sorry))
                    simp only [zA, zB, zC, Act.put, zD, zE, zF]
                    refine OrdersZ.takeZ (i := 5) (v := .pointer (some ⟨g, m * 3 + 1, none⟩)) rfl (by kernel_rfl) (by kernel_rfl) (by kernel_rfl) (by kernel_rfl) (by kernel_rfl) (fun _ _ _ h => h) (Or.inl ⟨by rfl, fun w9 hSw => ?_⟩) hHeld ?_
                    · obtain ⟨s0, s1, s2⟩ := hSw
                      go_simp
                    simp only [zA, zB, zC, Act.put, zD, zE, zF]
                    refine OrdersZ.takeZ (i := 6) (v := .slice na (qn) nc) rfl (by kernel_rfl) (by kernel_rfl) (by kernel_rfl) (by kernel_rfl) (by kernel_rfl) (fun _ _ _ h => h) (Or.inl ⟨by rfl, fun w9 hSw => ?_⟩) hHeld ?_
                    · obtain ⟨s0, s1, s2⟩ := hSw
                      go_simp
                    simp only [zA, zB, zC, Act.put, zD, zE, zF]
                    refine OrdersZ.takeZ (i := 7) (v := .slice (some ⟨b, off, none⟩) ws.length c) rfl (by kernel_rfl) (by kernel_rfl) (by kernel_rfl) (by kernel_rfl) (by kernel_rfl) (fun _ _ _ h => h) (Or.inl ⟨by rfl, fun w9 hSw => ?_⟩) hHeld ?_
                    · obtain ⟨s0, s1, s2⟩ := hSw
                      go_simp
                    simp only [zA, zB, zC, Act.put, zD, zE, zF]
                    refine OrdersZ.takeZ (i := 8) (v := .int .i64 (k : Int)) rfl (by kernel_rfl) (by kernel_rfl) (by kernel_rfl) (by kernel_rfl) (by kernel_rfl) (fun _ _ _ h => h) (Or.inl ⟨by rfl, fun w9 hSw => ?_⟩) hHeld ?_
                    · obtain ⟨s0, s1, s2⟩ := hSw
                      go_simp
                    simp only [zA, zB, zC, Act.put, zD, zE, zF]
                    refine OrdersZ.takeZ (i := 9) (v := .pointer (some ⟨b, off + k * 3, none⟩)) rfl (by kernel_rfl) (by kernel_rfl) (by kernel_rfl) (by kernel_rfl) (by kernel_rfl) (fun _ _ _ h => h) (Or.inl ⟨by rfl, fun w9 hSw => ?_⟩) hHeld ?_
                    · obtain ⟨s0, s1, s2⟩ := hSw
                      go_simp
                      all_goals (first | rfl | omega | (simp; done) | (simp; omega) | (trace_state; sorry))
                    simp only [zA, zB, zC, Act.put, zD, zE, zF]
                    refine OrdersZ.takeZ (i := 10) (v := .pointer (some ⟨b, off + k * 3, none⟩)) rfl (by kernel_rfl) (by kernel_rfl) (by kernel_rfl) (by kernel_rfl) (by kernel_rfl) (fun _ _ _ h => h) (Or.inl ⟨by rfl, fun w9 hSw => ?_⟩) hHeld ?_
                    · obtain ⟨s0, s1, s2⟩ := hSw
                      go_simp
                    simp only [zA, zB, zC, Act.put, zD, zE, zF]
                    refine OrdersZ.takeZ (i := 11) (v := .string ⟨x.text.toArray⟩) rfl (by kernel_rfl) (by kernel_rfl) (by kernel_rfl) (by kernel_rfl) (by kernel_rfl) (fun _ _ _ h => h) (Or.inl ⟨by rfl, fun w9 hSw => ?_⟩) hHeld ?_
                    · obtain ⟨s0, s1, s2⟩ := hSw
                      go_simp
                    simp only [zA, zB, zC, Act.put, zD, zE, zF]
                    refine OrdersZ.takeZ (i := 12) (v := .slice (some ⟨b, off, none⟩) ws.length c) rfl (by kernel_rfl) (by kernel_rfl) (by kernel_rfl) (by kernel_rfl) (by kernel_rfl) (fun _ _ _ h => h) (Or.inl ⟨by rfl, fun w9 hSw => ?_⟩) hHeld ?_
                    · obtain ⟨s0, s1, s2⟩ := hSw
                      go_simp
                    simp only [zA, zB, zC, Act.put, zD, zE, zF]
                    refine OrdersZ.takeZ (i := 13) (v := .int .i64 (k : Int)) rfl (by kernel_rfl) (by kernel_rfl) (by kernel_rfl) (by kernel_rfl) (by kernel_rfl) (fun _ _ _ h => h) (Or.inl ⟨by rfl, fun w9 hSw => ?_⟩) hHeld ?_
                    · obtain ⟨s0, s1, s2⟩ := hSw
                      go_simp
                    simp only [zA, zB, zC, Act.put, zD, zE, zF]
                    refine OrdersZ.takeZ (i := 14) (v := .pointer (some ⟨b, off + k * 3, none⟩)) rfl (by kernel_rfl) (by kernel_rfl) (by kernel_rfl) (by kernel_rfl) (by kernel_rfl) (fun _ _ _ h => h) (Or.inl ⟨by rfl, fun w9 hSw => ?_⟩) hHeld ?_
                    · obtain ⟨s0, s1, s2⟩ := hSw
                      go_simp
                      all_goals (first | rfl | omega | (simp; done) | (simp; omega) | (trace_state; sorry))
                    simp only [zA, zB, zC, Act.put, zD, zE, zF]
                    refine OrdersZ.takeZ (i := 15) (v := .pointer (some ⟨b, off + k * 3 + 1, none⟩)) rfl (by kernel_rfl) (by kernel_rfl) (by kernel_rfl) (by kernel_rfl) (by kernel_rfl) (fun _ _ _ h => h) (Or.inl ⟨by rfl, fun w9 hSw => ?_⟩) hHeld ?_
                    · obtain ⟨s0, s1, s2⟩ := hSw
                      go_simp
                    simp only [zA, zB, zC, Act.put, zD, zE, zF]
                    refine OrdersZ.takeZ (i := 16) (v := .bool x.quoted) rfl (by kernel_rfl) (by kernel_rfl) (by kernel_rfl) (by kernel_rfl) (by kernel_rfl) (fun _ _ _ h => h) (Or.inl ⟨by rfl, fun w9 hSw => ?_⟩) hHeld ?_
                    · obtain ⟨s0, s1, s2⟩ := hSw
                      go_simp
                    simp only [zA, zB, zC, Act.put, zD, zE, zF]
                    refine OrdersZ.takeZ (i := 17) (v := .agg #[.string ⟨x.text.toArray⟩, .bool x.quoted]) rfl (by kernel_rfl) (by kernel_rfl) (by kernel_rfl) (by kernel_rfl) (by kernel_rfl) (fun _ _ _ h => h) (Or.inl ⟨by rfl, fun w9 hSw => ?_⟩) hHeld ?_
                    · obtain ⟨s0, s1, s2⟩ := hSw
                      go_simp
                      all_goals (first | rfl | omega | (simp; done) | (simp; omega) | (trace_state; sorry))
                    simp only [zA, zB, zC, Act.put, zD, zE, zF]
                    refine OrdersZ.readyZ (i := 18) (by kernel_rfl) rfl (fun K hK => ?_)
                    go_simp
                    have hB7 : Below Wd.heap.size Wd (Wd.alloc (.cells #[.string ⟨x.text.toArray⟩, .bool x.quoted] 125)) := (Below.refl _ _).alloc (Nat.le_refl _) _
                    refine hK.out _ _ ⟨(hB7.cell (p := ⟨g, m * 3 + 1, none⟩) hrad.lt).trans hd1, (hB7.cell (p := ⟨b, off + k * 3, none⟩) (GramRow.cell_lt hd2)).trans hd2, (hB7.cell (p := ⟨b, off + k * 3 + 1, none⟩) (GramRow.cell_lt hd3)).trans hd3⟩ (fun hHeld => ?_)
                    clear hK K
                    refine OrdersZ.readyZ (i := 19) (by kernel_rfl) rfl (fun K hK => ?_)
                    refine step_append_lies _ rfl (.tmp 120) (.tmp 132) 89 rfl w.heap.size 125 i1 (.agg #[.string ⟨#[]⟩, .bool false]) 2 24 Tryz.underlying89 hi1 hz3 hz4 hz5 rfl (by decide) (.slice na (qn) nc) (qn) (cellsN q'.s.names) (by rfl) (hNown.alloc _) ⟨Wd.heap.size, 0, none⟩ 1 1 [.string ⟨x.text.toArray⟩, .bool x.quoted] (by rfl) rfl (WordsBytes.cells_new _ #[_, _] _) (by simp [Value.oneCell']) (by omega) (by unfold maxLen; omega) (by omega) (by simp; omega) (Wd.heap.size + 1) (by simp) ?_
                    intro g6 c6 w6 hown6 hgrow6 hat6 hlt6
                    have hgs := hgrow6.size
                    rw [World.size_alloc] at hgs
                    obtain ⟨curN, hgne⟩ : ∃ c, (Value.slice na (qn) nc).ownBlock = c := ⟨_, rfl⟩
                    have hng : (Value.slice na (qn) nc).ownBlock ≠ some g := fun e => by
                      obtain ⟨_, ⟨e1, _⟩ | ⟨gg, cap2, cur2, e1, _, e3, _⟩⟩ := hNown
                      · rw [e1] at e; cases e
                      · rw [e1] at e
                        obtain rfl : gg = g := by simpa [Value.ownBlock] using e
                        have h5 : Wd.heap[gg]? = some (.cells _ 91 (0, 0)) := hrad
                        rw [e3] at h5
                        cases h5
                    have hfg : w6.heap[g]? = Wd.heap[g]? := grown_far hgrow6 hrad.lt hng
                    have hfb : w6.heap[b]? = Wd.heap[b]? := grown_far hgrow6 (GramRow.cell_lt hd2) (fun e => by have := (hNown.lt b e).1; omega)
                    have hra6 := hfg.trans hrad
                    have hc6 : w6.cell? ⟨g, m * 3 + 1, none⟩ = some (.slice na (qn) nc) := (World.cell?_of_block hfg).trans hd1
                    have hc7 : w6.cell? ⟨b, off + k * 3, none⟩ = some (.string ⟨x.text.toArray⟩) := (World.cell?_of_block hfb).trans hd2
                    have hc8 : w6.cell? ⟨b, off + k * 3 + 1, none⟩ = some (.bool x.quoted) := (World.cell?_of_block hfb).trans hd3
                    refine hK.out _ _ ⟨hc6, hc7, hc8⟩ (fun hHeld => ?_)
                    clear hK K
                    try simp only [zA, zB, zC, Act.put, zD, zE, zF]
                    have hm9 : (m : Int) < (m : Int) + 1 := by omega
                    refine OrdersZ.readyZ (i := 20) (by kernel_rfl) rfl (fun K hK => ?_)
                    go_simp
                    refine hK.out _ _ ⟨hc6, hc7, hc8⟩ (fun hHeld => ?_)
                    clear hK K
                    try simp only [zA, zB, zC, Act.put, zD, zE, zF]
                    refine OrdersZ.readyZ (i := 21) (by kernel_rfl) rfl (fun K hK => ?_)
                    go_simp
                    refine hK.out _ _ ⟨hc6, hc7, hc8⟩ (fun hHeld => ?_)
                    clear hK K hm9
                    try simp only [zA, zB, zC, Act.put, zD, zE, zF]
                    have f6 := RowAt.frozen hra6 (m * 3 + 1)
                    refine OrdersZ.lastZ (by kernel_rfl) rfl (fun K hK => ?_)
                    go_simp
                    refine hK.out _ _ ?_
                    clear hK K
                    refine OrdersZ.doneZ (by kernel_rfl) (NoPanic.normal ?_) _
                    have hB6 : Below w.heap.size w w6 := hBd.trans ⟨hgrow6.os, hgrow6.tape, hgrow6.output, by omega, fun j hj => grown_far hgrow6 (by omega) (fun e => by have := (hNown.lt j e).1; omega)⟩
                    have hB8 := hB6.setCell (p := ⟨g, m * 3 + 1, none⟩) hgB (.slice (some ⟨g6, 0, none⟩) (qn + 1) c6)
                    have hSd8 := SdsAt.name (x := x) (g6 := g6) (c6 := c6) hSdd (by simp [HM.out]) (by rw [HL.out]; exact hown6) (by rw [HQ.out]; exact hgrow6) (by rw [HQ.out]; exact hat6)
                    rw [← HM.out, HL.out] at hSd8
                    clear hown6 hgrow6 hat6 hlt6 hSdd hNown hrad hd1 hd2 hd3 hc6 hc7 hc8 hfg hfb hra6 f6 hB6 hHeld hng hgne curN hB7
                    go_wp2
                    go_roundw
                    case rel => exact ⟨k + 1, _, _, by omega, by go_num, rfl, by simp [← HM.out]; omega, hSd8, Or.inr ⟨by simp, by omega, by rw [HR.out]; simp⟩, (fun r hr => by
                      rcases List.mem_append.1 hr with hr | hr
                      · have := HN.out r (by simp [hr]); omega
                      · rw [List.mem_singleton.1 hr]
                        show (q'.s.names ++ [x]).length ≤ _
                        rw [List.length_append, HL.out]
                        show qn + 1 ≤ _
                        omega), hB8⟩
                    case measure => simp [intOf]; omega
        · obtain rfl : k = ws.length := by omega
          have hlt2 : ¬ (ws.length : Int) < (ws.length : Int) := by omega
          rcases HF.out with ⟨hq0, hk1, hk0, y, hy, hR⟩ | ⟨hqn, hlo, hR⟩
          · rw [List.getElem?_eq_none (Nat.le_refl _)] at hy
            cases hy
          · rw [List.drop_length] at hR
            have HR : Hid (RR = .ok (qs.map (·.s))) := hR
            clear HF hR
            go_wp2
            refine bodyPost_ret (v := .tuple #[.slice va qs.length vc, .int .i64 (-1)]) (by simp [results, Tryz.results52, go_sem]) rfl ⟨?_, hB⟩
            rw [HD.out, HR.out]
            exact ⟨_, qs, rfl, hSd, rfl⟩
  | false =>
    have H124 : Hid (mk x0 124 = false) := h124
    obtain ⟨c0, c1, c2⟩ := HWC.out w1 hb1 0 x0 HX0.out
    rw [Nat.zero_mul, Nat.add_zero] at c0 c1 c2
    have hnm := SpecRf.name_any x0 w1 (by omega)
    unfold wdV at hnm
    have hsb1 := hb1.size
    clear h124
    go_wp2_with fail
    refine hnm.mono ?_
    rintro e w2 ⟨rfl, hb2⟩
    have hB2 := hb1.trans (hb2.mono hsb1)
    clear hnm hb2 hb1 hsb1 c0 c1 c2
    have hsB2 := hB2.size
    obtain ⟨c0, c1, c2⟩ := HWC.out w2 hB2 0 x0 HX0.out
    rw [Nat.zero_mul, Nat.add_zero] at c0 c1 c2
    cases hnb : nameB x0 with
    | false =>
      have HD : Hid (docLine ws left stop = .error x0.place) := by
        show _ = _
        rw [HWS.out]
        unfold docLine
        simp only
        rw [if_neg (by rw [H124.out]; decide), if_neg (by rw [hnb]; simp)]
      clear hnb HWS
      go_wp2
      go_quiet (fail)
      go_wp2
      refine bodyPost_ret (v := .tuple #[.slice none 0 0, .int .i64 (x0.place : Int)]) (by simp [results, Tryz.results52, go_sem]) rfl ⟨?_, bdrew hB2 _⟩
      rw [HD.out]
      rfl
    | true =>
      cases hq : x0.quoted with
      | true =>
        rw [hq] at c1
        have HD : Hid (docLine ws left stop = .error x0.place) := by
          show _ = _
          rw [HWS.out]
          unfold docLine
          simp only
          rw [if_neg (by rw [H124.out]; decide), if_neg (by rw [hq]; simp)]
        clear hnb hq HWS
        go_wp2
        go_quiet (fail)
        go_wp2
        refine bodyPost_ret (v := .tuple #[.slice none 0 0, .int .i64 (x0.place : Int)]) (by simp [results, Tryz.results52, go_sem]) rfl ⟨?_, bdrew hB2 _⟩
        rw [HD.out]
        rfl
      | false =>
        rw [hq] at c1
        have HNQ : Hid ((nameB x0 && !x0.quoted) = true) := by show _ = _; rw [hnb, hq]; rfl
        clear hnb hq
        by_cases hl1 : ws.length = 1
        · have HD : Hid (docLine ws left stop = .error stop) := by
            show _ = _
            have hd1 : ws.drop 1 = [] := List.drop_of_length_le (by omega)
            rw [HWS.out, hd1]
            unfold docLine
            simp only
            rw [if_neg (by rw [H124.out]; decide), if_pos HNQ.out]
          have kk : ((ws.length : Int) == 1) = true := by rw [hl1]; rfl
          clear hl1 HWS
          go_wp2
          refine bodyPost_ret (v := .tuple #[.slice none 0 0, .int .i64 (stop : Int)]) (by simp [results, Tryz.results52, go_sem]) rfl ⟨?_, hB2⟩
          rw [HD.out]
          rfl
        · have kk : ((ws.length : Int) == 1) = false := by simp; omega
          have hl2 : (1 : Int) < (ws.length : Int) := by omega
          obtain ⟨x1, hx1⟩ : ∃ x, ws[1]? = some x := ⟨_, List.getElem?_eq_getElem (by omega)⟩
          obtain ⟨e0, e1, e2⟩ := HWC.out w2 hB2 1 x1 hx1
          rw [Nat.one_mul] at e0 e1 e2
          have HX1 : Hid (ws[1]? = some x1) := hx1
          have hd1 : ws.drop 1 = x1 :: ws.drop 2 := by
            obtain ⟨hk', e⟩ := List.getElem?_eq_some_iff.1 hx1
            rw [← e]
            exact List.drop_eq_getElem_cons hk'
          have HD1 : Hid (ws = x0 :: x1 :: ws.drop 2) := by show _ = _; rw [← hd1]; exact HWS.out
          obtain ⟨hxt1, hxp1⟩ := HX.out x1 (List.mem_of_getElem? hx1)
          have hmk := mark_any x1 58 w2
          unfold wdV at hmk
          clear hl1 hd1 hx1 HWS
          go_wp2_with fail
          refine hmk.mono ?_
          rintro e w3 ⟨rfl, hb3⟩
          have hB3 := hB2.trans (hb3.mono hsB2)
          have hsB3 := hB3.size
          clear hmk hb3 hB2 hsB2 c0 c1 c2 e0 e1 e2
          obtain ⟨e0, e1, e2⟩ := HWC.out w3 hB3 1 x1 HX1.out
          rw [Nat.one_mul] at e0 e1 e2
          cases h58 : mk x1 58 with
          | false =>
            have HD : Hid (docLine ws left stop = .error x1.place) := by
              show _ = _
              rw [HD1.out]
              unfold docLine
              simp only
              rw [if_neg (by rw [H124.out]; decide), if_pos HNQ.out, if_neg (by rw [h58]; decide)]
            clear h58
            go_wp2
            go_quiet (fail)
            go_wp2
            refine bodyPost_ret (v := .tuple #[.slice none 0 0, .int .i64 (x1.place : Int)]) (by simp [results, Tryz.results52, go_sem]) rfl ⟨?_, bdrew hB3 _⟩
            rw [HD.out]
            rfl
          | true =>
            obtain ⟨RR, hRR⟩ : ∃ RR, RR = docGo x0.text (ws.drop 2) [⟨x0.text, [], x1.place + 1⟩] := ⟨_, rfl⟩
            have HD : Hid (docLine ws left stop = RR.map (·, x0.text)) := by
              show _ = _
              rw [HD1.out, hRR]
              unfold docLine
              simp only
              rw [if_neg (by rw [H124.out]; decide), if_pos HNQ.out, if_pos h58]
            have HR1 : Hid (RR = docGo x0.text (ws.drop (1 + 1)) [⟨x0.text, [], x1.place + 1⟩]) := hRR
            clear h58 hRR e0 e1 e2
            go_wp2
            go_loopw [8, 9] (fun ov iv W => ∃ (k : Nat) (v : Value) (qs : List Sq), k ≤ ws.length ∧ iv = .int .i64 k ∧ ov = v ∧ qs.length ≤ k ∧ SdsAt W w.heap.size v qs ∧ Hid ((qs = [] ∧ k ≤ 1 ∧ 1 ≤ k ∧ ∃ x, ws[k]? = some x ∧ RR = docGo (x0.text) (ws.drop (k + 1)) [⟨x0.text, [], x.place + 1⟩]) ∨ (qs ≠ [] ∧ 2 ≤ k ∧ RR = docGo (x0.text) (ws.drop k) (qs.map (·.s)))) ∧ Hid (∀ q ∈ qs, q.s.names.length ≤ k) ∧ Below w.heap.size w W) (fun _ iv _ => ws.length - (intOf iv).toNat)
            case atStart => exact ⟨1, .slice none 0 0, [], by omega, rfl, rfl, Nat.zero_le _, SdsAt.nil _ _, Or.inl ⟨rfl, by omega, by omega, x1, HX1.out, HR1.out⟩, (fun q hq => by cases hq), hB3⟩
            case round =>
              obtain ⟨k, v, qs, hk, rfl, hve, hqk, hSd, HF, HN, hB⟩ := hrel
              obtain ⟨V, rfl⟩ : ∃ V, V = wr := ⟨_, rfl⟩
              have hsB := hB.size
              obtain ⟨va, vc, hv⟩ : ∃ va vc, v = .slice va qs.length vc := by
                obtain ⟨_, ⟨e1, e2⟩ | ⟨g, cap, cur, e1, _⟩⟩ := hSd.row
                · exact ⟨none, 0, by rw [e1, e2]⟩
                · exact ⟨_, _, e1⟩
              subst hv
              subst hve
              by_cases hlt : k < ws.length
              · have hlt2 : (k : Int) < (ws.length : Int) := by omega
                obtain ⟨x, hxk⟩ : ∃ x, ws[k]? = some x := ⟨_, List.getElem?_eq_getElem hlt⟩
                obtain ⟨e0, e1, e2⟩ := HWC.out V hB k x hxk
                obtain ⟨hxt, hxp⟩ := HX.out x (List.mem_of_getElem? hxk)
                have hdr : ws.drop k = x :: ws.drop (k + 1) := by
                  obtain ⟨hk', e⟩ := List.getElem?_eq_some_iff.1 hxk
                  rw [← e]
                  exact List.drop_eq_getElem_cons hk'
                rcases HF.out with ⟨hq0, hk1, hk0, y, hy, hR⟩ | ⟨hqn, hlo, hR⟩
                · subst hq0
                  rw [hxk] at hy
                  cases hy
                  have kk1 : (k : Int) ≤ 1 := by omega
                  have HR : Hid (RR = docGo (x0.text) (ws.drop (k + 1)) [⟨x0.text, [], x.place + 1⟩]) := hR
                  have hrow := hSd.row
                  clear HF hR hdr hxk
                  go_wp2_with (at_builtin; refine wpList_append_own _ rfl _ _ 60 rfl w.heap.size 91 i0 (.agg #[.string ⟨#[]⟩, .slice none 0 0, .int .i64 0]) 3 48 Tryz.underlying60 hi hz0 hz1 hz2 rfl (by decide) _ _ _ rfl (hrow.alloc _) ⟨V.heap.size, 0, none⟩ 1 1 [.string ⟨x0.text.toArray⟩, .slice none 0 0, .int .i64 ((x.place : Int) + 1)] rfl rfl (cells_new _ #[_, _, _] _) (by simp [Value.oneCell']) (by unfold maxLen; omega) (by omega) (by simp; omega) ?_; intro u1 w3 hown1 hgrow1 _)
                  have hB3 : Below w.heap.size w w3 := by
                    have hgs := hgrow1.size
                    rw [World.size_alloc] at hgs
                    exact hB.trans ⟨hgrow1.os, hgrow1.tape, hgrow1.output, by omega, fun j hj => grown_far hgrow1 (by omega) (fun e => by have := (hrow.lt j e).1; omega)⟩
                  have hSd3 := hSd.push (left := x0.text) (at_ := x.place + 1) hown1 hgrow1
                  clear hown1 hgrow1 hrow hSd hB e0 e1 e2
                  go_wp2
                  go_roundw
                  case rel => exact ⟨k + 1, u1, _, by omega, by go_num, rfl, by simp, hSd3, Or.inr ⟨by simp, by omega, HR.out⟩, (fun q hq => by simp at hq; rw [hq]; exact Nat.zero_le _), hB3⟩
                  case measure => simp [intOf]; omega
                · obtain ⟨dn, q, rfl⟩ : ∃ dn q, qs = dn ++ [q] := ⟨qs.dropLast, qs.getLast hqn, (List.dropLast_concat_getLast hqn).symm⟩
                  rw [hdr] at hR
                  obtain ⟨m, hm⟩ : ∃ m, m = dn.length := ⟨_, rfl⟩
                  have hnl : (dn ++ [q]).length = m + 1 := by simp [hm]
                  rw [hnl] at hqk
                  have hrow := hSd.row
                  obtain ⟨g, cap, hva, hgB, hgl⟩ := hrow.form (by rw [hnl]; omega)
                  cases hva
                  have HNL : Hid ((dn ++ [q]).length = m + 1) := hnl
                  have HM : Hid (m = dn.length) := hm
                  have hrw : V.ownsRow w.heap.size 91 3 (.slice (some ⟨g, 0, none⟩) (m + 1) vc) (m + 1) (cellsS (dn ++ [q])) := by rw [← hnl]; exact hrow
                  obtain ⟨cur, hra, _, _⟩ := own_rowS hrw
                  have hq1 : V.cell? ⟨g, m * 3 + 1, none⟩ = some q.v := by
                    rw [hrw.cellAt _ (by omega), hm]
                    exact (cellsS_at _ _ _ (at_last dn q)).2.1
                  have hq2 : V.cell? ⟨g, m * 3 + 2, none⟩ = some (.int .i64 (q.s.at_ : Int)) := by
                    rw [hrw.cellAt _ (by omega), hm]
                    exact (cellsS_at _ _ _ (at_last dn q)).2.2
                  obtain ⟨na, nc, hqv⟩ : ∃ na nc, q.v = .slice na q.s.names.length nc := by
                    obtain ⟨_, ⟨e1, e2⟩ | ⟨g, cap, cur, e1, _⟩⟩ := hSd.each _ q (at_last dn q)
                    · exact ⟨none, 0, by rw [e1, e2]⟩
                    · exact ⟨_, _, e1⟩
                  have hnq : q.s.names.length ≤ k := HN.out q (by simp)
                  rw [hnl]
                  have hmk := mark_any x 124 V
                  unfold wdV at hmk
                  clear hm hnl HF hrow hqn
                  have kk2 : ¬ ((m : Int) + 1) = 0 := by omega
                  have kk3 : (((m : Int) + 1) == 0) = false := by simp; omega
                  have kk1 : ¬ (k : Int) ≤ 1 := by omega
                  go_wp2_with fail
                  refine hmk.mono ?_
                  rintro e w2 ⟨rfl, hb2⟩
                  have hB2 := hB.trans (hb2.mono hsB)
                  have hSd2 := hSd.below hb2
                  have hra2 := hra.below hb2 hgl
                  have hq12 := (hb2.cell (p := ⟨g, m * 3 + 1, none⟩) hgl).trans hq1
                  have hq22 := (hb2.cell (p := ⟨g, m * 3 + 2, none⟩) hgl).trans hq2
                  have hgl2 : g < w2.heap.size := Nat.lt_of_lt_of_le hgl hb2.size
                  have HQV : Hid (q.v = .slice na q.s.names.length nc) := hqv
                  clear hmk hb2 hSd hra hq1 hq2 hB hrw e0 e1 e2 hsB hgl
                  have hsB2 := hB2.size
                  obtain ⟨e0, e1, e2⟩ := HWC.out w2 hB2 k x hxk
                  cases h124 : mk x 124 with
                  | true =>
                    rw [go_bar h124] at hR
                    have HR : Hid (RR = docGo (x0.text) (ws.drop (k + 1)) ((dn ++ [q]).map (·.s) ++ [⟨x0.text, [], x.place + 1⟩])) := hR
                    have hrow := hSd2.row
                    rw [HNL.out] at hrow
                    clear hR hdr hxk h124 hq12 hq22 hra2 hqv
                    go_wp2_with (at_builtin; refine wpList_append_own _ rfl _ _ 60 rfl w.heap.size 91 i0 (.agg #[.string ⟨#[]⟩, .slice none 0 0, .int .i64 0]) 3 48 Tryz.underlying60 hi hz0 hz1 hz2 rfl (by decide) _ _ _ rfl (hrow.alloc _) ⟨w2.heap.size, 0, none⟩ 1 1 [.string ⟨x0.text.toArray⟩, .slice none 0 0, .int .i64 ((x.place : Int) + 1)] rfl rfl (cells_new _ #[_, _, _] _) (by simp [Value.oneCell']) (by unfold maxLen; omega) (by omega) (by simp; omega) ?_; intro u1 w3 hown1 hgrow1 _)
                    have hB3 : Below w.heap.size w w3 := by
                      have hgs := hgrow1.size
                      rw [World.size_alloc] at hgs
                      exact hB2.trans ⟨hgrow1.os, hgrow1.tape, hgrow1.output, by omega, fun j hj => grown_far hgrow1 (by omega) (fun e => by have := (hrow.lt j e).1; omega)⟩
                    have hSd3 := SdsAt.push (left := x0.text) (at_ := x.place + 1) (qs := dn ++ [q]) hSd2 (by rw [HNL.out]; exact hown1) (by rw [HNL.out]; exact hgrow1)
                    clear hown1 hgrow1 hrow hSd2 hB2 e0 e1 e2
                    go_wp2
                    go_roundw
                    case rel => exact ⟨k + 1, u1, _, by omega, by go_num, rfl, by have := HNL.out; simp at this ⊢; omega, hSd3, Or.inr ⟨by simp, by omega, by rw [HR.out]; simp⟩, (fun q' hq' => by
                      rcases List.mem_append.1 hq' with hq' | hq'
                      · have := HN.out q' hq'; omega
                      · rw [List.mem_singleton.1 hq']; exact Nat.zero_le _), hB3⟩
                    case measure => simp [intOf]; omega
                  | false =>
                    have hnm := SpecRf.name_any x w2 (by omega)
                    unfold wdV at hnm
                    go_wp2_with fail
                    refine hnm.mono ?_
                    rintro e w3 ⟨rfl, hb3⟩
                    have hB3 := hB2.trans (hb3.mono hsB2)
                    have hSd3 := hSd2.below hb3
                    have hra3 := hra2.below hb3 hgl2
                    have hq13 := (hb3.cell (p := ⟨g, m * 3 + 1, none⟩) hgl2).trans hq12
                    have hq23 := (hb3.cell (p := ⟨g, m * 3 + 2, none⟩) hgl2).trans hq22
                    clear hnm hb3 hSd2 hra2 hq12 hq22 hB2 e0 e1 e2 hsB2
                    have hsB3 := hB3.size
                    obtain ⟨e0, e1, e2⟩ := HWC.out w3 hB3 k x hxk
                    cases hnb : nameB x with
                    | false =>
                      rw [go_bad h124 hnb] at hR
                      have HR : Hid (RR = .error x.place) := hR
                      clear hR hdr hxk h124 hnb hq13 hq23 hra3 hqv hSd3
                      go_wp2
                      go_quiet (fail)
                      go_wp2
                      refine bodyPost_ret (v := .tuple #[.slice none 0 0, .int .i64 (x.place : Int)]) (by simp [results, Tryz.results52, go_sem]) rfl ⟨?_, bdrew hB3 _⟩
                      rw [HD.out, HR.out]
                      rfl
                    | true =>
                      rw [go_nm h124 hnb] at hR
                      rw [List.map_append, List.map_cons, List.map_nil, push_last] at hR
                      clear hdr h124 hnb
                      by_cases hn0 : q.s.names = []
                      · have hl0 : q.s.names.length = 0 := by rw [hn0]; rfl
                        have hqv0 : q.v = .slice na 0 nc := by rw [HQV.out, hl0]
                        have f2 := hra3.frozen (m * 3 + 2)
                        have hSd4 := hSd3.setAt (a := x.place) rfl
                        rw [HNL.out, ← HM.out] at hSd4
                        have hB4 := hB3.setCell (p := ⟨g, m * 3 + 2, none⟩) hgB (.int .i64 (x.place : Int))
                        have hra4 := hra3.set (m * 3 + 2) (.int .i64 (x.place : Int))
                        obtain ⟨W4, hW4⟩ : ∃ W4, W4 = w3.setCell ⟨g, m * 3 + 2, none⟩ (.int .i64 (x.place : Int)) := ⟨_, rfl⟩
                        have HW4 : Hid (_) := hW4
                        rw [← hW4] at hSd4 hB4 hra4
                        rw [hqv0] at hq13
                        have hcq : cur[m * 3 + 1]? = some (.slice na 0 nc) := by
                          have h9 := hq13
                          unfold World.cell? at h9
                          rw [show w3.heap[g]? = _ from hra3] at h9
                          exact h9
                        have hqc : W4.cell? ⟨g, m * 3 + 1, none⟩ = some (.slice na 0 nc) := hra4.cell (q := m * 3 + 1) (by rw [Array.getElem?_setIfInBounds_ne (by omega)]; exact hcq)
                        obtain ⟨q', hq'⟩ : ∃ q', q' = (⟨⟨q.s.left, q.s.names, x.place⟩, q.v⟩ : Sq) := ⟨_, rfl⟩
                        rw [← hq'] at hSd4
                        have HR : Hid (RR = docGo (x0.text) (ws.drop (k + 1)) (dn.map (·.s) ++ [⟨q'.s.left, q'.s.names ++ [x], q'.s.at_⟩])) := by
                          show _ = _
                          rw [hR, if_pos hn0, Nat.zero_add, hq']
                        have HQ : Hid (q'.v = .slice na 0 nc) := by show _ = _; rw [hq']; exact hqv0
                        have HL : Hid (q'.s.names.length = 0) := by show _ = _; rw [hq']; exact hl0
                        clear hR hqv hqv0 hW4 hSd3 hB3 hra3 hq' hn0
                        obtain ⟨e0, e1, e2⟩ := HWC.out W4 hB4 k x hxk
                        have hsB4 := hB4.size
                        have hgl4 : g < W4.heap.size := hra4.lt
                        obtain ⟨Wd, hWd⟩ : ∃ Wd, W4.drew = Wd := ⟨_, rfl⟩
                        have hbd : Below W4.heap.size W4 Wd := by rw [← hWd]; exact ⟨rfl, rfl, rfl, Nat.le_refl _, fun _ _ => rfl⟩
                        have hSdd := hSd4.below hbd
                        have hBd := hB4.trans (hbd.mono hsB4)
                        have hrad := hra4.below hbd hgl4
                        have hd1 := (hbd.cell (p := ⟨g, m * 3 + 1, none⟩) hgl4).trans hqc
                        have hbl : b < W4.heap.size := GramRow.cell_lt e0
                        have hbw : b < w.heap.size := HBW.out
                        have hd2 := (hbd.cell (p := ⟨b, off + k * 3, none⟩) hbl).trans e0
                        have hd3 := (hbd.cell (p := ⟨b, off + k * 3 + 1, none⟩) hbl).trans e1
                        have hsBd := hBd.size
                        have hNown := hSdd.each _ q' (at_last dn q')
                        rw [HQ.out, HL.out] at hNown
                        clear hSd4 hB4 hra4 e0 e1 e2 hsB4
                        go_wp2_with (rw [← HW4.out])
                        clear hqc
                        refine wp_region_noPanic ?_
                        refine OrdersZ.region_Z (S := (fun w9 => w9.cell? ⟨g, m * 3 + 1, none⟩ = some (.slice na (0) nc) ∧ w9.cell? ⟨b, off + k * 3, none⟩ = some (.string ⟨x.text.toArray⟩) ∧ w9.cell? ⟨b, off + k * 3 + 1, none⟩ = some (.bool x.quoted))) 22 (by kernel_rfl) (by rw [hWd]; exact ⟨hd1, hd2, hd3⟩) (fun hHeld => ?_)
                        rw [hWd] at hHeld ⊢
                        clear hWd hbd
                        refine OrdersZ.takeZ (i := 0) (v := .slice (some ⟨g, 0, none⟩) (m + 1) vc) rfl (by kernel_rfl) (by kernel_rfl) (by kernel_rfl) (by kernel_rfl) (by kernel_rfl) (fun _ _ _ h => h) (Or.inl ⟨by rfl, fun w9 hSw => ?_⟩) hHeld ?_
                        · obtain ⟨s0, s1, s2⟩ := hSw
                          go_simp
                        simp only [zA, zB, zC, Act.put, zD, zE, zF]
                        refine OrdersZ.takeZ (i := 1) (v := .int .i64 (m : Int)) rfl (by kernel_rfl) (by kernel_rfl) (by kernel_rfl) (by kernel_rfl) (by kernel_rfl) (fun _ _ _ h => h) (Or.inl ⟨by rfl, fun w9 hSw => ?_⟩) hHeld ?_
                        · obtain ⟨s0, s1, s2⟩ := hSw
                          go_simp
                        simp only [zA, zB, zC, Act.put, zD, zE, zF]
                        refine OrdersZ.takeZ (i := 2) (v := .slice (some ⟨g, 0, none⟩) (m + 1) vc) rfl (by kernel_rfl) (by kernel_rfl) (by kernel_rfl) (by kernel_rfl) (by kernel_rfl) (fun _ _ _ h => h) (Or.inl ⟨by rfl, fun w9 hSw => ?_⟩) hHeld ?_
                        · obtain ⟨s0, s1, s2⟩ := hSw
                          go_simp
                        simp only [zA, zB, zC, Act.put, zD, zE, zF]
                        refine OrdersZ.takeZ (i := 3) (v := .int .i64 (m : Int)) rfl (by kernel_rfl) (by kernel_rfl) (by kernel_rfl) (by kernel_rfl) (by kernel_rfl) (fun _ _ _ h => h) (Or.inl ⟨by rfl, fun w9 hSw => ?_⟩) hHeld ?_
                        · obtain ⟨s0, s1, s2⟩ := hSw
                          go_simp
                        simp only [zA, zB, zC, Act.put, zD, zE, zF]
                        refine OrdersZ.takeZ (i := 4) (v := .pointer (some ⟨g, m * 3, none⟩)) rfl (by kernel_rfl) (by kernel_rfl) (by kernel_rfl) (by kernel_rfl) (by kernel_rfl) (fun _ _ _ h => h) (Or.inl ⟨by rfl, fun w9 hSw => ?_⟩) hHeld ?_
                        · obtain ⟨s0, s1, s2⟩ := hSw
                          go_simp
                          all_goals (first | rfl | omega | (simp; done) | (simp; omega) | (trace_state; sorry))
                        simp only [zA, zB, zC, Act.put, zD, zE, zF]
                        refine OrdersZ.takeZ (i := 5) (v := .pointer (some ⟨g, m * 3 + 1, none⟩)) rfl (by kernel_rfl) (by kernel_rfl) (by kernel_rfl) (by kernel_rfl) (by kernel_rfl) (fun _ _ _ h => h) (Or.inl ⟨by rfl, fun w9 hSw => ?_⟩) hHeld ?_
                        · obtain ⟨s0, s1, s2⟩ := hSw
                          go_simp
                        simp only [zA, zB, zC, Act.put, zD, zE, zF]
                        refine OrdersZ.takeZ (i := 6) (v := .slice na (0) nc) rfl (by kernel_rfl) (by kernel_rfl) (by kernel_rfl) (by kernel_rfl) (by kernel_rfl) (fun _ _ _ h => h) (Or.inl ⟨by rfl, fun w9 hSw => ?_⟩) hHeld ?_
                        · obtain ⟨s0, s1, s2⟩ := hSw
                          go_simp
                        simp only [zA, zB, zC, Act.put, zD, zE, zF]
                        refine OrdersZ.takeZ (i := 7) (v := .slice (some ⟨b, off, none⟩) ws.length c) rfl (by kernel_rfl) (by kernel_rfl) (by kernel_rfl) (by kernel_rfl) (by kernel_rfl) (fun _ _ _ h => h) (Or.inl ⟨by rfl, fun w9 hSw => ?_⟩) hHeld ?_
                        · obtain ⟨s0, s1, s2⟩ := hSw
                          go_simp
                        simp only [zA, zB, zC, Act.put, zD, zE, zF]
                        refine OrdersZ.takeZ (i := 8) (v := .int .i64 (k : Int)) rfl (by kernel_rfl) (by kernel_rfl) (by kernel_rfl) (by kernel_rfl) (by kernel_rfl) (fun _ _ _ h => h) (Or.inl ⟨by rfl, fun w9 hSw => ?_⟩) hHeld ?_
                        · obtain ⟨s0, s1, s2⟩ := hSw
                          go_simp
                        simp only [zA, zB, zC, Act.put, zD, zE, zF]
                        refine OrdersZ.takeZ (i := 9) (v := .pointer (some ⟨b, off + k * 3, none⟩)) rfl (by kernel_rfl) (by kernel_rfl) (by kernel_rfl) (by kernel_rfl) (by kernel_rfl) (fun _ _ _ h => h) (Or.inl ⟨by rfl, fun w9 hSw => ?_⟩) hHeld ?_
                        · obtain ⟨s0, s1, s2⟩ := hSw
                          go_simp
                          all_goals (first | rfl | omega | (simp; done) | (simp; omega) | (trace_state; sorry))
                        simp only [zA, zB, zC, Act.put, zD, zE, zF]
                        refine OrdersZ.takeZ (i := 10) (v := .pointer (some ⟨b, off + k * 3, none⟩)) rfl (by kernel_rfl) (by kernel_rfl) (by kernel_rfl) (by kernel_rfl) (by kernel_rfl) (fun _ _ _ h => h) (Or.inl ⟨by rfl, fun w9 hSw => ?_⟩) hHeld ?_
                        · obtain ⟨s0, s1, s2⟩ := hSw
                          go_simp
                        simp only [zA, zB, zC, Act.put, zD, zE, zF]
                        refine OrdersZ.takeZ (i := 11) (v := .string ⟨x.text.toArray⟩) rfl (by kernel_rfl) (by kernel_rfl) (by kernel_rfl) (by kernel_rfl) (by kernel_rfl) (fun _ _ _ h => h) (Or.inl ⟨by rfl, fun w9 hSw => ?_⟩) hHeld ?_
                        · obtain ⟨s0, s1, s2⟩ := hSw
                          go_simp
                        simp only [zA, zB, zC, Act.put, zD, zE, zF]
                        refine OrdersZ.takeZ (i := 12) (v := .slice (some ⟨b, off, none⟩) ws.length c) rfl (by kernel_rfl) (by kernel_rfl) (by kernel_rfl) (by kernel_rfl) (by kernel_rfl) (fun _ _ _ h => h) (Or.inl ⟨by rfl, fun w9 hSw => ?_⟩) hHeld ?_
                        · obtain ⟨s0, s1, s2⟩ := hSw
                          go_simp
                        simp only [zA, zB, zC, Act.put, zD, zE, zF]
                        refine OrdersZ.takeZ (i := 13) (v := .int .i64 (k : Int)) rfl (by kernel_rfl) (by kernel_rfl) (by kernel_rfl) (by kernel_rfl) (by kernel_rfl) (fun _ _ _ h => h) (Or.inl ⟨by rfl, fun w9 hSw => ?_⟩) hHeld ?_
                        · obtain ⟨s0, s1, s2⟩ := hSw
                          go_simp
                        simp only [zA, zB, zC, Act.put, zD, zE, zF]
                        refine OrdersZ.takeZ (i := 14) (v := .pointer (some ⟨b, off + k * 3, none⟩)) rfl (by kernel_rfl) (by kernel_rfl) (by kernel_rfl) (by kernel_rfl) (by kernel_rfl) (fun _ _ _ h => h) (Or.inl ⟨by rfl, fun w9 hSw => ?_⟩) hHeld ?_
                        · obtain ⟨s0, s1, s2⟩ := hSw
                          go_simp
                          all_goals (first | rfl | omega | (simp; done) | (simp; omega) | (trace_state; sorry))
                        simp only [zA, zB, zC, Act.put, zD, zE, zF]
                        refine OrdersZ.takeZ (i := 15) (v := .pointer (some ⟨b, off + k * 3 + 1, none⟩)) rfl (by kernel_rfl) (by kernel_rfl) (by kernel_rfl) (by kernel_rfl) (by kernel_rfl) (fun _ _ _ h => h) (Or.inl ⟨by rfl, fun w9 hSw => ?_⟩) hHeld ?_
                        · obtain ⟨s0, s1, s2⟩ := hSw
                          go_simp
                        simp only [zA, zB, zC, Act.put, zD, zE, zF]
                        refine OrdersZ.takeZ (i := 16) (v := .bool x.quoted) rfl (by kernel_rfl) (by kernel_rfl) (by kernel_rfl) (by kernel_rfl) (by kernel_rfl) (fun _ _ _ h => h) (Or.inl ⟨by rfl, fun w9 hSw => ?_⟩) hHeld ?_
                        · obtain ⟨s0, s1, s2⟩ := hSw
                          go_simp
                        simp only [zA, zB, zC, Act.put, zD, zE, zF]
                        refine OrdersZ.takeZ (i := 17) (v := .agg #[.string ⟨x.text.toArray⟩, .bool x.quoted]) rfl (by kernel_rfl) (by kernel_rfl) (by kernel_rfl) (by kernel_rfl) (by kernel_rfl) (fun _ _ _ h => h) (Or.inl ⟨by rfl, fun w9 hSw => ?_⟩) hHeld ?_
                        · obtain ⟨s0, s1, s2⟩ := hSw
                          go_simp
                          all_goals (first | rfl | omega | (simp; done) | (simp; omega) | (trace_state; sorry))
                        simp only [zA, zB, zC, Act.put, zD, zE, zF]
                        refine OrdersZ.readyZ (i := 18) (by kernel_rfl) rfl (fun K hK => ?_)
                        go_simp
                        have hB7 : Below Wd.heap.size Wd (Wd.alloc (.cells #[.string ⟨x.text.toArray⟩, .bool x.quoted] 125)) := (Below.refl _ _).alloc (Nat.le_refl _) _
                        refine hK.out _ _ ⟨(hB7.cell (p := ⟨g, m * 3 + 1, none⟩) hrad.lt).trans hd1, (hB7.cell (p := ⟨b, off + k * 3, none⟩) (GramRow.cell_lt hd2)).trans hd2, (hB7.cell (p := ⟨b, off + k * 3 + 1, none⟩) (GramRow.cell_lt hd3)).trans hd3⟩ (fun hHeld => ?_)
                        clear hK K
                        refine OrdersZ.readyZ (i := 19) (by kernel_rfl) rfl (fun K hK => ?_)
                        refine step_append_lies _ rfl (.tmp 120) (.tmp 132) 89 rfl w.heap.size 125 i1 (.agg #[.string ⟨#[]⟩, .bool false]) 2 24 Tryz.underlying89 hi1 hz3 hz4 hz5 rfl (by decide) (.slice na (0) nc) (0) (cellsN q'.s.names) (by rfl) (hNown.alloc _) ⟨Wd.heap.size, 0, none⟩ 1 1 [.string ⟨x.text.toArray⟩, .bool x.quoted] (by rfl) rfl (WordsBytes.cells_new _ #[_, _] _) (by simp [Value.oneCell']) (by omega) (by unfold maxLen; omega) (by omega) (by simp; omega) (Wd.heap.size + 1) (by simp) ?_
                        intro g6 c6 w6 hown6 hgrow6 hat6 hlt6
                        have hgs := hgrow6.size
                        rw [World.size_alloc] at hgs
                        obtain ⟨curN, hgne⟩ : ∃ c, (Value.slice na (0) nc).ownBlock = c := ⟨_, rfl⟩
                        have hng : (Value.slice na (0) nc).ownBlock ≠ some g := fun e => by
                          obtain ⟨_, ⟨e1, _⟩ | ⟨gg, cap2, cur2, e1, _, e3, _⟩⟩ := hNown
                          · rw [e1] at e; cases e
                          · rw [e1] at e
                            obtain rfl : gg = g := by simpa [Value.ownBlock] using e
                            have h5 : Wd.heap[gg]? = some (.cells _ 91 (0, 0)) := hrad
                            rw [e3] at h5
                            cases h5
                        have hfg : w6.heap[g]? = Wd.heap[g]? := grown_far hgrow6 hrad.lt hng
                        have hfb : w6.heap[b]? = Wd.heap[b]? := grown_far hgrow6 (GramRow.cell_lt hd2) (fun e => by have := (hNown.lt b e).1; omega)
                        have hra6 := hfg.trans hrad
                        have hc6 : w6.cell? ⟨g, m * 3 + 1, none⟩ = some (.slice na (0) nc) := (World.cell?_of_block hfg).trans hd1
                        have hc7 : w6.cell? ⟨b, off + k * 3, none⟩ = some (.string ⟨x.text.toArray⟩) := (World.cell?_of_block hfb).trans hd2
                        have hc8 : w6.cell? ⟨b, off + k * 3 + 1, none⟩ = some (.bool x.quoted) := (World.cell?_of_block hfb).trans hd3
                        refine hK.out _ _ ⟨hc6, hc7, hc8⟩ (fun hHeld => ?_)
                        clear hK K
                        try simp only [zA, zB, zC, Act.put, zD, zE, zF]
                        have hm9 : (m : Int) < (m : Int) + 1 := by omega
                        refine OrdersZ.readyZ (i := 20) (by kernel_rfl) rfl (fun K hK => ?_)
                        go_simp
                        refine hK.out _ _ ⟨hc6, hc7, hc8⟩ (fun hHeld => ?_)
                        clear hK K
                        try simp only [zA, zB, zC, Act.put, zD, zE, zF]
                        refine OrdersZ.readyZ (i := 21) (by kernel_rfl) rfl (fun K hK => ?_)
                        go_simp
                        refine hK.out _ _ ⟨hc6, hc7, hc8⟩ (fun hHeld => ?_)
                        clear hK K hm9
                        try simp only [zA, zB, zC, Act.put, zD, zE, zF]
                        have f6 := RowAt.frozen hra6 (m * 3 + 1)
                        refine OrdersZ.lastZ (by kernel_rfl) rfl (fun K hK => ?_)
                        go_simp
                        refine hK.out _ _ ?_
                        clear hK K
                        refine OrdersZ.doneZ (by kernel_rfl) (NoPanic.normal ?_) _
                        have hB6 : Below w.heap.size w w6 := hBd.trans ⟨hgrow6.os, hgrow6.tape, hgrow6.output, by omega, fun j hj => grown_far hgrow6 (by omega) (fun e => by have := (hNown.lt j e).1; omega)⟩
                        have hB8 := hB6.setCell (p := ⟨g, m * 3 + 1, none⟩) hgB (.slice (some ⟨g6, 0, none⟩) (0 + 1) c6)
                        have hSd8 := SdsAt.name (x := x) (g6 := g6) (c6 := c6) hSdd (by simp [HM.out]) (by rw [HL.out]; exact hown6) (by rw [HQ.out]; exact hgrow6) (by rw [HQ.out]; exact hat6)
                        rw [← HM.out, HL.out] at hSd8
                        clear hown6 hgrow6 hat6 hlt6 hSdd hNown hrad hd1 hd2 hd3 hc6 hc7 hc8 hfg hfb hra6 f6 hB6 hHeld hng hgne curN hB7
                        go_wp2
                        go_roundw
                        case rel => exact ⟨k + 1, _, _, by omega, by go_num, rfl, by simp [← HM.out]; omega, hSd8, Or.inr ⟨by simp, by omega, by rw [HR.out]; simp⟩, (fun r hr => by
                          rcases List.mem_append.1 hr with hr | hr
                          · have := HN.out r (by simp [hr]); omega
                          · rw [List.mem_singleton.1 hr]
                            show (q'.s.names ++ [x]).length ≤ _
                            rw [List.length_append, HL.out]
                            show 0 + 1 ≤ _
                            omega), hB8⟩
                        case measure => simp [intOf]; omega
                      · have HR : Hid (RR = docGo (x0.text) (ws.drop (k + 1)) (dn.map (·.s) ++ [⟨q.s.left, q.s.names ++ [x], q.s.at_⟩])) := by
                          show _ = _
                          rw [hR, if_neg hn0]
                        have hl0 : ¬ (q.s.names.length : Int) = 0 := by
                          intro e
                          exact hn0 (List.length_eq_zero_iff.1 (by omega))
                        have hl1 : ((q.s.names.length : Int) == 0) = false := by simpa using hn0
                        rw [hqv] at hq13
                        obtain ⟨q', rfl⟩ : ∃ q', q' = q := ⟨_, rfl⟩
                        obtain ⟨W4, rfl⟩ : ∃ W4, W4 = w3 := ⟨_, rfl⟩
                        obtain ⟨qn, hqn9⟩ : ∃ qn, qn = q'.s.names.length := ⟨_, rfl⟩
                        have HL : Hid (q'.s.names.length = qn) := hqn9.symm
                        rw [← hqn9] at hq13 hl0 hl1 hnq
                        have HQ : Hid (q'.v = .slice na qn nc) := by show _ = _; rw [HQV.out, HL.out]
                        have hSd4 := hSd3
                        rw [HNL.out] at hSd4
                        have hB4 := hB3
                        have hra4 := hra3
                        have hqc := hq13
                        clear hR hqv hSd3 hB3 hra3 hq13 hn0 hqn9
                        obtain ⟨e0, e1, e2⟩ := HWC.out W4 hB4 k x hxk
                        have hsB4 := hB4.size
                        have hgl4 : g < W4.heap.size := hra4.lt
                        obtain ⟨Wd, hWd⟩ : ∃ Wd, W4.drew = Wd := ⟨_, rfl⟩
                        have hbd : Below W4.heap.size W4 Wd := by rw [← hWd]; exact ⟨rfl, rfl, rfl, Nat.le_refl _, fun _ _ => rfl⟩
                        have hSdd := hSd4.below hbd
                        have hBd := hB4.trans (hbd.mono hsB4)
                        have hrad := hra4.below hbd hgl4
                        have hd1 := (hbd.cell (p := ⟨g, m * 3 + 1, none⟩) hgl4).trans hqc
                        have hbl : b < W4.heap.size := GramRow.cell_lt e0
                        have hbw : b < w.heap.size := HBW.out
                        have hd2 := (hbd.cell (p := ⟨b, off + k * 3, none⟩) hbl).trans e0
                        have hd3 := (hbd.cell (p := ⟨b, off + k * 3 + 1, none⟩) hbl).trans e1
                        have hsBd := hBd.size
                        have hNown := hSdd.each _ q' (at_last dn q')
                        rw [HQ.out, HL.out] at hNown
                        clear hSd4 hB4 hra4 e0 e1 e2 hsB4
                        go_wp2_with fail
                        clear hqc
                        refine wp_region_noPanic ?_
                        refine OrdersZ.region_Z (S := (fun w9 => w9.cell? ⟨g, m * 3 + 1, none⟩ = some (.slice na (qn) nc) ∧ w9.cell? ⟨b, off + k * 3, none⟩ = some (.string ⟨x.text.toArray⟩) ∧ w9.cell? ⟨b, off + k * 3 + 1, none⟩ = some (.bool x.quoted))) 22 (by kernel_rfl) (by rw [hWd]; exact ⟨hd1, hd2, hd3⟩) (fun hHeld => ?_)
                        rw [hWd] at hHeld ⊢
                        clear hWd hbd
                        refine OrdersZ.takeZ (i := 0) (v := .slice (some ⟨g, 0, none⟩) (m + 1) vc) rfl (by kernel_rfl) (by kernel_rfl) (by kernel_rfl) (by kernel_rfl) (by kernel_rfl) (fun _ _ _ h => h) (Or.inl ⟨by rfl, fun w9 hSw => ?_⟩) hHeld ?_
                        · obtain ⟨s0, s1, s2⟩ := hSw
                          go_simp
                        simp only [zA, zB, zC, Act.put, zD, zE, zF]
                        refine OrdersZ.takeZ (i := 1) (v := .int .i64 (m : Int)) rfl (by kernel_rfl) (by kernel_rfl) (by kernel_rfl) (by kernel_rfl) (by kernel_rfl) (fun _ _ _ h => h) (Or.inl ⟨by rfl, fun w9 hSw => ?_⟩) hHeld ?_
                        · obtain ⟨s0, s1, s2⟩ := hSw
                          go_simp
                        simp only [zA, zB, zC, Act.put, zD, zE, zF]
                        refine OrdersZ.takeZ (i := 2) (v := .slice (some ⟨g, 0, none⟩) (m + 1) vc) rfl (by kernel_rfl) (by kernel_rfl) (by kernel_rfl) (by kernel_rfl) (by kernel_rfl) (fun _ _ _ h => h) (Or.inl ⟨by rfl, fun w9 hSw => ?_⟩) hHeld ?_
                        · obtain ⟨s0, s1, s2⟩ := hSw
                          go_simp
                        simp only [zA, zB, zC, Act.put, zD, zE, zF]
                        refine OrdersZ.takeZ (i := 3) (v := .int .i64 (m : Int)) rfl (by kernel_rfl) (by kernel_rfl) (by kernel_rfl) (by kernel_rfl) (by kernel_rfl) (fun _ _ _ h => h) (Or.inl ⟨by rfl, fun w9 hSw => ?_⟩) hHeld ?_
                        · obtain ⟨s0, s1, s2⟩ := hSw
                          go_simp
                        simp only [zA, zB, zC, Act.put, zD, zE, zF]
                        refine OrdersZ.takeZ (i := 4) (v := .pointer (some ⟨g, m * 3, none⟩)) rfl (by kernel_rfl) (by kernel_rfl) (by kernel_rfl) (by kernel_rfl) (by kernel_rfl) (fun _ _ _ h => h) (Or.inl ⟨by rfl, fun w9 hSw => ?_⟩) hHeld ?_
                        · obtain ⟨s0, s1, s2⟩ := hSw
                          go_simp
                          all_goals (first | rfl | omega | (simp; done) | (simp; omega) | (trace_state; sorry))
                        simp only [zA, zB, zC, Act.put, zD, zE, zF]
                        refine OrdersZ.takeZ (i := 5) (v := .pointer (some ⟨g, m * 3 + 1, none⟩)) rfl (by kernel_rfl) (by kernel_rfl) (by kernel_rfl) (by kernel_rfl) (by kernel_rfl) (fun _ _ _ h => h) (Or.inl ⟨by rfl, fun w9 hSw => ?_⟩) hHeld ?_
                        · obtain ⟨s0, s1, s2⟩ := hSw
                          go_simp
                        simp only [zA, zB, zC, Act.put, zD, zE, zF]
                        refine OrdersZ.takeZ (i := 6) (v := .slice na (qn) nc) rfl (by kernel_rfl) (by kernel_rfl) (by kernel_rfl) (by kernel_rfl) (by kernel_rfl) (fun _ _ _ h => h) (Or.inl ⟨by rfl, fun w9 hSw => ?_⟩) hHeld ?_
                        · obtain ⟨s0, s1, s2⟩ := hSw
                          go_simp
                        simp only [zA, zB, zC, Act.put, zD, zE, zF]
                        refine OrdersZ.takeZ (i := 7) (v := .slice (some ⟨b, off, none⟩) ws.length c) rfl (by kernel_rfl) (by kernel_rfl) (by kernel_rfl) (by kernel_rfl) (by kernel_rfl) (fun _ _ _ h => h) (Or.inl ⟨by rfl, fun w9 hSw => ?_⟩) hHeld ?_
                        · obtain ⟨s0, s1, s2⟩ := hSw
                          go_simp
                        simp only [zA, zB, zC, Act.put, zD, zE, zF]
                        refine OrdersZ.takeZ (i := 8) (v := .int .i64 (k : Int)) rfl (by kernel_rfl) (by kernel_rfl) (by kernel_rfl) (by kernel_rfl) (by kernel_rfl) (fun _ _ _ h => h) (Or.inl ⟨by rfl, fun w9 hSw => ?_⟩) hHeld ?_
                        · obtain ⟨s0, s1, s2⟩ := hSw
                          go_simp
                        simp only [zA, zB, zC, Act.put, zD, zE, zF]
                        refine OrdersZ.takeZ (i := 9) (v := .pointer (some ⟨b, off + k * 3, none⟩)) rfl (by kernel_rfl) (by kernel_rfl) (by kernel_rfl) (by kernel_rfl) (by kernel_rfl) (fun _ _ _ h => h) (Or.inl ⟨by rfl, fun w9 hSw => ?_⟩) hHeld ?_
                        · obtain ⟨s0, s1, s2⟩ := hSw
                          go_simp
                          all_goals (first | rfl | omega | (simp; done) | (simp; omega) | (trace_state; sorry))
                        simp only [zA, zB, zC, Act.put, zD, zE, zF]
                        refine OrdersZ.takeZ (i := 10) (v := .pointer (some ⟨b, off + k * 3, none⟩)) rfl (by kernel_rfl) (by kernel_rfl) (by kernel_rfl) (by kernel_rfl) (by kernel_rfl) (fun _ _ _ h => h) (Or.inl ⟨by rfl, fun w9 hSw => ?_⟩) hHeld ?_
                        · obtain ⟨s0, s1, s2⟩ := hSw
                          go_simp
                        simp only [zA, zB, zC, Act.put, zD, zE, zF]
                        refine OrdersZ.takeZ (i := 11) (v := .string ⟨x.text.toArray⟩) rfl (by kernel_rfl) (by kernel_rfl) (by kernel_rfl) (by kernel_rfl) (by kernel_rfl) (fun _ _ _ h => h) (Or.inl ⟨by rfl, fun w9 hSw => ?_⟩) hHeld ?_
                        · obtain ⟨s0, s1, s2⟩ := hSw
                          go_simp
                        simp only [zA, zB, zC, Act.put, zD, zE, zF]
                        refine OrdersZ.takeZ (i := 12) (v := .slice (some ⟨b, off, none⟩) ws.length c) rfl (by kernel_rfl) (by kernel_rfl) (by kernel_rfl) (by kernel_rfl) (by kernel_rfl) (fun _ _ _ h => h) (Or.inl ⟨by rfl, fun w9 hSw => ?_⟩) hHeld ?_
                        · obtain ⟨s0, s1, s2⟩ := hSw
                          go_simp
                        simp only [zA, zB, zC, Act.put, zD, zE, zF]
                        refine OrdersZ.takeZ (i := 13) (v := .int .i64 (k : Int)) rfl (by kernel_rfl) (by kernel_rfl) (by kernel_rfl) (by kernel_rfl) (by kernel_rfl) (fun _ _ _ h => h) (Or.inl ⟨by rfl, fun w9 hSw => ?_⟩) hHeld ?_
                        · obtain ⟨s0, s1, s2⟩ := hSw
                          go_simp
                        simp only [zA, zB, zC, Act.put, zD, zE, zF]
                        refine OrdersZ.takeZ (i := 14) (v := .pointer (some ⟨b, off + k * 3, none⟩)) rfl (by kernel_rfl) (by kernel_rfl) (by kernel_rfl) (by kernel_rfl) (by kernel_rfl) (fun _ _ _ h => h) (Or.inl ⟨by rfl, fun w9 hSw => ?_⟩) hHeld ?_
                        · obtain ⟨s0, s1, s2⟩ := hSw
                          go_simp
                          all_goals (first | rfl | omega | (simp; done) | (simp; omega) | (trace_state; sorry))
                        simp only [zA, zB, zC, Act.put, zD, zE, zF]
                        refine OrdersZ.takeZ (i := 15) (v := .pointer (some ⟨b, off + k * 3 + 1, none⟩)) rfl (by kernel_rfl) (by kernel_rfl) (by kernel_rfl) (by kernel_rfl) (by kernel_rfl) (fun _ _ _ h => h) (Or.inl ⟨by rfl, fun w9 hSw => ?_⟩) hHeld ?_
                        · obtain ⟨s0, s1, s2⟩ := hSw
                          go_simp
                        simp only [zA, zB, zC, Act.put, zD, zE, zF]
                        refine OrdersZ.takeZ (i := 16) (v := .bool x.quoted) rfl (by kernel_rfl) (by kernel_rfl) (by kernel_rfl) (by kernel_rfl) (by kernel_rfl) (fun _ _ _ h => h) (Or.inl ⟨by rfl, fun w9 hSw => ?_⟩) hHeld ?_
                        · obtain ⟨s0, s1, s2⟩ := hSw
                          go_simp
                        simp only [zA, zB, zC, Act.put, zD, zE, zF]
                        refine OrdersZ.takeZ (i := 17) (v := .agg #[.string ⟨x.text.toArray⟩, .bool x.quoted]) rfl (by kernel_rfl) (by kernel_rfl) (by kernel_rfl) (by kernel_rfl) (by kernel_rfl) (fun _ _ _ h => h) (Or.inl ⟨by rfl, fun w9 hSw => ?_⟩) hHeld ?_
                        · obtain ⟨s0, s1, s2⟩ := hSw
                          go_simp
                          all_goals (first | rfl | omega | (simp; done) | (simp; omega) | (trace_state; sorry))
                        simp only [zA, zB, zC, Act.put, zD, zE, zF]
                        refine OrdersZ.readyZ (i := 18) (by kernel_rfl) rfl (fun K hK => ?_)
                        go_simp
                        have hB7 : Below Wd.heap.size Wd (Wd.alloc (.cells #[.string ⟨x.text.toArray⟩, .bool x.quoted] 125)) := (Below.refl _ _).alloc (Nat.le_refl _) _
                        refine hK.out _ _ ⟨(hB7.cell (p := ⟨g, m * 3 + 1, none⟩) hrad.lt).trans hd1, (hB7.cell (p := ⟨b, off + k * 3, none⟩) (GramRow.cell_lt hd2)).trans hd2, (hB7.cell (p := ⟨b, off + k * 3 + 1, none⟩) (GramRow.cell_lt hd3)).trans hd3⟩ (fun hHeld => ?_)
                        clear hK K
                        refine OrdersZ.readyZ (i := 19) (by kernel_rfl) rfl (fun K hK => ?_)
                        refine step_append_lies _ rfl (.tmp 120) (.tmp 132) 89 rfl w.heap.size 125 i1 (.agg #[.string ⟨#[]⟩, .bool false]) 2 24 Tryz.underlying89 hi1 hz3 hz4 hz5 rfl (by decide) (.slice na (qn) nc) (qn) (cellsN q'.s.names) (by rfl) (hNown.alloc _) ⟨Wd.heap.size, 0, none⟩ 1 1 [.string ⟨x.text.toArray⟩, .bool x.quoted] (by rfl) rfl (WordsBytes.cells_new _ #[_, _] _) (by simp [Value.oneCell']) (by omega) (by unfold maxLen; omega) (by omega) (by simp; omega) (Wd.heap.size + 1) (by simp) ?_
                        intro g6 c6 w6 hown6 hgrow6 hat6 hlt6
                        have hgs := hgrow6.size
                        rw [World.size_alloc] at hgs
                        obtain ⟨curN, hgne⟩ : ∃ c, (Value.slice na (qn) nc).ownBlock = c := ⟨_, rfl⟩
                        have hng : (Value.slice na (qn) nc).ownBlock ≠ some g := fun e => by
                          obtain ⟨_, ⟨e1, _⟩ | ⟨gg, cap2, cur2, e1, _, e3, _⟩⟩ := hNown
                          · rw [e1] at e; cases e
                          · rw [e1] at e
                            obtain rfl : gg = g := by simpa [Value.ownBlock] using e
                            have h5 : Wd.heap[gg]? = some (.cells _ 91 (0, 0)) := hrad
                            rw [e3] at h5
                            cases h5
                        have hfg : w6.heap[g]? = Wd.heap[g]? := grown_far hgrow6 hrad.lt hng
                        have hfb : w6.heap[b]? = Wd.heap[b]? := grown_far hgrow6 (GramRow.cell_lt hd2) (fun e => by have := (hNown.lt b e).1; omega)
                        have hra6 := hfg.trans hrad
                        have hc6 : w6.cell? ⟨g, m * 3 + 1, none⟩ = some (.slice na (qn) nc) := (World.cell?_of_block hfg).trans hd1
                        have hc7 : w6.cell? ⟨b, off + k * 3, none⟩ = some (.string ⟨x.text.toArray⟩) := (World.cell?_of_block hfb).trans hd2
                        have hc8 : w6.cell? ⟨b, off + k * 3 + 1, none⟩ = some (.bool x.quoted) := (World.cell?_of_block hfb).trans hd3
                        refine hK.out _ _ ⟨hc6, hc7, hc8⟩ (fun hHeld => ?_)
                        clear hK K
                        try simp only [zA, zB, zC, Act.put, zD, zE, zF]
                        have hm9 : (m : Int) < (m : Int) + 1 := by omega
                        refine OrdersZ.readyZ (i := 20) (by kernel_rfl) rfl (fun K hK => ?_)
                        go_simp
                        refine hK.out _ _ ⟨hc6, hc7, hc8⟩ (fun hHeld => ?_)
                        clear hK K
                        try simp only [zA, zB, zC, Act.put, zD, zE, zF]
                        refine OrdersZ.readyZ (i := 21) (by kernel_rfl) rfl (fun K hK => ?_)
                        go_simp
                        refine hK.out _ _ ⟨hc6, hc7, hc8⟩ (fun hHeld => ?_)
                        clear hK K hm9
                        try simp only [zA, zB, zC, Act.put, zD, zE, zF]
                        have f6 := RowAt.frozen hra6 (m * 3 + 1)
                        refine OrdersZ.lastZ (by kernel_rfl) rfl (fun K hK => ?_)
                        go_simp
                        refine hK.out _ _ ?_
                        clear hK K
                        refine OrdersZ.doneZ (by kernel_rfl) (NoPanic.normal ?_) _
                        have hB6 : Below w.heap.size w w6 := hBd.trans ⟨hgrow6.os, hgrow6.tape, hgrow6.output, by omega, fun j hj => grown_far hgrow6 (by omega) (fun e => by have := (hNown.lt j e).1; omega)⟩
                        have hB8 := hB6.setCell (p := ⟨g, m * 3 + 1, none⟩) hgB (.slice (some ⟨g6, 0, none⟩) (qn + 1) c6)
                        have hSd8 := SdsAt.name (x := x) (g6 := g6) (c6 := c6) hSdd (by simp [HM.out]) (by rw [HL.out]; exact hown6) (by rw [HQ.out]; exact hgrow6) (by rw [HQ.out]; exact hat6)
                        rw [← HM.out, HL.out] at hSd8
                        clear hown6 hgrow6 hat6 hlt6 hSdd hNown hrad hd1 hd2 hd3 hc6 hc7 hc8 hfg hfb hra6 f6 hB6 hHeld hng hgne curN hB7
                        go_wp2
                        go_roundw
                        case rel => exact ⟨k + 1, _, _, by omega, by go_num, rfl, by simp [← HM.out]; omega, hSd8, Or.inr ⟨by simp, by omega, by rw [HR.out]; simp⟩, (fun r hr => by
                          rcases List.mem_append.1 hr with hr | hr
                          · have := HN.out r (by simp [hr]); omega
                          · rw [List.mem_singleton.1 hr]
                            show (q'.s.names ++ [x]).length ≤ _
                            rw [List.length_append, HL.out]
                            show qn + 1 ≤ _
                            omega), hB8⟩
                        case measure => simp [intOf]; omega
              · obtain rfl : k = ws.length := by omega
                have hlt2 : ¬ (ws.length : Int) < (ws.length : Int) := by omega
                rcases HF.out with ⟨hq0, hk1, hk0, y, hy, hR⟩ | ⟨hqn, hlo, hR⟩
                · rw [List.getElem?_eq_none (Nat.le_refl _)] at hy
                  cases hy
                · rw [List.drop_length] at hR
                  have HR : Hid (RR = .ok (qs.map (·.s))) := hR
                  clear HF hR
                  go_wp2
                  refine bodyPost_ret (v := .tuple #[.slice va qs.length vc, .int .i64 (-1)]) (by simp [results, Tryz.results52, go_sem]) rfl ⟨?_, hB⟩
                  rw [HD.out, HR.out]
                  exact ⟨_, qs, rfl, hSd, rfl⟩

end Go.Proofs.YtjblkgephboajaaGreatDoor.SpecRf
