/-
  Texts that stand together: LineTake.
-/
import Derived.Test.YtbnajikkogdelaaDoorEagLineReadM
import Derived.Test.YtbnajikkogdelaaDoorEGramErrs
import Derived.BigQuiet
namespace Go.Proofs.YtbnajikkogdelaaDoor.LineRead
open Go.RowKit Go.Maps Go.WideMaps Go.Proofs.YtbnajikkogdelaaDoor.GramMath Go.Proofs.YtbnajikkogdelaaDoor.GramRow Go.Proofs.YtbnajikkogdelaaDoor.GramOne Go.Proofs.YtbnajikkogdelaaDoor.GramApart Go.Proofs.YtbnajikkogdelaaDoor.LineMath Go.Proofs.YtbnajikkogdelaaDoor.GramErrs
set_option linter.unusedVariables false
set_option linter.unusedSimpArgs false

theorem makeMap_any (n : Nat) (w : World) : (Instr.makeMap 55 (some (.int .i64 (n : Int)))).run Tryd.prog w = .ok (.map (some w.heap.size)) (w.alloc (.map #[] 0)) := by
  simp [Instr.makeMap, run_underlying Tryd.underlying55, asInt, asIntOf, Result.andThen]

theorem good_fresh {g : G} (h : GoodG g) {k : Nat} {x : ByteArray} (hx : g.ts[k]? = some x) : x ∉ g.ts.take k := by
  intro hm
  have h1 : nameAt g.ts k = true := by
    have h2 := h.nt
    unfold named namedTo at h2
    exact List.all_eq_true.1 h2 k (List.mem_range.2 (List.getElem?_eq_some_iff.1 hx).1)
  unfold nameAt at h1
  rw [hx] at h1
  simp [(memB_iff x (g.ts.take k)).2 hm] at h1

set_option maxRecDepth 100000 in
set_option maxHeartbeats 2000000 in
theorem numbers_any (a : Option Addr) (c : Nat) (g : G) (w : World) (hr : SRow w a g.ts) (hg : GoodG g) :
    Calls Tryd.prog 41 #[.slice a g.ts.length c] w fun e w' => e = .returned (.map (some w.heap.size)) ∧ (∃ D, w'.ownsMap (H := Unit) Tryd.prog 9 (plainElem Tryd.prog 3) w.heap.size g.ts.length D ∧ MapOf D g.ts) ∧ Below w.heap.size w w' := by
  have hmm := makeMap_any
  have hm1 := World.ownsMap_made (H := Unit) w Tryd.prog 9 (plainElem Tryd.prog 3)
  have hB1 : Below w.heap.size w (w.alloc (.map #[] 0)) := (Below.refl _ _).alloc (Nat.le_refl _) _
  have hfew := hg.few
  go_enter Tryd.func41, Tryd.ntmps41
  go_wp2
  go_loopw [11] (fun i wr => ∃ (k : Nat) (D : DataW Unit), k ≤ g.ts.length ∧ i = .int .i64 k ∧ wr.ownsMap (H := Unit) Tryd.prog 9 (plainElem Tryd.prog 3) w.heap.size k D ∧ Hid (MapOf D (g.ts.take k)) ∧ Below w.heap.size w wr) (fun i _ => g.ts.length - (intOf i).toNat)
  case atStart => exact ⟨0, .map [], by omega, rfl, hm1, mapOf_nil, hB1⟩
  case round =>
    clear hm1 hB1
    obtain ⟨k, D, hk, rfl, hown, hD, hB⟩ := hrel
    by_cases hlt : k < g.ts.length
    · obtain ⟨x, hx⟩ : ∃ x, g.ts[k]? = some x := ⟨g.ts[k], List.getElem?_eq_getElem hlt⟩
      have hxs := good_ts hg x (List.mem_of_getElem? hx)
      obtain ⟨b, off, rfl, hc⟩ := hr.below hB (Nat.le_refl _) k x hx
      have hlt2 : (k : Int) < (g.ts.length : Int) := by omega
      have hkey : keyOf Tryd.prog 9 (.string x) = some (keyL x) := keyOf_string_mk Tryd.underlying9 (by unfold maxLen; omega)
      have hD2 : Hid (MapOf (D.put (keyL x) (.lit (.int .i64 (k : Int)))) (g.ts.take (k + 1))) := by
        have h1 := hD.out.add (good_fresh hg hx)
        rw [List.length_take, Nat.min_eq_left (by omega)] at h1
        obtain ⟨hk', e⟩ := List.getElem?_eq_some_iff.1 hx
        rw [List.take_succ_eq_append_getElem hk', e]
        exact h1
      clear hD hx
      go_wp2_with (at_mapUpdate; refine wpList_mapUpdate_own _ rfl _ _ _ 55 rfl 9 3 keyed Tryd.underlying55 _ w.heap.size k D rfl hown (by unfold maxLen; omega) _ _ _ rfl rfl hkey _ [] (plainElem_int Tryd.underlying3 (WalkArith.wf_i64 (by omega))) ?_; intro w6 hown6 hgrow6)
      have hB6 : Below w.heap.size w w6 := hB.grown hgrow6 hB.size (fun j e => by cases e; exact Nat.le_refl _)
      clear hown hgrow6
      go_roundw
      case rel => exact ⟨k + 1, _, by omega, by go_num, hown6, hD2, hB6⟩
      case measure => simp [intOf]; omega
    · obtain rfl : k = g.ts.length := by omega
      have hD2 := hD.out
      rw [List.take_length] at hD2
      have HD : Hid (_) := hD2
      clear hD hD2
      go_wp2
      go_ret
      exact ⟨rfl, ⟨D, hown, HD.out⟩, hB⟩

/-- What taking a word answers. -/
def TakeR (p : Nat → Addr) (rb mb base : Nat) (D : DataW Unit) (g : G) (start : Nat) (z : Except Nat TP) (w : World) (tv pv : Value) (st : TP) (e : Ending) (w' : World) : Prop :=
  match z with
  | .error k => e = .returned (.iface 162 (.pointer (some (p k)))) ∧ Below w.heap.size w w'
  | .ok st' => e = .returned .nilIface ∧ (∃ tv' pv', Rd w' rb mb base D g start st' tv' pv') ∧ Chg base rb w w'

theorem errs_name {w : World} {p : Nat → Addr} (h : Errs w p) : w.cell? ⟨9, 0, none⟩ = some (.iface 162 (.pointer (some (p 10)))) := (h.1 9 (by omega)).1
theorem errs_lng {w : World} {p : Nat → Addr} (h : Errs w p) : w.cell? ⟨11, 0, none⟩ = some (.iface 162 (.pointer (some (p 12)))) := (h.1 11 (by omega)).1
theorem infoI : (Tryd.prog.info? 3).map (fun i => (i.zero, i.size, i.bytes)) = some (some (.int .i64 0), 1, 8) := by kernel_rfl

set_option maxRecDepth 100000 in
set_option maxHeartbeats 8000000 in
theorem take_any (p : Nat → Addr) (rb mb base : Nat) (D : DataW Unit) (g : G) (start : Nat) (st : TP) (tv pv : Value) (x : Wd) (w : World) (h : Rd w rb mb base D g start st tv pv) (hE : Errs w p) (hl : st.1.length ≤ 65536) (hp : st.2.length = st.1.length) (hx : x.text.length ≤ 1048576) (hs : start + x.place ≤ 4611686018427387904) :
    Calls Tryd.prog 68 #[.pointer (some ⟨rb, 0, none⟩), .agg #[.string ⟨x.text.toArray⟩, .bool x.quoted, .int .i64 (x.place : Int)]] w fun e w' => TakeR p rb mb base D g start (takeZ g start st x) w tv pv st e w' := by
  obtain ⟨i0, hi, hz0, hz1, hz2⟩ := info_parts infoI
  obtain ⟨ta, tc, rfl⟩ := own_sl h.two.tok
  obtain ⟨pa, pc, rfl⟩ := own_sl h.two.plc
  obtain ⟨W1, hW1⟩ : ∃ W1, W1 = w.alloc (.cells #[.string ⟨x.text.toArray⟩, .bool x.quoted, .int .i64 (x.place : Int)] 48) := ⟨_, rfl⟩
  have hB1 : Below w.heap.size w W1 := by rw [hW1]; exact (Below.refl _ _).alloc (Nat.le_refl _) _
  have hz : W1.heap.size = w.heap.size + 1 := by rw [hW1]; simp
  have y0 : W1.cell? ⟨w.heap.size, 0, none⟩ = some (.string ⟨x.text.toArray⟩) := by rw [hW1]; simp [go_sem]
  have y2 : W1.cell? ⟨w.heap.size, 2, none⟩ = some (.int .i64 (x.place : Int)) := by rw [hW1]; simp [go_sem]
  have h1 := h.below hB1
  have hE1 := hE.below hB1 (Nat.le_refl _)
  have eL := errs_lng hE1
  have eN := errs_name hE1
  have r0 := h1.box.cell (q := 0) rfl
  have r1 := h1.box.cell (q := 1) rfl
  have r2 := h1.box.cell (q := 2) rfl
  have r3 := h1.box.cell (q := 3) rfl
  have hl0 : ∀ W, Below w.heap.size w W → (∃ c b, (Instr.lookup 55 (.map (some mb)) (.string ⟨x.text.toArray⟩) true).run Tryd.prog W = .ok (.tuple #[.int .i64 c, .bool b]) W ∧ ((num g x < 0 ∧ b = false) ∨ (∃ k : Nat, c = (k : Int) ∧ num g x = (k : Int) ∧ k < g.ts.length ∧ b = true))) := fun W hW => by
    have hkey : keyOf Tryd.prog 9 (.string ⟨x.text.toArray⟩) = some (keyL ⟨x.text.toArray⟩) := keyOf_string_mk Tryd.underlying9 (by unfold maxLen; simp [ByteArray.size]; omega)
    obtain ⟨v, ps, hrun, hR⟩ := (h.below hW).own.look_ok keyed Tryd.underlying55 (zeroI W) (zd := .lit (.int .i64 0)) (zp := []) (plainElem_int Tryd.underlying3 (by decide)) hkey
    obtain ⟨c, rfl, hc, _⟩ := plainElem_int_inv Tryd.underlying3 hR
    have hc2 : D.atKey (keyL ⟨x.text.toArray⟩) (.lit (.int .i64 0)) = .lit (.int .i64 c) := congrArg Prod.fst hc
    refine ⟨c, _, hrun, ?_⟩
    rcases num_cases h.map x with ⟨n1, n2, n3⟩ | ⟨k, n1, n2, n3, n4⟩
    · exact .inl ⟨by omega, n2⟩
    · rw [n4] at hc2
      have : (k : Int) = c := by simpa using hc2
      exact .inr ⟨k, this.symm, n1, n2, n3⟩
  by_cases hlong : 65536 ≤ st.1.length
  · have E : Hid (_) := take_long (g := g) (start := start) (st := st) x hlong
    have hle : ((st.1.length : Int) == 65536) = true := by simp; omega
    subst hW1
    clear hE hE1 h h1 hl0
    go_enter Tryd.func68, Tryd.ntmps68
    go_wp2
    go_ret
    rw [E.out]
    exact ⟨rfl, hB1⟩
  · have hle : ((st.1.length : Int) == 65536) = false := by simp; omega
    obtain ⟨Wd, hWd⟩ : ∃ Wd, W1.drew = Wd := ⟨_, rfl⟩
    have hBd : Below w.heap.size w Wd := by rw [← hWd]; exact hB1.drew
    have hd : Rd Wd rb mb base D g start st (.slice ta st.1.length tc) (.slice pa st.2.length pc) := h.below hBd
    have hEd := hE.below hBd (Nat.le_refl _)
    have hzd : Wd.heap.size = w.heap.size + 1 := by rw [← hWd]; exact hz
    have d0 : Wd.cell? ⟨w.heap.size, 0, none⟩ = some (.string ⟨x.text.toArray⟩) := by rw [← hWd]; exact y0
    have d2 : Wd.cell? ⟨w.heap.size, 2, none⟩ = some (.int .i64 (x.place : Int)) := by rw [← hWd]; exact y2
    have hb0 : base ≤ w.heap.size := h.blt
    have hxb : RowAt Wd w.heap.size 48 #[.string ⟨x.text.toArray⟩, .bool x.quoted, .int .i64 (x.place : Int)] := by rw [← hWd, hW1]; exact heap_alloc_new w _
    obtain ⟨c, b, hlk, hcb⟩ := hl0 Wd hBd
    have r0' := hd.box.cell (q := 0) rfl
    have r1' := hd.box.cell (q := 1) rfl
    have r2' := hd.box.cell (q := 2) rfl
    have r3' := hd.box.cell (q := 3) rfl
    have eN' := errs_name hEd
    have HWd : Hid (W1.drew = Wd) := hWd
    subst hW1
    clear hE hE1 h h1 hl0 hWd
    go_enter Tryd.func68, Tryd.ntmps68
    go_wp2
    refine wp_region_noPanic ?_
    refine wp_region_held_drew (S := (fun w' => w' = Wd)) (by kernel_rfl) HWd.out (fun hHeld => ?_)
    rw [HWd.out]
    replace hHeld : Wd = Wd := rfl
    clear y0 y2 r0 r1 r2 r3 eL eN hB1 hz HWd
    refine wpAnyH_take (i := 0) (v := .pointer (some ⟨rb, 0, none⟩)) rfl (by kernel_rfl) (by kernel_rfl) (by kernel_rfl) (fun _ _ _ h => h) (Or.inl ⟨by rfl, fun w9 hSw => ?_⟩) hHeld ?_
    · obtain rfl := hSw
      go_simp
    simp only [List.getElem_toArray, List.getElem_cons_zero, List.getElem_cons_succ, Act.put, List.setIfInBounds_toArray, List.set_cons_zero, List.set_cons_succ]
    refine wpAnyH_take (i := 1) (v := .pointer (some ⟨rb, 0, none⟩)) rfl (by kernel_rfl) (by kernel_rfl) (by kernel_rfl) (fun _ _ _ h => h) (Or.inl ⟨by rfl, fun w9 hSw => ?_⟩) hHeld ?_
    · obtain rfl := hSw
      go_simp
    simp only [List.getElem_toArray, List.getElem_cons_zero, List.getElem_cons_succ, Act.put, List.setIfInBounds_toArray, List.set_cons_zero, List.set_cons_succ]
    refine wpAnyH_take (i := 2) (v := .pointer (some ⟨rb, 0, none⟩)) rfl (by kernel_rfl) (by kernel_rfl) (by kernel_rfl) (fun _ _ _ h => h) (Or.inl ⟨by rfl, fun w9 hSw => ?_⟩) hHeld ?_
    · obtain rfl := hSw
      go_simp
    simp only [List.getElem_toArray, List.getElem_cons_zero, List.getElem_cons_succ, Act.put, List.setIfInBounds_toArray, List.set_cons_zero, List.set_cons_succ]
    refine wpAnyH_take (i := 3) (v := .map (some mb)) rfl (by kernel_rfl) (by kernel_rfl) (by kernel_rfl) (fun _ _ _ h => h) (Or.inl ⟨by rfl, fun w9 hSw => ?_⟩) hHeld ?_
    · obtain rfl := hSw
      go_simp
    simp only [List.getElem_toArray, List.getElem_cons_zero, List.getElem_cons_succ, Act.put, List.setIfInBounds_toArray, List.set_cons_zero, List.set_cons_succ]
    refine wpAnyH_take (i := 4) (v := .pointer (some ⟨w.heap.size, 0, none⟩)) rfl (by kernel_rfl) (by kernel_rfl) (by kernel_rfl) (fun _ _ _ h => h) (Or.inl ⟨by rfl, fun w9 hSw => ?_⟩) hHeld ?_
    · obtain rfl := hSw
      go_simp
    simp only [List.getElem_toArray, List.getElem_cons_zero, List.getElem_cons_succ, Act.put, List.setIfInBounds_toArray, List.set_cons_zero, List.set_cons_succ]
    refine wpAnyH_take (i := 5) (v := .string ⟨x.text.toArray⟩) rfl (by kernel_rfl) (by kernel_rfl) (by kernel_rfl) (fun _ _ _ h => h) (Or.inl ⟨by rfl, fun w9 hSw => ?_⟩) hHeld ?_
    · obtain rfl := hSw
      go_simp
    simp only [List.getElem_toArray, List.getElem_cons_zero, List.getElem_cons_succ, Act.put, List.setIfInBounds_toArray, List.set_cons_zero, List.set_cons_succ]
    refine wpAnyH_take (i := 6) (v := .tuple #[.int .i64 c, .bool b]) rfl (by kernel_rfl) (by kernel_rfl) (by kernel_rfl) (fun _ _ _ h => h) (Or.inl ⟨by rfl, fun w9 hSw => ?_⟩) hHeld ?_
    · obtain rfl := hSw
      go_simp
    simp only [List.getElem_toArray, List.getElem_cons_zero, List.getElem_cons_succ, Act.put, List.setIfInBounds_toArray, List.set_cons_zero, List.set_cons_succ]
    refine wpAnyH_take (i := 7) (v := .tuple #[.int .i64 c, .bool b]) rfl (by kernel_rfl) (by kernel_rfl) (by kernel_rfl) (fun _ _ _ h => h) (Or.inl ⟨by rfl, fun w9 hSw => ?_⟩) hHeld ?_
    · obtain rfl := hSw
      go_simp
    simp only [List.getElem_toArray, List.getElem_cons_zero, List.getElem_cons_succ, Act.put, List.setIfInBounds_toArray, List.set_cons_zero, List.set_cons_succ]
    refine wpAnyH_take (i := 8) (v := .int .i64 c) rfl (by kernel_rfl) (by kernel_rfl) (by kernel_rfl) (fun _ _ _ h => h) (Or.inl ⟨by rfl, fun w9 hSw => ?_⟩) hHeld ?_
    · obtain rfl := hSw
      go_simp
    simp only [List.getElem_toArray, List.getElem_cons_zero, List.getElem_cons_succ, Act.put, List.setIfInBounds_toArray, List.set_cons_zero, List.set_cons_succ]
    refine wpAnyH_take (i := 9) (v := .bool b) rfl (by kernel_rfl) (by kernel_rfl) (by kernel_rfl) (fun _ _ _ h => h) (Or.inl ⟨by rfl, fun w9 hSw => ?_⟩) hHeld ?_
    · obtain rfl := hSw
      go_simp
    simp only [List.getElem_toArray, List.getElem_cons_zero, List.getElem_cons_succ, Act.put, List.setIfInBounds_toArray, List.set_cons_zero, List.set_cons_succ]
    refine wpAnyH_take (i := 10) (v := .int .i64 c) rfl (by kernel_rfl) (by kernel_rfl) (by kernel_rfl) (fun _ _ _ h => h) (Or.inl ⟨by rfl, fun w9 hSw => ?_⟩) hHeld ?_
    · obtain rfl := hSw
      go_simp
    simp only [List.getElem_toArray, List.getElem_cons_zero, List.getElem_cons_succ, Act.put, List.setIfInBounds_toArray, List.set_cons_zero, List.set_cons_succ]
    refine wpAnyH_take (i := 11) (v := .bool b) rfl (by kernel_rfl) (by kernel_rfl) (by kernel_rfl) (fun _ _ _ h => h) (Or.inl ⟨by rfl, fun w9 hSw => ?_⟩) hHeld ?_
    · obtain rfl := hSw
      go_simp
    simp only [List.getElem_toArray, List.getElem_cons_zero, List.getElem_cons_succ, Act.put, List.setIfInBounds_toArray, List.set_cons_zero, List.set_cons_succ]
    refine wpAnyH_done (by kernel_rfl) (NoPanic.normal ?_) _
    rcases hcb with ⟨hn, rfl⟩ | ⟨k, rfl, hn, hk, rfl⟩
    · have E : Hid (_) := take_name (g := g) (start := start) (st := st) (x := x) (by omega) hn
      clear hlk hn hd hEd
      go_wp2
      go_ret
      rw [E.out]
      exact ⟨rfl, hBd⟩
    · have E : Hid (takeZ g start st x = .ok (st.1 ++ [(k : Int)], st.2 ++ [((start + x.place : Nat) : Int)])) := by
        show _ = _
        rw [take_ok (by omega) (by omega), hn]
      have hblt := hd.blt
      have hrlt := hd.rlt
      have hz3 : Below Wd.heap.size Wd (Wd.alloc (.cells #[.int .i64 (k : Int)] 3)) := (Below.refl _ _).alloc (Nat.le_refl _) _
      have hF : Hid (∀ g4 c4 w4, w4.ownsRow base 3 1 (.slice (some ⟨g4, 0, none⟩) (st.1.length + 1) c4) (st.1.length + 1) (st.1.map (Value.int .i64) ++ [.int .i64 (k : Int)]) → (Wd.alloc (.cells #[.int .i64 (k : Int)] 3)).grownBy w4 (Value.slice ta st.1.length tc).ownBlock → ((Value.slice ta st.1.length tc).ownBlock = some g4 ∨ g4 = Wd.heap.size + 1) →
          Rd (w4.setCell ⟨rb, 2, none⟩ (.slice (some ⟨g4, 0, none⟩) (st.1.length + 1) c4)) rb mb base D g start (st.1 ++ [(k : Int)], st.2) (.slice (some ⟨g4, 0, none⟩) (st.1.length + 1) c4) (.slice pa st.2.length pc) ∧ Chg base rb w (w4.setCell ⟨rb, 2, none⟩ (.slice (some ⟨g4, 0, none⟩) (st.1.length + 1) c4)) ∧ w4.cell? ⟨rb, 2, none⟩ = some (.slice ta st.1.length tc) ∧ w4.frozen? ⟨rb, 2, none⟩ = false ∧ RowAt (w4.setCell ⟨rb, 2, none⟩ (.slice (some ⟨g4, 0, none⟩) (st.1.length + 1) c4)) w.heap.size 48 #[.string ⟨x.text.toArray⟩, .bool x.quoted, .int .i64 (x.place : Int)]) := fun g4 c4 w4 hown hgrow hat => by
        have h3 := hd.below hz3
        have hbase : ∀ j, (Value.slice ta st.1.length tc).ownBlock = some j → base ≤ j := fun j hj => (hd.two.tok.lt j hj).1
        have hnr : some rb ≠ (Value.slice ta st.1.length tc).ownBlock := fun e => by have := hbase rb e.symm; omega
        have hnm : some mb ≠ (Value.slice ta st.1.length tc).ownBlock := fun e => by have := hbase mb e.symm; have := hd.mlt; omega
        have htwo : Two w4 base (.slice (some ⟨g4, 0, none⟩) (st.1.length + 1) c4) (.slice pa st.2.length pc) (st.1 ++ [(k : Int)]) st.2 := h3.two.push hown hgrow hat (fun j hj => by have := (hd.two.plc.lt j hj).2; omega)
        have hbox : RowAt w4 rb 57 #[.map (some mb), .int .i64 (start : Int), .slice ta st.1.length tc, .slice pa st.2.length pc] := h3.box.grown hgrow hnr
        have hmr := ownsMap_ne h3.own h3.box
        have hown4 : w4.ownsMap (H := Unit) Tryd.prog 9 (plainElem Tryd.prog 3) mb g.ts.length D := h3.own.kept hgrow hnm
        have hsz : (Wd.alloc (.cells #[.int .i64 (k : Int)] 3)).heap.size = Wd.heap.size + 1 := by simp
        have hgs := hgrow.size
        rw [hsz] at hgs
        have hc1 : Chg base rb w Wd := .of_below hBd hb0
        have hc2 : Chg base rb Wd (Wd.alloc (.cells #[.int .i64 (k : Int)] 3)) := .of_below hz3 (by omega)
        have hc3 : Chg base rb (Wd.alloc (.cells #[.int .i64 (k : Int)] 3)) w4 := .grown hgrow (fun j hj => hbase j hj) (by omega) (fun b t C h1 h2 => h2.not_own h1 h3.two.tok)
        refine ⟨⟨hbox.set 2 _, htwo.block (fun j h1 h2 => Below.heap_setCell _ _ _ _ (by show j ≠ rb; omega)), hown4.setCell (by exact hmr) _, h3.map, hd.rlt, hd.mlt, by simp; omega⟩, ((hc1.trans hc2).trans hc3).trans (.set w4 hbox _), hbox.cell rfl, hbox.frozen 2, RowAt.other ((hxb.below hz3 hxb.lt).grown hgrow (hxb.not_own (by decide) hd.two.tok)) (by omega) 2 _⟩
      have hp' : st.2.length ≤ 65536 := by omega
      have hG : Hid (∀ W4 (tv4 : Value), Rd W4 rb mb base D g start (st.1 ++ [(k : Int)], st.2) tv4 (.slice pa st.2.length pc) → RowAt W4 w.heap.size 48 #[.string ⟨x.text.toArray⟩, .bool x.quoted, .int .i64 (x.place : Int)] → ∀ g6 c6 w6, w6.ownsRow base 3 1 (.slice (some ⟨g6, 0, none⟩) (st.2.length + 1) c6) (st.2.length + 1) (st.2.map (Value.int .i64) ++ [.int .i64 ((start + x.place : Nat) : Int)]) → (W4.alloc (.cells #[.int .i64 ((start + x.place : Nat) : Int)] 3)).grownBy w6 (Value.slice pa st.2.length pc).ownBlock → ((Value.slice pa st.2.length pc).ownBlock = some g6 ∨ g6 = W4.heap.size + 1) →
          Rd (w6.setCell ⟨rb, 3, none⟩ (.slice (some ⟨g6, 0, none⟩) (st.2.length + 1) c6)) rb mb base D g start (st.1 ++ [(k : Int)], st.2 ++ [((start + x.place : Nat) : Int)]) tv4 (.slice (some ⟨g6, 0, none⟩) (st.2.length + 1) c6) ∧ Chg base rb W4 (w6.setCell ⟨rb, 3, none⟩ (.slice (some ⟨g6, 0, none⟩) (st.2.length + 1) c6)) ∧ RowAt w6 rb 57 #[.map (some mb), .int .i64 (start : Int), tv4, .slice pa st.2.length pc] ∧ RowAt w6 w.heap.size 48 #[.string ⟨x.text.toArray⟩, .bool x.quoted, .int .i64 (x.place : Int)]) := fun W4 tv4 hd4 hx4 g6 c6 w6 hown hgrow hat => by
        have hz3 : Below W4.heap.size W4 (W4.alloc (.cells #[.int .i64 ((start + x.place : Nat) : Int)] 3)) := (Below.refl _ _).alloc (Nat.le_refl _) _
        have h3 := hd4.below hz3
        have hbase : ∀ j, (Value.slice pa st.2.length pc).ownBlock = some j → base ≤ j := fun j hj => (hd4.two.plc.lt j hj).1
        have hr4 := hd4.rlt
        have hm4 := hd4.mlt
        have hb4 := hd4.blt
        have hnr : some rb ≠ (Value.slice pa st.2.length pc).ownBlock := fun e => by have := hbase rb e.symm; omega
        have hnm : some mb ≠ (Value.slice pa st.2.length pc).ownBlock := fun e => by have := hbase mb e.symm; omega
        have htwo := (h3.two.swap.push hown hgrow hat (fun j hj => by have := (hd4.two.tok.lt j hj).2; omega)).swap
        have hbox := h3.box.grown hgrow hnr
        have hmr := ownsMap_ne h3.own h3.box
        have hown4 : w6.ownsMap (H := Unit) Tryd.prog 9 (plainElem Tryd.prog 3) mb g.ts.length D := h3.own.kept hgrow hnm
        have hsz : (W4.alloc (.cells #[.int .i64 ((start + x.place : Nat) : Int)] 3)).heap.size = W4.heap.size + 1 := by simp
        have hgs := hgrow.size
        rw [hsz] at hgs
        have hc2 : Chg base rb W4 (W4.alloc (.cells #[.int .i64 ((start + x.place : Nat) : Int)] 3)) := .of_below hz3 hb4
        have hc3 : Chg base rb (W4.alloc (.cells #[.int .i64 ((start + x.place : Nat) : Int)] 3)) w6 := .grown hgrow (fun j hj => hbase j hj) (by omega) (fun b t C h1 h2 => h2.not_own h1 h3.two.plc)
        exact ⟨⟨hbox.set 3 _, htwo.block (fun j h1 h2 => Below.heap_setCell _ _ _ _ (by show j ≠ rb; omega)), hown4.setCell (by exact hmr) _, h3.map, hr4, hm4, by simp; omega⟩, (hc2.trans hc3).trans (.set w6 hbox _), hbox, (hx4.below hz3 hx4.lt).grown hgrow (hx4.not_own (by decide) hd4.two.plc)⟩
      have htok := hd.two.tok
      have hsm : ((start + x.place : Nat) : Int) = (start : Int) + (x.place : Int) := by omega
      have hsm2 : (start : Int) + (x.place : Int) ≤ 4611686018427387904 := by omega
      clear hlk hn hd hEd eN' hxb hz3 hzd hp
      go_wp2_with (at_builtin; refine wpList_append_lies _ rfl _ _ 27 rfl base 3 i0 (.int .i64 0) 1 8 Tryd.underlying27 hi hz0 hz1 hz2 rfl (by decide) _ _ _ rfl (htok.alloc _) ⟨Wd.heap.size, 0, none⟩ 1 1 [.int .i64 (k : Int)] rfl rfl (cell_one_new _ _ _) (by simp [Value.oneCell']) (by omega) (by unfold maxLen; omega) (by omega) (by simp; omega) (Wd.heap.size + 1) (by simp) ?_; intro g4 c4 w4 hown4 hgrow4 hat4 hlt4; obtain ⟨hR4, hC4, v2, f2, hX4⟩ := hF.out g4 c4 w4 hown4 hgrow4 hat4)
      clear hown4 hgrow4 hat4 hlt4 v2 f2 hF htok d0 d2 r0' r1' r2' r3'
      generalize w4.setCell ⟨rb, 2, none⟩ (.slice (some ⟨g4, 0, none⟩) (st.1.length + 1) c4) = W5 at *
      have hR6 := hR4.below (drew_below W5 1)
      have hX6 := hX4.below (drew_below W5 1) hX4.lt
      have hC6 : Chg base rb w W5.drew := hC4.trans (.of_below (drew_below W5 1) hR4.blt)
      change Rd W5.drew _ _ _ _ _ _ _ _ _ at hR6
      change RowAt W5.drew _ _ _ at hX6
      refine wp_region_noPanic ?_
      refine OrdersZ.region_Z (S := (fun w9 => RowAt w9 rb 57 #[.map (some mb), .int .i64 (start : Int), (.slice (some ⟨g4, 0, none⟩) (st.1.length + 1) c4), .slice pa st.2.length pc] ∧ RowAt w9 w.heap.size 48 #[.string ⟨x.text.toArray⟩, .bool x.quoted, .int .i64 (x.place : Int)])) 16 (by kernel_rfl) ⟨hR6.box, hX6⟩ (fun hHeld => ?_)
      generalize W5.drew = W6 at *
      clear hR4 hX4 hC4
      refine OrdersZ.takeZ (i := 0) (v := .pointer (some ⟨rb, 0, none⟩)) rfl (by kernel_rfl) (by kernel_rfl) (by kernel_rfl) (by kernel_rfl) (by kernel_rfl) (fun _ _ _ h => h) (Or.inl ⟨by rfl, fun w9 hSw => ?_⟩) hHeld ?_
      · obtain ⟨s0, s1⟩ := hSw
        go_simp
      simp only [List.getElem_toArray, List.getElem_cons_zero, List.getElem_cons_succ, Act.put, List.setIfInBounds_toArray, List.set_cons_zero, List.set_cons_succ]
      refine OrdersZ.takeZ (i := 1) (v := .pointer (some ⟨rb, 0, none⟩)) rfl (by kernel_rfl) (by kernel_rfl) (by kernel_rfl) (by kernel_rfl) (by kernel_rfl) (fun _ _ _ h => h) (Or.inl ⟨by rfl, fun w9 hSw => ?_⟩) hHeld ?_
      · obtain ⟨s0, s1⟩ := hSw
        go_simp
      simp only [List.getElem_toArray, List.getElem_cons_zero, List.getElem_cons_succ, Act.put, List.setIfInBounds_toArray, List.set_cons_zero, List.set_cons_succ]
      refine OrdersZ.takeZ (i := 2) (v := .pointer (some ⟨rb, 0, none⟩)) rfl (by kernel_rfl) (by kernel_rfl) (by kernel_rfl) (by kernel_rfl) (by kernel_rfl) (fun _ _ _ h => h) (Or.inl ⟨by rfl, fun w9 hSw => ?_⟩) hHeld ?_
      · obtain ⟨s0, s1⟩ := hSw
        go_simp
      simp only [List.getElem_toArray, List.getElem_cons_zero, List.getElem_cons_succ, Act.put, List.setIfInBounds_toArray, List.set_cons_zero, List.set_cons_succ]
      refine OrdersZ.takeZ (i := 3) (v := .pointer (some ⟨rb, 3, none⟩)) rfl (by kernel_rfl) (by kernel_rfl) (by kernel_rfl) (by kernel_rfl) (by kernel_rfl) (fun _ _ _ h => h) (Or.inl ⟨by rfl, fun w9 hSw => ?_⟩) hHeld ?_
      · obtain ⟨s0, s1⟩ := hSw
        go_simp
      simp only [List.getElem_toArray, List.getElem_cons_zero, List.getElem_cons_succ, Act.put, List.setIfInBounds_toArray, List.set_cons_zero, List.set_cons_succ]
      refine OrdersZ.takeZ (i := 4) (v := .slice pa st.2.length pc) rfl (by kernel_rfl) (by kernel_rfl) (by kernel_rfl) (by kernel_rfl) (by kernel_rfl) (fun _ _ _ h => h) (Or.inl ⟨by rfl, fun w9 hSw => ?_⟩) hHeld ?_
      · obtain ⟨s0, s1⟩ := hSw
        go_simp
        (have q := s0.cell (q := 3) rfl; go_simp)
      simp only [List.getElem_toArray, List.getElem_cons_zero, List.getElem_cons_succ, Act.put, List.setIfInBounds_toArray, List.set_cons_zero, List.set_cons_succ]
      refine OrdersZ.takeZ (i := 5) (v := .pointer (some ⟨rb, 0, none⟩)) rfl (by kernel_rfl) (by kernel_rfl) (by kernel_rfl) (by kernel_rfl) (by kernel_rfl) (fun _ _ _ h => h) (Or.inl ⟨by rfl, fun w9 hSw => ?_⟩) hHeld ?_
      · obtain ⟨s0, s1⟩ := hSw
        go_simp
      simp only [List.getElem_toArray, List.getElem_cons_zero, List.getElem_cons_succ, Act.put, List.setIfInBounds_toArray, List.set_cons_zero, List.set_cons_succ]
      refine OrdersZ.takeZ (i := 6) (v := .pointer (some ⟨rb, 0, none⟩)) rfl (by kernel_rfl) (by kernel_rfl) (by kernel_rfl) (by kernel_rfl) (by kernel_rfl) (fun _ _ _ h => h) (Or.inl ⟨by rfl, fun w9 hSw => ?_⟩) hHeld ?_
      · obtain ⟨s0, s1⟩ := hSw
        go_simp
      simp only [List.getElem_toArray, List.getElem_cons_zero, List.getElem_cons_succ, Act.put, List.setIfInBounds_toArray, List.set_cons_zero, List.set_cons_succ]
      refine OrdersZ.takeZ (i := 7) (v := .pointer (some ⟨rb, 1, none⟩)) rfl (by kernel_rfl) (by kernel_rfl) (by kernel_rfl) (by kernel_rfl) (by kernel_rfl) (fun _ _ _ h => h) (Or.inl ⟨by rfl, fun w9 hSw => ?_⟩) hHeld ?_
      · obtain ⟨s0, s1⟩ := hSw
        go_simp
      simp only [List.getElem_toArray, List.getElem_cons_zero, List.getElem_cons_succ, Act.put, List.setIfInBounds_toArray, List.set_cons_zero, List.set_cons_succ]
      refine OrdersZ.takeZ (i := 8) (v := .int .i64 (start : Int)) rfl (by kernel_rfl) (by kernel_rfl) (by kernel_rfl) (by kernel_rfl) (by kernel_rfl) (fun _ _ _ h => h) (Or.inl ⟨by rfl, fun w9 hSw => ?_⟩) hHeld ?_
      · obtain ⟨s0, s1⟩ := hSw
        go_simp
        (have q := s0.cell (q := 1) rfl; go_simp)
      simp only [List.getElem_toArray, List.getElem_cons_zero, List.getElem_cons_succ, Act.put, List.setIfInBounds_toArray, List.set_cons_zero, List.set_cons_succ]
      refine OrdersZ.takeZ (i := 9) (v := .pointer (some ⟨w.heap.size, 2, none⟩)) rfl (by kernel_rfl) (by kernel_rfl) (by kernel_rfl) (by kernel_rfl) (by kernel_rfl) (fun _ _ _ h => h) (Or.inl ⟨by rfl, fun w9 hSw => ?_⟩) hHeld ?_
      · obtain ⟨s0, s1⟩ := hSw
        go_simp
      simp only [List.getElem_toArray, List.getElem_cons_zero, List.getElem_cons_succ, Act.put, List.setIfInBounds_toArray, List.set_cons_zero, List.set_cons_succ]
      refine OrdersZ.takeZ (i := 10) (v := .int .i64 (x.place : Int)) rfl (by kernel_rfl) (by kernel_rfl) (by kernel_rfl) (by kernel_rfl) (by kernel_rfl) (fun _ _ _ h => h) (Or.inl ⟨by rfl, fun w9 hSw => ?_⟩) hHeld ?_
      · obtain ⟨s0, s1⟩ := hSw
        go_simp
        (have q := s1.cell (q := 2) rfl; go_simp)
      simp only [List.getElem_toArray, List.getElem_cons_zero, List.getElem_cons_succ, Act.put, List.setIfInBounds_toArray, List.set_cons_zero, List.set_cons_succ]
      refine OrdersZ.takeZ (i := 11) (v := .int .i64 ((start + x.place : Nat) : Int)) rfl (by kernel_rfl) (by kernel_rfl) (by kernel_rfl) (by kernel_rfl) (by kernel_rfl) (fun _ _ _ h => h) (Or.inl ⟨by rfl, fun w9 hSw => ?_⟩) hHeld ?_
      · obtain ⟨s0, s1⟩ := hSw
        go_simp
        (rw [IntKind.wrap_i64]; omega)
      simp only [List.getElem_toArray, List.getElem_cons_zero, List.getElem_cons_succ, Act.put, List.setIfInBounds_toArray, List.set_cons_zero, List.set_cons_succ]
      refine OrdersZ.readyZ (i := 12) (by kernel_rfl) rfl (fun K hK => ?_)
      go_simp
      have hB7 : Below W6.heap.size W6 (W6.alloc (.cells #[.int .i64 ((start + x.place : Nat) : Int)] 3)) := (Below.refl _ _).alloc (Nat.le_refl _) _
      rw [← hsm]
      refine hK.out _ _ ⟨hR6.box.below hB7 hR6.box.lt, hX6.below hB7 hX6.lt⟩ (fun hHeld => ?_)
      clear hK K
      refine OrdersZ.readyZ (i := 13) (by kernel_rfl) rfl (fun K hK => ?_)
      refine step_append_lies _ rfl (.tmp 41) (.tmp 49) 27 rfl base 3 i0 (.int .i64 0) 1 8 Tryd.underlying27 hi hz0 hz1 hz2 rfl (by decide) (.slice pa st.2.length pc) st.2.length (st.2.map (Value.int .i64)) (by rfl) (hR6.two.plc.alloc _) ⟨W6.heap.size, 0, none⟩ 1 1 [.int .i64 ((start + x.place : Nat) : Int)] (by rfl) rfl (cell_one_new _ _ _) (by simp [Value.oneCell']) (by omega) (by unfold maxLen; omega) (by omega) (by have := hR6.blt; simp; omega) (W6.heap.size + 1) (by simp) ?_
      intro g6 c6 w6 hown6 hgrow6 hat6 hlt6
      obtain ⟨hR8, hC8, hbx, hpx⟩ := hG.out _ _ hR6 hX6 g6 c6 w6 hown6 hgrow6 hat6
      refine hK.out _ _ ⟨hbx, hpx⟩ (fun hHeld => ?_)
      clear hK K
      simp only [List.getElem_toArray, List.getElem_cons_zero, List.getElem_cons_succ, Act.put, List.setIfInBounds_toArray, List.set_cons_zero, List.set_cons_succ]
      refine OrdersZ.readyZ (i := 14) (by kernel_rfl) rfl (fun K hK => ?_)
      go_simp
      refine hK.out _ _ ⟨hbx, hpx⟩ (fun hHeld => ?_)
      clear hK K
      refine OrdersZ.takeZ (i := 15) (v := .pointer (some ⟨rb, 3, none⟩)) rfl (by kernel_rfl) (by kernel_rfl) (by kernel_rfl) (by kernel_rfl) (by kernel_rfl) (fun _ _ _ h => h) (Or.inl ⟨by rfl, fun w9 hSw => ?_⟩) hHeld ?_
      · obtain ⟨s0, s1⟩ := hSw
        go_simp
      simp only [List.getElem_toArray, List.getElem_cons_zero, List.getElem_cons_succ, Act.put, List.setIfInBounds_toArray, List.set_cons_zero, List.set_cons_succ]
      have q3 := hbx.cell (q := 3) rfl
      have f3 := hbx.frozen 3
      refine OrdersZ.lastZ (by kernel_rfl) rfl (fun K hK => ?_)
      go_simp
      refine hK.out _ _ ?_
      clear hK K
      refine OrdersZ.doneZ (by kernel_rfl) (NoPanic.normal ?_) _
      have hCf := hC6.trans hC8
      clear hG hown6 hgrow6 hat6 hlt6 hbx hpx q3 f3 hR6 hX6 hB7
      go_wp2
      go_ret
      rw [E.out]
      exact ⟨rfl, ⟨_, _, hR8⟩, hCf⟩

end Go.Proofs.YtbnajikkogdelaaDoor.LineRead
