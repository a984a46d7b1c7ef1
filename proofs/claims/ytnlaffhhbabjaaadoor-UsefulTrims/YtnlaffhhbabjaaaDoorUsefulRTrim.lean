/-
  The document's own Trim of every grammar.
-/
import Derived.Test.YtnlaffhhbabjaaaDoorUsefulRTrimM
import Derived.Test.YtnlaffhhbabjaaaDoorUsefulTrimTop
import Derived.Test.YtnlaffhhbabjaaaDoorOrdersZ
namespace Go.Proofs.YtnlaffhhbabjaaaDoor.UsefulRTrim
open Go.RowKit Go.Proofs.YtnlaffhhbabjaaaDoor.GramLess Go.Proofs.YtnlaffhhbabjaaaDoor.GramMath Go.Proofs.YtnlaffhhbabjaaaDoor.GramRow Go.Proofs.YtnlaffhhbabjaaaDoor.GramOne Go.Proofs.YtnlaffhhbabjaaaDoor.GramApart Go.Proofs.YtnlaffhhbabjaaaDoor.GramRoll Go.Proofs.YtnlaffhhbabjaaaDoor.SetsMath Go.Proofs.YtnlaffhhbabjaaaDoor.UsefulMath Go.Proofs.YtnlaffhhbabjaaaDoor.UsefulTrimM Go.Proofs.YtnlaffhhbabjaaaDoor.UsefulRef Go.Proofs.YtnlaffhhbabjaaaDoor.UsefulTop Go.Proofs.YtnlaffhhbabjaaaDoor.UsefulTrim
set_option linter.unusedVariables false
set_option linter.unusedSimpArgs false

theorem infoInt : (Tryd.prog.info? 3).map (fun i => (i.zero, i.size, i.bytes)) = some (some (.int .i64 0), 1, 8) := by kernel_rfl

theorem stepI {ops : Array Oper} {o : Oper} {a : Act} {w : World} {K : Act → World → Prop} {Q' : Exit → Act → World → Prop} {E : Prop} (hg : o.guard = none) (s x : Operand)
    (ho : o.op = .call { callee := .builtin .append, args := #[s, x], argTypes := #[36, 36] }) (base : Nat) (v : Value) (n : Nat) (xs : List Value) (hs : a.eval s = v) (hown : w.ownsRow base 3 1 v n xs)
    (ad : Addr) (u1 : Value) (hx : a.eval x = .slice (some ad) 1 1) (hsrc : ∀ j u, [u1][j]? = some u → w.cell? (ad.add j) = some u) (h1c : ∀ u ∈ [u1], u.oneCell' = true) (hsz : n ≤ 1000000000) (hbase : base ≤ w.heap.size)
    (h : ∀ v' w', w'.ownsRow base 3 1 v' (n + 1) (xs ++ [u1]) → w.grownBy w' v.ownBlock → K (a.put o.dst v') w') :
    if Region.wanted o (yielded ops a.tmps) = true then Oper.wp Tryd.prog o a w K Q' else E := by
  obtain ⟨i0, hi, hz0, hz1, hz2⟩ := info_parts infoInt
  have hw : Region.wanted o (yielded ops a.tmps) = true := by simp [Region.wanted, hg]
  rw [if_pos hw]
  refine wp_append_own w s x 36 ho base 3 i0 (.int .i64 0) 1 8 Tryd.underlying36 hi hz0 hz1 hz2 rfl (by decide) v n xs hs hown ad 1 1 [u1] hx rfl hsrc h1c (by unfold maxLen; omega) (by omega) hbase ?_
  intro v' w' h1 h2 _
  exact h v' w' h1 h2

theorem stepS {ops : Array Oper} {o : Oper} {a : Act} {w : World} {K : Act → World → Prop} {Q' : Exit → Act → World → Prop} {E : Prop} (hg : o.guard = none) (s x : Operand)
    (ho : o.op = .call { callee := .builtin .append, args := #[s, x], argTypes := #[22, 22] }) (base : Nat) (v : Value) (n : Nat) (xs : List Value) (hs : a.eval s = v) (hown : w.ownsRow base 9 1 v n xs)
    (ad : Addr) (u1 : Value) (hx : a.eval x = .slice (some ad) 1 1) (hsrc : ∀ j u, [u1][j]? = some u → w.cell? (ad.add j) = some u) (h1c : ∀ u ∈ [u1], u.oneCell' = true) (hsz : n ≤ 1000000000) (hbase : base ≤ w.heap.size)
    (h : ∀ v' w', w'.ownsRow base 9 1 v' (n + 1) (xs ++ [u1]) → w.grownBy w' v.ownBlock → K (a.put o.dst v') w') :
    if Region.wanted o (yielded ops a.tmps) = true then Oper.wp Tryd.prog o a w K Q' else E := by
  obtain ⟨i0, hi, hz0, hz1, hz2⟩ := info_parts infoStr
  have hw : Region.wanted o (yielded ops a.tmps) = true := by simp [Region.wanted, hg]
  rw [if_pos hw]
  refine wp_append_own w s x 22 ho base 9 i0 (.string ⟨#[]⟩) 1 16 Tryd.underlying22 hi hz0 hz1 hz2 rfl (by decide) v n xs hs hown ad 1 1 [u1] hx rfl hsrc h1c (by unfold maxLen; omega) (by omega) hbase ?_
  intro v' w' h1 h2 _
  exact h v' w' h1 h2

theorem pool (g : G) : RK 1 (usefulS g) (useS (usefulS g) g.rs) g.rs g.rs.length = (trimG g).rs := by
  unfold RK
  rw [if_pos rfl, List.take_length]
  rfl

noncomputable def trimA (g : G) : G := if (trimZ g).1 = 0 then trimG g else emptyG
def RTrimV (w' : World) (g : G) (e : Ending) : Prop := ∃ ta tc na nc ra rc, e = .returned (.tuple #[.agg #[.slice ta (trimA g).ts.length tc, .slice na (trimA g).ns.length nc, .int .i64 (trimA g).ax, .slice ra (trimA g).rs.length rc], .int .i64 ((trimZ g).1 : Int)]) ∧ GRow w' ta na ra (trimA g)

theorem rtrimV_none {w' : World} {g : G} {k : Nat} (hk : (trimZ g).1 = k) (h0 : k ≠ 0) : RTrimV w' g (.returned (.tuple #[.agg #[.slice none 0 0, .slice none 0 0, .int .i64 0, .slice none 0 0], .int .i64 (k : Int)])) := by
  have e : trimA g = emptyG := if_neg (by omega)
  refine ⟨none, 0, none, 0, none, 0, by rw [e, hk]; rfl, ?_⟩
  rw [e]
  exact ⟨fun k x hx => by simp [emptyG] at hx, fun k x hx => by simp [emptyG] at hx, fun k x hx => by simp [emptyG] at hx⟩

set_option maxRecDepth 100000 in
set_option maxHeartbeats 32000000 in
theorem rtrim_any (ta na ra : Option Addr) (tc nc rc : Nat) (g : G) (w : World) (hG : GRow w ta na ra g) (hg : okG g) :
    Calls Tryd.prog 7 #[.agg #[.slice ta g.ts.length tc, .slice na g.ns.length nc, .int .i64 g.ax, .slice ra g.rs.length rc]] w fun e w' => RTrimV w' g e ∧ Below w.heap.size w w' := by
  have hB3 : Below w.heap.size w (((w.alloc (.cells #[.slice ta g.ts.length tc, .slice na g.ns.length nc, .int .i64 g.ax, .slice ra g.rs.length rc] 25)).alloc (.cells #[.slice none 0 0, .slice none 0 0, .int .i64 0, .slice none 0 0] 25)).alloc (.cells #[.slice none 0 0, .slice none 0 0, .int .i64 0, .slice none 0 0] 25)) := (((Below.refl _ _).alloc (Nat.le_refl _) _).alloc (by simp) _).alloc (by simp; omega) _
  have hgb3 : RowAt (((w.alloc (.cells #[.slice ta g.ts.length tc, .slice na g.ns.length nc, .int .i64 g.ax, .slice ra g.rs.length rc] 25)).alloc (.cells #[.slice none 0 0, .slice none 0 0, .int .i64 0, .slice none 0 0] 25)).alloc (.cells #[.slice none 0 0, .slice none 0 0, .int .i64 0, .slice none 0 0] 25)) w.heap.size 25 #[.slice ta g.ts.length tc, .slice na g.ns.length nc, .int .i64 g.ax, .slice ra g.rs.length rc] := ((rowNew w _ _).alloc _).alloc _
  have hrb3 : RowAt (((w.alloc (.cells #[.slice ta g.ts.length tc, .slice na g.ns.length nc, .int .i64 g.ax, .slice ra g.rs.length rc] 25)).alloc (.cells #[.slice none 0 0, .slice none 0 0, .int .i64 0, .slice none 0 0] 25)).alloc (.cells #[.slice none 0 0, .slice none 0 0, .int .i64 0, .slice none 0 0] 25)) (w.heap.size + 1) 25 #[.slice none 0 0, .slice none 0 0, .int .i64 0, .slice none 0 0] := by
    have := (rowNew (w.alloc (.cells #[.slice ta g.ts.length tc, .slice na g.ns.length nc, .int .i64 g.ax, .slice ra g.rs.length rc] 25)) #[.slice none 0 0, .slice none 0 0, .int .i64 0, .slice none 0 0] 25).alloc (.cells #[.slice none 0 0, .slice none 0 0, .int .i64 0, .slice none 0 0] 25)
    rwa [World.size_alloc] at this
  have hob3 : RowAt (((w.alloc (.cells #[.slice ta g.ts.length tc, .slice na g.ns.length nc, .int .i64 g.ax, .slice ra g.rs.length rc] 25)).alloc (.cells #[.slice none 0 0, .slice none 0 0, .int .i64 0, .slice none 0 0] 25)).alloc (.cells #[.slice none 0 0, .slice none 0 0, .int .i64 0, .slice none 0 0] 25)) (w.heap.size + 2) 25 #[.slice none 0 0, .slice none 0 0, .int .i64 0, .slice none 0 0] := by
    have := rowNew ((w.alloc (.cells #[.slice ta g.ts.length tc, .slice na g.ns.length nc, .int .i64 g.ax, .slice ra g.rs.length rc] 25)).alloc (.cells #[.slice none 0 0, .slice none 0 0, .int .i64 0, .slice none 0 0] 25)) #[.slice none 0 0, .slice none 0 0, .int .i64 0, .slice none 0 0] 25
    rwa [World.size_alloc, World.size_alloc] at this
  have hz3 : (((w.alloc (.cells #[.slice ta g.ts.length tc, .slice na g.ns.length nc, .int .i64 g.ax, .slice ra g.rs.length rc] 25)).alloc (.cells #[.slice none 0 0, .slice none 0 0, .int .i64 0, .slice none 0 0] 25)).alloc (.cells #[.slice none 0 0, .slice none 0 0, .int .i64 0, .slice none 0 0] 25)).heap.size = w.heap.size + 3 := by simp
  have hck := GramRef.rcheck_any ta na ra tc nc rc g _ (hG.below hB3 (Nat.le_refl _)) hg
  go_enter Tryd.func7, Tryd.ntmps7
  go_wp2_with fail
  generalize ((w.alloc (.cells #[.slice ta g.ts.length tc, .slice na g.ns.length nc, .int .i64 g.ax, .slice ra g.rs.length rc] 25)).alloc (.cells #[.slice none 0 0, .slice none 0 0, .int .i64 0, .slice none 0 0] 25)).alloc (.cells #[.slice none 0 0, .slice none 0 0, .int .i64 0, .slice none 0 0] 25) = W3 at *
  refine hck.mono ?_
  rintro e wx ⟨rfl, hb4⟩
  have hBx := hB3.trans (hb4.mono (by omega))
  have hgb := hgb3.below hb4 (by omega)
  have hrb := hrb3.below hb4 (by omega)
  have hob := hob3.below hb4 (by omega)
  have hz4 : w.heap.size + 3 ≤ wx.heap.size := by have := hb4.size; omega
  clear hck hgb3 hrb3 hob3 hB3 hb4 hz3
  by_cases h0 : (checkG g).1 = 0
  · have hgood := good_of h0
    rw [h0]
    have hu := ruseful_any ta na ra tc nc rc g wx (hG.2.2.below hBx (Nat.le_refl _)) hg hgood
    have a0 := hgb.cell (q := 0) rfl
    have a1 := hgb.cell (q := 1) rfl
    have a2 := hgb.cell (q := 2) rfl
    have a3 := hgb.cell (q := 3) rfl
    go_wp2_with fail
    refine hu.mono ?_
    rintro e w5 ⟨⟨bi, rfl, hbi1, hbi2, hbr⟩, hb5⟩
    clear hu a0 a1 a2 a3
    have hB5 := hBx.trans (hb5.mono hBx.size)
    replace hgb := hgb.below hb5 hgb.lt
    replace hrb := hrb.below hb5 hrb.lt
    replace hob := hob.below hb5 hob.lt
    have hz5 := hb5.size
    clear hb5 hBx
    have hBx := hB5
    clear hB5
    obtain ⟨m, hm⟩ : ∃ m : Nat, g.ax = (m : Int) := ⟨g.ax.toNat, by have := hgood.ax0; omega⟩
    have hml : m < g.ns.length := by have := hgood.ax1; omega
    have hml2 : (m : Int) < (g.ns.length : Int) := by omega
    have hcm := (hbr m hml).1
    have a2 : w5.cell? ⟨w.heap.size, 2, none⟩ = some (.int .i64 (m : Int)) := by rw [← hm]; exact hgb.cell (q := 2) rfl
    cases hSm : usefulS g m with
    | false =>
      rw [hSm] at hcm
      have EZ : Hid (trimZ g = (15, none)) := trimZ_none h0 (by rw [hm, Int.toNat_natCast]; exact hSm)
      obtain ⟨wx, hwx⟩ : ∃ wx, wx = w5 := ⟨_, rfl⟩
      subst hwx
      clear h0 hgood hm hSm hbr
      have hr4 := (((hrb.set 0 (.slice none 0 0)).set 1 (.slice none 0 0)).set 2 (.int .i64 0)).set 3 (.slice none 0 0)
      have hBZ := (((hBx.setCell (p := ⟨w.heap.size + 1, 0, none⟩) (by show _ ≤ w.heap.size + 1; omega) (.slice none 0 0)).setCell (p := ⟨w.heap.size + 1, 1, none⟩) (by show _ ≤ w.heap.size + 1; omega) (.slice none 0 0)).setCell (p := ⟨w.heap.size + 1, 2, none⟩) (by show _ ≤ w.heap.size + 1; omega) (.int .i64 0)).setCell (p := ⟨w.heap.size + 1, 3, none⟩) (by show _ ≤ w.heap.size + 1; omega) (.slice none 0 0)
      have HZ : Hid (_) := And.intro hr4 hBZ
      have o0 := hob.cell (q := 0) rfl
      have o1 := hob.cell (q := 1) rfl
      have o2 := hob.cell (q := 2) rfl
      have o3 := hob.cell (q := 3) rfl
      have c0 := hrb.cell (q := 0) rfl
      have c1 := hrb.cell (q := 1) rfl
      have c2 := hrb.cell (q := 2) rfl
      have c3 := hrb.cell (q := 3) rfl
      have g0 := hrb.frozen 0
      have g1 := hrb.frozen 1
      have g2 := hrb.frozen 2
      have g3 := hrb.frozen 3
      clear hr4 hBZ
      go_wp2
      obtain ⟨hr4, hBZ⟩ := HZ.out
      have q0 := hr4.cell (q := 0) rfl
      have q1 := hr4.cell (q := 1) rfl
      have q2 := hr4.cell (q := 2) rfl
      have q3 := hr4.cell (q := 3) rfl
      generalize (((wx.setCell ⟨w.heap.size + 1, 0, none⟩ (.slice none 0 0)).setCell ⟨w.heap.size + 1, 1, none⟩ (.slice none 0 0)).setCell ⟨w.heap.size + 1, 2, none⟩ (.int .i64 0)).setCell ⟨w.heap.size + 1, 3, none⟩ (.slice none 0 0) = Z at *
      refine bodyPost_ret (v := .tuple #[.agg #[.slice none 0 0, .slice none 0 0, .int .i64 0, .slice none 0 0], .int .i64 15]) (by simp [results, Tryd.results7, go_sem, q0, q1, q2, q3]) rfl ?_
      exact ⟨rtrimV_none (k := 15) (by rw [EZ.out]) (by omega), hBZ⟩
    | true =>
      rw [hSm] at hcm
      have h60 := hgood.few
      have hmk := fun W => UsefulRef.madeB_any g.ts.length (by omega) W
      have hrl := hgood.rules
      have EZ : Hid (trimZ g = (0, none)) := trimZ_ok h0 (by rw [hm, Int.toNat_natCast]; exact hSm)
      have hSa : Hid (usefulS g m = true) := hSm
      have a0 := hgb.cell (q := 0) rfl
      have hBm : Below w5.heap.size w5 (w5.alloc (.cells (madeCells #[.bool false] g.ts.length) 4)) := (Below.refl _ _).alloc (Nat.le_refl _) _
      have htr : BRow (w5.alloc (.cells (madeCells #[.bool false] g.ts.length) 4)) w5.heap.size g.ts.length (fun _ => false) := UsefulRef.madeB_row g.ts.length w5
      have hzm : (w5.alloc (.cells (madeCells #[.bool false] g.ts.length) 4)).heap.size = w5.heap.size + 1 := by simp
      have hobm := hob.below hBm hob.lt
      have hgbm := hgb.below hBm hgb.lt
      have hrbm := hrb.below hBm hrb.lt
      have hbrm := hbr.below hBm hbi2
      have hBwm := hBx.trans (hBm.mono hBx.size)
      go_wp2
      generalize w5.alloc (.cells (madeCells #[.bool false] g.ts.length) 4) = Wm at *
      clear hmk a0 a2 hcm hob hgb hrb hbr hBx hBm
      obtain ⟨bt, hbt⟩ : ∃ bt, bt = w5.heap.size := ⟨_, rfl⟩
      rw [← hbt] at htr hzm hbi2 hz5 ⊢
      have env : ENV w Wm w.heap.size bi bt (bt + 1) (w.heap.size + 2) g #[.slice ta g.ts.length tc, .slice na g.ns.length nc, .int .i64 g.ax, .slice ra g.rs.length rc] (usefulS g) := ⟨hgbm, hbrm, hBwm, rfl, by omega, by omega, rfl, hzm, rfl⟩
      have hM0 : MID Wm (w.heap.size + 2) bt (bt + 1) g.ts.length [] (fun _ => false) Wm := ⟨⟨_, [], hobm, RO.nil _ _⟩, htr, But.refl _ _⟩
      have hbtl : w.heap.size + 2 < bt := by omega
      have Hgood : Hid (GoodG g) := hgood
      have Hm : Hid (g.ax = (m : Int)) := hm
      clear hbt hobm hgbm hbrm hBwm htr hSm hgood hm hz5 hbi1 hz4 w5
      obtain ⟨U, hU⟩ : ∃ U, useS (usefulS g) g.rs = U := ⟨_, rfl⟩
      have HU : Hid (useS (usefulS g) g.rs = U) := hU
      clear hU
      obtain ⟨S, hS⟩ : ∃ S, usefulS g = S := ⟨_, rfl⟩
      have HS : Hid (usefulS g = S) := hS
      rw [hS] at env HU hSa
      clear hS
      go_loopw [9] (fun i wr => ∃ t : Nat, t ≤ 2 ∧ i = .int .i64 (t : Int) ∧ ∃ T, MID Wm (w.heap.size + 2) bt (bt + 1) g.ts.length (RK (t - 1) S U g.rs g.rs.length) T wr ∧ Hid (MK U T g.ts.length (min t 1))) (fun i _ => 2 - (intOf i).toNat)
      case atStart => exact ⟨0, by omega, rfl, _, hM0, ⟨(fun j _ h => by cases h), (fun h => absurd h (by decide))⟩⟩
      case round =>
        clear hM0
        obtain ⟨t, ht, rfl, T, hMID, hMK⟩ := hrel
        by_cases htl : t < 2
        · have htl2 : (t : Int) < 2 := by omega
          have hMIDs : MID Wm (w.heap.size + 2) bt (bt + 1) g.ts.length (RK t S U g.rs 0) T wr := by
            have e : RK t S U g.rs 0 = RK (t - 1) S U g.rs g.rs.length := by
              rw [RK.not (t := t - 1) (by omega)]
              unfold RK
              split <;> simp
            rw [e]
            exact hMID
          have hMKs : Hid (MK U T g.ts.length t) := by
            have e : min t 1 = t := by omega
            have := hMK.out
            rwa [e] at this
          clear hMID hMK
          go_wp2
          go_loopw [10] (fun i wr => ∃ n : Nat, n ≤ g.rs.length ∧ i = .int .i64 (n : Int) ∧ ∃ T, MID Wm (w.heap.size + 2) bt (bt + 1) g.ts.length (RK t S U g.rs n) T wr ∧ Hid (MK U T g.ts.length t) ∧ Hid (DN S T g.rs n)) (fun i _ => g.rs.length - (intOf i).toNat)
          case atStart => exact ⟨0, by omega, rfl, T, hMIDs, hMKs, DN.zero _ _ _⟩
          case round =>
            clear hMIDs hMKs
            obtain ⟨i, hi, rfl, T1, hMID, hMK, hDN⟩ := hrel
            obtain ⟨hgbW, hbiW, hBW, hMW⟩ := env.at hMID
            have a3 := hgbW.cell (q := 3) rfl
            by_cases hil : i < g.rs.length
            · have hil2 : (i : Int) < (g.rs.length : Int) := by omega
              obtain ⟨r, hr⟩ : ∃ r, g.rs[i]? = some r := ⟨g.rs[i], List.getElem?_eq_getElem hil⟩
              have hrm := List.mem_of_getElem? hr
              obtain ⟨h32, hl0, hl1, hsy⟩ := ruleK_ok (Hgood.out.each r hrm)
              obtain ⟨rb, off, qa, qc, hra, d0w, d1w, hIw⟩ := hG.2.2 i r hr
              have d0 := (hBW.cell (p := ⟨rb, off + i * 2, none⟩) (cell_lt d0w)).trans d0w
              have d1 := (hBW.cell (p := ⟨rb, off + i * 2 + 1, none⟩) (cell_lt d1w)).trans d1w
              have hIq := hIw.below hBW (Nat.le_refl _)
              clear d0w d1w
              obtain ⟨n, hn⟩ : ∃ n : Nat, r.left = (n : Int) := ⟨r.left.toNat, by omega⟩
              have hnl : n < g.ns.length := by omega
              have hnl2 : (n : Int) < (g.ns.length : Int) := by omega
              have hcn := (hbiW n hnl).1
              rw [hn] at d0
              have Hr : Hid (g.rs[i]? = some r) := hr
              have Hn : Hid (r.left = (n : Int)) := hn
              have Hsy : Hid (∀ x ∈ r.right, -(g.ns.length : Int) ≤ x ∧ x < (g.ts.length : Int)) := hsy
              have hin0 : Hid (inS S r = (S n && allS S r.right)) := by show _ = _; unfold inS; rw [hn, Int.toNat_natCast]
              have hok := hg.2.2.2.2.1 r hrm
              have hBr : Below wr.heap.size wr (wr.alloc (.cells #[.int .i64 (n : Int), .slice qa r.right.length qc] 45)) := (Below.refl _ _).alloc (Nat.le_refl _) _
              have hMID1 := hMID.below hBr (by omega)
              have hrb1 := rowNew wr #[.int .i64 (n : Int), .slice qa r.right.length qc] 45
              have hbi1 := hbiW.below hBr (by omega)
              have hI1 := hIq.below hBr (Nat.le_refl _)
              subst hra
              clear hn hr hrm hsy hl0 hl1
              cases hSn : S n with
              | false =>
                rw [hSn] at hcn
                have hsk : Hid (inS S r = false) := by show _ = _; rw [hin0.out, hSn]; rfl
                have hcn1 := (hBr.cell (p := ⟨bi, n, none⟩) (show bi < wr.heap.size by have := env.h3; omega)).trans hcn
                have hDN2 : Hid (DN S T1 g.rs (i + 1)) := hDN.out.skip Hr.out hsk.out
                have hMID2 : Hid (MID Wm (w.heap.size + 2) bt (bt + 1) g.ts.length (RK t S U g.rs (i + 1)) T1 (wr.alloc (.cells #[.int .i64 (n : Int), .slice qa r.right.length qc] 45))) := by show MID _ _ _ _ _ _ _ _; rw [RK.skip Hr.out hsk.out]; exact hMID1
                clear hMID hMID1 hDN hSn hin0 hsk
                go_wp2
                go_roundw
                case rel => exact ⟨i + 1, by omega, by go_num, T1, hMID2.out, hMK, hDN2⟩
                case measure => simp [intOf]; omega
              | true =>
                rw [hSn] at hcn
                have hcn1 := (hBr.cell (p := ⟨bi, n, none⟩) (show bi < wr.heap.size by have := env.h3; omega)).trans hcn
                have hall := rall_any qa qc bi g.ns.length g.ns.length r.right S _ hI1 (by omega) (fun x hx => ⟨hok.2.1 x hx, by have := Hsy.out x hx; omega⟩) (by omega) hbi1
                have hpl := place_any bi g.ns.length g.ns.length n S _ hbi1 (by omega) (by omega)
                obtain ⟨lf, hlf⟩ : ∃ lf, cntB S n = lf := ⟨_, rfl⟩
                rw [hlf] at hpl
                have Hlf : Hid (cntB S n = lf) := hlf
                clear hlf
                have hINs : Hid (IN wr bt wr.heap.size g.ts.length #[.int .i64 (n : Int), .slice qa r.right.length qc] (lf : Int) [] T1 ((wr.alloc (.cells #[.int .i64 (n : Int), .slice qa r.right.length qc] 45)).alloc (.cells #[.int .i64 (lf : Int), .slice none 0 0] 45))) := IN.start hMID.t (by omega) rfl
                go_wp2_with fail
                refine hall.mono ?_
                rintro e w9 ⟨rfl, hw9⟩
                obtain rfl := hw9.symm
                clear hall
                cases hal : allS S r.right with
                | false =>
                  have hsk : Hid (inS S r = false) := by show _ = _; rw [hin0.out, hSn, hal]; rfl
                  have hDN2 : Hid (DN S T1 g.rs (i + 1)) := hDN.out.skip Hr.out hsk.out
                  have hMID2 : Hid (MID Wm (w.heap.size + 2) bt (bt + 1) g.ts.length (RK t S U g.rs (i + 1)) T1 (wr.alloc (.cells #[.int .i64 (n : Int), .slice qa r.right.length qc] 45))) := by show MID _ _ _ _ _ _ _ _; rw [RK.skip Hr.out hsk.out]; exact hMID1
                  clear hMID hMID1 hDN hSn hin0 hsk hal hpl hINs
                  go_wp2
                  go_roundw
                  case rel => exact ⟨i + 1, by omega, by go_num, T1, hMID2.out, hMK, hDN2⟩
                  case measure => simp [intOf]; omega
                | true =>
                  have hin : Hid (inS S r = true) := by show _ = _; rw [hin0.out, hSn, hal]; rfl
                  have b0 := hrb1.cell (q := 0) rfl
                  clear hSn hin0 hal
                  go_wp2_with fail
                  refine hpl.mono ?_
                  rintro e w9 ⟨rfl, hw9⟩
                  obtain rfl := hw9.symm
                  clear hpl b0
                  go_wp2
                  generalize (wr.alloc (.cells #[.int .i64 (n : Int), .slice qa r.right.length qc] 45)).alloc (.cells #[.int .i64 (lf : Int), .slice none 0 0] 45) = W0 at *
                  have hIN0 := hINs.out
                  obtain ⟨Wr, hWr⟩ : ∃ Wr, Wr = wr := ⟨_, rfl⟩
                  subst hWr
                  obtain ⟨rx, hrx⟩ : ∃ rx, rx = Wr.heap.size := ⟨_, rfl⟩
                  rw [← hrx] at hIN0 hMW ⊢
                  have Hrx : Hid (rx = Wr.heap.size) := hrx
                  clear hINs hrx hrb1 hbi1 hI1 hcn1 hcn a3 d0 d1 hMID1 hBr
                  go_loopw [13] (fun s13 wr => ∃ k : Nat, k ≤ r.right.length ∧ s13 = .int .i64 (k : Int) ∧ ∃ l T2, IN Wr bt rx g.ts.length #[.int .i64 (n : Int), .slice qa r.right.length qc] (lf : Int) l T2 wr ∧ Hid (LK t S U r.right k l) ∧ Hid (MK U T2 g.ts.length t) ∧ Hid (DN S T2 g.rs i) ∧ Hid (DK T2 r.right k)) (fun s13 _ => r.right.length - (intOf s13).toNat)
                  case atStart => exact ⟨0, by omega, rfl, [], T1, hIN0, LK.zero _ _ _ _, hMK, hDN, DK.zero _ _⟩
                  case round =>
                    clear hIN0
                    obtain ⟨k, hk, rfl, l, T2, hIN, hLK, hMK2, hDN2, hDK⟩ := hrel
                    have hBk : Below w.heap.size w wr := hBW.trans (hIN.fr.below (by have := Hrx.out; omega) (fun k hk => by have := Hrx.out; rcases hk with hk | hk <;> omega))
                    have b1 := hIN.r.cell (q := 1) rfl
                    have hszk := hIN.sz
                    by_cases hkl : k < r.right.length
                    · have hkl2 : (k : Int) < (r.right.length : Int) := by omega
                      obtain ⟨x, hx⟩ : ∃ x, r.right[k]? = some x := ⟨r.right[k], List.getElem?_eq_getElem hkl⟩
                      obtain ⟨xb, xo, hqa, hc⟩ := (hIw.below hBk (Nat.le_refl _)) k x hx
                      subst hqa
                      have hsx := Hsy.out x (List.mem_of_getElem? hx)
                      have Hx : Hid (r.right[k]? = some x) := hx
                      have hdr : Below wr.heap.size wr wr.drew := ⟨rfl, rfl, rfl, Nat.le_refl _, fun _ _ => rfl⟩
                      obtain ⟨xv, hx1, hx2⟩ := hIN.x
                      have hll : l.length ≤ 1000 := by have := hLK.out.1; omega
                      clear hx
                      by_cases hx0 : x < 0
                      · obtain ⟨q, rfl⟩ : ∃ q : Nat, x = -1 - (q : Int) := ⟨(-1 - x).toNat, by omega⟩
                        have hql : q < g.ns.length := by omega
                        have hbik : BRow wr bi g.ns.length S := BRow.but hbiW hIN.fr (by have := env.h3; have := Hrx.out; omega) (by have := env.h3; have := Hrx.out; simp; omega)
                        have hpl := fun (_ : Unit) => place_any bi g.ns.length g.ns.length q S wr.drew (hbik.below hdr (by have := env.h3; have := Hrx.out; omega)) (by omega) (by omega)
                        obtain ⟨P, hP⟩ : ∃ P, cntB S q = P := ⟨_, rfl⟩
                        rw [hP] at hpl
                        have hP64 : P ≤ 60 := by rw [← hP]; have := cntB_le S q; omega
                        have wq : IntKind.i64.wrap (-1 - (-1 - (q : Int))) = (q : Int) := by rw [IntKind.wrap_i64]; omega
                        have wP : IntKind.i64.wrap (-1 - (P : Int)) = -1 - (P : Int) := by rw [IntKind.wrap_i64]; omega
                        have HP : Hid (_) := hpl
                        have hLK2 : Hid (LK t S U r.right (k + 1) (l ++ [-1 - (P : Int)])) := hLK.out.next Hx.out (fun _ => by unfold renX; rw [if_pos hx0, show (-1 - (-1 - (q : Int))).toNat = q by omega, hP])
                        have hDK2 : Hid (DK T2 r.right (k + 1)) := hDK.out.neg Hx.out hx0
                        have hINd : IN Wr bt rx g.ts.length #[.int .i64 (n : Int), .slice (some ⟨xb, xo, none⟩) r.right.length qc] (lf : Int) l T2 wr.drew := hIN.below hdr (by omega)
                        have hF : Hid (∀ v5 w5, World.ownsRow w5 (rx + 2) 3 1 v5 (l.length + 1) (intsL l ++ [.int .i64 (-1 - (P : Int))]) → (wr.drew.alloc (.cells #[.int .i64 (-1 - (P : Int))] 3)).grownBy w5 xv.ownBlock → (w5.cell? ⟨rx + 1, 1, none⟩ = some xv ∧ w5.frozen? ⟨rx + 1, 1, none⟩ = false) ∧ IN Wr bt rx g.ts.length #[.int .i64 (n : Int), .slice (some ⟨xb, xo, none⟩) r.right.length qc] (lf : Int) (l ++ [-1 - (P : Int)]) T2 (w5.setCell ⟨rx + 1, 1, none⟩ v5)) := fun v5 w5 => IN.step hINd (by omega) (-1 - (P : Int)) hx1 hx2 ((Below.refl _ _).alloc (Nat.le_refl _) _) v5 w5
                        have lx : wr.drew.cell? ⟨rx + 1, 1, none⟩ = some xv := hx1.cell (q := 1) rfl
                        have lx2 : (wr.drew.alloc (.cells #[.int .i64 (-1 - (P : Int))] 3)).cell? ⟨rx + 1, 1, none⟩ = some xv := ((Below.refl wr.drew.heap.size wr.drew).alloc (Nat.le_refl _) _).cell (p := ⟨rx + 1, 1, none⟩) (show rx + 1 < wr.heap.size by omega) |>.trans lx
                        replace hx2 : World.ownsRow wr.drew (rx + 2) 3 1 xv l.length (intsL l) := hx2
                        have hszd : rx + 2 ≤ wr.drew.heap.size := hszk
                        clear hpl hP hINd hx1 hbik hDK hLK hIN hMID hdr hBk
                        go_wp2_with fail
                        clear b1 hc hszk
                        refine wp_region_noPanic ?_
                        refine OrdersZ.region_Z (S := (fun w9 => w9.cell? ⟨rx + 1, 1, none⟩ = some xv)) 10 (by kernel_rfl) lx (fun hHeld => ?_)
                        generalize wr.drew = W at *
                        refine OrdersZ.takeZ (i := 0) (v := .pointer (some ⟨rx + 1, 1, none⟩)) rfl (by kernel_rfl) (by kernel_rfl) (by kernel_rfl) (by kernel_rfl) (by kernel_rfl) (fun _ _ _ h => h) (Or.inl ⟨by rfl, fun w9 hSw => ?_⟩) hHeld ?_
                        · obtain s9 := hSw
                          go_simp
                        simp only [List.getElem_toArray, List.getElem_cons_zero, List.getElem_cons_succ, Act.put, List.setIfInBounds_toArray, List.set_cons_zero, List.set_cons_succ]
                        refine OrdersZ.takeZ (i := 2) (v := .slice (some ⟨bi, 0, none⟩) g.ns.length g.ns.length) rfl (by kernel_rfl) (by kernel_rfl) (by kernel_rfl) (by kernel_rfl) (by kernel_rfl) (fun _ _ _ h => h) (Or.inl ⟨by rfl, fun w9 hSw => ?_⟩) hHeld ?_
                        · obtain s9 := hSw
                          go_simp
                        simp only [List.getElem_toArray, List.getElem_cons_zero, List.getElem_cons_succ, Act.put, List.setIfInBounds_toArray, List.set_cons_zero, List.set_cons_succ]
                        refine OrdersZ.takeZ (i := 3) (v := .int .i64 (-1 - (q : Int))) rfl (by kernel_rfl) (by kernel_rfl) (by kernel_rfl) (by kernel_rfl) (by kernel_rfl) (fun _ _ _ h => h) (Or.inl ⟨by rfl, fun w9 hSw => ?_⟩) hHeld ?_
                        · obtain s9 := hSw
                          go_simp
                        simp only [List.getElem_toArray, List.getElem_cons_zero, List.getElem_cons_succ, Act.put, List.setIfInBounds_toArray, List.set_cons_zero, List.set_cons_succ]
                        refine OrdersZ.takeZ (i := 4) (v := .int .i64 (q : Int)) rfl (by kernel_rfl) (by kernel_rfl) (by kernel_rfl) (by kernel_rfl) (by kernel_rfl) (fun _ _ _ h => h) (Or.inl ⟨by rfl, fun w9 hSw => ?_⟩) hHeld ?_
                        · obtain s9 := hSw
                          go_simp
                        simp only [List.getElem_toArray, List.getElem_cons_zero, List.getElem_cons_succ, Act.put, List.setIfInBounds_toArray, List.set_cons_zero, List.set_cons_succ]
                        refine OrdersZ.takeZ (i := 1) (v := xv) rfl (by kernel_rfl) (by kernel_rfl) (by kernel_rfl) (by kernel_rfl) (by kernel_rfl) (fun _ _ _ h => h) (Or.inl ⟨by rfl, fun w9 hSw => ?_⟩) hHeld ?_
                        · obtain s9 := hSw
                          go_simp
                        simp only [List.getElem_toArray, List.getElem_cons_zero, List.getElem_cons_succ, Act.put, List.setIfInBounds_toArray, List.set_cons_zero, List.set_cons_succ]
                        refine OrdersZ.readyZ (i := 5) (by kernel_rfl) rfl (fun K hK => ?_)
                        go_simp
                        refine (HP.out ()).mono ?_
                        rintro e w9 ⟨rfl, hw9⟩
                        obtain rfl := hw9.symm
                        refine hK.out _ _ lx (fun hHeld => ?_)
                        clear hK K
                        refine OrdersZ.takeZ (i := 6) (v := .int .i64 (-1 - (P : Int))) rfl (by kernel_rfl) (by kernel_rfl) (by kernel_rfl) (by kernel_rfl) (by kernel_rfl) (fun _ _ _ h => h) (Or.inl ⟨by rfl, fun w9 hSw => ?_⟩) hHeld ?_
                        · obtain s9 := hSw
                          go_simp
                        simp only [List.getElem_toArray, List.getElem_cons_zero, List.getElem_cons_succ, Act.put, List.setIfInBounds_toArray, List.set_cons_zero, List.set_cons_succ]
                        refine OrdersZ.readyZ (i := 7) (by kernel_rfl) rfl (fun K hK => ?_)
                        go_simp
                        refine hK.out _ _ lx2 (fun hHeld => ?_)
                        clear hK K
                        refine OrdersZ.readyZ (i := 8) (by kernel_rfl) rfl (fun K hK => ?_)
                        refine stepI rfl _ _ rfl (rx + 2) xv l.length (intsL l) (by rfl) (hx2.alloc _) ⟨W.heap.size, 0, none⟩ (.int .i64 (-1 - (P : Int))) (by rfl) (cell_one_new _ _ _) (by simp [Value.oneCell']) (by omega) (by simp; omega) ?_
                        intro v5 w5 hown5 hgrow5
                        obtain ⟨g5, c5, rfl⟩ := ownsRow_succ hown5
                        obtain ⟨⟨y0, u0⟩, hIN5⟩ := hF.out _ w5 hown5 hgrow5
                        refine hK.out _ _ y0 (fun hHeld => ?_)
                        clear hK K
                        simp only [List.getElem_toArray, List.getElem_cons_zero, List.getElem_cons_succ, Act.put, List.setIfInBounds_toArray, List.set_cons_zero, List.set_cons_succ]
                        refine OrdersZ.takeZ (i := 9) (v := .pointer (some ⟨rx + 1, 1, none⟩)) rfl (by kernel_rfl) (by kernel_rfl) (by kernel_rfl) (by kernel_rfl) (by kernel_rfl) (fun _ _ _ h => h) (Or.inl ⟨by rfl, fun w9 hSw => ?_⟩) hHeld ?_
                        · obtain s9 := hSw
                          go_simp
                        simp only [List.getElem_toArray, List.getElem_cons_zero, List.getElem_cons_succ, Act.put, List.setIfInBounds_toArray, List.set_cons_zero, List.set_cons_succ]
                        refine OrdersZ.lastZ (by kernel_rfl) rfl (fun K hK => ?_)
                        go_simp
                        refine hK.out _ _ ?_
                        clear hK K
                        refine OrdersZ.doneZ (by kernel_rfl) (NoPanic.normal ?_) _
                        clear y0 u0 hown5 hgrow5 hHeld lx lx2 hx2
                        go_wp2
                        go_roundw
                        case rel => exact ⟨k + 1, by omega, by go_num, l ++ [-1 - (P : Int)], T2, hIN5, hLK2, hMK2, hDN2, hDK2⟩
                        case measure => simp [intOf]; omega
                      · obtain ⟨q, rfl⟩ : ∃ q : Nat, x = (q : Int) := ⟨x.toNat, by omega⟩
                        have hql : q < g.ts.length := by omega
                        have hql2 : (q : Int) < (g.ts.length : Int) := by omega
                        have hx0' : decide ((q : Int) < 0) = false := by simp
                        have cq := (hIN.t q hql).1
                        have fq := (hIN.t q hql).2
                        have hINm := hIN.mark (s := q) (by omega) hql
                        have hUq : U q = true := by
                          rw [← HU.out]
                          have := useS_of (List.mem_of_getElem? Hr.out) hin.out (List.mem_of_getElem? Hx.out) (by omega)
                          rwa [Int.toNat_natCast] at this
                        have hdm : Below (wr.setCell ⟨bt, q, none⟩ (.bool true)).heap.size (wr.setCell ⟨bt, q, none⟩ (.bool true)) (wr.setCell ⟨bt, q, none⟩ (.bool true)).drew := ⟨rfl, rfl, rfl, Nat.le_refl _, fun _ _ => rfl⟩
                        have hINd := hINm.below hdm (by omega)
                        have hszd := hINd.sz
                        have hpl := fun (_ : Unit) => place_any bt g.ts.length g.ts.length q (updB T2 q) (wr.setCell ⟨bt, q, none⟩ (.bool true)).drew hINd.t (by omega) (by omega)
                        obtain ⟨P, hP⟩ : ∃ P, cntB (updB T2 q) q = P := ⟨_, rfl⟩
                        rw [hP] at hpl
                        have HP : Hid (_) := hpl
                        have hLK2 : Hid (LK t S U r.right (k + 1) (l ++ [(P : Int)])) := hLK.out.next Hx.out (fun ht1 => by subst ht1; unfold renX; rw [if_neg hx0, Int.toNat_natCast, ← hP, cnt_mark hMK2.out hql])
                        have hDK2 : Hid (DK (updB T2 q) r.right (k + 1)) := by have := hDK.out.mark Hx.out; rwa [Int.toNat_natCast] at this
                        replace hMK2 : Hid (MK U (updB T2 q) g.ts.length t) := hMK2.out.mark hUq
                        replace hDN2 : Hid (DN S (updB T2 q) g.rs i) := hDN2.out.up q
                        replace hx1 : RowAt (wr.setCell ⟨bt, q, none⟩ (.bool true)).drew (rx + 1) 45 #[.int .i64 (lf : Int), xv] := (Below.heap_setCell _ _ _ _ (show rx + 1 ≠ bt by omega)).trans hx1
                        replace hx2 : World.ownsRow (wr.setCell ⟨bt, q, none⟩ (.bool true)).drew (rx + 2) 3 1 xv l.length (intsL l) := own_block hx2 (fun g hg => Below.heap_setCell _ _ _ _ (show g ≠ bt by have := (hx2.lt g hg).1; omega))
                        have hF : Hid (∀ v5 w5, World.ownsRow w5 (rx + 2) 3 1 v5 (l.length + 1) (intsL l ++ [.int .i64 (P : Int)]) → ((wr.setCell ⟨bt, q, none⟩ (.bool true)).drew.alloc (.cells #[.int .i64 (P : Int)] 3)).grownBy w5 xv.ownBlock → (w5.cell? ⟨rx + 1, 1, none⟩ = some xv ∧ w5.frozen? ⟨rx + 1, 1, none⟩ = false) ∧ IN Wr bt rx g.ts.length #[.int .i64 (n : Int), .slice (some ⟨xb, xo, none⟩) r.right.length qc] (lf : Int) (l ++ [(P : Int)]) (updB T2 q) (w5.setCell ⟨rx + 1, 1, none⟩ v5)) := fun v5 w5 => IN.step hINd (by omega) (P : Int) hx1 hx2 ((Below.refl _ _).alloc (Nat.le_refl _) _) v5 w5
                        have lx : (wr.setCell ⟨bt, q, none⟩ (.bool true)).drew.cell? ⟨rx + 1, 1, none⟩ = some xv := hx1.cell (q := 1) rfl
                        have lx2 : ((wr.setCell ⟨bt, q, none⟩ (.bool true)).drew.alloc (.cells #[.int .i64 (P : Int)] 3)).cell? ⟨rx + 1, 1, none⟩ = some xv := ((Below.refl _ (wr.setCell ⟨bt, q, none⟩ (.bool true)).drew).alloc (Nat.le_refl _) _).cell (p := ⟨rx + 1, 1, none⟩) (by show rx + 1 < _; omega) |>.trans lx
                        clear hpl hP hINd hINm hx1 hDK hLK hIN hMID hdr hdm hBk hUq
                        go_wp2_with fail
                        clear b1 hc hszk cq fq
                        refine wp_region_noPanic ?_
                        refine OrdersZ.region_Z (S := (fun w9 => w9.cell? ⟨rx + 1, 1, none⟩ = some xv)) 8 (by kernel_rfl) lx (fun hHeld => ?_)
                        generalize (wr.setCell ⟨bt, q, none⟩ (.bool true)).drew = W at *
                        refine OrdersZ.takeZ (i := 0) (v := .pointer (some ⟨rx + 1, 1, none⟩)) rfl (by kernel_rfl) (by kernel_rfl) (by kernel_rfl) (by kernel_rfl) (by kernel_rfl) (fun _ _ _ h => h) (Or.inl ⟨by rfl, fun w9 hSw => ?_⟩) hHeld ?_
                        · obtain s9 := hSw
                          go_simp
                        simp only [List.getElem_toArray, List.getElem_cons_zero, List.getElem_cons_succ, Act.put, List.setIfInBounds_toArray, List.set_cons_zero, List.set_cons_succ]
                        refine OrdersZ.takeZ (i := 2) (v := .slice (some ⟨bt, 0, none⟩) g.ts.length g.ts.length) rfl (by kernel_rfl) (by kernel_rfl) (by kernel_rfl) (by kernel_rfl) (by kernel_rfl) (fun _ _ _ h => h) (Or.inl ⟨by rfl, fun w9 hSw => ?_⟩) hHeld ?_
                        · obtain s9 := hSw
                          go_simp
                        simp only [List.getElem_toArray, List.getElem_cons_zero, List.getElem_cons_succ, Act.put, List.setIfInBounds_toArray, List.set_cons_zero, List.set_cons_succ]
                        refine OrdersZ.takeZ (i := 3) (v := .int .i64 (q : Int)) rfl (by kernel_rfl) (by kernel_rfl) (by kernel_rfl) (by kernel_rfl) (by kernel_rfl) (fun _ _ _ h => h) (Or.inl ⟨by rfl, fun w9 hSw => ?_⟩) hHeld ?_
                        · obtain s9 := hSw
                          go_simp
                        simp only [List.getElem_toArray, List.getElem_cons_zero, List.getElem_cons_succ, Act.put, List.setIfInBounds_toArray, List.set_cons_zero, List.set_cons_succ]
                        refine OrdersZ.takeZ (i := 1) (v := xv) rfl (by kernel_rfl) (by kernel_rfl) (by kernel_rfl) (by kernel_rfl) (by kernel_rfl) (fun _ _ _ h => h) (Or.inl ⟨by rfl, fun w9 hSw => ?_⟩) hHeld ?_
                        · obtain s9 := hSw
                          go_simp
                        simp only [List.getElem_toArray, List.getElem_cons_zero, List.getElem_cons_succ, Act.put, List.setIfInBounds_toArray, List.set_cons_zero, List.set_cons_succ]
                        refine OrdersZ.readyZ (i := 4) (by kernel_rfl) rfl (fun K hK => ?_)
                        go_simp
                        refine (HP.out ()).mono ?_
                        rintro e w9 ⟨rfl, hw9⟩
                        obtain rfl := hw9.symm
                        refine hK.out _ _ lx (fun hHeld => ?_)
                        clear hK K
                        refine OrdersZ.readyZ (i := 5) (by kernel_rfl) rfl (fun K hK => ?_)
                        go_simp
                        refine hK.out _ _ lx2 (fun hHeld => ?_)
                        clear hK K
                        refine OrdersZ.readyZ (i := 6) (by kernel_rfl) rfl (fun K hK => ?_)
                        refine stepI rfl _ _ rfl (rx + 2) xv l.length (intsL l) (by rfl) (hx2.alloc _) ⟨W.heap.size, 0, none⟩ (.int .i64 ((P : Int))) (by rfl) (cell_one_new _ _ _) (by simp [Value.oneCell']) (by omega) (by simp; omega) ?_
                        intro v5 w5 hown5 hgrow5
                        obtain ⟨g5, c5, rfl⟩ := ownsRow_succ hown5
                        obtain ⟨⟨y0, u0⟩, hIN5⟩ := hF.out _ w5 hown5 hgrow5
                        refine hK.out _ _ y0 (fun hHeld => ?_)
                        clear hK K
                        simp only [List.getElem_toArray, List.getElem_cons_zero, List.getElem_cons_succ, Act.put, List.setIfInBounds_toArray, List.set_cons_zero, List.set_cons_succ]
                        refine OrdersZ.takeZ (i := 7) (v := .pointer (some ⟨rx + 1, 1, none⟩)) rfl (by kernel_rfl) (by kernel_rfl) (by kernel_rfl) (by kernel_rfl) (by kernel_rfl) (fun _ _ _ h => h) (Or.inl ⟨by rfl, fun w9 hSw => ?_⟩) hHeld ?_
                        · obtain s9 := hSw
                          go_simp
                        simp only [List.getElem_toArray, List.getElem_cons_zero, List.getElem_cons_succ, Act.put, List.setIfInBounds_toArray, List.set_cons_zero, List.set_cons_succ]
                        refine OrdersZ.lastZ (by kernel_rfl) rfl (fun K hK => ?_)
                        go_simp
                        refine hK.out _ _ ?_
                        clear hK K
                        refine OrdersZ.doneZ (by kernel_rfl) (NoPanic.normal ?_) _
                        clear y0 u0 hown5 hgrow5 hHeld lx lx2 hx2
                        go_wp2
                        go_roundw
                        case rel => exact ⟨k + 1, by omega, by go_num, l ++ [(P : Int)], updB T2 q, hIN5, hLK2, hMK2, hDN2, hDK2⟩
                        case measure => simp [intOf]; omega
                    · have hkn : ¬ (k : Int) < (r.right.length : Int) := by omega
                      have hMIDk : MID Wm (w.heap.size + 2) bt (bt + 1) g.ts.length (RK t S U g.rs i) T2 wr := MID.leave hMID hIN Hrx.out (by omega) (by omega) (by have := Hrx.out; omega)
                      have hDN3 : Hid (DN S T2 g.rs (i + 1)) := hDN2.out.next Hr.out (by have := hDK.out; rwa [show k = r.right.length by omega] at this)
                      by_cases ht1 : t = 1
                      · have t1 : ((t : Int) == 1) = true := by rw [ht1]; rfl
                        have Ht1 : Hid (t = 1) := ht1
                        have RKn : Hid (RK t S U g.rs (i + 1) = RK t S U g.rs i ++ [ren S U r]) := by show _ = _; rw [ht1]; exact RK.next Hr.out hin.out
                        clear ht1
                        obtain ⟨rv, lq, ho1, ho2⟩ := hMIDk.o
                        obtain ⟨xv, hx1, hx2⟩ := hIN.x
                        obtain ⟨xa, xc, rfl, _⟩ := own_irow hx2
                        have hlq : lq.length ≤ 120 := by
                          have e : lq.length = (RK t S U g.rs i).length := by rw [← ho2.map, List.length_map]
                          rw [e]
                          unfold RK
                          rw [if_pos Ht1.out, List.length_map]
                          have := List.length_filter_le (inS S) (g.rs.take i)
                          rw [List.length_take] at this
                          omega
                        have hren : Hid (ren S U r = ⟨(lf : Int), l⟩) := by
                          show _ = _
                          unfold ren
                          rw [Hn.out, Int.toNat_natCast, Hlf.out, hLK.out.2 Ht1.out, show k = r.right.length by omega, List.take_length]
                        have hFm : Hid (∀ v5 w5, World.ownsRow w5 (bt + 1) 45 2 v5 (lq.length + 1) (cellsQ lq ++ [.int .i64 (lf : Int), .slice xa l.length xc]) → (wr.alloc (.cells #[.int .i64 (lf : Int), .slice xa l.length xc] 45)).grownBy w5 rv.ownBlock → (w5.cell? ⟨w.heap.size + 2, 3, none⟩ = some rv ∧ w5.frozen? ⟨w.heap.size + 2, 3, none⟩ = false) ∧ MID Wm (w.heap.size + 2) bt (bt + 1) g.ts.length (RK t S U g.rs i ++ [⟨(lf : Int), l⟩]) T2 (w5.setCell ⟨w.heap.size + 2, 3, none⟩ v5)) := fun v5 w5 => MID.add hMIDk hIN (by omega) (by omega) (by omega) ho1 ho2 hx2 ((Below.refl _ _).alloc (Nat.le_refl _) _) v5 w5
                        have o3 := ho1.cell (q := 3) rfl
                        have x0 := hx1.cell (q := 0) rfl
                        have x1 := hx1.cell (q := 1) rfl
                        have hrow := ho2.row
                        obtain ⟨i0, hi0, hz0, hz1, hz2⟩ := info_parts GramLent.infoR
                        have hsz1 : bt + 1 ≤ wr.heap.size := by omega
                        clear hMIDk hMID hIN hDK hLK hDN2 hBk ho1 ho2 hx1 hx2
                        go_wp2_with (at_builtin; refine wpList_append_own _ rfl _ _ 23 rfl (bt + 1) 45 i0 (.agg #[.int .i64 0, .slice none 0 0]) 2 32 Tryd.underlying23 hi0 hz0 hz1 hz2 rfl (by decide) _ _ _ rfl (hrow.alloc _) ⟨wr.heap.size, 0, none⟩ 1 1 [.int .i64 (lf : Int), .slice xa l.length xc] rfl rfl (GramLent.cells_new wr #[.int .i64 (lf : Int), .slice xa l.length xc] 45) (by simp [Value.oneCell']) (by unfold maxLen; omega) (by omega) (by simp; omega) ?_; intro v5 w5 hown5 hgrow5 _; obtain ⟨⟨y0, u0⟩, hM5⟩ := hFm.out v5 w5 hown5 hgrow5; obtain ⟨g5, c5, rfl⟩ := ownsRow_succ hown5)
                        have hM6 : Hid (MID Wm (w.heap.size + 2) bt (bt + 1) g.ts.length (RK t S U g.rs (i + 1)) T2 (w5.setCell ⟨w.heap.size + 2, 3, none⟩ (.slice (some ⟨g5, 0, none⟩) (lq.length + 1) c5))) := by
                          show MID _ _ _ _ _ _ _ _
                          rw [RKn.out, hren.out]
                          exact hM5
                        clear y0 u0 hM5 hown5 hgrow5 o3 x0 x1 hrow
                        go_roundw
                        case rel => exact ⟨i + 1, by omega, by go_num, T2, hM6.out, hMK2, hDN3⟩
                        case measure => simp [intOf]; omega
                      · have ht0 : t = 0 := by omega
                        subst ht0
                        have hMID2 : Hid (MID Wm (w.heap.size + 2) bt (bt + 1) g.ts.length (RK 0 S U g.rs (i + 1)) T2 wr) := by
                          show MID _ _ _ _ _ _ _ _
                          rw [RK.not (by omega), ← RK.not (t := 0) (by omega) S U g.rs i]
                          exact hMIDk
                        clear hMIDk hMID hIN hDK hLK hDN2 hBk
                        go_wp2
                        go_roundw
                        case rel => exact ⟨i + 1, by omega, by go_num, T2, hMID2.out, hMK2, hDN3⟩
                        case measure => simp [intOf]; omega
            · have hin2 : ¬ (i : Int) < (g.rs.length : Int) := by omega
              have hMIDe : Hid (MID Wm (w.heap.size + 2) bt (bt + 1) g.ts.length (RK (t + 1 - 1) S U g.rs g.rs.length) T1 wr) := by
                show MID _ _ _ _ _ _ _ _
                rw [Nat.add_sub_cancel, show g.rs.length = i by omega]
                exact hMID
              have hMKe : Hid (MK U T1 g.ts.length (min (t + 1) 1)) := by
                show MK _ _ _ _
                rw [show min (t + 1) 1 = 1 by omega]
                by_cases ht1 : t = 1
                · have := hMK.out
                  rwa [ht1] at this
                · have e : t = 0 := by omega
                  have h1 := hMK.out
                  have h2 := hDN.out
                  rw [e, ← HU.out] at h1
                  rw [show i = g.rs.length by omega] at h2
                  rw [← HU.out]
                  exact mk_done h1 h2
              clear hMID hMK hDN
              go_wp2
              go_roundw
              case rel => exact ⟨t + 1, by omega, by go_num, T1, hMIDe.out, hMKe⟩
              case measure => simp [intOf]; omega
        · have htl3 : ¬ (t : Int) < 2 := by omega
          obtain ⟨hgbW, hbiW, hBW, hMW⟩ := env.at hMID
          have hMK1 : Hid (MK U T g.ts.length 1) := by have := hMK.out; rwa [show min t 1 = 1 by omega] at this
          rw [show t - 1 = 1 by omega] at hMID
          obtain ⟨rv, lq, ho1, ho2⟩ := hMID.o
          have hbtW := hMID.t
          obtain ⟨Ws, hWs⟩ : ∃ Ws, Ws = wr := ⟨_, rfl⟩
          subst hWs
          have hfrW := hMID.fr
          clear hMID hMK
          go_wp2
          go_loopw [15] (fun s15 wr => ∃ i : Nat, i ≤ g.ts.length ∧ s15 = .int .i64 (i : Int) ∧ TL Ws (w.heap.size + 2) Ws.heap.size 0 #[.slice none 0 0, .slice none 0 0, .int .i64 0, rv] (selN U g.ts i) wr) (fun s15 _ => g.ts.length - (intOf s15).toNat)
          case atStart => exact ⟨0, by omega, rfl, ⟨_, ho1, own_nil _ _ _ _⟩, But.refl _ _, Nat.le_refl _⟩
          case round =>
            obtain ⟨i, hi, rfl, hTL⟩ := hrel
            have hszk := hTL.sz
            by_cases hil : i < g.ts.length
            · have hil2 : (i : Int) < (g.ts.length : Int) := by omega
              have hbk : BRow wr bt g.ts.length T := BRow.but hbtW hTL.fr (by omega) (by simp; omega)
              have hci := (hbk i hil).1
              rw [hMK1.out.eq hil] at hci
              cases hUi : U i with
              | false =>
                rw [hUi] at hci
                have hT2 : Hid (TL Ws (w.heap.size + 2) Ws.heap.size 0 #[.slice none 0 0, .slice none 0 0, .int .i64 0, rv] (selN U g.ts (i + 1)) wr) := by show TL _ _ _ _ _ _ _; rw [selN_no hUi]; exact hTL
                clear hTL hUi hbk
                go_wp2
                go_roundw
                case rel => exact ⟨i + 1, by omega, by go_num, hT2.out⟩
                case measure => simp [intOf]; omega
              | true =>
                rw [hUi] at hci
                have hBk : Below w.heap.size w wr := hBW.trans (hTL.fr.below (by omega) (fun k hk => by rcases hk with hk | hk <;> omega))
                have hgk : RowAt wr w.heap.size 25 #[.slice ta g.ts.length tc, .slice na g.ns.length nc, .int .i64 g.ax, .slice ra g.rs.length rc] := (hTL.fr.block w.heap.size (by omega) (by simp; omega)).trans hgbW
                obtain ⟨nb, no, hna, hs⟩ := hG.1 i _ (nmN_get hil)
                subst hna
                have hnb : nb < w.heap.size := cell_lt hs
                obtain ⟨v, h1, h2⟩ := hTL.o
                have l0 : wr.drew.cell? ⟨w.heap.size + 2, 0, none⟩ = some v := h1.cell (q := 0) rfl
                have l1 : wr.drew.cell? ⟨w.heap.size, 0, none⟩ = some (.slice (some ⟨nb, no, none⟩) g.ts.length tc) := hgk.cell (q := 0) rfl
                have l2 : wr.drew.cell? ⟨nb, no + i, none⟩ = some (.string (nmN g.ts i)) := (hBk.cell (p := ⟨nb, no + i, none⟩) (cell_lt hs)).trans hs
                have hle := selN_le U g.ts i
                have hTd : TL Ws (w.heap.size + 2) Ws.heap.size 0 #[.slice none 0 0, .slice none 0 0, .int .i64 0, rv] (selN U g.ts i) wr.drew := ⟨⟨v, h1, h2⟩, hTL.fr.on ⟨rfl, rfl, rfl, Nat.le_refl _, fun _ _ => rfl⟩, hszk⟩
                have hF : Hid (∀ v5 w5, World.ownsRow w5 Ws.heap.size 9 1 v5 ((selN U g.ts i).length + 1) ((selN U g.ts i).map Value.string ++ [.string (nmN g.ts i)]) → (wr.drew.alloc (.cells #[.string (nmN g.ts i)] 9)).grownBy w5 v.ownBlock → (w5.cell? ⟨w.heap.size + 2, 0, none⟩ = some v ∧ w5.frozen? ⟨w.heap.size + 2, 0, none⟩ = false) ∧ (∀ k, k < Ws.heap.size → w5.heap[k]? = wr.drew.heap[k]?) ∧ TL Ws (w.heap.size + 2) Ws.heap.size 0 #[.slice none 0 0, .slice none 0 0, .int .i64 0, rv] (selN U g.ts i ++ [nmN g.ts i]) (w5.setCell ⟨w.heap.size + 2, 0, none⟩ v5)) := fun v5 w5 => TL.step hTd (by omega) (by simp) (nmN g.ts i) h1 h2 ((Below.refl _ _).alloc (Nat.le_refl _) _) v5 w5
                have hyes : Hid (selN U g.ts (i + 1) = selN U g.ts i ++ [nmN g.ts i]) := selN_yes hUi
                replace h2 : World.ownsRow wr.drew Ws.heap.size 9 1 v (selN U g.ts i).length ((selN U g.ts i).map Value.string) := h2
                have hszd : Ws.heap.size ≤ wr.drew.heap.size := hszk
                have hLL : ∀ W' : World, (∀ k, k < Ws.heap.size → W'.heap[k]? = wr.drew.heap[k]?) → W'.cell? ⟨w.heap.size, 0, none⟩ = some (.slice (some ⟨nb, no, none⟩) g.ts.length tc) ∧ W'.cell? ⟨nb, no + i, none⟩ = some (.string (nmN g.ts i)) := fun W' hk => ⟨(World.cell?_of_block (a := ⟨w.heap.size, 0, none⟩) (hk w.heap.size (by omega))).trans l1, (World.cell?_of_block (a := ⟨nb, no + i, none⟩) (hk nb (by omega))).trans l2⟩
                have lA : (wr.drew.alloc (.cells #[.string (nmN g.ts i)] 9)).cell? ⟨w.heap.size + 2, 0, none⟩ = some v := ((Below.refl wr.drew.heap.size wr.drew).alloc (Nat.le_refl _) _).cell (p := ⟨w.heap.size + 2, 0, none⟩) (show w.heap.size + 2 < wr.heap.size by omega) |>.trans l0
                have hAk : ∀ k, k < Ws.heap.size → (wr.drew.alloc (.cells #[.string (nmN g.ts i)] 9)).heap[k]? = wr.drew.heap[k]? := fun k hk => Below.heap_alloc _ _ _ (show k < wr.heap.size by omega)
                have HLL : Hid (_) := hLL
                have HAk : Hid (_) := hAk
                obtain ⟨L, hL⟩ : ∃ L, L = (selN U g.ts i).length := ⟨_, rfl⟩
                rw [← hL] at h2 hF hle
                clear hTL hTd h1 hUi hbk hgk hBk hs hLL hAk hL
                generalize nmN g.ts i = nm at *
                go_wp2_with fail
                clear hci
                refine wp_region_noPanic ?_
                refine OrdersZ.region_Z (S := (fun w9 => w9.cell? ⟨w.heap.size + 2, 0, none⟩ = some v ∧ w9.cell? ⟨w.heap.size, 0, none⟩ = some (.slice (some ⟨nb, no, none⟩) g.ts.length tc) ∧ w9.cell? ⟨nb, no + i, none⟩ = some (.string nm))) 10 (by kernel_rfl) ⟨l0, l1, l2⟩ (fun hHeld => ?_)
                generalize wr.drew = W at *
                refine OrdersZ.takeZ (i := 0) (v := .pointer (some ⟨w.heap.size + 2, 0, none⟩)) rfl (by kernel_rfl) (by kernel_rfl) (by kernel_rfl) (by kernel_rfl) (by kernel_rfl) (fun _ _ _ h => h) (Or.inl ⟨by rfl, fun w9 hSw => ?_⟩) hHeld ?_
                · obtain ⟨s0, s1, s2⟩ := hSw
                  go_simp
                simp only [List.getElem_toArray, List.getElem_cons_zero, List.getElem_cons_succ, Act.put, List.setIfInBounds_toArray, List.set_cons_zero, List.set_cons_succ]
                refine OrdersZ.takeZ (i := 1) (v := v) rfl (by kernel_rfl) (by kernel_rfl) (by kernel_rfl) (by kernel_rfl) (by kernel_rfl) (fun _ _ _ h => h) (Or.inl ⟨by rfl, fun w9 hSw => ?_⟩) hHeld ?_
                · obtain ⟨s0, s1, s2⟩ := hSw
                  go_simp
                simp only [List.getElem_toArray, List.getElem_cons_zero, List.getElem_cons_succ, Act.put, List.setIfInBounds_toArray, List.set_cons_zero, List.set_cons_succ]
                refine OrdersZ.takeZ (i := 2) (v := .pointer (some ⟨w.heap.size, 0, none⟩)) rfl (by kernel_rfl) (by kernel_rfl) (by kernel_rfl) (by kernel_rfl) (by kernel_rfl) (fun _ _ _ h => h) (Or.inl ⟨by rfl, fun w9 hSw => ?_⟩) hHeld ?_
                · obtain ⟨s0, s1, s2⟩ := hSw
                  go_simp
                simp only [List.getElem_toArray, List.getElem_cons_zero, List.getElem_cons_succ, Act.put, List.setIfInBounds_toArray, List.set_cons_zero, List.set_cons_succ]
                refine OrdersZ.takeZ (i := 3) (v := .slice (some ⟨nb, no, none⟩) g.ts.length tc) rfl (by kernel_rfl) (by kernel_rfl) (by kernel_rfl) (by kernel_rfl) (by kernel_rfl) (fun _ _ _ h => h) (Or.inl ⟨by rfl, fun w9 hSw => ?_⟩) hHeld ?_
                · obtain ⟨s0, s1, s2⟩ := hSw
                  go_simp
                simp only [List.getElem_toArray, List.getElem_cons_zero, List.getElem_cons_succ, Act.put, List.setIfInBounds_toArray, List.set_cons_zero, List.set_cons_succ]
                refine OrdersZ.takeZ (i := 4) (v := .int .i64 (i : Int)) rfl (by kernel_rfl) (by kernel_rfl) (by kernel_rfl) (by kernel_rfl) (by kernel_rfl) (fun _ _ _ h => h) (Or.inl ⟨by rfl, fun w9 hSw => ?_⟩) hHeld ?_
                · obtain ⟨s0, s1, s2⟩ := hSw
                  go_simp
                simp only [List.getElem_toArray, List.getElem_cons_zero, List.getElem_cons_succ, Act.put, List.setIfInBounds_toArray, List.set_cons_zero, List.set_cons_succ]
                refine OrdersZ.takeZ (i := 5) (v := .pointer (some ⟨nb, no + i, none⟩)) rfl (by kernel_rfl) (by kernel_rfl) (by kernel_rfl) (by kernel_rfl) (by kernel_rfl) (fun _ _ _ h => h) (Or.inl ⟨by rfl, fun w9 hSw => ?_⟩) hHeld ?_
                · obtain ⟨s0, s1, s2⟩ := hSw
                  go_simp
                simp only [List.getElem_toArray, List.getElem_cons_zero, List.getElem_cons_succ, Act.put, List.setIfInBounds_toArray, List.set_cons_zero, List.set_cons_succ]
                refine OrdersZ.takeZ (i := 6) (v := .string nm) rfl (by kernel_rfl) (by kernel_rfl) (by kernel_rfl) (by kernel_rfl) (by kernel_rfl) (fun _ _ _ h => h) (Or.inl ⟨by rfl, fun w9 hSw => ?_⟩) hHeld ?_
                · obtain ⟨s0, s1, s2⟩ := hSw
                  go_simp
                simp only [List.getElem_toArray, List.getElem_cons_zero, List.getElem_cons_succ, Act.put, List.setIfInBounds_toArray, List.set_cons_zero, List.set_cons_succ]
                refine OrdersZ.readyZ (i := 7) (by kernel_rfl) rfl (fun K hK => ?_)
                go_simp
                refine hK.out _ _ ⟨lA, HLL.out _ HAk.out⟩ (fun hHeld => ?_)
                clear hK K
                refine OrdersZ.readyZ (i := 8) (by kernel_rfl) rfl (fun K hK => ?_)
                refine stepS rfl _ _ rfl Ws.heap.size v L ((selN U g.ts i).map Value.string) (by rfl) (h2.alloc _) ⟨W.heap.size, 0, none⟩ (.string nm) (by rfl) (cell_one_new _ _ _) (by simp [Value.oneCell']) (by omega) (by simp; omega) ?_
                intro v5 w5 hown5 hgrow5
                obtain ⟨⟨y0, u0⟩, hk5, hTL5⟩ := hF.out _ w5 hown5 hgrow5
                obtain ⟨g5, c5, rfl⟩ := ownsRow_succ hown5
                refine hK.out _ _ ⟨y0, HLL.out _ hk5⟩ (fun hHeld => ?_)
                clear hK K
                simp only [List.getElem_toArray, List.getElem_cons_zero, List.getElem_cons_succ, Act.put, List.setIfInBounds_toArray, List.set_cons_zero, List.set_cons_succ]
                refine OrdersZ.takeZ (i := 9) (v := .pointer (some ⟨w.heap.size + 2, 0, none⟩)) rfl (by kernel_rfl) (by kernel_rfl) (by kernel_rfl) (by kernel_rfl) (by kernel_rfl) (fun _ _ _ h => h) (Or.inl ⟨by rfl, fun w9 hSw => ?_⟩) hHeld ?_
                · obtain ⟨s0, s1, s2⟩ := hSw
                  go_simp
                simp only [List.getElem_toArray, List.getElem_cons_zero, List.getElem_cons_succ, Act.put, List.setIfInBounds_toArray, List.set_cons_zero, List.set_cons_succ]
                refine OrdersZ.lastZ (by kernel_rfl) rfl (fun K hK => ?_)
                go_simp
                refine hK.out _ _ ?_
                clear hK K
                refine OrdersZ.doneZ (by kernel_rfl) (NoPanic.normal ?_) _
                clear y0 u0 hown5 hgrow5 hHeld l0 l1 l2 lA h2 hk5 HLL HAk hF
                go_wp2
                go_roundw
                case rel => exact ⟨i + 1, by omega, by go_num, by rw [hyes.out]; exact hTL5⟩
                case measure => simp [intOf]; omega
            · have hnl : ¬ (i : Int) < (g.ts.length : Int) := by omega
              have hie : i = g.ts.length := by omega
              rw [hie] at hTL
              obtain ⟨tv, hT1, hT2⟩ := hTL.o
              have hbiT : BRow wr bi g.ns.length S := BRow.but hbiW hTL.fr (by have := env.h3; omega) (by have := env.h3; have := env.h2; simp; omega)
              have hBT : Below w.heap.size w wr := hBW.trans (hTL.fr.below (by omega) (fun k hk => by rcases hk with hk | hk <;> omega))
              have hgbT : RowAt wr w.heap.size 25 #[.slice ta g.ts.length tc, .slice na g.ns.length nc, .int .i64 g.ax, .slice ra g.rs.length rc] := (hTL.fr.block w.heap.size (by omega) (by simp; omega)).trans hgbW
              have hROT : RO wr (bt + 1) rv lq (RK 1 S U g.rs g.rs.length) := ho2.keep (fun k hk1 hk2 => hTL.fr.block k hk2 (by simp; omega))
              have hrbT : RowAt wr (w.heap.size + 1) 25 #[.slice none 0 0, .slice none 0 0, .int .i64 0, .slice none 0 0] := (hTL.fr.block (w.heap.size + 1) (by omega) (by simp; omega)).trans ((hfrW.block (w.heap.size + 1) (by omega) (by simp; omega)).trans hrbm)
              have HTs : Hid (Ws.heap.size ≤ wr.heap.size) := hszk
              obtain ⟨Wt, hWt⟩ : ∃ Wt, Wt = wr := ⟨_, rfl⟩
              subst hWt
              have hfrT := hTL.fr
              clear hTL hie
              go_wp2
              go_loopw [16] (fun s16 wr => ∃ i : Nat, i ≤ g.ns.length ∧ s16 = .int .i64 (i : Int) ∧ TL Wt (w.heap.size + 2) Wt.heap.size 1 #[tv, .slice none 0 0, .int .i64 0, rv] (selN S g.ns i) wr) (fun s16 _ => g.ns.length - (intOf s16).toNat)
              case atStart => exact ⟨0, by omega, rfl, ⟨_, hT1, own_nil _ _ _ _⟩, But.refl _ _, Nat.le_refl _⟩
              case round =>
                obtain ⟨i, hi, rfl, hTL⟩ := hrel
                have hszk := hTL.sz
                by_cases hil : i < g.ns.length
                · have hil2 : (i : Int) < (g.ns.length : Int) := by omega
                  have hbk : BRow wr bi g.ns.length S := BRow.but hbiT hTL.fr (by have := env.h3; omega) (by have := env.h3; have := env.h2; simp; omega)
                  have hci := (hbk i hil).1
                  cases hSi : S i with
                  | false =>
                    rw [hSi] at hci
                    have hT2 : Hid (TL Wt (w.heap.size + 2) Wt.heap.size 1 #[tv, .slice none 0 0, .int .i64 0, rv] (selN S g.ns (i + 1)) wr) := by show TL _ _ _ _ _ _ _; rw [selN_no hSi]; exact hTL
                    clear hTL hSi hbk
                    go_wp2
                    go_roundw
                    case rel => exact ⟨i + 1, by omega, by go_num, hT2.out⟩
                    case measure => simp [intOf]; omega
                  | true =>
                    rw [hSi] at hci
                    have hBk : Below w.heap.size w wr := hBT.trans (hTL.fr.below (by omega) (fun k hk => by rcases hk with hk | hk <;> omega))
                    have hgk : RowAt wr w.heap.size 25 #[.slice ta g.ts.length tc, .slice na g.ns.length nc, .int .i64 g.ax, .slice ra g.rs.length rc] := (hTL.fr.block w.heap.size (by omega) (by simp; omega)).trans hgbT
                    obtain ⟨nb, no, hna, hs⟩ := hG.2.1 i _ (nmN_get hil)
                    subst hna
                    have hnb : nb < w.heap.size := cell_lt hs
                    obtain ⟨v, h1, h2⟩ := hTL.o
                    have l0 : wr.drew.cell? ⟨w.heap.size + 2, 1, none⟩ = some v := h1.cell (q := 1) rfl
                    have l1 : wr.drew.cell? ⟨w.heap.size, 1, none⟩ = some (.slice (some ⟨nb, no, none⟩) g.ns.length nc) := hgk.cell (q := 1) rfl
                    have l2 : wr.drew.cell? ⟨nb, no + i, none⟩ = some (.string (nmN g.ns i)) := (hBk.cell (p := ⟨nb, no + i, none⟩) (cell_lt hs)).trans hs
                    have hle := selN_le S g.ns i
                    have hTd : TL Wt (w.heap.size + 2) Wt.heap.size 1 #[tv, .slice none 0 0, .int .i64 0, rv] (selN S g.ns i) wr.drew := ⟨⟨v, h1, h2⟩, hTL.fr.on ⟨rfl, rfl, rfl, Nat.le_refl _, fun _ _ => rfl⟩, hszk⟩
                    have hF : Hid (∀ v5 w5, World.ownsRow w5 Wt.heap.size 9 1 v5 ((selN S g.ns i).length + 1) ((selN S g.ns i).map Value.string ++ [.string (nmN g.ns i)]) → (wr.drew.alloc (.cells #[.string (nmN g.ns i)] 9)).grownBy w5 v.ownBlock → (w5.cell? ⟨w.heap.size + 2, 1, none⟩ = some v ∧ w5.frozen? ⟨w.heap.size + 2, 1, none⟩ = false) ∧ (∀ k, k < Wt.heap.size → w5.heap[k]? = wr.drew.heap[k]?) ∧ TL Wt (w.heap.size + 2) Wt.heap.size 1 #[tv, .slice none 0 0, .int .i64 0, rv] (selN S g.ns i ++ [nmN g.ns i]) (w5.setCell ⟨w.heap.size + 2, 1, none⟩ v5)) := fun v5 w5 => TL.step hTd (by omega) (by simp) (nmN g.ns i) h1 h2 ((Below.refl _ _).alloc (Nat.le_refl _) _) v5 w5
                    have hyes : Hid (selN S g.ns (i + 1) = selN S g.ns i ++ [nmN g.ns i]) := selN_yes hSi
                    replace h2 : World.ownsRow wr.drew Wt.heap.size 9 1 v (selN S g.ns i).length ((selN S g.ns i).map Value.string) := h2
                    have hszd : Wt.heap.size ≤ wr.drew.heap.size := hszk
                    have hLL : ∀ W' : World, (∀ k, k < Wt.heap.size → W'.heap[k]? = wr.drew.heap[k]?) → W'.cell? ⟨w.heap.size, 1, none⟩ = some (.slice (some ⟨nb, no, none⟩) g.ns.length nc) ∧ W'.cell? ⟨nb, no + i, none⟩ = some (.string (nmN g.ns i)) := fun W' hk => ⟨(World.cell?_of_block (a := ⟨w.heap.size, 1, none⟩) (hk w.heap.size (by omega))).trans l1, (World.cell?_of_block (a := ⟨nb, no + i, none⟩) (hk nb (by omega))).trans l2⟩
                    have lA : (wr.drew.alloc (.cells #[.string (nmN g.ns i)] 9)).cell? ⟨w.heap.size + 2, 1, none⟩ = some v := ((Below.refl wr.drew.heap.size wr.drew).alloc (Nat.le_refl _) _).cell (p := ⟨w.heap.size + 2, 1, none⟩) (show w.heap.size + 2 < wr.heap.size by omega) |>.trans l0
                    have hAk : ∀ k, k < Wt.heap.size → (wr.drew.alloc (.cells #[.string (nmN g.ns i)] 9)).heap[k]? = wr.drew.heap[k]? := fun k hk => Below.heap_alloc _ _ _ (show k < wr.heap.size by omega)
                    have HLL : Hid (_) := hLL
                    have HAk : Hid (_) := hAk
                    obtain ⟨L, hL⟩ : ∃ L, L = (selN S g.ns i).length := ⟨_, rfl⟩
                    rw [← hL] at h2 hF hle
                    clear hTL hTd h1 hSi hbk hgk hBk hs hLL hAk hL
                    generalize nmN g.ns i = nm at *
                    go_wp2_with fail
                    clear hci
                    refine wp_region_noPanic ?_
                    refine OrdersZ.region_Z (S := (fun w9 => w9.cell? ⟨w.heap.size + 2, 1, none⟩ = some v ∧ w9.cell? ⟨w.heap.size, 1, none⟩ = some (.slice (some ⟨nb, no, none⟩) g.ns.length nc) ∧ w9.cell? ⟨nb, no + i, none⟩ = some (.string nm))) 10 (by kernel_rfl) ⟨l0, l1, l2⟩ (fun hHeld => ?_)
                    generalize wr.drew = W at *
                    refine OrdersZ.takeZ (i := 0) (v := .pointer (some ⟨w.heap.size + 2, 1, none⟩)) rfl (by kernel_rfl) (by kernel_rfl) (by kernel_rfl) (by kernel_rfl) (by kernel_rfl) (fun _ _ _ h => h) (Or.inl ⟨by rfl, fun w9 hSw => ?_⟩) hHeld ?_
                    · obtain ⟨s0, s1, s2⟩ := hSw
                      go_simp
                    simp only [List.getElem_toArray, List.getElem_cons_zero, List.getElem_cons_succ, Act.put, List.setIfInBounds_toArray, List.set_cons_zero, List.set_cons_succ]
                    refine OrdersZ.takeZ (i := 1) (v := v) rfl (by kernel_rfl) (by kernel_rfl) (by kernel_rfl) (by kernel_rfl) (by kernel_rfl) (fun _ _ _ h => h) (Or.inl ⟨by rfl, fun w9 hSw => ?_⟩) hHeld ?_
                    · obtain ⟨s0, s1, s2⟩ := hSw
                      go_simp
                    simp only [List.getElem_toArray, List.getElem_cons_zero, List.getElem_cons_succ, Act.put, List.setIfInBounds_toArray, List.set_cons_zero, List.set_cons_succ]
                    refine OrdersZ.takeZ (i := 2) (v := .pointer (some ⟨w.heap.size, 1, none⟩)) rfl (by kernel_rfl) (by kernel_rfl) (by kernel_rfl) (by kernel_rfl) (by kernel_rfl) (fun _ _ _ h => h) (Or.inl ⟨by rfl, fun w9 hSw => ?_⟩) hHeld ?_
                    · obtain ⟨s0, s1, s2⟩ := hSw
                      go_simp
                    simp only [List.getElem_toArray, List.getElem_cons_zero, List.getElem_cons_succ, Act.put, List.setIfInBounds_toArray, List.set_cons_zero, List.set_cons_succ]
                    refine OrdersZ.takeZ (i := 3) (v := .slice (some ⟨nb, no, none⟩) g.ns.length nc) rfl (by kernel_rfl) (by kernel_rfl) (by kernel_rfl) (by kernel_rfl) (by kernel_rfl) (fun _ _ _ h => h) (Or.inl ⟨by rfl, fun w9 hSw => ?_⟩) hHeld ?_
                    · obtain ⟨s0, s1, s2⟩ := hSw
                      go_simp
                    simp only [List.getElem_toArray, List.getElem_cons_zero, List.getElem_cons_succ, Act.put, List.setIfInBounds_toArray, List.set_cons_zero, List.set_cons_succ]
                    refine OrdersZ.takeZ (i := 4) (v := .int .i64 (i : Int)) rfl (by kernel_rfl) (by kernel_rfl) (by kernel_rfl) (by kernel_rfl) (by kernel_rfl) (fun _ _ _ h => h) (Or.inl ⟨by rfl, fun w9 hSw => ?_⟩) hHeld ?_
                    · obtain ⟨s0, s1, s2⟩ := hSw
                      go_simp
                    simp only [List.getElem_toArray, List.getElem_cons_zero, List.getElem_cons_succ, Act.put, List.setIfInBounds_toArray, List.set_cons_zero, List.set_cons_succ]
                    refine OrdersZ.takeZ (i := 5) (v := .pointer (some ⟨nb, no + i, none⟩)) rfl (by kernel_rfl) (by kernel_rfl) (by kernel_rfl) (by kernel_rfl) (by kernel_rfl) (fun _ _ _ h => h) (Or.inl ⟨by rfl, fun w9 hSw => ?_⟩) hHeld ?_
                    · obtain ⟨s0, s1, s2⟩ := hSw
                      go_simp
                    simp only [List.getElem_toArray, List.getElem_cons_zero, List.getElem_cons_succ, Act.put, List.setIfInBounds_toArray, List.set_cons_zero, List.set_cons_succ]
                    refine OrdersZ.takeZ (i := 6) (v := .string nm) rfl (by kernel_rfl) (by kernel_rfl) (by kernel_rfl) (by kernel_rfl) (by kernel_rfl) (fun _ _ _ h => h) (Or.inl ⟨by rfl, fun w9 hSw => ?_⟩) hHeld ?_
                    · obtain ⟨s0, s1, s2⟩ := hSw
                      go_simp
                    simp only [List.getElem_toArray, List.getElem_cons_zero, List.getElem_cons_succ, Act.put, List.setIfInBounds_toArray, List.set_cons_zero, List.set_cons_succ]
                    refine OrdersZ.readyZ (i := 7) (by kernel_rfl) rfl (fun K hK => ?_)
                    go_simp
                    refine hK.out _ _ ⟨lA, HLL.out _ HAk.out⟩ (fun hHeld => ?_)
                    clear hK K
                    refine OrdersZ.readyZ (i := 8) (by kernel_rfl) rfl (fun K hK => ?_)
                    refine stepS rfl _ _ rfl Wt.heap.size v L ((selN S g.ns i).map Value.string) (by rfl) (h2.alloc _) ⟨W.heap.size, 0, none⟩ (.string nm) (by rfl) (cell_one_new _ _ _) (by simp [Value.oneCell']) (by omega) (by simp; omega) ?_
                    intro v5 w5 hown5 hgrow5
                    obtain ⟨⟨y0, u0⟩, hk5, hTL5⟩ := hF.out _ w5 hown5 hgrow5
                    obtain ⟨g5, c5, rfl⟩ := ownsRow_succ hown5
                    refine hK.out _ _ ⟨y0, HLL.out _ hk5⟩ (fun hHeld => ?_)
                    clear hK K
                    simp only [List.getElem_toArray, List.getElem_cons_zero, List.getElem_cons_succ, Act.put, List.setIfInBounds_toArray, List.set_cons_zero, List.set_cons_succ]
                    refine OrdersZ.takeZ (i := 9) (v := .pointer (some ⟨w.heap.size + 2, 1, none⟩)) rfl (by kernel_rfl) (by kernel_rfl) (by kernel_rfl) (by kernel_rfl) (by kernel_rfl) (fun _ _ _ h => h) (Or.inl ⟨by rfl, fun w9 hSw => ?_⟩) hHeld ?_
                    · obtain ⟨s0, s1, s2⟩ := hSw
                      go_simp
                    simp only [List.getElem_toArray, List.getElem_cons_zero, List.getElem_cons_succ, Act.put, List.setIfInBounds_toArray, List.set_cons_zero, List.set_cons_succ]
                    refine OrdersZ.lastZ (by kernel_rfl) rfl (fun K hK => ?_)
                    go_simp
                    refine hK.out _ _ ?_
                    clear hK K
                    refine OrdersZ.doneZ (by kernel_rfl) (NoPanic.normal ?_) _
                    clear y0 u0 hown5 hgrow5 hHeld l0 l1 l2 lA h2 hk5 HLL HAk hF
                    go_wp2
                    go_roundw
                    case rel => exact ⟨i + 1, by omega, by go_num, by rw [hyes.out]; exact hTL5⟩
                    case measure => simp [intOf]; omega
                · have hnl2 : ¬ (i : Int) < (g.ns.length : Int) := by omega
                  have hie : i = g.ns.length := by omega
                  rw [hie] at hTL
                  obtain ⟨nv, hN1, hN2⟩ := hTL.o
                  have hbiE : BRow wr bi g.ns.length S := BRow.but hbiT hTL.fr (by have := env.h3; omega) (by have := env.h3; have := env.h2; simp; omega)
                  have hBE : Below w.heap.size w wr := hBT.trans (hTL.fr.below (by omega) (fun k hk => by rcases hk with hk | hk <;> omega))
                  have hgbE : RowAt wr w.heap.size 25 #[.slice ta g.ts.length tc, .slice na g.ns.length nc, .int .i64 g.ax, .slice ra g.rs.length rc] := (hTL.fr.block w.heap.size (by omega) (by simp; omega)).trans hgbT
                  have hROE : RO wr (bt + 1) rv lq (RK 1 S U g.rs g.rs.length) := hROT.keep (fun k hk1 hk2 => hTL.fr.block k hk2 (by simp; omega))
                  have hrbE : RowAt wr (w.heap.size + 1) 25 #[.slice none 0 0, .slice none 0 0, .int .i64 0, .slice none 0 0] := (hTL.fr.block (w.heap.size + 1) (by omega) (by simp; omega)).trans hrbT
                  have hTE : wr.ownsRow Ws.heap.size 9 1 tv (selN U g.ts g.ts.length).length ((selN U g.ts g.ts.length).map Value.string) := own_block hT2 (fun k hk => hTL.fr.block k (hT2.lt k hk).2 (by have := hT2.lt k hk; simp; omega))
                  have hpl := place_any bi g.ns.length g.ns.length m S wr hbiE (by omega) (by omega)
                  obtain ⟨P, hP⟩ : ∃ P, cntB S m = P := ⟨_, rfl⟩
                  rw [hP] at hpl
                  have HPe : Hid (cntB S m = P) := hP
                  have HTt := HTs.out
                  have hEq : Hid (trimA g = ⟨selN U g.ts g.ts.length, selN S g.ns g.ns.length, (P : Int), RK 1 S U g.rs g.rs.length⟩) := by
                    show _ = _
                    unfold trimA
                    rw [if_pos (by rw [EZ.out])]
                    unfold trimG cutG
                    rw [HS.out, HU.out, Hm.out, Int.toNat_natCast, HPe.out]
                    unfold RK
                    rw [if_pos rfl, List.take_length]
                    rfl
                  obtain ⟨a1, c1, rfl, _⟩ := srow_own hTE
                  obtain ⟨a2, c2, rfl, _⟩ := srow_own hN2
                  obtain ⟨a3, c3, e3, _⟩ := hROE.rows
                  subst e3
                  have w2 := hgbE.cell (q := 2) rfl
                  rw [Hm.out] at w2
                  have o0 := hN1.cell (q := 0) rfl
                  have o1 := hN1.cell (q := 1) rfl
                  have o2 := hN1.cell (q := 2) rfl
                  have o3 := hN1.cell (q := 3) rfl
                  have of2 := hN1.frozen 2
                  have r0 := hrbE.cell (q := 0) rfl
                  have r1 := hrbE.cell (q := 1) rfl
                  have r2 := hrbE.cell (q := 2) rfl
                  have r3 := hrbE.cell (q := 3) rfl
                  have rf0 := hrbE.frozen 0
                  have rf1 := hrbE.frozen 1
                  have rf2 := hrbE.frozen 2
                  have rf3 := hrbE.frozen 3
                  have hrE2 : RowAt (wr.setCell ⟨w.heap.size + 2, 2, none⟩ (.int .i64 (P : Int))) (w.heap.size + 1) 25 #[.slice none 0 0, .slice none 0 0, .int .i64 0, .slice none 0 0] := (Below.heap_setCell _ _ _ _ (show w.heap.size + 1 ≠ w.heap.size + 2 by omega)).trans hrbE
                  have hr4 := (((hrE2.set 0 (.slice a1 (selN U g.ts g.ts.length).length c1)).set 1 (.slice a2 (selN S g.ns g.ns.length).length c2)).set 2 (.int .i64 (P : Int))).set 3 (.slice a3 (RK 1 S U g.rs g.rs.length).length c3)
                  have hBZ := ((((hBE.setCell (p := ⟨w.heap.size + 2, 2, none⟩) (by show _ ≤ w.heap.size + 2; omega) (.int .i64 (P : Int))).setCell (p := ⟨w.heap.size + 1, 0, none⟩) (by show _ ≤ w.heap.size + 1; omega) (.slice a1 (selN U g.ts g.ts.length).length c1)).setCell (p := ⟨w.heap.size + 1, 1, none⟩) (by show _ ≤ w.heap.size + 1; omega) (.slice a2 (selN S g.ns g.ns.length).length c2)).setCell (p := ⟨w.heap.size + 1, 2, none⟩) (by show _ ≤ w.heap.size + 1; omega) (.int .i64 (P : Int))).setCell (p := ⟨w.heap.size + 1, 3, none⟩) (by show _ ≤ w.heap.size + 1; omega) (.slice a3 (RK 1 S U g.rs g.rs.length).length c3)
                  have hkZ : ∀ k, w.heap.size + 2 < k → (((((wr.setCell ⟨w.heap.size + 2, 2, none⟩ (.int .i64 (P : Int))).setCell ⟨w.heap.size + 1, 0, none⟩ (.slice a1 (selN U g.ts g.ts.length).length c1)).setCell ⟨w.heap.size + 1, 1, none⟩ (.slice a2 (selN S g.ns g.ns.length).length c2)).setCell ⟨w.heap.size + 1, 2, none⟩ (.int .i64 (P : Int))).setCell ⟨w.heap.size + 1, 3, none⟩ (.slice a3 (RK 1 S U g.rs g.rs.length).length c3)).heap[k]? = wr.heap[k]? := fun k hk => by
                    rw [Below.heap_setCell _ _ _ _ (show k ≠ w.heap.size + 1 by omega), Below.heap_setCell _ _ _ _ (show k ≠ w.heap.size + 1 by omega), Below.heap_setCell _ _ _ _ (show k ≠ w.heap.size + 1 by omega), Below.heap_setCell _ _ _ _ (show k ≠ w.heap.size + 1 by omega), Below.heap_setCell _ _ _ _ (show k ≠ w.heap.size + 2 by omega)]
                  have HZ : Hid (_) := And.intro hr4 (And.intro hBZ hkZ)
                  clear hr4 hBZ hkZ hrE2
                  obtain ⟨LT, hLT⟩ : ∃ LT, LT = (selN U g.ts g.ts.length).length := ⟨_, rfl⟩
                  obtain ⟨LN, hLN⟩ : ∃ LN, LN = (selN S g.ns g.ns.length).length := ⟨_, rfl⟩
                  obtain ⟨LR, hLR⟩ : ∃ LR, LR = (RK 1 S U g.rs g.rs.length).length := ⟨_, rfl⟩
                  have HL : Hid (LT = (selN U g.ts g.ts.length).length ∧ LN = (selN S g.ns g.ns.length).length ∧ LR = (RK 1 S U g.rs g.rs.length).length) := ⟨hLT, hLN, hLR⟩
                  rw [← hLT, ← hLN, ← hLR] at HZ
                  rw [← hLT] at o0
                  rw [← hLN] at o1
                  rw [← hLR] at o3
                  clear hLT hLN hLR hTL
                  go_wp2_with fail
                  refine hpl.mono ?_
                  rintro e w9 ⟨rfl, hw9⟩
                  obtain rfl := hw9.symm
                  clear hpl w2
                  go_wp2
                  obtain ⟨hr4, hBZ, hkZ⟩ := HZ.out
                  have q0 := hr4.cell (q := 0) rfl
                  have q1 := hr4.cell (q := 1) rfl
                  have q2 := hr4.cell (q := 2) rfl
                  have q3 := hr4.cell (q := 3) rfl
                  generalize ((((wr.setCell ⟨w.heap.size + 2, 2, none⟩ (.int .i64 (P : Int))).setCell ⟨w.heap.size + 1, 0, none⟩ (.slice a1 LT c1)).setCell ⟨w.heap.size + 1, 1, none⟩ (.slice a2 LN c2)).setCell ⟨w.heap.size + 1, 2, none⟩ (.int .i64 (P : Int))).setCell ⟨w.heap.size + 1, 3, none⟩ (.slice a3 LR c3) = Z at *
                  refine bodyPost_ret (v := .tuple #[.agg #[.slice a1 LT c1, .slice a2 LN c2, .int .i64 (P : Int), .slice a3 LR c3], .int .i64 0]) (by simp [results, Tryd.results7, go_sem, q0, q1, q2, q3]) rfl ?_
                  refine ⟨⟨a1, c1, a2, c2, a3, c3, ?_, ?_⟩, hBZ⟩
                  · rw [hEq.out, EZ.out, HL.out.1, HL.out.2.1, HL.out.2.2]
                    rfl
                  · rw [hEq.out]
                    have f1 : Z.ownsRow Ws.heap.size 9 1 (.slice a1 (selN U g.ts g.ts.length).length c1) (selN U g.ts g.ts.length).length ((selN U g.ts g.ts.length).map Value.string) := own_block hTE (fun k hk => hkZ k (by have := (hTE.lt k hk).1; omega))
                    have f2 : Z.ownsRow Wt.heap.size 9 1 (.slice a2 (selN S g.ns g.ns.length).length c2) (selN S g.ns g.ns.length).length ((selN S g.ns g.ns.length).map Value.string) := own_block hN2 (fun k hk => hkZ k (by have := (hN2.lt k hk).1; omega))
                    have f3 : RO Z (bt + 1) (.slice a3 (RK 1 S U g.rs g.rs.length).length c3) lq (RK 1 S U g.rs g.rs.length) := hROE.keep (fun k hk1 _ => hkZ k (by omega))
                    obtain ⟨_, _, e1, s1, _⟩ := srow_own f1
                    obtain ⟨_, _, e2, s2, _⟩ := srow_own f2
                    obtain ⟨_, _, e3, s3⟩ := f3.rows
                    cases e1
                    cases e2
                    cases e3
                    exact ⟨s1, s2, s3⟩
  · obtain ⟨ck, hck0⟩ : ∃ ck, (checkG g).1 = ck := ⟨_, rfl⟩
    rw [hck0] at h0 ⊢
    have hne : ((ck : Int) != 0) = true := by simpa using h0
    have EZ : Hid ((trimZ g).1 = ck) := by show _ = _; rw [trimZ_bad (by rw [hck0]; exact h0)]; exact hck0
    have H0 : Hid (ck ≠ 0) := h0
    clear h0 hck0
    have hr4 := (((hrb.set 0 (.slice none 0 0)).set 1 (.slice none 0 0)).set 2 (.int .i64 0)).set 3 (.slice none 0 0)
    have hBZ := (((hBx.setCell (p := ⟨w.heap.size + 1, 0, none⟩) (by show _ ≤ w.heap.size + 1; omega) (.slice none 0 0)).setCell (p := ⟨w.heap.size + 1, 1, none⟩) (by show _ ≤ w.heap.size + 1; omega) (.slice none 0 0)).setCell (p := ⟨w.heap.size + 1, 2, none⟩) (by show _ ≤ w.heap.size + 1; omega) (.int .i64 0)).setCell (p := ⟨w.heap.size + 1, 3, none⟩) (by show _ ≤ w.heap.size + 1; omega) (.slice none 0 0)
    have HZ : Hid (_) := And.intro hr4 hBZ
    have o0 := hob.cell (q := 0) rfl
    have o1 := hob.cell (q := 1) rfl
    have o2 := hob.cell (q := 2) rfl
    have o3 := hob.cell (q := 3) rfl
    have c0 := hrb.cell (q := 0) rfl
    have c1 := hrb.cell (q := 1) rfl
    have c2 := hrb.cell (q := 2) rfl
    have c3 := hrb.cell (q := 3) rfl
    have g0 := hrb.frozen 0
    have g1 := hrb.frozen 1
    have g2 := hrb.frozen 2
    have g3 := hrb.frozen 3
    clear hr4 hBZ
    go_wp2
    obtain ⟨hr4, hBZ⟩ := HZ.out
    have q0 := hr4.cell (q := 0) rfl
    have q1 := hr4.cell (q := 1) rfl
    have q2 := hr4.cell (q := 2) rfl
    have q3 := hr4.cell (q := 3) rfl
    generalize (((wx.setCell ⟨w.heap.size + 1, 0, none⟩ (.slice none 0 0)).setCell ⟨w.heap.size + 1, 1, none⟩ (.slice none 0 0)).setCell ⟨w.heap.size + 1, 2, none⟩ (.int .i64 0)).setCell ⟨w.heap.size + 1, 3, none⟩ (.slice none 0 0) = Z at *
    refine bodyPost_ret (v := .tuple #[.agg #[.slice none 0 0, .slice none 0 0, .int .i64 0, .slice none 0 0], .int .i64 (ck : Int)]) (by simp [results, Tryd.results7, go_sem, q0, q1, q2, q3]) rfl ?_
    exact ⟨rtrimV_none EZ.out H0.out, hBZ⟩

end Go.Proofs.YtnlaffhhbabjaaaDoor.UsefulRTrim
