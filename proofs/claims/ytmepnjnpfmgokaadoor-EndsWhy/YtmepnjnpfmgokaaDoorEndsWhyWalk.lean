/-
  The walk of EndsWhy: it answers true for every grammar, nonterminal, terminal and side, and writes nothing that was there.
-/
import Derived.Test.YtmepnjnpfmgokaaDoorEndsMath2
import Derived.Test.YtmepnjnpfmgokaaDoorEndsAwake
import Derived.Test.YtmepnjnpfmgokaaDoorGramRuleOf
import Derived.Test.YtmepnjnpfmgokaaDoorUsefulOpen
import Derived.BigQuiet
namespace Go.Proofs.YtmepnjnpfmgokaaDoor.EndsWhyW
open Go.RowKit Go.Proofs.YtmepnjnpfmgokaaDoor.GramMath Go.Proofs.YtmepnjnpfmgokaaDoor.GramRow Go.Proofs.YtmepnjnpfmgokaaDoor.GramCheck Go.Proofs.YtmepnjnpfmgokaaDoor.GramErrs Go.Proofs.YtmepnjnpfmgokaaDoor.GramAwake Go.Proofs.YtmepnjnpfmgokaaDoor.GramAboveFn Go.Proofs.YtmepnjnpfmgokaaDoor.EndsMath Go.Proofs.YtmepnjnpfmgokaaDoor.EndsFn Go.Proofs.YtmepnjnpfmgokaaDoor.EndsSearch Go.Proofs.YtmepnjnpfmgokaaDoor.EndsWays Go.Proofs.YtmepnjnpfmgokaaDoor.EndsChain Go.Proofs.YtmepnjnpfmgokaaDoor.EndsAwake Go.Proofs.YtmepnjnpfmgokaaDoor.EndsConcat
set_option linter.unusedVariables false

set_option maxRecDepth 100000 in
set_option maxHeartbeats 1000000 in
theorem first_any (b : Bool) (ra : Option Addr) (rc : Nat) (zs : List Int) (k : Nat) (w : World) (hI : IRow w ra zs) (hl : zs.length ≤ 1125899906842624) (hk : k ≤ 1) :
    Calls Tryd.prog 23 #[.slice ra zs.length rc, .int .i64 k, .bool b] w fun e w' => e = .returned (.tuple #[.int .i64 (lkN b zs k), .bool (lkB b zs k)]) ∧ w' = w := by
  by_cases hlt : k < zs.length
  · have hnl : ¬ (k : Int) ≥ (zs.length : Int) := by omega
    have E2 : Hid (lkB b zs k = true) := by show _ = _; unfold lkB; simpa using hlt
    cases b with
    | true =>
      obtain ⟨x, off, rfl, hx⟩ := irow_at hI (k := zs.length - 1 - k) (by omega)
      have E1 : Hid (lkN true zs k = zs.getD (zs.length - 1 - k) 0) := by show _ = _; unfold lkN; rw [vw_at hlt]; rfl
      obtain ⟨j, hj⟩ : ∃ j : Nat, zs.length - 1 - k = j := ⟨_, rfl⟩
      rw [hj] at hx E1
      obtain ⟨v, hv⟩ : ∃ v, zs.getD j 0 = v := ⟨_, rfl⟩
      rw [hv] at hx E1
      clear hv
      have hj2 : Hid (((zs.length : Int) - 1 - (k : Int)) = (j : Int)) := by show _ = _; omega
      have hj3 := hj2.out
      have hj4 : (j : Int) < (zs.length : Int) := by omega
      clear hI hj
      go_enter Tryd.func23, Tryd.ntmps23
      go_wp2
      go_ret2
      exact ⟨ret_ib E1.out.symm E2.out.symm, rfl⟩
    | false =>
      obtain ⟨x, off, rfl, hx⟩ := irow_at hI hlt
      have E1 : Hid (lkN false zs k = zs.getD k 0) := by show _ = _; unfold lkN; rw [vw_at hlt]; rfl
      obtain ⟨v, hv⟩ : ∃ v, zs.getD k 0 = v := ⟨_, rfl⟩
      rw [hv] at hx E1
      clear hv
      have hj4 : (k : Int) < (zs.length : Int) := by omega
      clear hI
      go_enter Tryd.func23, Tryd.ntmps23
      go_wp2
      go_ret2
      exact ⟨ret_ib E1.out.symm E2.out.symm, rfl⟩
  · have hnl : (k : Int) ≥ (zs.length : Int) := by omega
    have E2 : Hid (lkB b zs k = false) := by show _ = _; unfold lkB; simpa using hlt
    have E1 : Hid (lkN b zs k = 0) := by show _ = _; unfold lkN; rw [List.getD_eq_getElem?_getD, List.getElem?_eq_none (by rw [vw_len]; omega)]; rfl
    clear hI
    go_enter Tryd.func23, Tryd.ntmps23
    go_wp2
    go_ret2
    exact ⟨ret_ib E1.out.symm E2.out.symm, rfl⟩

theorem sh_cases {b : Bool} {zs : List Int} {t : Nat} (h : shL (vw b zs) = some t) : (lkB b zs 0 = true ∧ lkN b zs 0 = (t : Int)) ∨ (lkB b zs 0 = true ∧ lkN b zs 0 < 0 ∧ lkB b zs 1 = true ∧ lkN b zs 1 = (t : Int)) := by
  have hl := vw_len b zs
  unfold lkB lkN
  rw [← hl]
  generalize vw b zs = l at *
  match l, h with
  | [x], h =>
    simp [shL] at h
    obtain ⟨h0, rfl⟩ := h
    left
    simp
    omega
  | x :: y :: z, h =>
    by_cases h0 : 0 ≤ x
    · simp [shL, h0] at h
      subst h
      left
      simp
      omega
    · simp [shL, h0] at h
      obtain ⟨h1, rfl⟩ := h
      right
      simp
      omega
theorem ld_cases {b : Bool} {zs : List Int} {m : Nat} (h : ldL (vw b zs) = some m) : lkB b zs 0 = true ∧ lkN b zs 0 < 0 ∧ -1 - lkN b zs 0 = (m : Int) := by
  have hl := vw_len b zs
  unfold lkB lkN
  rw [← hl]
  generalize vw b zs = l at *
  match l, h with
  | x :: z, h =>
    simp [ldL] at h
    obtain ⟨h0, rfl⟩ := h
    simp
    omega

/-- What stands in memory while a chain is looked through. -/
structure Held (g : G) (bx : Nat) (ra : Option Addr) (rc gc : Nat) (c : List Int) (w : World) : Prop where
  box : w.cell? ⟨bx, 3, none⟩ = some (.slice ra g.rs.length rc)
  rows : RRow w ra g.rs
  list : IRow w (some ⟨gc, 0, none⟩) c

theorem Held.below {g : G} {bx : Nat} {ra : Option Addr} {rc gc : Nat} {c : List Int} {w w' : World} (h : Held g bx ra rc gc c w) (hb : Below w.heap.size w w') : Held g bx ra rc gc c w' :=
  ⟨(hb.cell (cell_lt h.box)).trans h.box, h.rows.below hb (Nat.le_refl _), h.list.below hb (Nat.le_refl _)⟩

theorem irow_cell {w : World} {gc : Nat} {c : List Int} (h : IRow w (some ⟨gc, 0, none⟩) c) {k : Nat} {x : Int} (hx : c[k]? = some x) : w.cell? ⟨gc, k, none⟩ = some (.int .i64 x) := by
  obtain ⟨b, off, e, hc⟩ := h k x hx
  simp only [Option.some.injEq, Addr.mk.injEq] at e
  obtain ⟨rfl, rfl, _⟩ := e
  simpa using hc

theorem chv_some {base : Nat} {w : World} {v : Value} {c : List Int} (h : ChV base w v (some c)) : ∃ g cap, v = .slice (some ⟨g, 0, none⟩) c.length cap ∧ IRow w (some ⟨g, 0, none⟩) c := by
  obtain ⟨g, cap, h1, h2⟩ := h
  exact ⟨g, cap, h1, GramLent.lent_rowI h2 rfl⟩

theorem chainR_z {g : G} {n t : Int} {b : Bool} {z : Nat × Option Nat} {o : Option (List Int)} (h : ChainR g n t b z o) : z.1 ≤ 15 := by
  rcases h with ⟨_, rfl, _⟩ | ⟨_, _, rfl, _⟩ | ⟨_, _, _, rfl⟩
  · exact UsefulTop.check_le g
  · decide
  · dsimp only
    split <;> decide

set_option maxRecDepth 100000 in
set_option maxHeartbeats 8000000 in
theorem walk (ta na ra : Option Addr) (tc nc rc : Nat) (g : G) (n t : Int) (b : Bool) (p : Nat → Addr) (w : World) (hG : GRow w ta na ra g) (hg : okG g) (htc : g.ts.length ≤ tc) (hnc : g.ns.length ≤ nc) (hE : Errs w p) :
    Calls Tryd.prog 7 #[.agg #[.slice ta g.ts.length tc, .slice na g.ns.length nc, .int .i64 g.ax, .slice ra g.rs.length rc], .int .i64 n, .int .i64 t, .bool b] w fun e w' => e = .returned (.bool true) ∧ Below w.heap.size w w' := by
  have hneq := neq_nil
  have hneq0 : ∀ W : World, (binOp .neq 31 .nilIface .nilIface).run Tryd.prog W = .ok (.bool false) W := fun W => by kernel_rfl
  have hB1 : Below w.heap.size w (w.alloc (.cells #[.slice ta g.ts.length tc, .slice na g.ns.length nc, .int .i64 g.ax, .slice ra g.rs.length rc] 25)) := (Below.refl _ _).alloc (Nat.le_refl _) _
  have hbx1 := UsefulTop.rowNew w #[.slice ta g.ts.length tc, .slice na g.ns.length nc, .int .i64 g.ax, .slice ra g.rs.length rc] 25
  have hof := Of_top ta na ra tc nc rc g p _ (hG.below hB1 (Nat.le_refl _)) hg htc hnc (hE.sents.below hB1 (Nat.le_refl _))
  go_enter Tryd.func7, Tryd.ntmps7
  go_wp2_with fail
  refine hof.mono ?_
  rintro e w1 ⟨⟨u, v, x, rfl, hO, hx⟩, hb1⟩
  have hB2 := hB1.trans (hb1.mono hB1.size)
  have hbx2 := hbx1.below hb1 hbx1.lt
  clear hof hbx1 hB1 hb1
  rcases hO with ⟨h0, bl, br, Vl, Vr, rfl, rfl, hl, hr, hlr⟩ | ⟨h0, rfl, rfl⟩
  · have hgood := good_of h0
    have hfew := hgood.few
    obtain rfl := ck_nil hx h0
    have hBe : Below w1.heap.size w1 (w1.alloc (.cells #[.slice (some ⟨bl, 0, none⟩) g.ns.length g.ns.length, .slice (some ⟨br, 0, none⟩) g.ns.length g.ns.length] 29)) := (Below.refl _ _).alloc (Nat.le_refl _) _
    have hex := UsefulTop.rowNew w1 #[.slice (some ⟨bl, 0, none⟩) g.ns.length g.ns.length, .slice (some ⟨br, 0, none⟩) g.ns.length g.ns.length] 29
    have hbx3 := hbx2.below hBe hbx2.lt
    have hB3 := hB2.trans (hBe.mono hB2.size)
    have hl3 := hl.below hBe (Nat.le_refl _)
    have hr3 := hr.below hBe (Nat.le_refl _)
    have a0 := hbx3.cell (q := 0) rfl
    have a1 := hbx3.cell (q := 1) rfl
    have a2 := hbx3.cell (q := 2) rfl
    have a3 := hbx3.cell (q := 3) rfl
    have hch := Chain_top ta na ra tc nc rc g n t b p _ (hG.below hB3 (Nat.le_refl _)) hg htc hnc (hE.below hB3 (Nat.le_refl _))
    clear hbx2 hBe hB2 hl hr hx
    go_wp2_with fail
    refine hch.mono ?_
    rintro e w2 ⟨⟨lv, x, z, o, rfl, hv, hx, hR⟩, hb⟩
    have hB4 := hB3.trans (hb.mono hB3.size)
    have hbx4 := hbx3.below hb hbx3.lt
    have hex4 := hex.below hb hex.lt
    have hl4 := hl3.below hb (Nat.le_refl _)
    have hr4 := hr3.below hb (Nat.le_refl _)
    clear hch hB3 hbx3 hex hl3 hr3 hb a0 a1 a2 a3
    go_wp2_with fail
    refine (awake_any p w2 (hE.sents.below hB4 (Nat.le_refl _))).mono ?_
    rintro e w3 ⟨rfl, hb⟩
    have hB5 := hB4.trans (hb.mono hB4.size)
    have hbx5 := hbx4.below hb hbx4.lt
    have hex5 := hex4.below hb hex4.lt
    have hl5 := hl4.below hb (Nat.le_refl _)
    have hr5 := hr4.below hb (Nat.le_refl _)
    replace hx := hx.below hb (Nat.le_refl _)
    have hv5 : ChV w1.heap.size w3 lv o := by
      have hz : w1.heap.size ≤ (w1.alloc (.cells #[.slice (some ⟨bl, 0, none⟩) g.ns.length g.ns.length, .slice (some ⟨br, 0, none⟩) g.ns.length g.ns.length] 29)).heap.size := by simp
      match o, hv with
      | none, h => exact h
      | some c, ⟨g', cap, h1, h2⟩ => exact ⟨g', cap, h1, GramApart.own_base (GramLent.own_below h2 hb) hz⟩
    clear hB4 hbx4 hex4 hl4 hr4 hb hv
    have a0 := hbx5.cell (q := 0) rfl
    have a1 := hbx5.cell (q := 1) rfl
    have a3 := hbx5.cell (q := 3) rfl
    have hkk := kind_ck _ p z w3 x (hE.below hB5 (Nat.le_refl _)) (chainR_z hR) hx
    rcases hR with ⟨hbad, _⟩ | ⟨_, hin, rfl, rfl⟩ | ⟨_, hin, hF, rfl⟩
    · exact absurd h0 hbad
    · unfold InG at hin
      obtain rfl : lv = .slice none 0 0 := hv5
      clear hl5 hr5 hex5
      by_cases x1 : n < 0
      · have y1 : decide (n < 0) = true := by simpa using x1
        clear hin
        go_wp2_with fail
        refine hkk.mono ?_
        rintro e w4 ⟨rfl, hb⟩
        have hB6 := hB5.trans (hb.mono hB5.size)
        go_wp2
        go_ret
        exact ⟨rfl, hB6⟩
      · have y1 : decide (n < 0) = false := by simpa using x1
        by_cases x2 : n ≥ (g.ns.length : Int)
        · have y2 : decide (n ≥ (g.ns.length : Int)) = true := by simpa using x2
          clear hin
          go_wp2_with fail
          refine hkk.mono ?_
          rintro e w4 ⟨rfl, hb⟩
          have hB6 := hB5.trans (hb.mono hB5.size)
          go_wp2
          go_ret
          exact ⟨rfl, hB6⟩
        · have y2 : decide (n ≥ (g.ns.length : Int)) = false := by simpa using x2
          by_cases x3 : t < 0
          · have y3 : decide (t < 0) = true := by simpa using x3
            clear hin
            go_wp2_with fail
            refine hkk.mono ?_
            rintro e w4 ⟨rfl, hb⟩
            have hB6 := hB5.trans (hb.mono hB5.size)
            go_wp2
            go_ret
            exact ⟨rfl, hB6⟩
          · have y3 : decide (t < 0) = false := by simpa using x3
            have x4 : t ≥ (g.ts.length : Int) := by omega
            have y4 : decide (t ≥ (g.ts.length : Int)) = true := by simpa using x4
            clear hin
            go_wp2_with fail
            refine hkk.mono ?_
            rintro e w4 ⟨rfl, hb⟩
            have hB6 := hB5.trans (hb.mono hB5.size)
            go_wp2
            go_ret
            exact ⟨rfl, hB6⟩
    · obtain ⟨hn0, hn1, ht0, ht1⟩ := hin
      obtain ⟨n', rfl⟩ : ∃ n' : Nat, n = n' := ⟨n.toNat, by omega⟩
      obtain ⟨t', rfl⟩ : ∃ t' : Nat, t = t' := ⟨t.toNat, by omega⟩
      simp only [Int.toNat_natCast] at hF
      have x1 : ¬ (n' : Int) < 0 := by omega
      have x2 : ¬ (n' : Int) ≥ (g.ns.length : Int) := by omega
      have x3 : ¬ (t' : Int) < 0 := by omega
      have x4 : ¬ (t' : Int) ≥ (g.ts.length : Int) := by omega
      have y1 : decide ((n' : Int) < 0) = false := by simp
      have y2 : decide ((n' : Int) ≥ (g.ns.length : Int)) = false := by simpa using x2
      have y3 : decide ((t' : Int) < 0) = false := by simp
      have y4 : decide ((t' : Int) ≥ (g.ts.length : Int)) = false := by simpa using x4
      have y5 : decide (g.ns.length ≤ n') = false := by simp; omega
      have y6 : decide (g.ts.length ≤ t') = false := by simp; omega
      have d0 := hex5.cell (q := 0) rfl
      have d1 := hex5.cell (q := 1) rfl
      have hR5 := hG.2.2.below hB5 (Nat.le_refl _)
      have hn2 : n' < g.ns.length := by omega
      obtain ⟨VA, hA1, hA2, hcl⟩ : ∃ V : Nat, V < 1152921504606846976 ∧ (V.testBit t' = true ↔ Lft false g.rs n' t') ∧ w3.cell? ⟨bl, n', none⟩ = some (.int .u64 (V : Int)) := ⟨Vl n', ends_small hgood hl5.ends.inv hn2, (hl5.ends n' hn2).2 t', (hl5.row n' hn2).1⟩
      obtain ⟨VC, hC1, hC2, hcr⟩ : ∃ V : Nat, V < 1152921504606846976 ∧ (V.testBit t' = true ↔ Lft true g.rs n' t') ∧ w3.cell? ⟨br, n', none⟩ = some (.int .u64 (V : Int)) := ⟨Vr n', ends_small hgood hr5.ends.inv hn2, (hr5.ends n' hn2).2 t', (hr5.row n' hn2).1⟩
      clear hl5 hr5 hex5 hG x1 x3
      cases b with
      | false =>
        have hbit := met_shr (M := VA) (S := fun j => VA.testBit j) ⟨hA1, fun _ => rfl⟩ (m := t') (by omega)
        cases hL : VA.testBit t' with
        | false =>
          rw [hL] at hbit
          have hnL : ¬ Lft false g.rs n' t' := fun h => by rw [hA2.2 h] at hL; cases hL
          have ho : o = none := by
            cases o with
            | none => rfl
            | some c => exact absurd (hF.chain.lft (found_pos hF c rfl)) hnL
          subst ho
          obtain rfl : lv = .slice none 0 0 := hv5
          clear hL hF hnL hA2 hC2 hR5
          go_wp2_with fail
          refine hkk.mono ?_
          rintro e w4 ⟨rfl, hb⟩
          have hB6 := hB5.trans (hb.mono hB5.size)
          go_wp2
          go_ret
          exact ⟨rfl, hB6⟩
        | true =>
          rw [hL] at hbit
          have hLf := hA2.1 hL
          obtain ⟨c, rfl⟩ : ∃ c, o = some c := by
            cases o with
            | none => exact absurd hLf (hF.none_no hgood)
            | some c => exact ⟨c, rfl⟩
          obtain rfl : x = .nilIface := hx
          have hpos := found_pos hF c rfl
          have hlen := FoundE.len hgood hn2 hF
          obtain ⟨N, hN0, hN⟩ := hF.chain
          obtain ⟨gc, cap, rfl, hrow⟩ := chv_some hv5
          have hHeld : Held g w.heap.size ra rc gc c w3 := ⟨a3, hR5, hrow⟩
          have z1 : ((c.length : Int) == 0) = false := by rw [beq_eq_false_iff_ne]; omega
          have z2 : ¬ (c.length : Int) > (g.ns.length : Int) := by omega
          have z3 : decide ((c.length : Int) > (g.ns.length : Int)) = false := by simpa using z2
          have z4 : decide (g.ns.length < c.length) = false := by simp; omega
          clear hL hF hLf hA2 hC2 hR5 hrow hkk hv5
          go_wp2
          go_loopw [14, 15] (fun at' i wr => ∃ k : Nat, k < c.length ∧ i = .int .i64 k ∧ at' = .int .i64 (N k : Int) ∧ Below w3.heap.size w3 wr) (fun _ i _ => c.length - (intOf i).toNat)
          case atStart => exact ⟨0, hpos, rfl, by rw [hN0], Below.refl _ _⟩
          case round =>
            clear a0 a1 a3 d0 d1 hcl hcr
            obtain ⟨k, hk, rfl, rfl, hBr⟩ := hrel
            obtain ⟨j, r, hcj, hrj, hrl, hlast, hnext⟩ := hN k hk
            have hH := hHeld.below hBr
            obtain ⟨b1, off, qa, qc, hra, e0, e1, hI⟩ := hH.rows j r hrj
            subst hra
            have hjl : j < g.rs.length := (List.getElem?_eq_some_iff.1 hrj).1
            have l0 := irow_cell hH.list hcj
            have bx := hH.box
            have hok := hg.2.2.2.2.1 r (List.mem_of_getElem? hrj)
            have hk2 : (k : Int) < (c.length : Int) := by omega
            have j0 : decide ((j : Int) < 0) = false := by simp
            have j1 : ¬ (j : Int) ≥ (g.rs.length : Int) := by omega
            have j2 : decide ((j : Int) ≥ (g.rs.length : Int)) = false := by simpa using j1
            have j3 : (j : Int) < (g.rs.length : Int) := by omega
            have j5 : decide (g.rs.length ≤ j) = false := by simp; omega
            have j4 : ((N k : Int) != (N k : Int)) = false := by simp
            rw [hrl] at e0
            have hl120 := hgood.rules
            have hln60 : c.length ≤ 60 := by omega
            have HT : Hid (k + 1 = c.length → shO false r = some t') := hlast
            have HL : Hid (k + 1 < c.length → ldO false r = some (N (k + 1))) := hnext
            have HJ : Hid (g.rs[j]? = some r) := hrj
            have HC : Hid (c[k]? = some (j : Int)) := hcj
            clear hcj hrj hlast hnext hN hH
            go_wp2
            go_quiet (fail)
            have hBq := bdrew hBr nq
            replace hBr := hBq
            clear l0 bx e0 e1 hI hBq
            generalize wr.drewN nq = W1 at *
            have hH := hHeld.below hBr
            obtain ⟨b2, off2, qa2, qc2, hra2, e0, e1, hI⟩ := hH.rows j r HJ.out
            simp only [Option.some.injEq, Addr.mk.injEq] at hra2
            obtain ⟨rfl, rfl, _⟩ := hra2
            have l0 := irow_cell hH.list HC.out
            have bx := hH.box
            have hf0 := fun W (hb : Below W1.heap.size W1 W) => first_any false qa2 qc2 r.right 0 W (hI.below hb (Nat.le_refl _)) hok.2.2 (by omega)
            go_wp2
            go_quiet ((go_at_call 23; refine Calls.quiet_of_same (hf0 _ (by first | exact Below.refl _ _ | exact bdrew (Below.refl _ _) _))))
            have hBq := bdrew hBr nq
            replace hBr := hBq
            clear l0 bx e0 e1 hI hBq hf0
            generalize W1.drewN nq = W2 at *
            have hH := hHeld.below hBr
            obtain ⟨b3, off3, qa3, qc3, hra3, e0, e1, hI⟩ := hH.rows j r HJ.out
            simp only [Option.some.injEq, Addr.mk.injEq] at hra3
            obtain ⟨rfl, rfl, _⟩ := hra3
            have l0 := irow_cell hH.list HC.out
            have bx := hH.box
            have hf1 := fun W (hb : Below W2.heap.size W2 W) => first_any false qa3 qc3 r.right 1 W (hI.below hb (Nat.le_refl _)) hok.2.2 (by omega)
            go_wp2
            go_quiet ((go_at_call 23; refine Calls.quiet_of_same (hf1 _ (by first | exact Below.refl _ _ | exact bdrew (Below.refl _ _) _))))
            have hBq := bdrew hBr nq
            replace hBr := hBq
            clear l0 bx e0 e1 hI hBq hf1
            generalize W2.drewN nq = W3 at *
            have hBw := hB5.trans (hBr.mono hB5.size)
            by_cases hkl : k + 1 = c.length
            · have kl : ((k : Int) + 1 == (c.length : Int)) = true := by rw [beq_iff_eq]; omega
              have hs := HT.out hkl
              unfold shO at hs
              rcases sh_cases hs with ⟨s1, s2⟩ | ⟨s1, s2, s3, s4⟩
              · have tt : (((t' : Nat) : Int) == ((t' : Nat) : Int)) = true := by simp
                rw [s1, s2]
                clear hs s1 s2 hkl
                go_wp2
                try rw [Exit.noGoto_ret]
                go_ret
                exact ⟨rfl, hBw⟩
              · have tn : (lkN false r.right 0 == (t' : Int)) = false := by rw [beq_eq_false_iff_ne]; omega
                have tt : (((t' : Nat) : Int) == ((t' : Nat) : Int)) = true := by simp
                have td : decide (lkN false r.right 0 < 0) = true := by simpa using s2
                rw [s1, s3, s4]
                clear hs s1 s3 s4 hkl
                generalize lkN false r.right 0 = q0 at *
                go_wp2
                try rw [Exit.noGoto_ret]
                go_ret
                exact ⟨rfl, hBw⟩
            · have kl : ((k : Int) + 1 == (c.length : Int)) = false := by rw [beq_eq_false_iff_ne]; omega
              have hd := HL.out (by omega)
              unfold ldO at hd
              obtain ⟨s1, s2, s3⟩ := ld_cases hd
              obtain ⟨hq1, hq2⟩ := lkN_i64 (b := false) hok 0
              have td : decide (lkN false r.right 0 ≥ 0) = false := by simp; omega
              have tg : ¬ lkN false r.right 0 ≥ 0 := by omega
              have hS3 : Hid (-1 - lkN false r.right 0 = (N (k + 1) : Int)) := s3
              rw [s1]
              clear hd s1 s3
              generalize lkN false r.right 0 = q0 at *
              go_wp2
              go_roundw
              case rel => exact ⟨k + 1, by omega, by go_num, by rw [hS3.out], hBr⟩
              case measure => simp [intOf]; omega
      | true =>
        have hbit := met_shr (M := VC) (S := fun j => VC.testBit j) ⟨hC1, fun _ => rfl⟩ (m := t') (by omega)
        cases hL : VC.testBit t' with
        | false =>
          rw [hL] at hbit
          have hnL : ¬ Lft true g.rs n' t' := fun h => by rw [hC2.2 h] at hL; cases hL
          have ho : o = none := by
            cases o with
            | none => rfl
            | some c => exact absurd (hF.chain.lft (found_pos hF c rfl)) hnL
          subst ho
          obtain rfl : lv = .slice none 0 0 := hv5
          clear hL hF hnL hA2 hC2 hR5
          go_wp2_with fail
          refine hkk.mono ?_
          rintro e w4 ⟨rfl, hb⟩
          have hB6 := hB5.trans (hb.mono hB5.size)
          go_wp2
          go_ret
          exact ⟨rfl, hB6⟩
        | true =>
          rw [hL] at hbit
          have hLf := hC2.1 hL
          obtain ⟨c, rfl⟩ : ∃ c, o = some c := by
            cases o with
            | none => exact absurd hLf (hF.none_no hgood)
            | some c => exact ⟨c, rfl⟩
          obtain rfl : x = .nilIface := hx
          have hpos := found_pos hF c rfl
          have hlen := FoundE.len hgood hn2 hF
          obtain ⟨N, hN0, hN⟩ := hF.chain
          obtain ⟨gc, cap, rfl, hrow⟩ := chv_some hv5
          have hHeld : Held g w.heap.size ra rc gc c w3 := ⟨a3, hR5, hrow⟩
          have z1 : ((c.length : Int) == 0) = false := by rw [beq_eq_false_iff_ne]; omega
          have z2 : ¬ (c.length : Int) > (g.ns.length : Int) := by omega
          have z3 : decide ((c.length : Int) > (g.ns.length : Int)) = false := by simpa using z2
          have z4 : decide (g.ns.length < c.length) = false := by simp; omega
          clear hL hF hLf hA2 hC2 hR5 hrow hkk hv5
          go_wp2
          go_loopw [14, 15] (fun at' i wr => ∃ k : Nat, k < c.length ∧ i = .int .i64 k ∧ at' = .int .i64 (N k : Int) ∧ Below w3.heap.size w3 wr) (fun _ i _ => c.length - (intOf i).toNat)
          case atStart => exact ⟨0, hpos, rfl, by rw [hN0], Below.refl _ _⟩
          case round =>
            clear a0 a1 a3 d0 d1 hcl hcr
            obtain ⟨k, hk, rfl, rfl, hBr⟩ := hrel
            obtain ⟨j, r, hcj, hrj, hrl, hlast, hnext⟩ := hN k hk
            have hH := hHeld.below hBr
            obtain ⟨b1, off, qa, qc, hra, e0, e1, hI⟩ := hH.rows j r hrj
            subst hra
            have hjl : j < g.rs.length := (List.getElem?_eq_some_iff.1 hrj).1
            have l0 := irow_cell hH.list hcj
            have bx := hH.box
            have hok := hg.2.2.2.2.1 r (List.mem_of_getElem? hrj)
            have hk2 : (k : Int) < (c.length : Int) := by omega
            have j0 : decide ((j : Int) < 0) = false := by simp
            have j1 : ¬ (j : Int) ≥ (g.rs.length : Int) := by omega
            have j2 : decide ((j : Int) ≥ (g.rs.length : Int)) = false := by simpa using j1
            have j3 : (j : Int) < (g.rs.length : Int) := by omega
            have j5 : decide (g.rs.length ≤ j) = false := by simp; omega
            have j4 : ((N k : Int) != (N k : Int)) = false := by simp
            rw [hrl] at e0
            have hl120 := hgood.rules
            have hln60 : c.length ≤ 60 := by omega
            have HT : Hid (k + 1 = c.length → shO true r = some t') := hlast
            have HL : Hid (k + 1 < c.length → ldO true r = some (N (k + 1))) := hnext
            have HJ : Hid (g.rs[j]? = some r) := hrj
            have HC : Hid (c[k]? = some (j : Int)) := hcj
            clear hcj hrj hlast hnext hN hH
            go_wp2
            go_quiet (fail)
            have hBq := bdrew hBr nq
            replace hBr := hBq
            clear l0 bx e0 e1 hI hBq
            generalize wr.drewN nq = W1 at *
            have hH := hHeld.below hBr
            obtain ⟨b2, off2, qa2, qc2, hra2, e0, e1, hI⟩ := hH.rows j r HJ.out
            simp only [Option.some.injEq, Addr.mk.injEq] at hra2
            obtain ⟨rfl, rfl, _⟩ := hra2
            have l0 := irow_cell hH.list HC.out
            have bx := hH.box
            have hf0 := fun W (hb : Below W1.heap.size W1 W) => first_any true qa2 qc2 r.right 0 W (hI.below hb (Nat.le_refl _)) hok.2.2 (by omega)
            go_wp2
            go_quiet ((go_at_call 23; refine Calls.quiet_of_same (hf0 _ (by first | exact Below.refl _ _ | exact bdrew (Below.refl _ _) _))))
            have hBq := bdrew hBr nq
            replace hBr := hBq
            clear l0 bx e0 e1 hI hBq hf0
            generalize W1.drewN nq = W2 at *
            have hH := hHeld.below hBr
            obtain ⟨b3, off3, qa3, qc3, hra3, e0, e1, hI⟩ := hH.rows j r HJ.out
            simp only [Option.some.injEq, Addr.mk.injEq] at hra3
            obtain ⟨rfl, rfl, _⟩ := hra3
            have l0 := irow_cell hH.list HC.out
            have bx := hH.box
            have hf1 := fun W (hb : Below W2.heap.size W2 W) => first_any true qa3 qc3 r.right 1 W (hI.below hb (Nat.le_refl _)) hok.2.2 (by omega)
            go_wp2
            go_quiet ((go_at_call 23; refine Calls.quiet_of_same (hf1 _ (by first | exact Below.refl _ _ | exact bdrew (Below.refl _ _) _))))
            have hBq := bdrew hBr nq
            replace hBr := hBq
            clear l0 bx e0 e1 hI hBq hf1
            generalize W2.drewN nq = W3 at *
            have hBw := hB5.trans (hBr.mono hB5.size)
            by_cases hkl : k + 1 = c.length
            · have kl : ((k : Int) + 1 == (c.length : Int)) = true := by rw [beq_iff_eq]; omega
              have hs := HT.out hkl
              unfold shO at hs
              rcases sh_cases hs with ⟨s1, s2⟩ | ⟨s1, s2, s3, s4⟩
              · have tt : (((t' : Nat) : Int) == ((t' : Nat) : Int)) = true := by simp
                rw [s1, s2]
                clear hs s1 s2 hkl
                go_wp2
                try rw [Exit.noGoto_ret]
                go_ret
                exact ⟨rfl, hBw⟩
              · have tn : (lkN true r.right 0 == (t' : Int)) = false := by rw [beq_eq_false_iff_ne]; omega
                have tt : (((t' : Nat) : Int) == ((t' : Nat) : Int)) = true := by simp
                have td : decide (lkN true r.right 0 < 0) = true := by simpa using s2
                rw [s1, s3, s4]
                clear hs s1 s3 s4 hkl
                generalize lkN true r.right 0 = q0 at *
                go_wp2
                try rw [Exit.noGoto_ret]
                go_ret
                exact ⟨rfl, hBw⟩
            · have kl : ((k : Int) + 1 == (c.length : Int)) = false := by rw [beq_eq_false_iff_ne]; omega
              have hd := HL.out (by omega)
              unfold ldO at hd
              obtain ⟨s1, s2, s3⟩ := ld_cases hd
              obtain ⟨hq1, hq2⟩ := lkN_i64 (b := true) hok 0
              have td : decide (lkN true r.right 0 ≥ 0) = false := by simp; omega
              have tg : ¬ lkN true r.right 0 ≥ 0 := by omega
              have hS3 : Hid (-1 - lkN true r.right 0 = (N (k + 1) : Int)) := s3
              rw [s1]
              clear hd s1 s3
              generalize lkN true r.right 0 = q0 at *
              go_wp2
              go_roundw
              case rel => exact ⟨k + 1, by omega, by go_num, by rw [hS3.out], hBr⟩
              case measure => simp [intOf]; omega
  · obtain ⟨t1, u1, rfl⟩ := ck_iface hx h0
    have hBe : Below w1.heap.size w1 (w1.alloc (.cells #[.slice none 0 0, .slice none 0 0] 29)) := (Below.refl _ _).alloc (Nat.le_refl _) _
    have hbx3 := hbx2.below hBe hbx2.lt
    have hB3 := hB2.trans (hBe.mono hB2.size)
    have a0 := hbx3.cell (q := 0) rfl
    have a1 := hbx3.cell (q := 1) rfl
    have a2 := hbx3.cell (q := 2) rfl
    have a3 := hbx3.cell (q := 3) rfl
    have hch := Chain_top ta na ra tc nc rc g n t b p _ (hG.below hB3 (Nat.le_refl _)) hg htc hnc (hE.below hB3 (Nat.le_refl _))
    clear hbx2 hBe hB2 hx
    go_wp2_with fail
    refine hch.mono ?_
    rintro e w2 ⟨⟨lv, x, z, o, rfl, hv, hx, hR⟩, hb⟩
    have hB4 := hB3.trans (hb.mono hB3.size)
    rcases hR with ⟨_, rfl, rfl⟩ | ⟨hok, _⟩ | ⟨hok, _⟩
    · obtain rfl : lv = .slice none 0 0 := hv
      obtain ⟨t2, u2, rfl⟩ := ck_iface hx h0
      have haw := awake_any p w2 (hE.sents.below hB4 (Nat.le_refl _))
      clear hx h0 hch hbx3 a0 a1 a2 a3
      go_wp2_with fail
      refine haw.mono ?_
      rintro e w3 ⟨rfl, hb3⟩
      have hB5 := hB4.trans (hb3.mono hB4.size)
      go_wp2
      go_ret
      exact ⟨rfl, hB5⟩
    · exact absurd hok h0
    · exact absurd hok h0

end Go.Proofs.YtmepnjnpfmgokaaDoor.EndsWhyW
