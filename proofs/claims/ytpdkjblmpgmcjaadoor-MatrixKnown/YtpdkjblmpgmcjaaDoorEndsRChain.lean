/-
  The reference's Chain: the chain that is found, for every grammar.
-/
import Derived.Test.YtpdkjblmpgmcjaaDoorEndsRRings
import Derived.Test.YtpdkjblmpgmcjaaDoorEndsROf
import Derived.Test.YtpdkjblmpgmcjaaDoorEndsChain
import Derived.Deep.AppendLies
import Derived.BigQuiet
namespace Go.Proofs.YtpdkjblmpgmcjaaDoor.EndsRRing
open Go.RowKit Go.Proofs.YtpdkjblmpgmcjaaDoor.GramMath Go.Proofs.YtpdkjblmpgmcjaaDoor.GramRow Go.Proofs.YtpdkjblmpgmcjaaDoor.GramLent Go.Proofs.YtpdkjblmpgmcjaaDoor.EndsMath Go.Proofs.YtpdkjblmpgmcjaaDoor.EndsFn Go.Proofs.YtpdkjblmpgmcjaaDoor.EndsWays Go.Proofs.YtpdkjblmpgmcjaaDoor.EndsSearch Go.Proofs.YtpdkjblmpgmcjaaDoor.EndsConcat Go.Proofs.YtpdkjblmpgmcjaaDoor.GramApart Go.Proofs.YtpdkjblmpgmcjaaDoor.GramRef Go.Proofs.YtpdkjblmpgmcjaaDoor.EndsRef Go.Proofs.YtpdkjblmpgmcjaaDoor.EndsChain Go.Proofs.YtpdkjblmpgmcjaaDoor.EndsRWith Go.Proofs.YtpdkjblmpgmcjaaDoor.GramCheck
set_option linter.unusedVariables false

theorem stepIn {W w' : World} (u : In W) (hb : Below u.w.heap.size u.w w') : ∃ v : In W, w' = v.w := ⟨⟨w', u.h.trans (hb.mono u.h.size)⟩, rfl⟩

theorem infoL : (Tryd.prog.info? 27).map (fun i => (i.zero, i.size, i.bytes)) = some (some (.slice none 0 0), 1, 24) := by kernel_rfl

theorem ret_three {a : Value} {x x' y y' : Int} (h : x = x') (h2 : y = y') : Ending.returned (.tuple #[a, .int .i64 x, .int .i64 y]) = .returned (.tuple #[a, .int .i64 x', .int .i64 y']) := by rw [h, h2]

set_option maxRecDepth 100000 in
set_option maxHeartbeats 16000000 in
theorem rchain_any (bb : Bool) (ta na ra : Option Addr) (tc nc rc : Nat) (g : G) (n t : Int) (w : World) (hG : GRow w ta na ra g) (ho : okG g) :
    Calls Tryd.prog 38 #[.agg #[.slice ta g.ts.length tc, .slice na g.ns.length nc, .int .i64 g.ax, .slice ra g.rs.length rc], .int .i64 n, .int .i64 t, .bool bb] w fun e w' => (∃ a c z o, e = .returned (.tuple #[.slice a (o.getD []).length c, .int .i64 (z.1 : Int), .int .i64 (ruI z.2)]) ∧ IRow w' a (o.getD []) ∧ ChainR g n t bb z o) ∧ Below w.heap.size w w' := by
  obtain ⟨g1, g2, g3, _, g5, _⟩ := id ho
  obtain ⟨i0, hi, hz0, hz1, hz2⟩ := info_parts GramLent.infoI
  obtain ⟨j0, hj, hy0, hy1, hy2⟩ := info_parts infoL
  have hB1 : Below w.heap.size w (w.alloc (.cells #[.slice ta g.ts.length tc, .slice na g.ns.length nc, .int .i64 g.ax, .slice ra g.rs.length rc] 25)) := (Below.refl _ _).alloc (Nat.le_refl _) _
  have hbx := UsefulTop.rowNew w #[.slice ta g.ts.length tc, .slice na g.ns.length nc, .int .i64 g.ax, .slice ra g.rs.length rc] 25
  have hck := rcheck_any ta na ra tc nc rc g _ (hG.below hB1 (Nat.le_refl _)) ho
  go_enter Tryd.func38, Tryd.ntmps38
  go_wp2_with fail
  refine hck.mono ?_
  rintro e w1 ⟨rfl, hb1⟩
  have hB2 := hB1.trans (hb1.mono hB1.size)
  have hbx1 := hbx.below hb1 hbx.lt
  have hWz := hbx1.lt
  clear hck hbx hb1 hB1
  have c0 := hbx1.cell (q := 0) rfl
  have c1 := hbx1.cell (q := 1) rfl
  have c3 := hbx1.cell (q := 3) rfl
  by_cases h0 : (checkG g).1 = 0
  · have hgood := good_of h0
    have hcn := check_none h0
    have hR1 := hG.2.2.below hB2 (Nat.le_refl _)
    have hfew := hgood.few
    have hrules := hgood.rules
    have n60 : g.ns.length ≤ 60 := by omega
    rw [hcn]
    have hne : (((0 : Nat) : Int) != 0) = false := by simp
    clear hG hcn
    by_cases hin : InG g n t
    · obtain ⟨hn0, hn1, ht0, ht1⟩ := id hin
      obtain ⟨n', rfl⟩ : ∃ n' : Nat, n = n' := ⟨n.toNat, by omega⟩
      obtain ⟨t', rfl⟩ : ∃ t' : Nat, t = t' := ⟨t.toNat, by omega⟩
      have x1 : ¬ (n' : Int) < 0 := by omega
      have x2 : ¬ (n' : Int) ≥ (g.ns.length : Int) := by omega
      have x3 : ¬ (t' : Int) < 0 := by omega
      have x4 : ¬ (t' : Int) ≥ (g.ts.length : Int) := by omega
      have y1 : decide ((n' : Int) < 0) = false := by simp
      have y2 : decide ((n' : Int) ≥ (g.ns.length : Int)) = false := by simpa using x2
      have y3 : decide ((t' : Int) < 0) = false := by simp
      have y4 : decide ((t' : Int) ≥ (g.ts.length : Int)) = false := by simpa using x4
      have y5 : decide (g.ns.length ≤ n') = false := by simp; omega
      have y6 : decide (g.ts.length ≤ t') = false := by simp; omega
      have hres : Hid (∀ o, FoundE bb g.rs n' t' o → ChainR g n' t' bb ((if o.isSome = true then 0 else 15), none) o) := fun o ho => .inr (.inr ⟨h0, hin, by simpa using ho, rfl⟩)
      have hmk := fun W => madeB_any g.ns.length n60 W
      have hmc : (madeCells #[Value.bool false] g.ns.length)[n']? = some (.bool false) := by
        rw [← Array.getElem?_toList, toList_madeCells_one, List.getElem?_replicate, if_pos (by omega)]
      have hst : Hid (_) := start_out (b := bb) (g := g) (n := n') (t := t') (by omega) w1
      clear h0 hin hn0 ht0
      go_wp2
      generalize (((w1.alloc (.cells ((madeCells #[.bool false] g.ns.length).setIfInBounds n' (.bool true)) 4)).alloc (.cells #[.int .i64 (n' : Int)] 3)).alloc (.cells #[.slice none 0 0] 27)) = W4 at *
      clear hmk hmc x1 x2 x3 x4 y1 y2 y3 y4 c0 c1 hne
      go_loopw [14, 15] (fun va vl wr => Hid (ROut bb g n' t' w1 wr va vl)) (fun va _ wr => mSeen g.ns.length w1.heap.size va wr)
      case atStart => exact hst
      case round =>
        clear hst
        obtain ⟨S, lq, hring, hrow, hlens, hsr⟩ := hrel.out.ex
        have hBo := hrel.out.below
        have hSl := hrel.out.lt
        have HSR : Hid (_) := hsr
        clear hrel hsr
        by_cases hl0 : lq.length = 0
        · obtain rfl : lq = [] := List.length_eq_zero_iff.1 hl0
          have hF : Hid (ChainR g n' t' bb (15, none) none) := hres.out none (HSR.out none (Search.none S))
          have hBe := hB2.trans (hBo.mono hB2.size)
          rcases hring.at_.2 with ⟨rfl, _⟩ | ⟨g0, cap, cur, rfl, _⟩
          · clear HSR hlens hring hres
            go_wp2
            try rw [Exit.noGoto_ret]
            refine bodyPost_ret (v := .tuple #[.slice none 0 0, .int .i64 15, .int .i64 (-1)]) (by simp [results, Tryd.results38, go_sem]; try rfl) rfl ?_
            exact ⟨⟨none, 0, (15, none), none, rfl, fun i x hx => by simp at hx, hF.out⟩, hBe⟩
          · clear HSR hlens hring hres
            go_wp2
            try rw [Exit.noGoto_ret]
            refine bodyPost_ret (v := .tuple #[.slice none 0 0, .int .i64 15, .int .i64 (-1)]) (by simp [results, Tryd.results38, go_sem]; try rfl) rfl ?_
            exact ⟨⟨none, 0, (15, none), none, rfl, fun i x hx => by simp at hx, hF.out⟩, hBe⟩
        · obtain ⟨ga, ca, gl, cl, rfl, rfl, hcells⟩ := hring.form hl0
          have HC : Hid (_) := hcells
          clear hcells
          have hlp : (lq.length : Int) > 0 := by omega
          have hlq : lq.length ≤ 9223372036854775807 := by
            rcases hring.at_.2 with ⟨h, _⟩ | ⟨_, _, _, _, _, _, h1, h2, _⟩
            · simp at h
            · unfold maxLen at h2; omega
          obtain ⟨w2, rfl⟩ : ∃ w2, w2 = wr := ⟨_, rfl⟩
          have hit0 : Hid (hitW bb t' g.rs ((lq.map (·.y)).take 0) = none ∧ Below w2.heap.size w2 w2) := ⟨rfl, Below.refl _ _⟩
          go_wp2
          go_loopw [16] (fun i wr2 => ∃ k : Nat, k ≤ lq.length ∧ i = .int .i64 k ∧ Hid (hitW bb t' g.rs ((lq.map (·.y)).take k) = none ∧ Below w2.heap.size w2 wr2)) (fun i _ => lq.length - (intOf i).toNat)
          case atStart => exact ⟨0, by omega, rfl, hit0⟩
          case round =>
            clear hit0
            obtain ⟨i, hik, rfl, hW⟩ := hrel
            by_cases hlt : i < lq.length
            · have hlt2 : (i : Int) < (lq.length : Int) := by omega
              obtain ⟨q, hq⟩ : ∃ q, lq[i]? = some q := ⟨lq[i], List.getElem?_eq_getElem hlt⟩
              have hqm := List.mem_of_getElem? hq
              have hyl := hlens q.y (List.mem_map_of_mem hqm)
              have hcl := cnt_le g.ns.length S
              have HY : Hid ((lq.map (·.y))[i]? = some q.y) := by show _ = _; rw [List.getElem?_map, hq]; rfl
              have HQ : Hid (lq[i]? = some q) := hq
              have hL0 : Hid (hitR bb t' q.y.rules q.y.to 0 (g.rs.take 0) = none ∧ Below w2.heap.size w2 wr) := ⟨rfl, hW.out.2⟩
              have HW : Hid (hitW bb t' g.rs ((lq.map (·.y)).take i) = none) := hW.out.1
              clear hW hq
              go_wp2
              go_loopw [17] (fun j wr3 => ∃ k : Nat, k ≤ g.rs.length ∧ j = .int .i64 k ∧ Hid (hitR bb t' q.y.rules q.y.to 0 (g.rs.take k) = none ∧ Below w2.heap.size w2 wr3)) (fun j _ => g.rs.length - (intOf j).toNat)
              case atStart => exact ⟨0, by omega, rfl, hL0⟩
              case round =>
                clear hL0
                obtain ⟨k, hkl, rfl, hX⟩ := hrel
                have hbX := hX.out.2
                have hBw : Below w1.heap.size w1 wr := hBo.trans (hbX.mono hBo.size)
                have hRk := hR1.below hBw (Nat.le_refl _)
                have d3 := (hBw.cell (p := ⟨w.heap.size, 3, none⟩) hWz).trans c3
                by_cases hkr : k < g.rs.length
                · obtain ⟨r, hr⟩ : ∃ r, g.rs[k]? = some r := ⟨g.rs[k], List.getElem?_eq_getElem hkr⟩
                  obtain ⟨b4, off, qa, qc, hra, d0, d1, hI⟩ := hRk k r hr
                  subst hra
                  have hkr2 : (k : Int) < (g.rs.length : Int) := by omega
                  have hrm := List.mem_of_getElem? hr
                  have h32 := (ruleK_ok (hgood.each r hrm)).1
                  have HR : Hid (g.rs[k]? = some r) := hr
                  have a0 := (HC.out wr (hring.below hbX) i q HQ.out).1
                  unfold toV at a0
                  clear hr hRk
                  by_cases hl : r.left = (q.y.to : Int)
                  · have HL : Hid (r.left = (q.y.to : Int)) := hl
                    have heq : (r.left == (q.y.to : Int)) = true := by rw [beq_iff_eq]; exact hl
                    clear hl
                    go_wp2
                    have hne : Nonempty (In wr) := ⟨⟨wr, Below.refl _ _⟩⟩
                    have d3' := In.cell d3
                    have d0' := In.cell d0
                    have d1' := In.cell d1
                    have a0' := In.cell a0
                    clear d3 d0 d1 a0
                    refine wp_region_in (by kernel_rfl) (by kernel_rfl) ?_
                    repeat (go_big_quiet_step ((go_at_call 60; refine (rshows_any bb qa qc r t' _ (hI.below (In.h _) (Nat.le_refl _)) h32).mono ?_; rintro e w6 ⟨rfl, hb6⟩; exact ⟨rfl, stepIn _ hb6⟩)))
                    refine wpQuiet_nil ?_
                    rintro _ ⟨u, rfl⟩
                    have hbu := hbX.trans (u.h.mono hbX.size)
                    cases hsq : shQ bb r t' with
                    | true =>
                      have hh := hit_at HW.out HY.out hX.out.1 HR.out ⟨HL.out, shQ_iff.1 hsq⟩
                      have hF : Hid (ChainR g n' t' bb (0, none) (some (q.y.rules ++ [(k : Int)]))) := hres.out _ (HSR.out _ (.hit hh))
                      have hru := hring.below hbu
                      have l0 := (HC.out u.w hru i q HQ.out).2
                      unfold lsV at l0
                      obtain ⟨hIq, hnq⟩ := (hru.ok q hqm).row
                      have hwi := rwith_any q.a q.c q.y.rules (k : Int) u.w hIq (by omega) hnq
                      have hBu := hB2.trans ((hBo.trans (hbu.mono hBo.size)).mono hB2.size)
                      clear hh hsq hres HSR hX d3' d0' d1' a0'
                      go_wp2_with fail
                      refine hwi.mono ?_
                      rintro e w6 ⟨⟨gg, cc, rfl, hown⟩, hb6⟩
                      have hBe := hBu.trans (hb6.mono hBu.size)
                      have hrw : Hid (IRow w6 (some ⟨gg, 0, none⟩) (q.y.rules ++ [(k : Int)])) := GramLent.lent_rowI hown (by simp)
                      clear hwi hown
                      go_wp2
                      try rw [Exit.noGoto_ret]
                      refine bodyPost_ret (v := .tuple #[.slice (some ⟨gg, 0, none⟩) (q.y.rules.length + 1) cc, .int .i64 0, .int .i64 (-1)]) (by simp [results, Tryd.results38, go_sem]; try rfl) rfl ?_
                      exact ⟨⟨some ⟨gg, 0, none⟩, cc, (0, none), some (q.y.rules ++ [(k : Int)]), by simp [ruI], hrw.out, hF.out⟩, hBe⟩
                    | false =>
                      have hN : Hid (hitR bb t' q.y.rules q.y.to 0 (g.rs.take (k + 1)) = none ∧ Below w2.heap.size w2 u.w) := ⟨hitR_stay hX.out.1 HR.out (fun h => by rw [shQ_iff.2 h.2] at hsq; cases hsq), hbu⟩
                      clear hX hsq d3' d0' d1' a0'
                      go_wp2
                      go_roundw
                      case rel => exact ⟨k + 1, by omega, by go_num, hN⟩
                      case measure => simp [intOf]; omega
                  · have heq : (r.left == (q.y.to : Int)) = false := by rw [beq_eq_false_iff_ne]; exact hl
                    have hN : Hid (∀ w', Below wr.heap.size wr w' → hitR bb t' q.y.rules q.y.to 0 (g.rs.take (k + 1)) = none ∧ Below w2.heap.size w2 w') := fun w' hb => ⟨hitR_stay hX.out.1 HR.out (fun h => hl h.1), hbX.trans (hb.mono hbX.size)⟩
                    clear hl hX
                    go_wp2
                    go_quiet (fail)
                    have hN2 : Hid (_) := hN.out _ (drew_below (B := wr.heap.size) wr nq)
                    clear hN
                    go_wp2
                    go_roundw
                    case rel => exact ⟨k + 1, by omega, by go_num, hN2⟩
                    case measure => simp [intOf]; omega
                · have hnl : ¬ (k : Int) < (g.rs.length : Int) := by omega
                  have hN : Hid (hitW bb t' g.rs ((lq.map (·.y)).take (i + 1)) = none ∧ Below w2.heap.size w2 wr) := ⟨hitW_next HW.out HY.out (by omega) hX.out.1, hbX⟩
                  clear hX hRk
                  go_wp2
                  go_roundw
                  case rel => exact ⟨i + 1, by omega, by go_num, hN⟩
                  case measure => simp [intOf]; omega
            · obtain rfl : i = lq.length := by omega
              have hnl : ¬ (lq.length : Int) < (lq.length : Int) := by omega
              have HH : Hid (hitW bb t' g.rs (lq.map (·.y)) = none) := by
                have h := hW.out.1
                rwa [List.take_of_length_le (by simp)] at h
              have hb23 := hW.out.2
              obtain ⟨w3, rfl⟩ : ∃ w3, w3 = wr := ⟨_, rfl⟩
              have hring3 := hring.below hb23
              have hrow3 := hrow.below hb23 hSl
              have hBo3 : Below w1.heap.size w1 w3 := hBo.trans (hb23.mono hBo.size)
              have hS3 : w1.heap.size < w3.heap.size := Nat.lt_of_lt_of_le hSl hb23.size
              have hF0 : Hid (Fill g w1.heap.size w3 w3 (.slice none 0 0) (.slice none 0 0) (goW bb g.rs ((lq.map (·.y)).take 0) ⟨[], S⟩)) := ⟨⟨[], rfl, ⟨World.ownsRow_nil _ _ _ _, World.ownsRow_nil _ _ _ _, fun q hq => by cases hq⟩, fun q hq => by cases hq⟩, hrow3, But.refl _ _⟩
              have HRW : Hid (BRow w2 w1.heap.size g.ns.length S) := hrow
              clear hW hrow hring hrow3 hb23
              go_wp2
              go_loopw [18, 19, 20] (fun vn vm i wr4 => ∃ k : Nat, k ≤ lq.length ∧ i = .int .i64 k ∧ Hid (Fill g w1.heap.size w3 wr4 vn vm (goW bb g.rs ((lq.map (·.y)).take k) ⟨[], S⟩))) (fun _ _ i _ => lq.length - (intOf i).toNat)
              case atStart => exact ⟨0, by omega, rfl, hF0⟩
              case round =>
                clear hF0
                obtain ⟨i, hik, rfl, hFi⟩ := hrel
                by_cases hlt : i < lq.length
                · have hlt2 : (i : Int) < (lq.length : Int) := by omega
                  obtain ⟨q, hq⟩ : ∃ q, lq[i]? = some q := ⟨lq[i], List.getElem?_eq_getElem hlt⟩
                  have hqm := List.mem_of_getElem? hq
                  have hyl := hlens q.y (List.mem_map_of_mem hqm)
                  have hcl := cnt_le g.ns.length S
                  have HY : Hid ((lq.map (·.y))[i]? = some q.y) := by show _ = _; rw [List.getElem?_map, hq]; rfl
                  have HQ : Hid (lq[i]? = some q) := hq
                  obtain ⟨s0, hs0⟩ : ∃ s0, goW bb g.rs ((lq.map (·.y)).take i) ⟨[], S⟩ = s0 := ⟨_, rfl⟩
                  have HS0 : Hid (_) := hs0
                  rw [hs0] at hFi
                  have hG0 : Hid (Fill g w1.heap.size w3 wr u18 u19 (goR bb q.y.rules q.y.to 0 (g.rs.take 0) s0)) := hFi
                  clear hFi hq hs0
                  go_wp2
                  go_loopw [18, 19, 21] (fun vn vm j wr5 => ∃ k : Nat, k ≤ g.rs.length ∧ j = .int .i64 k ∧ Hid (Fill g w1.heap.size w3 wr5 vn vm (goR bb q.y.rules q.y.to 0 (g.rs.take k) s0))) (fun _ _ j _ => g.rs.length - (intOf j).toNat)
                  case atStart => exact ⟨0, by omega, rfl, hG0⟩
                  case round =>
                    clear hG0
                    obtain ⟨k, hkl, rfl, hX⟩ := hrel
                    have hbut := hX.out.but
                    have hBs : Below w1.heap.size w3 wr := hbut.below (by omega) (fun k hk => by omega)
                    have hBw : Below w1.heap.size w1 wr := hBo3.trans hBs
                    have hRk := hR1.below hBw (Nat.le_refl _)
                    have d3 := (hBw.cell (p := ⟨w.heap.size, 3, none⟩) hWz).trans c3
                    have hSr : w1.heap.size < wr.heap.size := Nat.lt_of_lt_of_le hS3 hbut.size
                    by_cases hkr : k < g.rs.length
                    · obtain ⟨r, hr⟩ : ∃ r, g.rs[k]? = some r := ⟨g.rs[k], List.getElem?_eq_getElem hkr⟩
                      obtain ⟨b4, off, qa, qc, hra, d0, d1, hI⟩ := hRk k r hr
                      subst hra
                      have hkr2 : (k : Int) < (g.rs.length : Int) := by omega
                      have hrm := List.mem_of_getElem? hr
                      have h32 := (ruleK_ok (hgood.each r hrm)).1
                      have hok := g5 r hrm
                      have HR : Hid (g.rs[k]? = some r) := hr
                      have hld := rleads_any bb qa qc r wr hI h32 hok
                      have d0l := cell_lt d0
                      dsimp only at d0l
                      clear hr hRk
                      go_wp2_with fail
                      refine hld.mono ?_
                      rintro e w5 ⟨rfl, hb5⟩
                      have hbut5 := hbut.on hb5
                      have hring5 := hring3.but hbut5 (fun k hk _ e => by omega)
                      have a0 := (HC.out w5 hring5 i q HQ.out).1
                      have l0 := (HC.out w5 hring5 i q HQ.out).2
                      have e3 := (hb5.cell (p := ⟨w.heap.size, 3, none⟩) (show w.heap.size < wr.heap.size by omega)).trans d3
                      have e0 := (hb5.cell (p := ⟨b4, off + k * 2, none⟩) d0l).trans d0
                      unfold toV at a0
                      unfold lsV at l0
                      have hX5 : Hid (_) := hX.out.below hb5 hSr
                      clear hld d0 d1 d3 hI hX
                      by_cases hl : r.left = (q.y.to : Int)
                      · have HL : Hid (r.left = (q.y.to : Int)) := hl
                        have heq : (r.left == (q.y.to : Int)) = true := by rw [beq_iff_eq]; exact hl
                        clear hl
                        rcases hd : ldO bb r with _ | m
                        · rw [ldZ_none hd]
                          have hN : Hid (∀ w', Below w5.heap.size w5 w' → Fill g w1.heap.size w3 w' u18 u19 (goR bb q.y.rules q.y.to 0 (g.rs.take (k + 1)) s0)) := fun w' hb => by rw [goR_stay HR.out (.inr (.inl hd))]; exact hX5.out.below hb (Nat.lt_of_lt_of_le hSr hb5.size)
                          clear hd hX5
                          go_wp2
                          go_quiet (fail)
                          have hN2 : Hid (_) := hN.out _ (drew_below (B := w5.heap.size) w5 nq)
                          clear hN
                          go_wp2
                          go_roundw
                          case rel => exact ⟨k + 1, by omega, by go_num, hN2⟩
                          case measure => simp [intOf]; omega
                        · have hmn := ld_lt hgood hrm hd
                          have hmn2 : (m : Int) < (g.ns.length : Int) := by omega
                          rw [ldZ_some hd]
                          have ks := (hX5.out.row m hmn).1
                          have kf := (hX5.out.row m hmn).2
                          cases hSm : (goR bb q.y.rules q.y.to 0 (g.rs.take k) s0).S m with
                          | true =>
                            rw [hSm] at ks
                            have hN : Hid (∀ w', Below w5.heap.size w5 w' → Fill g w1.heap.size w3 w' u18 u19 (goR bb q.y.rules q.y.to 0 (g.rs.take (k + 1)) s0)) := fun w' hb => by rw [goR_stay HR.out (.inr (.inr ⟨m, hd, hSm⟩))]; exact hX5.out.below hb (Nat.lt_of_lt_of_le hSr hb5.size)
                            clear hd hX5 hSm
                            go_wp2
                            go_quiet (fail)
                            have hN2 : Hid (_) := hN.out _ (drew_below (B := w5.heap.size) w5 nq)
                            clear hN
                            go_wp2
                            go_roundw
                            case rel => exact ⟨k + 1, by omega, by go_num, hN2⟩
                            case measure => simp [intOf]; omega
                          | false =>
                            rw [hSm] at ks
                            have HSm : Hid ((goR bb q.y.rules q.y.to 0 (g.rs.take k) s0).S m = false) := hSm
                            have HD : Hid (ldO bb r = some m) := hd
                            have hXD : Hid (∀ w', Below w5.heap.size w5 w' → Fill g w1.heap.size w3 w' u18 u19 (goR bb q.y.rules q.y.to 0 (g.rs.take k) s0)) := fun w' hb => hX5.out.below hb (Nat.lt_of_lt_of_le hSr hb5.size)
                            clear hX5 hSm hd
                            go_wp2
                            go_quiet (fail)
                            have hbV := drew_below (B := w5.heap.size) w5 nq
                            have hXV := hXD.out _ hbV
                            clear hXD ks kf a0 l0 e3 e0 hring5
                            generalize w5.drewN nq = V at *
                            have hVz : w3.heap.size ≤ V.heap.size := hXV.but.size
                            obtain ⟨nl, hnl1, hrg, hfar⟩ := hXV.ex
                            have ks := (hXV.row m hmn).1
                            have kf := (hXV.row m hmn).2
                            have hnl100 : nl.length ≤ 100 := by
                              have h2 := congrArg List.length hnl1
                              have h3 := nx_few (b := bb) (l := q.y.rules) (m := q.y.to) (k := k) hgood HS0.out
                              rw [List.length_map] at h2
                              omega
                            have e4 : (V.setCell ⟨w1.heap.size, m, none⟩ (.bool true)).heap.size = V.heap.size := by simp
                            have hat4 := GramRef.own_set (b := w1.heap.size) (o := m) (u := .bool true) hrg.at_ hS3
                            have hls4 := GramRef.own_set (b := w1.heap.size) (o := m) (u := .bool true) hrg.ls hS3
                            have hA : Below (V.setCell ⟨w1.heap.size, m, none⟩ (.bool true)).heap.size (V.setCell ⟨w1.heap.size, m, none⟩ (.bool true)) ((V.setCell ⟨w1.heap.size, m, none⟩ (.bool true)).alloc (.cells #[.int .i64 (m : Int)] 3)) := (Below.refl _ _).alloc (Nat.le_refl _) _
                            have hat4' := GramLent.own_below hat4 hA
                            have hls4' := GramLent.own_below hls4 hA
                            have hc9 : ∀ (j : Nat) u, [Value.int .i64 (m : Int)][j]? = some u → ((V.setCell ⟨w1.heap.size, m, none⟩ (.bool true)).alloc (.cells #[.int .i64 (m : Int)] 3)).cell? ((⟨V.heap.size, 0, none⟩ : Addr).add j) = some u := fun j u hj => by
                              have h := cell_one_new (V.setCell ⟨w1.heap.size, m, none⟩ (.bool true)) (.int .i64 (m : Int)) 3 j u hj
                              rw [e4] at h
                              exact h
                            have hRG6 : Hid (∀ w6, ((V.setCell ⟨w1.heap.size, m, none⟩ (.bool true)).alloc (.cells #[.int .i64 (m : Int)] 3)).grownBy w6 u18.ownBlock → RRing w6 (w1.heap.size + 1) (.slice (some ⟨ga, 0, none⟩) lq.length ca) (.slice (some ⟨gl, 0, none⟩) lq.length cl) lq ∧ w6.cell? ⟨gl, i, none⟩ = some (.slice q.a q.y.rules.length q.c)) := fun w6 hg6 => by
                              have hB6 : Below w3.heap.size (V.setCell ⟨w1.heap.size, m, none⟩ (.bool true)) w6 := (hA.mono (by omega)).grown hg6 (by simp; omega) (fun j hj => (hat4'.lt j hj).1)
                              have h6 := hring3.but (But.onB (hXV.but.setCell (p := ⟨w1.heap.size, m, none⟩) rfl (.bool true)) hB6 (Nat.le_refl _)) (fun k hk _ e => by omega)
                              exact ⟨h6, (HC.out w6 h6 i q HQ.out).2⟩
                            clear hat4 hls4
                            go_wp2_with (at_builtin; refine wpList_append_lies _ rfl _ _ 27 rfl w3.heap.size 3 i0 (.int .i64 0) 1 8 Tryd.underlying27 hi hz0 hz1 hz2 rfl (by decide) _ _ _ rfl hat4' ⟨V.heap.size, 0, none⟩ 1 1 [.int .i64 (m : Int)] rfl rfl hc9 (by simp [Value.oneCell']) (by decide) (by unfold maxLen; omega) (by omega) (by simp; omega) (V.heap.size + 1) (by simp) ?_; intro g6 c6 w6 hown6 hgrow6 hat6 hlt6; have hring6 := (hRG6.out w6 hgrow6).1; have l6 := (hRG6.out w6 hgrow6).2)
                            obtain ⟨hIq, hnq'⟩ := (hring6.ok q hqm).row
                            have hwi := rwith_any q.a q.c q.y.rules (k : Int) w6 hIq (by omega) hnq'
                            refine hwi.mono ?_
                            rintro e w7 ⟨⟨gg, cc, rfl, hown7⟩, hb7⟩
                            have hz6 := hgrow6.size
                            have hz7 := hb7.size
                            have hls7 := GramLent.own_below (own_grown hls4' hat4' (by decide) hgrow6) hb7
                            have hA7 : Below w7.heap.size w7 (w7.alloc (.cells #[.slice (some ⟨gg, 0, none⟩) (q.y.rules.length + 1) cc] 27)) := (Below.refl _ _).alloc (Nat.le_refl _) _
                            have hls7' := GramLent.own_below hls7 hA7
                            have hFn : Hid (∀ g8 c8 w8, w8.ownsRow w3.heap.size 27 1 (.slice (some ⟨g8, 0, none⟩) (nl.length + 1) c8) (nl.length + 1) (nl.map lsV ++ [.slice (some ⟨gg, 0, none⟩) (q.y.rules.length + 1) cc]) → (w7.alloc (.cells #[.slice (some ⟨gg, 0, none⟩) (q.y.rules.length + 1) cc] 27)).grownBy w8 u19.ownBlock → Fill g w1.heap.size w3 w8 (.slice (some ⟨g6, 0, none⟩) (nl.length + 1) c6) (.slice (some ⟨g8, 0, none⟩) (nl.length + 1) c8) (goR bb q.y.rules q.y.to 0 (g.rs.take (k + 1)) s0)) := fun g8 c8 w8 h8 hg8 => by
                              rw [goR_add HR.out HL.out HD.out HSm.out]
                              exact Fill.add hXV.row hXV.but hnl1 hrg hfar hS3 hmn hown6 hgrow6 hat6 hb7 hown7 h8 hg8
                            have hz8 : w3.heap.size ≤ w7.heap.size + 1 := by simp at hz6; omega
                            clear hwi hXV hrg hfar hring6 l6 ks kf hc9 hRG6 hown6 hown7 hIq hnq' hls7 hz6
                            go_wp2_with (at_builtin; refine wpList_append_own _ rfl _ _ 40 rfl w3.heap.size 27 j0 (.slice none 0 0) 1 24 Tryd.underlying40 hj hy0 hy1 hy2 rfl (by decide) _ _ _ rfl hls7' ⟨w7.heap.size, 0, none⟩ 1 1 [.slice (some ⟨gg, 0, none⟩) (q.y.rules.length + 1) cc] rfl rfl (cell_one_new _ _ _) (by simp [Value.oneCell']) (by unfold maxLen; omega) (by omega) (by simp; omega) ?_; intro v8 w8 hown8 hgrow8 _; obtain ⟨g8, c8, rfl⟩ := ownsRow_succ hown8)
                            have hN : Hid (_) := hFn.out g8 c8 w8 hown8 hgrow8
                            clear hFn hown8 hgrow8
                            go_wp2
                            go_roundw
                            case rel => exact ⟨k + 1, by omega, by go_num, hN⟩
                            case measure => simp [intOf]; omega
                      · have heq : (r.left == (q.y.to : Int)) = false := by rw [beq_eq_false_iff_ne]; exact hl
                        have hN : Hid (∀ w', Below w5.heap.size w5 w' → Fill g w1.heap.size w3 w' u18 u19 (goR bb q.y.rules q.y.to 0 (g.rs.take (k + 1)) s0)) := fun w' hb => by rw [goR_stay HR.out (.inl hl)]; exact hX5.out.below hb (Nat.lt_of_lt_of_le hSr hb5.size)
                        clear hl hX5
                        go_wp2
                        go_quiet (fail)
                        have hN2 : Hid (_) := hN.out _ (drew_below (B := w5.heap.size) w5 nq)
                        clear hN
                        go_wp2
                        go_roundw
                        case rel => exact ⟨k + 1, by omega, by go_num, hN2⟩
                        case measure => simp [intOf]; omega
                    · have hnl' : ¬ (k : Int) < (g.rs.length : Int) := by omega
                      have hN : Hid (Fill g w1.heap.size w3 wr u18 u19 (goW bb g.rs ((lq.map (·.y)).take (i + 1)) ⟨[], S⟩)) := by
                        show Fill g w1.heap.size w3 wr u18 u19 _
                        rw [goW_next HY.out HS0.out (show g.rs.length ≤ k by omega)]
                        exact hX.out
                      clear hX hRk
                      go_wp2
                      go_roundw
                      case rel => exact ⟨i + 1, by omega, by go_num, hN⟩
                      case measure => simp [intOf]; omega
                · obtain rfl : i = lq.length := by omega
                  have htk : (lq.map (·.y)).take lq.length = lq.map (·.y) := List.take_of_length_le (by simp)
                  rw [htk] at hFi
                  have hfin : Hid (_) := ROut.fin (va := .slice (some ⟨ga, 0, none⟩) lq.length ca) hgood hFi.out HH.out hl0 hlens HSR.out hBo3 hS3 HRW.out hl0
                  clear hFi
                  go_wp2
                  go_roundw
                  case rel => exact hfin.out.1
                  case measure => exact hfin.out.2
    · have hres : Hid (ChainR g n t bb (1, none) none) := .inr (.inl ⟨h0, hin, rfl, rfl⟩)
      unfold InG at hin
      clear h0 hR1
      by_cases x1 : n < 0
      · have y1 : decide (n < 0) = true := by simpa using x1
        clear hin
        go_wp2
        try rw [Exit.noGoto_ret]
        refine bodyPost_ret (v := .tuple #[.slice none 0 0, .int .i64 1, .int .i64 (-1)]) (by simp [results, Tryd.results38, go_sem]; try rfl) rfl ?_
        exact ⟨⟨none, 0, (1, none), none, rfl, fun i x hx => by simp at hx, hres.out⟩, hB2⟩
      · have y1 : decide (n < 0) = false := by simpa using x1
        by_cases x2 : n ≥ (g.ns.length : Int)
        · have y2 : decide (n ≥ (g.ns.length : Int)) = true := by simpa using x2
          clear hin
          go_wp2
          try rw [Exit.noGoto_ret]
          refine bodyPost_ret (v := .tuple #[.slice none 0 0, .int .i64 1, .int .i64 (-1)]) (by simp [results, Tryd.results38, go_sem]; try rfl) rfl ?_
          exact ⟨⟨none, 0, (1, none), none, rfl, fun i x hx => by simp at hx, hres.out⟩, hB2⟩
        · have y2 : decide (n ≥ (g.ns.length : Int)) = false := by simpa using x2
          by_cases x3 : t < 0
          · have y3 : decide (t < 0) = true := by simpa using x3
            clear hin
            go_wp2
            try rw [Exit.noGoto_ret]
            refine bodyPost_ret (v := .tuple #[.slice none 0 0, .int .i64 1, .int .i64 (-1)]) (by simp [results, Tryd.results38, go_sem]; try rfl) rfl ?_
            exact ⟨⟨none, 0, (1, none), none, rfl, fun i x hx => by simp at hx, hres.out⟩, hB2⟩
          · have y3 : decide (t < 0) = false := by simpa using x3
            have x4 : t ≥ (g.ts.length : Int) := by omega
            have y4 : decide (t ≥ (g.ts.length : Int)) = true := by simpa using x4
            clear hin
            go_wp2
            try rw [Exit.noGoto_ret]
            refine bodyPost_ret (v := .tuple #[.slice none 0 0, .int .i64 1, .int .i64 (-1)]) (by simp [results, Tryd.results38, go_sem]; try rfl) rfl ?_
            exact ⟨⟨none, 0, (1, none), none, rfl, fun i x hx => by simp at hx, hres.out⟩, hB2⟩
  · have hne : (((checkG g).1 : Int) != 0) = true := by simp; omega
    have hO : Hid (ChainR g n t bb (checkG g) none) := .inl ⟨h0, rfl, rfl⟩
    clear h0
    go_wp2
    refine bodyPost_ret (v := .tuple #[.slice none 0 0, .int .i64 ((checkG g).1 : Int), .int .i64 (ruI (checkG g).2)]) (by simp [results, Tryd.results38, go_sem]; try rfl) rfl ?_
    exact ⟨⟨none, 0, checkG g, none, rfl, fun i x hx => by simp at hx, hO.out⟩, hB2⟩

end Go.Proofs.YtpdkjblmpgmcjaaDoor.EndsRRing
