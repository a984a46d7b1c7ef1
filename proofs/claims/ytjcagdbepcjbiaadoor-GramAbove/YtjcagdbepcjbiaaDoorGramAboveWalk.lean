/-
  The walk of GramAbove: it answers true for every grammar, and writes nothing that was there.
-/
import Derived.Test.YtjcagdbepcjbiaaDoorGramAboveFacts
namespace Go.Proofs.YtjcagdbepcjbiaaDoor.GramAboveW
open Go.RowKit Go.Proofs.YtjcagdbepcjbiaaDoor.GramMath Go.Proofs.YtjcagdbepcjbiaaDoor.GramRow Go.Proofs.YtjcagdbepcjbiaaDoor.GramOne Go.Proofs.YtjcagdbepcjbiaaDoor.GramCheck Go.Proofs.YtjcagdbepcjbiaaDoor.GramAboveFn Go.Proofs.YtjcagdbepcjbiaaDoor.GramAwake Go.Proofs.YtjcagdbepcjbiaaDoor.GramName
set_option linter.unusedVariables false

theorem ck_iface {base : Nat} {p : Nat → Addr} {z : Nat × Option Nat} {w : World} {v : Value} (h : CkV base p z w v) (hz : z.1 ≠ 0) : ∃ t u, v = .iface t u := by
  match z, hz, h with
  | (0, _), h, _ => exact absurd rfl h
  | (k + 1, none), _, h => exact ⟨_, _, h⟩
  | (k + 1, some i), _, ⟨b, _, h, _⟩ => exact ⟨_, _, h⟩

theorem check_zero {g : G} (h : (checkG g).1 = 0) : checkG g = (0, none) := by
  have hg := good_of h
  unfold checkG at h ⊢
  by_cases h1 : 60 < g.ts.length + g.ns.length ∨ 120 < g.rs.length
  · rw [if_pos h1] at h; cases h
  rw [if_neg h1] at h ⊢
  by_cases h2 : named g.ts = false ∨ named g.ns = false
  · rw [if_pos h2] at h; cases h
  rw [if_neg h2] at h ⊢
  by_cases h3 : leftB g.ns.length g.ax = false
  · rw [if_pos h3] at h; cases h
  · rw [if_neg h3] at h ⊢
    exact rulesK_none h

set_option maxRecDepth 100000 in
set_option maxHeartbeats 8000000 in
theorem walk (ta na ra : Option Addr) (tc nc rc : Nat) (g : G) (p : Nat → Addr) (w : World) (hG : GRow w ta na ra g) (ho : okG g) (htc : g.ts.length ≤ tc) (hnc : g.ns.length ≤ nc) (hS : Sents w p) :
    Calls Tryd.prog 8 #[.agg #[.slice ta g.ts.length tc, .slice na g.ns.length nc, .int .i64 g.ax, .slice ra g.rs.length rc]] w fun e w' => e = .returned (.bool true) ∧ Below w.heap.size w w' := by
  have hneq := neq_nil
  have hB1 : Below w.heap.size w (w.alloc (.cells #[.slice ta g.ts.length tc, .slice na g.ns.length nc, .int .i64 g.ax, .slice ra g.rs.length rc] 25)) := (Below.refl _ _).alloc (Nat.le_refl _) _
  have hG1 := hG.below hB1 (Nat.le_refl _)
  have hS1 := hS.below hB1 (Nat.le_refl _)
  have hck := check_any ta na ra tc nc rc g p _ hG1 ho htc hnc hS1
  have hsz : (w.alloc (.cells #[.slice ta g.ts.length tc, .slice na g.ns.length nc, .int .i64 g.ax, .slice ra g.rs.length rc] 25)).heap.size = w.heap.size + 1 := by simp
  have b0 : (w.alloc (.cells #[.slice ta g.ts.length tc, .slice na g.ns.length nc, .int .i64 g.ax, .slice ra g.rs.length rc] 25)).cell? ⟨w.heap.size, 0, none⟩ = some (.slice ta g.ts.length tc) := by simp
  have b1 : (w.alloc (.cells #[.slice ta g.ts.length tc, .slice na g.ns.length nc, .int .i64 g.ax, .slice ra g.rs.length rc] 25)).cell? ⟨w.heap.size, 1, none⟩ = some (.slice na g.ns.length nc) := by simp
  have b2 : (w.alloc (.cells #[.slice ta g.ts.length tc, .slice na g.ns.length nc, .int .i64 g.ax, .slice ra g.rs.length rc] 25)).cell? ⟨w.heap.size, 2, none⟩ = some (.int .i64 g.ax) := by simp
  have b3 : (w.alloc (.cells #[.slice ta g.ts.length tc, .slice na g.ns.length nc, .int .i64 g.ax, .slice ra g.rs.length rc] 25)).cell? ⟨w.heap.size, 3, none⟩ = some (.slice ra g.rs.length rc) := by simp
  by_cases hz : (checkG g).1 = 0
  · have hgood := check_zero hz
    have hgd := good_of hz
    have hfew := hgd.few
    have hrul := hgd.rules
    rw [hgood] at hck
    go_enter Tryd.func8, Tryd.ntmps8
    go_wp2_with fail
    refine hck.mono ?_
    rintro e w1 ⟨⟨v, rfl, hv⟩, hb1⟩
    obtain rfl : v = .nilIface := hv
    rw [hsz] at hb1
    have c0 := (hb1.cell (p := ⟨w.heap.size, 0, none⟩) (by simp)).trans b0
    have c1 := (hb1.cell (p := ⟨w.heap.size, 1, none⟩) (by simp)).trans b1
    have c2 := (hb1.cell (p := ⟨w.heap.size, 2, none⟩) (by simp)).trans b2
    have c3 := (hb1.cell (p := ⟨w.heap.size, 3, none⟩) (by simp)).trans b3
    have hs1 := hb1.size
    rw [hsz] at hs1
    have hBw1 : Below w.heap.size w w1 := hB1.trans (hb1.mono (by omega))
    have hG2 := hG.below hBw1 (Nat.le_refl _)
    have hS2 := hS.below hBw1 (Nat.le_refl _)
    clear hck b0 b1 b2 b3 hG1 hS1 hB1 hsz hb1 hz
    have hab := above_good ta na ra tc nc rc g p w1 hG2 ho htc hnc hS2 hgood
    go_wp2_with fail
    refine hab.mono ?_
    rintro e w2 ⟨⟨b, V, rfl, hlo, hhi, hrow, hV⟩, hb2⟩
    have hs2 := hb2.size
    have hS3 := hS2.below hb2 (Nat.le_refl _)
    clear hab
    go_wp2_with fail
    refine (awake_any p _ hS3).mono ?_
    rintro e w3 ⟨rfl, hb3⟩
    have hs3 := hb3.size
    have hb13 : Below w1.heap.size w1 w3 := hb2.trans (hb3.mono hs2)
    have d0 := (hb13.cell (p := ⟨w.heap.size, 0, none⟩) (show w.heap.size < _ by omega)).trans c0
    have d1 := (hb13.cell (p := ⟨w.heap.size, 1, none⟩) (show w.heap.size < _ by omega)).trans c1
    have d2 := (hb13.cell (p := ⟨w.heap.size, 2, none⟩) (show w.heap.size < _ by omega)).trans c2
    have d3 := (hb13.cell (p := ⟨w.heap.size, 3, none⟩) (show w.heap.size < _ by omega)).trans c3
    have hG3 := hG2.below hb13 (Nat.le_refl _)
    have hrow3 := hrow.below hb3 hhi
    have hBw3 : Below w.heap.size w w3 := hBw1.trans (hb13.mono (by omega))
    have hhi3 : b < w3.heap.size := by omega
    have hlow : w.heap.size < w3.heap.size := by omega
    have hw1b : w.heap.size < b := by omega
    clear c0 c1 c2 c3 hG hG2 hS2 hS3 hrow hb2 hb3 hb13 hBw1
    go_wp2
    go_loopw [5] (fun i wr => ∃ k : Nat, k ≤ g.ts.length ∧ i = .int .i64 k ∧ Below w3.heap.size w3 wr) (fun i _ => g.ts.length - (intOf i).toNat)
    case atStart => exact ⟨0, by omega, rfl, Below.refl _ _⟩
    case round =>
      obtain ⟨k, hk, rfl, hB⟩ := hrel
      have e0 := (hB.cell (p := ⟨w.heap.size, 0, none⟩) hlow).trans d0
      have e1 := (hB.cell (p := ⟨w.heap.size, 1, none⟩) hlow).trans d1
      have e2 := (hB.cell (p := ⟨w.heap.size, 2, none⟩) hlow).trans d2
      have e3 := (hB.cell (p := ⟨w.heap.size, 3, none⟩) hlow).trans d3
      have hGk := hG3.below hB (Nat.le_refl _)
      have hsk := hB.size
      have hlowk : w.heap.size < wr.heap.size := by omega
      by_cases hlt : k < g.ts.length
      · obtain ⟨x, hx⟩ : ∃ x, g.ts[k]? = some x := ⟨g.ts[k], List.getElem?_eq_getElem hlt⟩
        have hlt2 : (k : Int) < (g.ts.length : Int) := by omega
        have hnm := name_any ta na ra tc nc rc g (k : Int) wr hGk.1 hGk.2.1 ho ⟨by omega, by omega⟩
        rw [(name_term hx).1, (name_term hx).2] at hnm
        have hix := named_idx hgd.nt hx
        go_wp2_with fail
        refine hnm.mono ?_
        rintro e w4 ⟨rfl, hb4⟩
        have hs4 := hb4.size
        have hGk4 := hGk.below hb4 (Nat.le_refl _)
        have f0 := (hb4.cell (p := ⟨w.heap.size, 0, none⟩) hlowk).trans e0
        have f1 := (hb4.cell (p := ⟨w.heap.size, 1, none⟩) hlowk).trans e1
        have f2 := (hb4.cell (p := ⟨w.heap.size, 2, none⟩) hlowk).trans e2
        have f3 := (hb4.cell (p := ⟨w.heap.size, 3, none⟩) hlowk).trans e3
        have htm := term_any ta na ra tc nc rc g x w4 hGk4.1 ho.1
        rw [hix.1, hix.2] at htm
        clear e0 e1 e2 e3 hnm
        go_wp2_with fail
        refine htm.mono ?_
        rintro e w5 ⟨rfl, hb5⟩
        have hGk5 := hGk4.below hb5 (Nat.le_refl _)
        have q0 := (hb5.cell (p := ⟨w.heap.size, 0, none⟩) (show w.heap.size < _ by omega)).trans f0
        obtain ⟨b5, off5, hta, hc5⟩ := hGk5.1 k x hx
        subst hta
        have hxx := str_eq x
        have hB5 := hB.trans ((hb4.trans (hb5.mono hs4)).mono hsk)
        clear f0 f1 f2 f3 htm hGk hGk4 hGk5 hx
        go_wp2
        go_roundw
        case rel => exact ⟨k + 1, by omega, by go_num, hB5⟩
        case measure => simp [intOf]; omega
      · have hrowk := hrow3.below hB hhi3
        have hhik : b < wr.heap.size := by omega
        have hBwk : Below w.heap.size w wr := hBw3.trans (hB.mono (by omega))
        have hnl : ¬ (k : Int) < (g.ts.length : Int) := by omega
        rename World => wr0
        clear hlt hk hrow3 d0 d1 d2 d3 hG3 hBw3 hhi3 hlow hB hS
        go_wp2
        go_loopw [10] (fun i wr2 => ∃ k : Nat, k ≤ g.ns.length ∧ i = .int .i64 k ∧ Below wr0.heap.size wr0 wr2) (fun i _ => g.ns.length - (intOf i).toNat)
        case atStart => exact ⟨0, by omega, rfl, Below.refl _ _⟩
        case round =>
          clear hnl
          obtain ⟨i, hi, rfl, hB⟩ := hrel
          have p0 := (hB.cell (p := ⟨w.heap.size, 0, none⟩) hlowk).trans e0
          have p1 := (hB.cell (p := ⟨w.heap.size, 1, none⟩) hlowk).trans e1
          have p2 := (hB.cell (p := ⟨w.heap.size, 2, none⟩) hlowk).trans e2
          have p3 := (hB.cell (p := ⟨w.heap.size, 3, none⟩) hlowk).trans e3
          have hGi := hGk.below hB (Nat.le_refl _)
          have hrowi := hrowk.below hB hhik
          have hsi := hB.size
          have hlowi : w.heap.size < wr.heap.size := by omega
          have hhii : b < wr.heap.size := by omega
          by_cases hlt : i < g.ns.length
          · obtain ⟨x, hx⟩ : ∃ x, g.ns[i]? = some x := ⟨g.ns[i], List.getElem?_eq_getElem hlt⟩
            have hlt2 : (i : Int) < (g.ns.length : Int) := by omega
            have hnm := name_any ta na ra tc nc rc g (-1 - (i : Int)) wr hGi.1 hGi.2.1 ho ⟨by omega, by omega⟩
            rw [(name_nonterm hx).1, (name_nonterm hx).2] at hnm
            have hix := named_idx hgd.nn hx
            go_wp2_with fail
            refine hnm.mono ?_
            rintro e w4 ⟨rfl, hb4⟩
            have hs4 := hb4.size
            have hGi4 := hGi.below hb4 (Nat.le_refl _)
            have f0 := (hb4.cell (p := ⟨w.heap.size, 0, none⟩) hlowi).trans p0
            have f1 := (hb4.cell (p := ⟨w.heap.size, 1, none⟩) hlowi).trans p1
            have f2 := (hb4.cell (p := ⟨w.heap.size, 2, none⟩) hlowi).trans p2
            have f3 := (hb4.cell (p := ⟨w.heap.size, 3, none⟩) hlowi).trans p3
            have htm := nontermF_any ta na ra tc nc rc g x w4 hGi4.2.1 ho.2.1
            rw [hix.1, hix.2] at htm
            clear p0 p1 p2 p3 hnm e0 e1 e2 e3
            go_wp2_with fail
            refine htm.mono ?_
            rintro e w5 ⟨rfl, hb5⟩
            have hs5 := hb5.size
            have hGi5 := hGi4.below hb5 (Nat.le_refl _)
            have hlow5 : w.heap.size < w5.heap.size := by omega
            have q0 := (hb5.cell (p := ⟨w.heap.size, 0, none⟩) (show w.heap.size < _ by omega)).trans f0
            have q1 := (hb5.cell (p := ⟨w.heap.size, 1, none⟩) (show w.heap.size < _ by omega)).trans f1
            have q2 := (hb5.cell (p := ⟨w.heap.size, 2, none⟩) (show w.heap.size < _ by omega)).trans f2
            have q3 := (hb5.cell (p := ⟨w.heap.size, 3, none⟩) (show w.heap.size < _ by omega)).trans f3
            have hb45 := hb4.trans (hb5.mono hs4)
            have hrow5 := hrowi.below hb45 hhii
            have hB5 : Below wr0.heap.size wr0 w5 := hB.trans (hb45.mono hsi)
            have v1 := (hrow5 i hlt).1
            have hvs := above_small hgd hV hlt
            have hbt := bit_one hvs (((hV i hlt).2 i).2 (.refl _))
            have hsz := shift_zero (hV i hlt).1
            have hhi5 : b < w5.heap.size := by omega
            clear f0 f1 f2 f3 htm hGi hGi4 hx hrowi hb4 hb5 hb45 hix hGk
            go_wp2
            go_loopw [15] (fun j wr2 => ∃ k : Nat, k ≤ g.ns.length ∧ j = .int .i64 k ∧ Below w5.heap.size w5 wr2) (fun j _ => g.ns.length - (intOf j).toNat)
            case atStart => exact ⟨0, by omega, rfl, Below.refl _ _⟩
            case round =>
              clear v1 hbt hsz
              obtain ⟨k, hk, rfl, hC⟩ := hrel
              have r0 := (hC.cell (p := ⟨w.heap.size, 0, none⟩) hlow5).trans q0
              have r1 := (hC.cell (p := ⟨w.heap.size, 1, none⟩) hlow5).trans q1
              have r2 := (hC.cell (p := ⟨w.heap.size, 2, none⟩) hlow5).trans q2
              have r3 := (hC.cell (p := ⟨w.heap.size, 3, none⟩) hlow5).trans q3
              have hR := hGi5.2.2.below hC (Nat.le_refl _)
              have hrowk2 := hrow5.below hC hhi5
              have hsC := hC.size
              clear q0 q1 q2 q3
              by_cases hltk : k < g.ns.length
              · have hltk2 : (k : Int) < (g.ns.length : Int) := by omega
                have u1 := (hrowk2 i hlt).1
                have u2 := (hrowk2 k hltk).1
                cases hbk : (V i).testBit k with
                | false =>
                  have z1 := bit_zero hvs hbk
                  clear hbk r0 r1 r2 r3 hR hrowk2 hrow5 hGi5 u2
                  generalize V i = y at *
                  go_wp2
                  go_quiet (fail)
                  go_wp2
                  go_roundw
                  case rel => exact ⟨k + 1, by omega, by go_num, bdrew hC _⟩
                  case measure => simp [intOf]; omega
                | true =>
                  have z1 := bit_one hvs hbk
                  have z2 := andNot_zero hgd hV hlt hltk hbk
                  by_cases hik : i = k
                  · subst hik
                    clear hbk u2 r0 r1 r2 r3 hR hrowk2 hrow5 hGi5
                    go_wp2
                    go_quiet (fail)
                    go_wp2
                    go_roundw
                    case rel => exact ⟨i + 1, by omega, by go_num, bdrew hC _⟩
                    case measure => simp [intOf]; omega
                  · have z3 : ((i : Int) != (k : Int)) = true := by simp; omega
                    have hex := ren_ex hV hlt hik hbk
                    have hne : Nonempty (In wr) := ⟨⟨wr, Below.refl _ _⟩⟩
                    have r0' := In.cell r0
                    have r1' := In.cell r1
                    have r2' := In.cell r2
                    have r3' := In.cell r3
                    have u1' := In.cell u1
                    have u2' := In.cell u2
                    clear hbk hrowk2 hrow5 hGi5 hik r0 r1 r2 r3 u1 u2
                    generalize V i = y at *
                    generalize V k = y2 at *
                    go_wp2
                    refine wp_region_in (by kernel_rfl) (by kernel_rfl) ?_
                    repeat (go_big_quiet_step ((go_at_call 49; refine (renames_any _ _ _ _ _ _ g k y _ (hR.below (In.h _) (Nat.le_refl _)) ho hgd hvs hex).mono ?_; rintro e w6 ⟨rfl, hb6⟩; exact ⟨rfl, ⟨_, (In.h _).trans (hb6.mono (In.h _).size)⟩, rfl⟩)))
                    refine wpQuiet_nil ?_
                    rintro _ ⟨u, rfl⟩
                    go_wp2
                    go_roundw
                    case rel => exact ⟨k + 1, by omega, by go_num, hC.trans (u.h.mono hsC)⟩
                    case measure => simp [intOf]; omega
              · clear r0 r1 r2 r3 hR hrowk2 hrow5 hGi5
                go_wp2
                go_roundw
                case rel => exact ⟨i + 1, by omega, by go_num, hB5.trans (hC.mono (by omega))⟩
                case measure => simp [intOf]; omega
          · have hnl : ¬ (i : Int) < (g.ns.length : Int) := by omega
            have hBwi : Below w.heap.size w wr := hBwk.trans (hB.mono (by omega))
            clear hlt hi p0 p1 p2 hGk e0 e1 e2 e3 hrowk hB
            rename World => wr1
            go_wp2
            go_loopw [16] (fun j wr2 => ∃ k : Nat, k ≤ g.rs.length ∧ j = .int .i64 k ∧ Below wr1.heap.size wr1 wr2) (fun j _ => g.rs.length - (intOf j).toNat)
            case atStart => exact ⟨0, by omega, rfl, Below.refl _ _⟩
            case round =>
              clear hnl
              obtain ⟨k, hk, rfl, hC⟩ := hrel
              have r3 := (hC.cell (p := ⟨w.heap.size, 3, none⟩) hlowi).trans p3
              have hR := hGi.2.2.below hC (Nat.le_refl _)
              have hrowk2 := hrowi.below hC hhii
              have hsC := hC.size
              by_cases hltk : k < g.rs.length
              · have hltk2 : (k : Int) < (g.rs.length : Int) := by omega
                obtain ⟨r, hr⟩ : ∃ r, g.rs[k]? = some r := ⟨g.rs[k], List.getElem?_eq_getElem hltk⟩
                obtain ⟨br, offr, qa, qc, hra, m0, m1, hI⟩ := hR k r hr
                subst hra
                have hrm := List.mem_of_getElem? hr
                have hren := renaming_any qa qc r _ hI (ho.2.2.2.2.1 r hrm)
                have hlo2 : w.heap.size < wr.heap.size := by omega
                cases hrb : renB r with
                | false =>
                  rw [hrb, ren_false hrb] at hren
                  clear hr hI hR hrowk2 hrb
                  go_wp2_with fail
                  refine hren.mono ?_
                  rintro e w2 ⟨rfl, hb2⟩
                  go_wp2
                  go_quiet (fail)
                  go_wp2
                  go_roundw
                  case rel => exact ⟨k + 1, by omega, by go_num, bdrew (hC.trans (hb2.mono hsC)) _⟩
                  case measure => simp [intOf]; omega
                | true =>
                  obtain ⟨_, h2, h3, h4⟩ := ruleK_ok (hgd.each r hrm)
                  obtain ⟨x, hx, hx0, hxn⟩ := ren_true hrb
                  have h5 := h4 x (by rw [hx]; simp)
                  obtain ⟨t, ht⟩ : ∃ t : Nat, renN r = (t : Int) := ⟨(renN r).toNat, by omega⟩
                  obtain ⟨l, hl⟩ : ∃ l : Nat, r.left = (l : Int) := ⟨r.left.toNat, by omega⟩
                  have htn : t < g.ns.length := by omega
                  have htn2 : (t : Int) < (g.ns.length : Int) := by omega
                  have hln : l < 60 := by omega
                  have hbit : (V t).testBit l = true := ((hV t htn).2 l).2 (.step ⟨r, hrm, hrb, hl, ht⟩ (.refl _))
                  have z1 := bit_one (above_small hgd hV htn) hbit
                  have u1 := (hrowk2 t htn).1
                  rw [hrb, ht, hl] at hren
                  rw [hl] at m0
                  clear hr hI hR hrowk2 hrb h4 hx hxn hbit
                  go_wp2_with fail
                  refine hren.mono ?_
                  rintro e w2 ⟨rfl, hb2⟩
                  have s3 := (hb2.cell (p := ⟨w.heap.size, 3, none⟩) hlo2).trans r3
                  have s0 := (hb2.cell (cell_lt m0)).trans m0
                  have s1 := (hb2.cell (cell_lt u1)).trans u1
                  clear r3 m0 u1
                  generalize V t = y at *
                  go_wp2
                  go_quiet (fail)
                  go_wp2
                  go_roundw
                  case rel => exact ⟨k + 1, by omega, by go_num, bdrew (hC.trans (hb2.mono hsC)) _⟩
                  case measure => simp [intOf]; omega
              · clear hR hrowk2
                go_wp2
                go_ret
                exact ⟨rfl, hBwi.trans (hC.mono (by omega))⟩
  · go_enter Tryd.func8, Tryd.ntmps8
    go_wp2_with fail
    refine hck.mono ?_
    rintro e w1 ⟨⟨v, rfl, hv⟩, hb1⟩
    obtain ⟨t, u, rfl⟩ := ck_iface hv hz
    rw [hsz] at hb1
    have c0 := (hb1.cell (p := ⟨w.heap.size, 0, none⟩) (by simp)).trans b0
    have c1 := (hb1.cell (p := ⟨w.heap.size, 1, none⟩) (by simp)).trans b1
    have c2 := (hb1.cell (p := ⟨w.heap.size, 2, none⟩) (by simp)).trans b2
    have c3 := (hb1.cell (p := ⟨w.heap.size, 3, none⟩) (by simp)).trans b3
    have hBw1 : Below w.heap.size w w1 := hB1.trans (hb1.mono (by omega))
    have hab := above_bad ta na ra tc nc rc g p w1 (hG.below hBw1 (Nat.le_refl _)) ho htc hnc (hS.below hBw1 (Nat.le_refl _)) hz
    clear hck b0 b1 b2 b3 hG1 hS1
    go_wp2_with fail
    refine hab.mono ?_
    rintro e w2 ⟨rfl, hb2⟩
    have hBw2 := hBw1.trans (hb2.mono hBw1.size)
    go_wp2_with fail
    refine (awake_any p _ (hS.below hBw2 (Nat.le_refl _))).mono ?_
    rintro e w3 ⟨rfl, hb3⟩
    go_wp2
    go_ret
    exact ⟨rfl, hBw2.trans (hb3.mono hBw2.size)⟩

end Go.Proofs.YtjcagdbepcjbiaaDoor.GramAboveW
