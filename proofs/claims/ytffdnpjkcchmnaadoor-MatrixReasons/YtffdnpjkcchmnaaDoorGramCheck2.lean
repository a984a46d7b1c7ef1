/-
  Check, whole: for every grammar.
-/
import Derived.Test.YtffdnpjkcchmnaaDoorGramCheck
namespace Go.Proofs.YtffdnpjkcchmnaaDoor.GramCheck
open Go.RowKit Go.Proofs.YtffdnpjkcchmnaaDoor.GramMath Go.Proofs.YtffdnpjkcchmnaaDoor.GramRow Go.Proofs.YtffdnpjkcchmnaaDoor.GramOne
set_option linter.unusedVariables false

theorem checkG_bounds {g : G} (h : 60 < g.ts.length + g.ns.length ∨ 120 < g.rs.length) : checkG g = (3, none) := by unfold checkG; rw [if_pos h]
theorem checkG_name {g : G} (h : ¬ (60 < g.ts.length + g.ns.length ∨ 120 < g.rs.length)) (h2 : named g.ts = false ∨ named g.ns = false) : checkG g = (10, none) := by unfold checkG; rw [if_neg h, if_pos h2]
theorem checkG_arg {g : G} (h : ¬ (60 < g.ts.length + g.ns.length ∨ 120 < g.rs.length)) (h2 : named g.ts = true) (h3 : named g.ns = true) (h4 : leftB g.ns.length g.ax = false) : checkG g = (1, none) := by
  unfold checkG; rw [if_neg h, if_neg (by rw [h2, h3]; decide), if_pos h4]
theorem checkG_rules {g : G} (h : ¬ (60 < g.ts.length + g.ns.length ∨ 120 < g.rs.length)) (h2 : named g.ts = true) (h3 : named g.ns = true) (h4 : leftB g.ns.length g.ax = true) : checkG g = rulesK g.ts.length g.ns.length g.rs 0 := by
  unfold checkG; rw [if_neg h, if_neg (by rw [h2, h3]; decide), if_neg (by rw [h4]; decide)]

set_option maxRecDepth 100000 in
set_option maxHeartbeats 8000000 in
theorem check_any (ta na ra : Option Addr) (tc nc rc : Nat) (g : G) (p : Nat → Addr) (w : World) (hG : GRow w ta na ra g) (hg : okG g) (htc : g.ts.length ≤ tc) (hnc : g.ns.length ≤ nc) (hS : Sents w p) :
    Calls Tryd.prog 52 #[.agg #[.slice ta g.ts.length tc, .slice na g.ns.length nc, .int .i64 g.ax, .slice ra g.rs.length rc]] w fun e w' => (∃ v, e = .returned v ∧ CkV w.heap.size p (checkG g) w' v) ∧ Below w.heap.size w w' := by
  have hneq := neq_nil
  obtain ⟨g1, g2, g3, _, g5, _⟩ := id hg
  obtain ⟨s1, s3, s10⟩ := id hS
  have e1 : w.cell? ⟨0, 0, none⟩ = some (.iface 189 (.pointer (some (p 1)))) := s1
  have e3 : w.cell? ⟨3, 0, none⟩ = some (.iface 189 (.pointer (some (p 3)))) := s3
  have l1 := cell_lt e1
  have l3 := cell_lt e3
  dsimp only at l1 l3
  have hB1 : Below w.heap.size w (w.alloc (.cells #[.slice ta g.ts.length tc, .slice na g.ns.length nc, .int .i64 g.ax, .slice ra g.rs.length rc] 25)) := (Below.refl _ _).alloc (Nat.le_refl _) _
  by_cases h1 : 60 < g.ts.length + g.ns.length
  · have E : Hid (checkG g = (3, none)) := checkG_bounds (.inl h1)
    have h2 : (60 : Int) < (g.ts.length : Int) + (g.ns.length : Int) := by omega
    go_enter Tryd.func52, Tryd.ntmps52
    go_wp2
    go_ret
    exact ⟨⟨_, rfl, by rw [E.out]; rfl⟩, hB1⟩
  · have h1' : ¬ (60 : Int) < (g.ts.length : Int) + (g.ns.length : Int) := by omega
    by_cases h2 : 120 < g.rs.length
    · have E : Hid (checkG g = (3, none)) := checkG_bounds (.inr h2)
      have h2' : (120 : Int) < (g.rs.length : Int) := by omega
      go_enter Tryd.func52, Tryd.ntmps52
      go_wp2
      go_ret
      exact ⟨⟨_, rfl, by rw [E.out]; rfl⟩, hB1⟩
    · have h2' : ¬ (120 : Int) < (g.rs.length : Int) := by omega
      have hbd : ¬ (60 < g.ts.length + g.ns.length ∨ 120 < g.rs.length) := by omega
      have hct := checkNames_any ta tc g.ts (p 10) _ (hG.1.below hB1 (Nat.le_refl _)) htc g1 (s10.below hB1 (Nat.le_refl _))
      have hcn := checkNames_any na nc g.ns (p 10) _ (hG.2.1.below hB1 (Nat.le_refl _)) hnc g2 (s10.below hB1 (Nat.le_refl _))
      have hR := hG.2.2.below hB1 (Nat.le_refl _)
      have hS1 := hS.below hB1 (Nat.le_refl _)
      clear hG
      cases ht : named g.ts with
      | false =>
        have E : Hid (checkG g = (10, none)) := checkG_name hbd (.inl ht)
        rw [ht, ckN_false] at hct
        clear hcn hR
        go_enter Tryd.func52, Tryd.ntmps52
        go_wp2_with fail
        refine hct.mono ?_
        rintro e w1 ⟨rfl, hw1⟩
        obtain rfl := hw1.symm
        go_wp2
        go_ret
        exact ⟨⟨_, rfl, by rw [E.out]; rfl⟩, hB1⟩
      | true =>
        rw [ht, ckN_true] at hct
        cases hn : named g.ns with
        | false =>
          have E : Hid (checkG g = (10, none)) := checkG_name hbd (.inr hn)
          rw [hn, ckN_false] at hcn
          clear hR
          go_enter Tryd.func52, Tryd.ntmps52
          go_wp2_with fail
          refine hct.mono ?_
          rintro e w1 ⟨rfl, hw1⟩
          obtain rfl := hw1.symm
          go_wp2_with fail
          refine hcn.mono ?_
          rintro e w1 ⟨rfl, hw1⟩
          obtain rfl := hw1.symm
          go_wp2
          go_ret
          exact ⟨⟨_, rfl, by rw [E.out]; rfl⟩, hB1⟩
        | true =>
          rw [hn, ckN_true] at hcn
          have hh := fun W => has_any na g.ns.length nc g.ax W g2
          cases hA : leftB g.ns.length g.ax with
          | false =>
            have E : Hid (checkG g = (1, none)) := checkG_arg hbd ht hn hA
            rw [hA] at hh
            clear hR
            go_enter Tryd.func52, Tryd.ntmps52
            go_wp2_with fail
            refine hct.mono ?_
            rintro e w1 ⟨rfl, hw1⟩
            obtain rfl := hw1.symm
            go_wp2_with fail
            refine hcn.mono ?_
            rintro e w1 ⟨rfl, hw1⟩
            obtain rfl := hw1.symm
            go_wp2_with fail
            refine (hh _).mono ?_
            rintro e w1 ⟨rfl, hw1⟩
            obtain rfl := hw1.symm
            go_wp2
            go_ret
            exact ⟨⟨_, rfl, by rw [E.out]; rfl⟩, hB1⟩
          | true =>
            rw [hA] at hh
            have E : Hid (checkG g = rulesK g.ts.length g.ns.length g.rs 0) := checkG_rules hbd ht hn hA
            clear ht hn hA hbd h1 h2
            go_enter Tryd.func52, Tryd.ntmps52
            go_wp2_with fail
            refine hct.mono ?_
            rintro e w1 ⟨rfl, hw1⟩
            obtain rfl := hw1.symm
            go_wp2_with fail
            refine hcn.mono ?_
            rintro e w1 ⟨rfl, hw1⟩
            obtain rfl := hw1.symm
            go_wp2_with fail
            refine (hh _).mono ?_
            rintro e w1 ⟨rfl, hw1⟩
            obtain rfl := hw1.symm
            clear hct hcn hh
            have hsz : (w.alloc (.cells #[.slice ta g.ts.length tc, .slice na g.ns.length nc, .int .i64 g.ax, .slice ra g.rs.length rc] 25)).heap.size = w.heap.size + 1 := by simp
            have b0 : (w.alloc (.cells #[.slice ta g.ts.length tc, .slice na g.ns.length nc, .int .i64 g.ax, .slice ra g.rs.length rc] 25)).cell? ⟨w.heap.size, 0, none⟩ = some (.slice ta g.ts.length tc) := by simp
            have b1 : (w.alloc (.cells #[.slice ta g.ts.length tc, .slice na g.ns.length nc, .int .i64 g.ax, .slice ra g.rs.length rc] 25)).cell? ⟨w.heap.size, 1, none⟩ = some (.slice na g.ns.length nc) := by simp
            have b2 : (w.alloc (.cells #[.slice ta g.ts.length tc, .slice na g.ns.length nc, .int .i64 g.ax, .slice ra g.rs.length rc] 25)).cell? ⟨w.heap.size, 2, none⟩ = some (.int .i64 g.ax) := by simp
            have b3 : (w.alloc (.cells #[.slice ta g.ts.length tc, .slice na g.ns.length nc, .int .i64 g.ax, .slice ra g.rs.length rc] 25)).cell? ⟨w.heap.size, 3, none⟩ = some (.slice ra g.rs.length rc) := by simp
            generalize w.alloc (.cells #[.slice ta g.ts.length tc, .slice na g.ns.length nc, .int .i64 g.ax, .slice ra g.rs.length rc] 25) = W1 at *
            go_wp2
            go_loopw [45] (fun i wr => ∃ k : Nat, k ≤ g.rs.length ∧ i = .int .i64 k ∧ Hid (checkG g = rulesK g.ts.length g.ns.length (g.rs.drop k) k) ∧ Below (w.heap.size + 1) W1 wr) (fun i _ => g.rs.length - (intOf i).toNat)
            case atStart => exact ⟨0, by omega, rfl, E, Below.refl _ _⟩
            case round =>
              clear E
              obtain ⟨k, hk, rfl, E, hB⟩ := hrel
              have c0 := (hB.cell (p := ⟨w.heap.size, 0, none⟩) (by simp)).trans b0
              have c1 := (hB.cell (p := ⟨w.heap.size, 1, none⟩) (by simp)).trans b1
              have c2 := (hB.cell (p := ⟨w.heap.size, 2, none⟩) (by simp)).trans b2
              have c3 := (hB.cell (p := ⟨w.heap.size, 3, none⟩) (by simp)).trans b3
              have hRk := hR.below hB (by omega)
              have hSk := hS1.below hB (by omega)
              have hsk := hB.size
              have hBw : Below w.heap.size w wr := hB1.trans (hB.mono (by omega))
              have hlt3 : w.heap.size < wr.heap.size := by omega
              by_cases hlt : k < g.rs.length
              · obtain ⟨r, hr⟩ : ∃ r, g.rs[k]? = some r := ⟨g.rs[k], List.getElem?_eq_getElem hlt⟩
                obtain ⟨b, off, qa, qc, hra, d0, d1, hI⟩ := hRk k r hr
                subst hra
                have hlt2 : (k : Int) < (g.rs.length : Int) := by omega
                have ho := g5 r (List.mem_of_getElem? hr)
                rw [rulesK_drop hr] at E
                have hBa : Below wr.heap.size wr (wr.alloc (.cells #[.int .i64 r.left, .slice qa r.right.length qc] 62)) := (Below.refl _ _).alloc (Nat.le_refl _) _
                have hI2 := hI.below hBa (Nat.le_refl _)
                have hS2 := hSk.below hBa (Nat.le_refl _)
                have hcr := checkRule_any ta na (some ⟨b, off, none⟩) qa tc nc rc qc g r p _ hI2 ho hg hS2
                clear b0 b1 b2 b3 hR hS1 hRk hr hI hI2 hS2
                rcases ruleK_cases g.ts.length g.ns.length r with h0 | h0 | h0
                · have E2 : Hid (checkG g = rulesK g.ts.length g.ns.length (g.rs.drop (k + 1)) (k + 1)) := by show _ = _; rw [E.out, if_pos h0]
                  rw [h0, show ckK p 0 = .nilIface from rfl] at hcr
                  clear E
                  go_wp2_with fail
                  refine hcr.mono ?_
                  rintro e w2 ⟨rfl, hb2⟩
                  have hB3 : Below (w.heap.size + 1) W1 w2 := (hB.alloc (by omega) _).trans (hb2.mono (by simp; omega))
                  go_wp2
                  go_roundw
                  case rel => exact ⟨k + 1, by omega, by go_num, E2, hB3⟩
                  case measure => simp [intOf]; omega
                all_goals
                  have E2 : Hid (checkG g = (ruleK g.ts.length g.ns.length r, some k)) := by show _ = _; rw [E.out, if_neg (by omega)]
                  rw [h0] at E2
                  rw [h0, show ckK p _ = .iface 189 (.pointer (some (p _))) from rfl] at hcr
                  clear E
                  go_wp2_with fail
                  refine hcr.mono ?_
                  rintro e w2 ⟨rfl, hb2⟩
                  have hB3 : Below (w.heap.size + 1) W1 w2 := (hB.alloc (by omega) _).trans (hb2.mono (by simp; omega))
                  have hB4 : Below w.heap.size w w2 := hB1.trans (hB3.mono (by omega))
                  go_wp2
                  go_ret
                  refine ⟨⟨_, rfl, ?_⟩, hB4.alloc hB4.size _⟩
                  rw [E2.out]
                  exact ⟨w2.heap.size, hB4.size, rfl, heap_new _ _⟩
              · have E2 : Hid (checkG g = (0, none)) := by show _ = _; rw [E.out, rulesK_end (by omega)]
                clear E b0 b1 b2 b3 hR hS1 hRk
                go_wp2
                go_ret
                exact ⟨⟨_, rfl, by rw [E2.out]; rfl⟩, hBw⟩

end Go.Proofs.YtffdnpjkcchmnaaDoor.GramCheck
