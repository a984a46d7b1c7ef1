/-
  The document's own marks, round by round.
-/
import Derived.Test.YtnlaffhhbabjaaaDoorUsefulRef
namespace Go.Proofs.YtnlaffhhbabjaaaDoor.UsefulRef
open Go.RowKit Go.Proofs.YtnlaffhhbabjaaaDoor.GramMath Go.Proofs.YtnlaffhhbabjaaaDoor.GramRow Go.Proofs.YtnlaffhhbabjaaaDoor.SetsMath Go.Proofs.YtnlaffhhbabjaaaDoor.UsefulMath Go.Proofs.YtnlaffhhbabjaaaDoor.UsefulFn Go.Proofs.YtnlaffhhbabjaaaDoor.UsefulTop
set_option linter.unusedVariables false

set_option maxRecDepth 100000 in
set_option maxHeartbeats 2000000 in
theorem rproductive_any (ta na ra : Option Addr) (tc nc rc : Nat) (g : G) (w : World) (hR : RRow w ra g.rs) (ho : okG g) (hg : GoodG g) :
    Calls Tryd.prog 49 #[.agg #[.slice ta g.ts.length tc, .slice na g.ns.length nc, .int .i64 g.ax, .slice ra g.rs.length rc]] w fun e w' => (∃ b, e = .returned (.slice (some ⟨b, 0, none⟩) g.ns.length g.ns.length) ∧ w.heap.size ≤ b ∧ b < w'.heap.size ∧ BRow w' b g.ns.length (prodS g)) ∧ Below w.heap.size w w' := by
  obtain ⟨g1, g2, g3, _, g5, _⟩ := id ho
  have hok := hg.okRs
  have n60 := hok.1
  have hB1 : Below w.heap.size w (w.alloc (.cells #[.slice ta g.ts.length tc, .slice na g.ns.length nc, .int .i64 g.ax, .slice ra g.rs.length rc] 25)) := (Below.refl _ _).alloc (Nat.le_refl _) _
  have b1 : (w.alloc (.cells #[.slice ta g.ts.length tc, .slice na g.ns.length nc, .int .i64 g.ax, .slice ra g.rs.length rc] 25)).cell? ⟨w.heap.size, 1, none⟩ = some (.slice na g.ns.length nc) := by simp [go_sem]
  have b3 : (w.alloc (.cells #[.slice ta g.ts.length tc, .slice na g.ns.length nc, .int .i64 g.ax, .slice ra g.rs.length rc] 25)).cell? ⟨w.heap.size, 3, none⟩ = some (.slice ra g.rs.length rc) := by simp [go_sem]
  have hz : (w.alloc (.cells #[.slice ta g.ts.length tc, .slice na g.ns.length nc, .int .i64 g.ax, .slice ra g.rs.length rc] 25)).heap.size = w.heap.size + 1 := by simp
  have hR1 := hR.below hB1 (Nat.le_refl _)
  have hmk := fun W => madeB_any g.ns.length n60 W
  have hrow0 := madeB_row g.ns.length (w.alloc (.cells #[.slice ta g.ts.length tc, .slice na g.ns.length nc, .int .i64 g.ax, .slice ra g.rs.length rc] 25))
  rw [hz] at hrow0
  have hB2 : Below (w.heap.size + 1) (w.alloc (.cells #[.slice ta g.ts.length tc, .slice na g.ns.length nc, .int .i64 g.ax, .slice ra g.rs.length rc] 25)) ((w.alloc (.cells #[.slice ta g.ts.length tc, .slice na g.ns.length nc, .int .i64 g.ax, .slice ra g.rs.length rc] 25)).alloc (.cells (madeCells #[.bool false] g.ns.length) 4)) := (Below.refl _ _).alloc (by omega) _
  have hzE : w.heap.size + 1 < ((w.alloc (.cells #[.slice ta g.ts.length tc, .slice na g.ns.length nc, .int .i64 g.ax, .slice ra g.rs.length rc] 25)).alloc (.cells (madeCells #[.bool false] g.ns.length) 4)).heap.size := by simp
  clear hR
  go_enter Tryd.func49, Tryd.ntmps49
  go_wp2
  generalize (w.alloc (.cells #[.slice ta g.ts.length tc, .slice na g.ns.length nc, .int .i64 g.ax, .slice ra g.rs.length rc] 25)).alloc (.cells (madeCells #[.bool false] g.ns.length) 4) = W2 at *
  generalize (w.alloc (.cells #[.slice ta g.ts.length tc, .slice na g.ns.length nc, .int .i64 g.ax, .slice ra g.rs.length rc] 25)) = W1 at *
  clear hmk
  go_loopw [4] (fun i wr => ∃ (k : Nat) (S : Nat → Bool), k ≤ g.ns.length + 1 ∧ i = .int .i64 k ∧ BRow wr (w.heap.size + 1) g.ns.length S ∧ Hid (OutP g.rs g.ns.length k S) ∧ w.heap.size + 1 < wr.heap.size ∧ Below (w.heap.size + 1) W1 wr) (fun i _ => g.ns.length + 1 - (intOf i).toNat)
  case atStart => exact ⟨0, _, by omega, rfl, hrow0, OutP.start _ _, hzE, hB2⟩
  case round =>
    clear hrow0 hB2 hzE
    obtain ⟨t, S0, ht, rfl, hrow, hO, hzr, hB⟩ := hrel
    have c1 := (hB.cell (p := ⟨w.heap.size, 1, none⟩) (by simp)).trans b1
    by_cases hlt : t ≤ g.ns.length
    · have hlt2 : (t : Int) ≤ (g.ns.length : Int) := by omega
      go_wp2
      go_loopw [5] (fun i wr => ∃ (k : Nat) (S : Nat → Bool), k ≤ g.rs.length ∧ i = .int .i64 k ∧ BRow wr (w.heap.size + 1) g.ns.length S ∧ Hid (InP g.rs g.ns.length t S0 S k) ∧ w.heap.size + 1 < wr.heap.size ∧ Below (w.heap.size + 1) W1 wr) (fun i _ => g.rs.length - (intOf i).toNat)
      case atStart => exact ⟨0, S0, by omega, rfl, hrow, hO.out.inn, hzr, hB⟩
      case round =>
        clear hrow hzr hB c1
        obtain ⟨k, S, hk, rfl, hrow, hIn, hzr, hB⟩ := hrel
        have c3 := (hB.cell (p := ⟨w.heap.size, 3, none⟩) (by simp)).trans b3
        have hRk := hR1.below hB (by omega)
        by_cases hkl : k < g.rs.length
        · obtain ⟨r, hr⟩ : ∃ r, g.rs[k]? = some r := ⟨g.rs[k], List.getElem?_eq_getElem hkl⟩
          obtain ⟨b4, off, qa, qc, hra, d0, d1, hI⟩ := hRk k r hr
          subst hra
          have hkl2 : (k : Int) < (g.rs.length : Int) := by omega
          have hrm := List.mem_of_getElem? hr
          have hokr := g5 r hrm
          have hleft := hok.left hrm
          obtain ⟨l, hl⟩ : ∃ l : Nat, r.left = (l : Int) := ⟨r.left.toNat, by omega⟩
          have hlt3 : l < g.ns.length := by omega
          have hlt4 : (l : Int) < (g.ns.length : Int) := by omega
          have hal := rall_any qa qc (w.heap.size + 1) g.ns.length g.ns.length r.right S wr hI hokr.2.2 (fun x hx => ⟨hokr.2.1 x hx, (hok.sym hrm hx).1⟩) n60 hrow
          rw [hl] at d0
          have hlt' : r.left.toNat = l := by omega
          cases ha : allS S r.right with
          | true =>
            rw [ha] at hal
            have hIn2 : Hid (InP g.rs g.ns.length t S0 (updB S l) (k + 1)) := by rw [← hlt']; exact hIn.out.mark hok hO.out hr ha
            have hcl := (hrow l hlt3).1
            have hfl := (hrow l hlt3).2
            have hrow2 := hrow.set hlt3
            have hB3 : Below (w.heap.size + 1) W1 (wr.setCell ⟨w.heap.size + 1, l, none⟩ (.bool true)) := hB.setCell (p := ⟨w.heap.size + 1, l, none⟩) (Nat.le_refl _) _
            have hz3 : w.heap.size + 1 < (wr.setCell ⟨w.heap.size + 1, l, none⟩ (.bool true)).heap.size := by simpa using hzr
            clear hIn hr ha hI hRk hrow hl hlt' hleft hokr hrm
            go_wp2_with fail
            refine hal.mono ?_
            rintro e w2 ⟨rfl, hw2⟩
            obtain rfl := hw2.symm
            go_wp2
            go_roundw
            case rel => exact ⟨k + 1, _, by omega, by go_num, hrow2, hIn2, hz3, hB3⟩
            case measure => simp [intOf]; omega
          | false =>
            rw [ha] at hal
            have hIn2 : Hid (_) := hIn.out.skip hr ha
            clear hIn hr ha hI hRk hl hlt' hleft hokr hrm
            go_wp2_with fail
            refine hal.mono ?_
            rintro e w2 ⟨rfl, hw2⟩
            obtain rfl := hw2.symm
            go_wp2
            go_roundw
            case rel => exact ⟨k + 1, S, by omega, by go_num, hrow, hIn2, hzr, hB⟩
            case measure => simp [intOf]; omega
        · obtain rfl : k = g.rs.length := by omega
          have hO2 : Hid (_) := hIn.out.out
          clear hIn hRk
          go_wp2
          go_roundw
          case rel => exact ⟨t + 1, S, by omega, by go_num, hrow, hO2, hzr, hB⟩
          case measure => simp [intOf]; omega
    · obtain rfl : t = g.ns.length + 1 := by omega
      have hE : Hid (∀ i, i < g.ns.length → S0 i = prodS g i) := fun i hi => by
        rw [Bool.eq_iff_iff, prodS_iff]
        exact hO.out.end hok hi
      have hnl : ¬ (((g.ns.length + 1 : Nat) : Int)) ≤ (g.ns.length : Int) := by omega
      clear hO
      go_wp2
      go_ret
      exact ⟨⟨_, rfl, by omega, hzr, hrow.congr hE.out⟩, hB1.trans (hB.mono (by omega))⟩

end Go.Proofs.YtnlaffhhbabjaaaDoor.UsefulRef
