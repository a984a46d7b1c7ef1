/-
  The document's own marks of what is reached, and what is useful.
-/
import Derived.Test.YtnlaffhhbabjaaaDoorUsefulRef2
namespace Go.Proofs.YtnlaffhhbabjaaaDoor.UsefulRef
open Go.RowKit Go.Proofs.YtnlaffhhbabjaaaDoor.GramMath Go.Proofs.YtnlaffhhbabjaaaDoor.GramRow Go.Proofs.YtnlaffhhbabjaaaDoor.SetsMath Go.Proofs.YtnlaffhhbabjaaaDoor.UsefulMath Go.Proofs.YtnlaffhhbabjaaaDoor.UsefulFn Go.Proofs.YtnlaffhhbabjaaaDoor.UsefulTop
set_option linter.unusedVariables false

set_option maxRecDepth 100000 in
set_option maxHeartbeats 4000000 in
theorem rreached_any (ta na ra : Option Addr) (tc nc rc c ic : Nat) (g : G) (I : Nat → Bool) (w : World) (hR : RRow w ra g.rs) (ho : okG g) (hg : GoodG g) (hin : BRow w c g.ns.length I) (hcw : c < w.heap.size) :
    Calls Tryd.prog 50 #[.agg #[.slice ta g.ts.length tc, .slice na g.ns.length nc, .int .i64 g.ax, .slice ra g.rs.length rc], .slice (some ⟨c, 0, none⟩) g.ns.length ic] w fun e w' => (∃ b, e = .returned (.slice (some ⟨b, 0, none⟩) g.ns.length g.ns.length) ∧ w.heap.size ≤ b ∧ b < w'.heap.size ∧ BRow w' b g.ns.length (reachS g I)) ∧ Below w.heap.size w w' := by
  obtain ⟨g1, g2, g3, _, g5, _⟩ := id ho
  have hok := hg.okRs
  have n60 := hok.1
  have hax0 := hg.ax0
  have hax1 := hg.ax1
  obtain ⟨a, ha⟩ : ∃ a : Nat, g.ax = (a : Int) := ⟨g.ax.toNat, by omega⟩
  have han : a < g.ns.length := by omega
  have han2 : (a : Int) < (g.ns.length : Int) := by omega
  have hat : g.ax.toNat = a := by omega
  have hB1 : Below w.heap.size w (w.alloc (.cells #[.slice ta g.ts.length tc, .slice na g.ns.length nc, .int .i64 g.ax, .slice ra g.rs.length rc] 25)) := (Below.refl _ _).alloc (Nat.le_refl _) _
  rw [ha] at hB1 ⊢
  have b1 : (w.alloc (.cells #[.slice ta g.ts.length tc, .slice na g.ns.length nc, .int .i64 (a : Int), .slice ra g.rs.length rc] 25)).cell? ⟨w.heap.size, 1, none⟩ = some (.slice na g.ns.length nc) := by simp [go_sem]
  have b2 : (w.alloc (.cells #[.slice ta g.ts.length tc, .slice na g.ns.length nc, .int .i64 (a : Int), .slice ra g.rs.length rc] 25)).cell? ⟨w.heap.size, 2, none⟩ = some (.int .i64 (a : Int)) := by simp [go_sem]
  have b3 : (w.alloc (.cells #[.slice ta g.ts.length tc, .slice na g.ns.length nc, .int .i64 (a : Int), .slice ra g.rs.length rc] 25)).cell? ⟨w.heap.size, 3, none⟩ = some (.slice ra g.rs.length rc) := by simp [go_sem]
  have hz : (w.alloc (.cells #[.slice ta g.ts.length tc, .slice na g.ns.length nc, .int .i64 (a : Int), .slice ra g.rs.length rc] 25)).heap.size = w.heap.size + 1 := by simp
  have hR1 := hR.below hB1 (Nat.le_refl _)
  have hin1 := hin.below hB1 hcw
  have hmk := fun W => madeB_any g.ns.length n60 W
  have hrow0 := madeS_row g.ns.length a (w.alloc (.cells #[.slice ta g.ts.length tc, .slice na g.ns.length nc, .int .i64 (a : Int), .slice ra g.rs.length rc] 25))
  rw [hz] at hrow0
  have hB2 : Below (w.heap.size + 1) (w.alloc (.cells #[.slice ta g.ts.length tc, .slice na g.ns.length nc, .int .i64 (a : Int), .slice ra g.rs.length rc] 25)) ((w.alloc (.cells #[.slice ta g.ts.length tc, .slice na g.ns.length nc, .int .i64 (a : Int), .slice ra g.rs.length rc] 25)).alloc (.cells ((madeCells #[.bool false] g.ns.length).setIfInBounds a (.bool true)) 4)) := (Below.refl _ _).alloc (by omega) _
  have hzE : w.heap.size + 1 < ((w.alloc (.cells #[.slice ta g.ts.length tc, .slice na g.ns.length nc, .int .i64 (a : Int), .slice ra g.rs.length rc] 25)).alloc (.cells ((madeCells #[.bool false] g.ns.length).setIfInBounds a (.bool true)) 4)).heap.size := by simp
  have hmc : (madeCells #[Value.bool false] g.ns.length)[a]? = some (.bool false) := by
    rw [← Array.getElem?_toList, toList_madeCells_one, List.getElem?_replicate, if_pos han]
  have hO0 : Hid (OutR g.rs I g.ax g.ns.length 0 (updB (fun _ => false) a)) := by rw [← hat]; exact OutR.start _ _ hax0 _
  clear hR hin
  have HA : Hid (g.ax = (a : Int)) := ha
  clear ha hat
  go_enter Tryd.func50, Tryd.ntmps50
  go_wp2
  generalize (w.alloc (.cells #[.slice ta g.ts.length tc, .slice na g.ns.length nc, .int .i64 (a : Int), .slice ra g.rs.length rc] 25)).alloc (.cells ((madeCells #[.bool false] g.ns.length).setIfInBounds a (.bool true)) 4) = W2 at *
  generalize (w.alloc (.cells #[.slice ta g.ts.length tc, .slice na g.ns.length nc, .int .i64 (a : Int), .slice ra g.rs.length rc] 25)) = W1 at *
  clear hmk hmc
  go_loopw [6] (fun i wr => ∃ (k : Nat) (S : Nat → Bool), k ≤ g.ns.length + 1 ∧ i = .int .i64 k ∧ BRow wr (w.heap.size + 1) g.ns.length S ∧ Hid (OutR g.rs I g.ax g.ns.length k S) ∧ w.heap.size + 1 < wr.heap.size ∧ Below (w.heap.size + 1) W1 wr) (fun i _ => g.ns.length + 1 - (intOf i).toNat)
  case atStart => exact ⟨0, _, by omega, rfl, hrow0, hO0, hzE, hB2⟩
  case round =>
    clear hrow0 hB2 hzE hO0
    obtain ⟨t, S0, ht, rfl, hrow, hO, hzr, hB⟩ := hrel
    have c1 := (hB.cell (p := ⟨w.heap.size, 1, none⟩) (by simp)).trans b1
    by_cases hlt : t ≤ g.ns.length
    · have hlt2 : (t : Int) ≤ (g.ns.length : Int) := by omega
      go_wp2
      go_loopw [7] (fun i wr => ∃ (k : Nat) (S : Nat → Bool), k ≤ g.rs.length ∧ i = .int .i64 k ∧ BRow wr (w.heap.size + 1) g.ns.length S ∧ Hid (InR g.rs I g.ax g.ns.length t S0 S k) ∧ w.heap.size + 1 < wr.heap.size ∧ Below (w.heap.size + 1) W1 wr) (fun i _ => g.rs.length - (intOf i).toNat)
      case atStart => exact ⟨0, S0, by omega, rfl, hrow, hO.out.inn, hzr, hB⟩
      case round =>
        clear hrow hzr hB c1
        obtain ⟨k, S, hk, rfl, hrow, hIn, hzr, hB⟩ := hrel
        have c3 := (hB.cell (p := ⟨w.heap.size, 3, none⟩) (by simp)).trans b3
        have hRk := hR1.below hB (by omega)
        by_cases hkl : k < g.rs.length
        · obtain ⟨r, hr⟩ : ∃ r, g.rs[k]? = some r := ⟨g.rs[k], List.getElem?_eq_getElem hkl⟩
          obtain ⟨b4, off, qa, qc, hra, d0, d1, hI⟩ := hRk k r hr
          subst hra
          have hkl2 : (k : Int) < (g.rs.length : Int) := by omega
          have hrm := List.mem_of_getElem? hr
          have hokr := g5 r hrm
          have hleft := hok.left hrm
          have hrl := hokr.2.2
          obtain ⟨l, hl⟩ : ∃ l : Nat, r.left = (l : Int) := ⟨r.left.toNat, by omega⟩
          have hlt3 : l < g.ns.length := by omega
          have hlt4 : (l : Int) < (g.ns.length : Int) := by omega
          have hlt' : r.left.toNat = l := by omega
          rw [hl] at d0
          have hBn : Below wr.heap.size wr (wr.alloc (.cells #[.int .i64 (l : Int), .slice qa r.right.length qc] 45)) := (Below.refl _ _).alloc (Nat.le_refl _) _
          have hB3 : Below (w.heap.size + 1) W1 (wr.alloc (.cells #[.int .i64 (l : Int), .slice qa r.right.length qc] 45)) := hB.trans (hBn.mono (by omega))
          have hrow3 := hrow.below hBn hzr
          have hI3 := hI.below hBn (Nat.le_refl _)
          have hin3 := hin1.below hB3 (by omega)
          have hsz3 : (wr.alloc (.cells #[.int .i64 (l : Int), .slice qa r.right.length qc] 45)).heap.size = wr.heap.size + 1 := by simp
          have e0 : (wr.alloc (.cells #[.int .i64 (l : Int), .slice qa r.right.length qc] 45)).cell? ⟨wr.heap.size, 0, none⟩ = some (.int .i64 (l : Int)) := by simp
          have e1 : (wr.alloc (.cells #[.int .i64 (l : Int), .slice qa r.right.length qc] 45)).cell? ⟨wr.heap.size, 1, none⟩ = some (.slice qa r.right.length qc) := by simp
          have hal := rall_any qa qc c g.ns.length ic r.right I _ hI3 hokr.2.2 (fun x hx => ⟨hokr.2.1 x hx, (hok.sym hrm hx).1⟩) n60 hin3
          have hcl := (hrow3 l hlt3).1
          have HR : Hid (g.rs[k]? = some r) := hr
          have HL : Hid (r.left = (l : Int) ∧ r.left.toNat = l) := ⟨hl, hlt'⟩
          clear hr hl hlt' hI hRk hrow hB hleft
          cases hs : S l with
          | false =>
            rw [hs] at hcl
            have hIn2 : Hid (_) := hIn.out.skip HR.out (.inl (by rw [HL.out.2]; exact hs))
            clear hIn hs hal
            go_wp2
            go_roundw
            case rel => exact ⟨k + 1, S, by omega, by go_num, hrow3, hIn2, by omega, hB3⟩
            case measure => simp [intOf]; omega
          | true =>
            rw [hs] at hcl
            cases hai : allS I r.right with
            | false =>
              rw [hai] at hal
              have hIn2 : Hid (_) := hIn.out.skip HR.out (.inr hai)
              clear hIn hs hai
              go_wp2_with fail
              refine hal.mono ?_
              rintro e w2 ⟨rfl, hw2⟩
              obtain rfl := hw2.symm
              go_wp2
              go_roundw
              case rel => exact ⟨k + 1, S, by omega, by go_num, hrow3, hIn2, by omega, hB3⟩
              case measure => simp [intOf]; omega
            | true =>
              rw [hai] at hal
              have hSd : Hid (SideR g.rs I g.ax g.ns.length t S0 S k r 0) := hIn.out.side (by rw [HL.out.2]; exact hs)
              have HI : Hid (allS I r.right = true) := hai
              clear hIn hs hai
              go_wp2_with fail
              refine hal.mono ?_
              rintro e w2 ⟨rfl, hw2⟩
              obtain rfl := hw2.symm
              generalize hW4 : wr.alloc (.cells #[.int .i64 (l : Int), .slice qa r.right.length qc] 45) = W4 at *
              clear hW4
              generalize hbx : wr.heap.size = bx at *
              go_wp2
              go_loopw [9] (fun i wr => ∃ (m : Nat) (S : Nat → Bool), m ≤ r.right.length ∧ i = .int .i64 m ∧ BRow wr (w.heap.size + 1) g.ns.length S ∧ Hid (SideR g.rs I g.ax g.ns.length t S0 S k r m) ∧ wr.cell? ⟨bx, 1, none⟩ = some (.slice qa r.right.length qc) ∧ IRow wr qa r.right ∧ w.heap.size + 1 < wr.heap.size ∧ Below (w.heap.size + 1) W1 wr) (fun i _ => r.right.length - (intOf i).toNat)
              case atStart => exact ⟨0, S, by omega, rfl, hrow3, hSd, e1, hI3, by omega, hB3⟩
              case round =>
                clear hSd hrow3 hB3 hcl e0 e1 hin3 hal hI3
                obtain ⟨m, S2, hm, rfl, hrow4, hSd, q1, hI4, hz4, hB4⟩ := hrel
                by_cases hml : m < r.right.length
                · obtain ⟨x, hx⟩ : ∃ x, r.right[m]? = some x := ⟨r.right[m], List.getElem?_eq_getElem hml⟩
                  obtain ⟨b5, off5, rfl, hc5⟩ := hI4 m x hx
                  have hml2 : (m : Int) < (r.right.length : Int) := by omega
                  have hxm := List.mem_of_getElem? hx
                  obtain ⟨x1, x2⟩ := hokr.2.1 x hxm
                  have hsym := hok.sym hrm hxm
                  have HX : Hid (r.right[m]? = some x) := hx
                  clear hx hxm
                  by_cases h0 : x < 0
                  · obtain ⟨y, hy⟩ : ∃ y : Nat, -1 - x = (y : Int) := ⟨(-1 - x).toNat, by omega⟩
                    have hyn : y < g.ns.length := by omega
                    have hyn2 : (y : Int) < (g.ns.length : Int) := by omega
                    have hyt : (-1 - x).toNat = y := by omega
                    have hd : decide (x < 0) = true := by simpa using h0
                    have hSd2 : Hid (SideR g.rs I g.ax g.ns.length t S0 (updB S2 y) k r (m + 1)) := by rw [← hyt]; exact hSd.out.mark hok hO.out HR.out HI.out HX.out h0
                    have hcy := (hrow4 y hyn).1
                    have hfy := (hrow4 y hyn).2
                    have hrow5 := hrow4.set hyn
                    have hB5 : Below (w.heap.size + 1) W1 (wr.setCell ⟨w.heap.size + 1, y, none⟩ (.bool true)) := hB4.setCell (p := ⟨w.heap.size + 1, y, none⟩) (Nat.le_refl _) _
                    have hz5 : w.heap.size + 1 < (wr.setCell ⟨w.heap.size + 1, y, none⟩ (.bool true)).heap.size := by simpa using hz4
                    have q5 : (wr.setCell ⟨w.heap.size + 1, y, none⟩ (.bool true)).cell? ⟨bx, 1, none⟩ = some (.slice (some ⟨b5, off5, none⟩) r.right.length qc) := by
                      rw [World.cell?_setCell_other (h := fun h => by have := congrArg Addr.block h; simp at this; omega)]
                      exact q1
                    have hI5 : IRow (wr.setCell ⟨w.heap.size + 1, y, none⟩ (.bool true)) (some ⟨b5, off5, none⟩) r.right := fun i z hi => by
                      obtain ⟨b6, off6, he, hc6⟩ := hI4 i z hi
                      refine ⟨b6, off6, he, ?_⟩
                      rw [World.cell?_setCell_other (h := fun h => by
                        have h1 := congrArg Addr.block h
                        simp at h1
                        subst h1
                        have h2 := congrArg Addr.off h
                        simp at h2
                        rw [← h2, hcy] at hc6
                        cases hc6)]
                      exact hc6
                    clear hSd hyt HX hsym
                    have HY : Hid (-1 - x = (y : Int)) := hy
                    go_wp2
                    go_roundw
                    case rel => exact ⟨m + 1, _, by omega, by go_num, hrow5, hSd2, q5, hI5, hz5, hB5⟩
                    case measure => simp [intOf]; omega
                  · have hd : decide (x < 0) = false := by simpa using h0
                    have hSd2 : Hid (_) := hSd.out.skip HX.out h0
                    clear hSd HX hsym
                    go_wp2
                    go_roundw
                    case rel => exact ⟨m + 1, S2, by omega, by go_num, hrow4, hSd2, q1, hI4, hz4, hB4⟩
                    case measure => simp [intOf]; omega
                · obtain rfl : m = r.right.length := by omega
                  have hIn2 : Hid (_) := hSd.out.out HR.out
                  clear hSd
                  go_wp2
                  go_roundw
                  case rel => exact ⟨k + 1, S2, by omega, by go_num, hrow4, hIn2, hz4, hB4⟩
                  case measure => simp [intOf]; omega
        · obtain rfl : k = g.rs.length := by omega
          have hO2 : Hid (_) := hIn.out.out
          clear hIn hRk
          go_wp2
          go_roundw
          case rel => exact ⟨t + 1, S, by omega, by go_num, hrow, hO2, hzr, hB⟩
          case measure => simp [intOf]; omega
    · obtain rfl : t = g.ns.length + 1 := by omega
      have hE : Hid (∀ i, i < g.ns.length → S0 i = reachS g I i) := fun i hi => by
        rw [Bool.eq_iff_iff, reachS_iff]
        exact hO.out.end hok
      have hnl : ¬ (((g.ns.length + 1 : Nat) : Int)) ≤ (g.ns.length : Int) := by omega
      clear hO
      go_wp2
      go_ret
      exact ⟨⟨_, rfl, by omega, hzr, hrow.congr hE.out⟩, hB1.trans (hB.mono (by omega))⟩

end Go.Proofs.YtnlaffhhbabjaaaDoor.UsefulRef
