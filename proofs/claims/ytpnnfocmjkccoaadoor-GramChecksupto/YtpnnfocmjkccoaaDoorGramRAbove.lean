/-
  The document's own Above.
-/
import Derived.Test.YtpnnfocmjkccoaaDoorGramRComes
import Derived.Test.YtpnnfocmjkccoaaDoorGramAwake
import Derived.Test.YtpnnfocmjkccoaaDoorGramApartS
namespace Go.Proofs.YtpnnfocmjkccoaaDoor.GramRef
open Go.RowKit Go.Proofs.YtpnnfocmjkccoaaDoor.GramMath Go.Proofs.YtpnnfocmjkccoaaDoor.GramRow Go.Proofs.YtpnnfocmjkccoaaDoor.GramOne Go.Proofs.YtpnnfocmjkccoaaDoor.GramAboveFn Go.Proofs.YtpnnfocmjkccoaaDoor.GramAwake Go.Proofs.YtpnnfocmjkccoaaDoor.GramApart
set_option linter.unusedVariables false

set_option maxRecDepth 100000 in
set_option maxHeartbeats 1000000 in
theorem rabove_bad (ta na ra : Option Addr) (tc nc rc : Nat) (g : G) (w : World) (hG : GRow w ta na ra g) (hg : okG g) (hbad : (checkG g).1 ≠ 0) :
    Calls Tryd.prog 27 #[.agg #[.slice ta g.ts.length tc, .slice na g.ns.length nc, .int .i64 g.ax, .slice ra g.rs.length rc]] w fun e w' => e = .returned (.slice none 0 0) ∧ Below w.heap.size w w' := by
  have hB1 : Below w.heap.size w (w.alloc (.cells #[.slice ta g.ts.length tc, .slice na g.ns.length nc, .int .i64 g.ax, .slice ra g.rs.length rc] 25)) := (Below.refl _ _).alloc (Nat.le_refl _) _
  have hck := rcheck_any ta na ra tc nc rc g _ (hG.below hB1 (Nat.le_refl _)) hg
  have hne : (((checkG g).1 : Int) != 0) = true := by
    simp
    omega
  clear hG
  generalize (checkG g).1 = z at *
  generalize ruI (checkG g).2 = z2 at *
  clear hbad
  go_enter Tryd.func27, Tryd.ntmps27
  go_wp2_with fail
  refine hck.mono ?_
  rintro e w1 ⟨rfl, hb1⟩
  go_wp2
  go_ret
  exact ⟨rfl, hB1.trans (hb1.mono (by simp))⟩

/-- The document's sets. -/
noncomputable def abV (g : G) (i : Nat) : Nat := putN (fun f => comesB g f i) g.ns.length

theorem put_small {g : G} (hg : GoodG g) (p : Nat → Bool) {f : Nat} (hf : f ≤ g.ns.length) : putN p f < 1152921504606846976 := by
  have h1 := putN_lt p f
  have h2 : g.ns.length ≤ 60 := by have := hg.few; omega
  have h3 : 2 ^ f ≤ 2 ^ 60 := Nat.pow_le_pow_right (by omega) (by omega)
  have h4 : 2 ^ 60 = 1152921504606846976 := by decide
  omega

theorem pow_small {g : G} (hg : GoodG g) {f : Nat} (hf : f < g.ns.length) : 2 ^ f < 1152921504606846976 := by
  have h2 : g.ns.length ≤ 60 := by have := hg.few; omega
  have h3 : 2 ^ f < 2 ^ 60 := Nat.pow_lt_pow_right (by omega) (by omega)
  have h4 : 2 ^ 60 = 1152921504606846976 := by decide
  omega

set_option maxRecDepth 100000 in
set_option maxHeartbeats 2000000 in
theorem rabove_good (ta na ra : Option Addr) (tc nc rc : Nat) (g : G) (w : World) (hG : GRow w ta na ra g) (hg : okG g) (hgood : checkG g = (0, none)) :
    Calls Tryd.prog 27 #[.agg #[.slice ta g.ts.length tc, .slice na g.ns.length nc, .int .i64 g.ax, .slice ra g.rs.length rc]] w fun e w' => (∃ b c V, e = .returned (.slice (some ⟨b, 0, none⟩) g.ns.length c) ∧ URow w' (some ⟨b, 0, none⟩) g.ns.length V ∧ IsAbove g V) ∧ Below w.heap.size w w' := by
  obtain ⟨i0, hi, hz0, hz1, hz2⟩ := info_parts infoU
  have hgd := good_of (g := g) (by rw [hgood])
  have hfew := hgd.few
  have n60 : g.ns.length ≤ 60 := by omega
  have n1 : 0 < g.ns.length := by have h1 := hgd.ax0; have h2 := hgd.ax1; omega
  have hB1 : Below w.heap.size w (w.alloc (.cells #[.slice ta g.ts.length tc, .slice na g.ns.length nc, .int .i64 g.ax, .slice ra g.rs.length rc] 25)) := (Below.refl _ _).alloc (Nat.le_refl _) _
  have hck := rcheck_any ta na ra tc nc rc g _ (hG.below hB1 (Nat.le_refl _)) hg
  rw [hgood] at hck
  have hsz : (w.alloc (.cells #[.slice ta g.ts.length tc, .slice na g.ns.length nc, .int .i64 g.ax, .slice ra g.rs.length rc] 25)).heap.size = w.heap.size + 1 := by simp
  have b0 : (w.alloc (.cells #[.slice ta g.ts.length tc, .slice na g.ns.length nc, .int .i64 g.ax, .slice ra g.rs.length rc] 25)).cell? ⟨w.heap.size, 0, none⟩ = some (.slice ta g.ts.length tc) := by simp
  have b1 : (w.alloc (.cells #[.slice ta g.ts.length tc, .slice na g.ns.length nc, .int .i64 g.ax, .slice ra g.rs.length rc] 25)).cell? ⟨w.heap.size, 1, none⟩ = some (.slice na g.ns.length nc) := by simp
  have b2 : (w.alloc (.cells #[.slice ta g.ts.length tc, .slice na g.ns.length nc, .int .i64 g.ax, .slice ra g.rs.length rc] 25)).cell? ⟨w.heap.size, 2, none⟩ = some (.int .i64 g.ax) := by simp
  have b3 : (w.alloc (.cells #[.slice ta g.ts.length tc, .slice na g.ns.length nc, .int .i64 g.ax, .slice ra g.rs.length rc] 25)).cell? ⟨w.heap.size, 3, none⟩ = some (.slice ra g.rs.length rc) := by simp
  go_enter Tryd.func27, Tryd.ntmps27
  go_wp2_with fail
  refine hck.mono ?_
  rintro e w1 ⟨rfl, hb1⟩
  rw [hsz] at hb1
  have c0 := (hb1.cell (p := ⟨w.heap.size, 0, none⟩) (by simp)).trans b0
  have c1 := (hb1.cell (p := ⟨w.heap.size, 1, none⟩) (by simp)).trans b1
  have c2 := (hb1.cell (p := ⟨w.heap.size, 2, none⟩) (by simp)).trans b2
  have c3 := (hb1.cell (p := ⟨w.heap.size, 3, none⟩) (by simp)).trans b3
  have hB0 : Below w.heap.size w w1 := hB1.trans (hb1.mono (by omega))
  have hs1 := hb1.size
  rw [hsz] at hs1
  have hR1 := hG.2.2.below hB0 (Nat.le_refl _)
  clear hck b0 b1 b2 b3 hG hB1 hb1
  go_wp2
  go_loopw [3, 6] (fun l i wr => ∃ k : Nat, k ≤ g.ns.length ∧ i = .int .i64 k ∧ wr.ownsRow w1.heap.size 106 1 l k ((List.range k).map (fun j => .int .u64 (abV g j : Int))) ∧ Below w1.heap.size w1 wr) (fun _ i _ => g.ns.length - (intOf i).toNat)
  case atStart => exact ⟨0, by omega, rfl, World.ownsRow_nil _ _ _ _, Below.refl _ _⟩
  case round =>
    obtain ⟨k, hk, rfl, hown, hB⟩ := hrel
    have hsk := hB.size
    have e1 := (hB.cell (p := ⟨w.heap.size, 1, none⟩) (show w.heap.size < _ by omega)).trans c1
    by_cases hlt : k < g.ns.length
    · have hlt2 : (k : Int) < (g.ns.length : Int) := by omega
      go_wp2
      go_loopw [7, 8] (fun s f wr => ∃ j : Nat, j ≤ g.ns.length ∧ f = .int .i64 j ∧ s = .int .u64 (putN (fun f => comesB g f k) j : Int) ∧ wr.ownsRow w1.heap.size 106 1 u3 k ((List.range k).map (fun j => .int .u64 (abV g j : Int))) ∧ Below w1.heap.size w1 wr) (fun _ f _ => g.ns.length - (intOf f).toNat)
      case atStart => exact ⟨0, by omega, rfl, rfl, hown, hB⟩
      case round =>
        clear hB hsk e1
        obtain ⟨f, hf, rfl, rfl, hown2, hB⟩ := hrel
        have hsk := hB.size
        have e0 := (hB.cell (p := ⟨w.heap.size, 0, none⟩) (show w.heap.size < _ by omega)).trans c0
        have e1 := (hB.cell (p := ⟨w.heap.size, 1, none⟩) (show w.heap.size < _ by omega)).trans c1
        have e2 := (hB.cell (p := ⟨w.heap.size, 2, none⟩) (show w.heap.size < _ by omega)).trans c2
        have e3 := (hB.cell (p := ⟨w.heap.size, 3, none⟩) (show w.heap.size < _ by omega)).trans c3
        by_cases hfl : f < g.ns.length
        · have hfl2 : (f : Int) < (g.ns.length : Int) := by omega
          have hco := rcomes_any ta na ra tc nc rc g f k _ (hR1.below hB (Nat.le_refl _)) hg hgd hfl hlt
          cases hcb : comesB g f k with
          | true =>
            have E : Hid (putN (fun f => comesB g f k) (f + 1) = putN (fun f => comesB g f k) f ||| 2 ^ f) := by
              show (if comesB g f k = true then _ else _) = _
              rw [if_pos hcb]
            have p1 := put_small hgd (fun f => comesB g f k) hf
            have p2 := pow_small hgd hfl
            have hw := wrap_pow (k := f) (by omega)
            have hw2 : IntKind.u64.wrap (f : Int) = (f : Int) := wrapU (by omega) (by omega)
            have hor : bits .or .u64 (putN (fun f => comesB g f k) f : Int) ((2 ^ f : Nat) : Int) = ((putN (fun f => comesB g f k) f ||| 2 ^ f : Nat) : Int) := u64_or_nat _ _ (by omega) (by omega)
            rw [← E.out, show ((2 ^ f : Nat) : Int) = (2 : Int) ^ f by simp] at hor
            have hor2 : Hid (bits .or .u64 (putN (fun f => comesB g f k) f : Int) ((2 : Int) ^ f) = (putN (fun f => comesB g f k) (f + 1) : Int)) := hor
            rw [hcb] at hco
            clear E hcb hor p1 p2
            go_wp2_with fail
            refine hco.mono ?_
            rintro e w2 ⟨rfl, hb2⟩
            have hown3 := GramApart.own_below hown2 hb2
            have hB2 := hB.trans (hb2.mono hsk)
            clear hown2 hown
            go_wp2
            go_roundw
            case rel => exact ⟨f + 1, by omega, by go_num, congrArg (Value.int .u64) hor2.out, hown3, hB2⟩
            case measure => simp [intOf]; omega
          | false =>
            have E : putN (fun f => comesB g f k) (f + 1) = putN (fun f => comesB g f k) f := by
              show (if comesB g f k = true then _ else _) = _
              rw [if_neg (by rw [hcb]; decide)]
            have hEI : Hid ((putN (fun f => comesB g f k) f : Int) = (putN (fun f => comesB g f k) (f + 1) : Int)) := by show _ = _; rw [E]
            rw [hcb] at hco
            clear E hcb
            go_wp2_with fail
            refine hco.mono ?_
            rintro e w2 ⟨rfl, hb2⟩
            have hown3 := GramApart.own_below hown2 hb2
            have hB2 := hB.trans (hb2.mono hsk)
            clear hown2 hown
            go_wp2
            go_roundw
            case rel => exact ⟨f + 1, by omega, by go_num, congrArg (Value.int .u64) hEI.out, hown3, hB2⟩
            case measure => simp [intOf]; omega
        · obtain rfl : f = g.ns.length := by omega
          have hnl : ¬ (g.ns.length : Int) < (g.ns.length : Int) := by omega
          have EV : putN (fun f => comesB g f k) g.ns.length = abV g k := rfl
          rw [EV]
          clear hown e0 e2 e3 EV
          go_wp2_with (at_builtin; refine wpList_append_own _ rfl (.tmp 40) (.tmp 42) 46 rfl w1.heap.size 106 i0 (.int .u64 0) 1 8 Tryd.underlying46 hi hz0 hz1 hz2 rfl (by decide) _ _ _ rfl (hown2.alloc _) ⟨_, 0, none⟩ 1 1 [.int .u64 (abV g k : Int)] rfl rfl (cell_one_new _ _ _) (by simp [Value.oneCell']) (by unfold maxLen; omega) (by omega) (by simp; omega) ?_; intro v2 w4 hown4 hgrow4 _)
          have O2 : w4.ownsRow w1.heap.size 106 1 v2 (k + 1) ((List.range (k + 1)).map (fun j => .int .u64 (abV g j : Int))) := by
            rw [List.range_succ, List.map_append]
            exact hown4
          have B2 : Below w1.heap.size w1 w4 := (hB.alloc hsk _).grown hgrow4 (by simp; omega) (fun j hj => (hown2.lt j hj).1)
          clear hown4 hgrow4 hown2
          go_roundw
          case rel => exact ⟨k + 1, by omega, by go_num, O2, B2⟩
          case measure => simp [intOf]; omega
    · obtain rfl : k = g.ns.length := by omega
      have hnl : ¬ (g.ns.length : Int) < (g.ns.length : Int) := by omega
      obtain ⟨b, c, rfl⟩ := ownsRow_succ (k := g.ns.length - 1) (by rw [Nat.sub_add_cancel (by omega)]; exact hown)
      rw [Nat.sub_add_cancel (by omega)] at hown ⊢
      have hU : URow wr (some ⟨b, 0, none⟩) g.ns.length (abV g) := fun i hi => ⟨b, 0, rfl, by
        rw [Nat.zero_add, hown.cellAt i (by omega), List.getElem?_map, List.getElem?_range hi]
        rfl⟩
      clear hown
      go_wp2
      go_ret
      exact ⟨⟨b, ⟨c, rfl⟩, abV g, hU, put_above hgd⟩, hB0.trans (hB.mono (by omega))⟩

end Go.Proofs.YtpnnfocmjkccoaaDoor.GramRef
