/-
  Texts that stand together: EndsROf.
-/
import Derived.Test.YtigepihinflkdaaGreatDoorBEndsRIn
import Derived.Test.YtigepihinflkdaaGreatDoorBEndsOfs
import Derived.Test.YtigepihinflkdaaGreatDoorBagMatrixTabs
import Derived.Test.YtigepihinflkdaaGreatDoorBGramKinds
import Derived.Test.YtigepihinflkdaaGreatDoorBUsefulOpen
import Derived.Test.YtigepihinflkdaaGreatDoorBGramRefs
namespace Go.Proofs.YtigepihinflkdaaGreatDoor.EndsRef
open Go.RowKit Go.Proofs.YtigepihinflkdaaGreatDoor.GramMath Go.Proofs.YtigepihinflkdaaGreatDoor.GramRow Go.Proofs.YtigepihinflkdaaGreatDoor.EndsMath Go.Proofs.YtigepihinflkdaaGreatDoor.EndsFn Go.Proofs.YtigepihinflkdaaGreatDoor.EndsConcat Go.Proofs.YtigepihinflkdaaGreatDoor.GramAboveFn Go.Proofs.YtigepihinflkdaaGreatDoor.GramAwake Go.Proofs.YtigepihinflkdaaGreatDoor.GramRef Go.Proofs.YtigepihinflkdaaGreatDoor.GramErrs
set_option linter.unusedVariables false

/-- The set that the document puts together. -/
noncomputable def putE (b : Bool) (g : G) (i : Nat) : Nat := putN (fun t => lftB b g.rs i t) g.ts.length

theorem putE_ends {b : Bool} {g : G} (hg : GoodG g) : IsEnds b g (putE b g) := fun i hi => by
  refine ⟨putN_lt _ _, fun t => ?_⟩
  unfold putE
  rw [putN_bit, Bool.and_eq_true, lftB_iff, decide_eq_true_eq]
  exact ⟨fun h => h.2, fun h => ⟨(h.lt hg).2, h⟩⟩

def setV (V : Nat → Nat) (k : Nat) : List Value := (List.range k).map (fun i => Value.int .u64 (V i : Int))
theorem setV_succ (V : Nat → Nat) (k : Nat) : setV V (k + 1) = setV V k ++ [.int .u64 (V k : Int)] := by simp [setV, List.range_succ]
theorem setV_row {w : World} {base : Nat} {v : Value} {V : Nat → Nat} {n : Nat} (h : w.ownsRow base 113 1 v n (setV V n)) : ∃ a c, v = .slice a n c ∧ URow w a n V := by
  rcases id h with ⟨_, ⟨rfl, rfl⟩ | ⟨g, cap, cur, rfl, _⟩⟩
  · exact ⟨none, 0, rfl, fun i hi => absurd hi (by omega)⟩
  · refine ⟨_, _, rfl, fun i hi => ⟨g, 0, rfl, ?_⟩⟩
    rw [Nat.zero_add, h.cellAt i (by omega)]
    simp [setV, hi]

theorem pow_small {t : Nat} (h : t < 60) : 2 ^ t < 1152921504606846976 := by
  have h1 := Nat.pow_lt_pow_right (a := 2) (by omega) h
  have h2 : 2 ^ 60 = 1152921504606846976 := by decide
  omega
theorem put_small {p : Nat → Bool} {t : Nat} (h : t ≤ 60) : putN p t < 1152921504606846977 := by
  have h0 := putN_lt p t
  have h1 : 2 ^ t ≤ 2 ^ 60 := Nat.pow_le_pow_right (by omega) h
  have h2 : 2 ^ 60 = 1152921504606846976 := by decide
  omega

set_option maxRecDepth 100000 in
set_option maxHeartbeats 4000000 in
theorem rsets_any (bb : Bool) (ta na ra : Option Addr) (tc nc rc : Nat) (g : G) (w : World) (hR : RRow w ra g.rs) (ho : okG g) (hg : GoodG g) :
    Calls Tryz.prog 61 #[.agg #[.slice ta g.ts.length tc, .slice na g.ns.length nc, .int .i64 g.ax, .slice ra g.rs.length rc], .bool bb] w fun e w' => (∃ a c, e = .returned (.slice a g.ns.length c) ∧ URow w' a g.ns.length (putE bb g)) ∧ Below w.heap.size w w' := by
  have hfew := hg.few
  obtain ⟨i0, hi, hz0, hz1, hz2⟩ := info_parts infoU
  have hB1 : Below w.heap.size w (w.alloc (.cells #[.slice ta g.ts.length tc, .slice na g.ns.length nc, .int .i64 g.ax, .slice ra g.rs.length rc] 25)) := (Below.refl _ _).alloc (Nat.le_refl _) _
  have hbx := UsefulTop.rowNew w #[.slice ta g.ts.length tc, .slice na g.ns.length nc, .int .i64 g.ax, .slice ra g.rs.length rc] 25
  have hz : (w.alloc (.cells #[.slice ta g.ts.length tc, .slice na g.ns.length nc, .int .i64 g.ax, .slice ra g.rs.length rc] 25)).heap.size = w.heap.size + 1 := by simp
  have hR1 := hR.below hB1 (Nat.le_refl _)
  go_enter Tryz.func61, Tryz.ntmps61
  go_wp2
  generalize w.alloc (.cells #[.slice ta g.ts.length tc, .slice na g.ns.length nc, .int .i64 g.ax, .slice ra g.rs.length rc] 25) = W1 at *
  go_loopw [5, 6] (fun v i wr => ∃ k : Nat, k ≤ g.ns.length ∧ i = .int .i64 k ∧ wr.ownsRow (w.heap.size + 1) 113 1 v k (setV (putE bb g) k) ∧ Below (w.heap.size + 1) W1 wr) (fun _ i _ => g.ns.length - (intOf i).toNat)
  case atStart => exact ⟨0, by omega, rfl, World.ownsRow_nil _ _ _ _, Below.refl _ _⟩
  case round =>
    obtain ⟨k, hk, rfl, hown, hB⟩ := hrel
    have hb1 := hbx.below hB (by omega)
    have hszr := hB.size
    by_cases hlt : k < g.ns.length
    · have hlt2 : (k : Int) < (g.ns.length : Int) := by omega
      have a1 := hb1.cell (q := 1) rfl
      go_wp2
      clear a1
      obtain ⟨w2, rfl⟩ : ∃ w2, w2 = wr := ⟨_, rfl⟩
      go_loopw [7, 8] (fun s j wr => ∃ q : Nat, q ≤ g.ts.length ∧ j = .int .i64 q ∧ s = .int .u64 (putN (fun t => lftB bb g.rs k t) q : Int) ∧ Below w2.heap.size w2 wr) (fun _ j _ => g.ts.length - (intOf j).toNat)
      case atStart => exact ⟨0, by omega, rfl, rfl, Below.refl _ _⟩
      case round =>
        obtain ⟨q, hq, rfl, rfl, hB2⟩ := hrel
        have hB3 := hB.trans (hB2.mono (by omega))
        have hb2 := hbx.below hB3 (by omega)
        have a0 := hb2.cell (q := 0) rfl
        have a1 := hb2.cell (q := 1) rfl
        have a2 := hb2.cell (q := 2) rfl
        have a3 := hb2.cell (q := 3) rfl
        by_cases hqt : q < g.ts.length
        · have hqt2 : (q : Int) < (g.ts.length : Int) := by omega
          have hin := rin_any bb ta na ra tc nc rc g k q wr (hR1.below hB3 (by omega)) ho hg hlt
          have E1 : Hid (putN (fun t => lftB bb g.rs k t) (q + 1) = if lftB bb g.rs k q = true then putN (fun t => lftB bb g.rs k t) q ||| 2 ^ q else putN (fun t => lftB bb g.rs k t) q) := rfl
          have hps := put_small (p := fun t => lftB bb g.rs k t) (t := q) (by omega)
          have hpw := pow_small (t := q) (by omega)
          have hwp := wrap_pow (k := q) (by omega)
          have hor : bits .or .u64 ((putN (fun t => lftB bb g.rs k t) q : Nat) : Int) ((2 ^ q : Nat) : Int) = ((putN (fun t => lftB bb g.rs k t) q ||| 2 ^ q : Nat) : Int) := u64_or_nat _ _ (by omega) (by omega)
          cases hlb : lftB bb g.rs k q with
          | true =>
            rw [hlb] at hin E1
            have E : Hid (putN (fun t => lftB bb g.rs k t) q ||| 2 ^ q = putN (fun t => lftB bb g.rs k t) (q + 1)) := by show _ = _; rw [E1.out]; rfl
            clear E1 hlb
            generalize putN (fun t => lftB bb g.rs k t) q = P at *
            generalize 2 ^ q = pq at hwp hpw hor E
            go_wp2_with fail
            refine hin.mono ?_
            rintro e w4 ⟨rfl, hb4⟩
            have hB4 := hB2.trans (hb4.mono hB2.size)
            go_wp2
            go_roundw
            case rel => exact ⟨q + 1, by omega, by go_num, by rw [E.out], hB4⟩
            case measure => simp [intOf]; omega
          | false =>
            rw [hlb] at hin E1
            have E : Hid (putN (fun t => lftB bb g.rs k t) q = putN (fun t => lftB bb g.rs k t) (q + 1)) := by show _ = _; rw [E1.out]; rfl
            clear E1 hlb hor
            go_wp2_with fail
            refine hin.mono ?_
            rintro e w4 ⟨rfl, hb4⟩
            have hB4 := hB2.trans (hb4.mono hB2.size)
            go_wp2
            go_roundw
            case rel => exact ⟨q + 1, by omega, by go_num, by rw [E.out], hB4⟩
            case measure => simp [intOf]; omega
        · obtain rfl : q = g.ts.length := by omega
          have hown1 := GramLent.own_below hown hB2
          have hBn : Below wr.heap.size wr (wr.alloc (.cells #[.int .u64 (putE bb g k : Int)] 113)) := (Below.refl _ _).alloc (Nat.le_refl _) _
          have hown2 := GramLent.own_below hown1 hBn
          have hE : Hid (putN (fun t => lftB bb g.rs k t) g.ts.length = putE bb g k) := rfl
          have HK : Hid (∀ (v2 : Value) (w2 : World), w2.ownsRow (w.heap.size + 1) 113 1 v2 (k + 1) (setV (putE bb g) k ++ [.int .u64 (putE bb g k : Int)]) → w2.ownsRow (w.heap.size + 1) 113 1 v2 (k + 1) (setV (putE bb g) (k + 1))) := fun v2 w2 h => by rw [setV_succ]; exact h
          have hsz2 := hB2.size
          rw [hE.out]
          generalize putE bb g k = P at *
          go_wp2_with (at_builtin; refine wpList_append_own _ rfl _ _ 73 rfl (w.heap.size + 1) 113 i0 (.int .u64 0) 1 8 Tryz.underlying73 hi hz0 hz1 hz2 rfl (by decide) _ _ _ rfl hown2 ⟨wr.heap.size, 0, none⟩ 1 1 [.int .u64 (P : Int)] rfl rfl (cell_one_new _ _ _) (by simp [Value.oneCell']) (by unfold maxLen; omega) (by omega) (by simp; omega) ?_; intro v2 w4 hown4 hgrow4 _)
          have hown5 := HK.out _ _ hown4
          have hB5 := (hB3.trans (hBn.mono (by omega))).grown hgrow4 (by simp; omega) (fun j hj => (hown2.lt j hj).1)
          clear HK hE hown4
          go_roundw
          case rel => exact ⟨k + 1, by omega, by go_num, hown5, hB5⟩
          case measure => simp [intOf]; omega
    · obtain rfl : k = g.ns.length := by omega
      have a1 := hb1.cell (q := 1) rfl
      obtain ⟨a, c, rfl, hrow⟩ := setV_row hown
      clear hown
      go_wp2
      go_ret
      exact ⟨⟨a, c, by simp, hrow⟩, hB1.trans (hB.mono (by omega))⟩

/-- What the document's Of answers. -/
def ROfV (g : G) (w : World) (u v : Value) : Prop :=
  ((checkG g).1 = 0 ∧ ∃ a c a' c', u = .slice a g.ns.length c ∧ v = .slice a' g.ns.length c' ∧ URow w a g.ns.length (putE false g) ∧ URow w a' g.ns.length (putE true g)) ∨ ((checkG g).1 ≠ 0 ∧ u = .slice none 0 0 ∧ v = .slice none 0 0)

theorem ret_four {a b : Value} {x x' y y' : Int} (h : x = x') (h2 : y = y') : Ending.returned (.tuple #[a, b, .int .i64 x, .int .i64 y]) = .returned (.tuple #[a, b, .int .i64 x', .int .i64 y']) := by rw [h, h2]

theorem check_none {g : G} (h : (checkG g).1 = 0) : checkG g = (0, none) := by
  have hg := good_of h
  unfold checkG at h ⊢
  have h1 : ¬ (60 < g.ts.length + g.ns.length ∨ 120 < g.rs.length) := by have := hg.few; have := hg.rules; omega
  rw [if_neg h1] at h ⊢
  have h2 : ¬ (named g.ts = false ∨ named g.ns = false) := by rw [hg.nt, hg.nn]; decide
  rw [if_neg h2] at h ⊢
  have h3 : ¬ leftB g.ns.length g.ax = false := by
    have := hg.ax0
    have := hg.ax1
    simp [leftB]
    omega
  rw [if_neg h3] at h ⊢
  exact rulesK_none h

set_option maxRecDepth 100000 in
set_option maxHeartbeats 4000000 in
theorem rof_any (ta na ra : Option Addr) (tc nc rc : Nat) (g : G) (w : World) (hG : GRow w ta na ra g) (ho : okG g) :
    Calls Tryz.prog 37 #[.agg #[.slice ta g.ts.length tc, .slice na g.ns.length nc, .int .i64 g.ax, .slice ra g.rs.length rc]] w fun e w' => (∃ u v, e = .returned (.tuple #[u, v, .int .i64 ((checkG g).1 : Int), .int .i64 (ruI (checkG g).2)]) ∧ ROfV g w' u v) ∧ Below w.heap.size w w' := by
  have hB1 : Below w.heap.size w (w.alloc (.cells #[.slice ta g.ts.length tc, .slice na g.ns.length nc, .int .i64 g.ax, .slice ra g.rs.length rc] 25)) := (Below.refl _ _).alloc (Nat.le_refl _) _
  have hbx := UsefulTop.rowNew w #[.slice ta g.ts.length tc, .slice na g.ns.length nc, .int .i64 g.ax, .slice ra g.rs.length rc] 25
  have hz : (w.alloc (.cells #[.slice ta g.ts.length tc, .slice na g.ns.length nc, .int .i64 g.ax, .slice ra g.rs.length rc] 25)).heap.size = w.heap.size + 1 := by simp
  have hck := rcheck_any ta na ra tc nc rc g _ (hG.below hB1 (Nat.le_refl _)) ho
  go_enter Tryz.func37, Tryz.ntmps37
  go_wp2_with fail
  refine hck.mono ?_
  rintro e w1 ⟨rfl, hb1⟩
  have hB2 := hB1.trans (hb1.mono hB1.size)
  have hbx1 := hbx.below hb1 hbx.lt
  have hWz := hbx1.lt
  clear hck hbx hb1
  by_cases h0 : (checkG g).1 = 0
  · have hgood := good_of h0
    have hcn := check_none h0
    have hR1 := hG.2.2.below hB2 (Nat.le_refl _)
    have c0 := hbx1.cell (q := 0) rfl
    have c1 := hbx1.cell (q := 1) rfl
    have c2 := hbx1.cell (q := 2) rfl
    have c3 := hbx1.cell (q := 3) rfl
    have hd1 := drew_in w1
    have H0 : Hid ((checkG g).1 = 0) := h0
    have HR : Hid ((0 : Int) = ((checkG g).1 : Int) ∧ (-1 : Int) = ruI (checkG g).2) := by rw [hcn]; exact ⟨rfl, rfl⟩
    rw [hcn]
    have hne : (((0 : Nat) : Int) != 0) = false := by simp
    clear h0 hG hcn
    go_wp2_with fail
    have hS : ∀ w', Below w1.heap.size w1 w' → (w'.cell? ⟨w.heap.size, 0, none⟩ = some (.slice ta g.ts.length tc) ∧ w'.cell? ⟨w.heap.size, 1, none⟩ = some (.slice na g.ns.length nc) ∧ w'.cell? ⟨w.heap.size, 2, none⟩ = some (.int .i64 g.ax) ∧ w'.cell? ⟨w.heap.size, 3, none⟩ = some (.slice ra g.rs.length rc)) := fun w' hb => ⟨(hb.cell (p := ⟨w.heap.size, 0, none⟩) hWz).trans c0, (hb.cell (p := ⟨w.heap.size, 1, none⟩) hWz).trans c1, (hb.cell (p := ⟨w.heap.size, 2, none⟩) hWz).trans c2, (hb.cell (p := ⟨w.heap.size, 3, none⟩) hWz).trans c3⟩
    refine wp_region_noPanic ?_
    refine wp_region_held_drew (S := (fun w' => w'.cell? ⟨w.heap.size, 0, none⟩ = some (.slice ta g.ts.length tc) ∧ w'.cell? ⟨w.heap.size, 1, none⟩ = some (.slice na g.ns.length nc) ∧ w'.cell? ⟨w.heap.size, 2, none⟩ = some (.int .i64 g.ax) ∧ w'.cell? ⟨w.heap.size, 3, none⟩ = some (.slice ra g.rs.length rc))) (by kernel_rfl) (hS _ hd1) (fun hHeld => ?_)
    refine wpAnyH_take (i := 0) (v := .agg #[.slice ta g.ts.length tc, .slice na g.ns.length nc, .int .i64 g.ax, .slice ra g.rs.length rc]) rfl (by kernel_rfl) (by kernel_rfl) (by kernel_rfl) (fun _ _ _ h => h) (Or.inl ⟨by rfl, fun w9 hSw => ?_⟩) hHeld ?_
    · obtain ⟨s0, s1, s2, s3⟩ := hSw
      go_simp
    simp only [List.getElem_toArray, List.getElem_cons_zero, Act.put, List.setIfInBounds_toArray, List.set_cons_zero, List.set_cons_succ]
    refine wpAnyH_take (i := 2) (v := .agg #[.slice ta g.ts.length tc, .slice na g.ns.length nc, .int .i64 g.ax, .slice ra g.rs.length rc]) rfl (by kernel_rfl) (by kernel_rfl) (by kernel_rfl) (fun _ _ _ h => h) (Or.inl ⟨by rfl, fun w9 hSw => ?_⟩) hHeld ?_
    · obtain ⟨s0, s1, s2, s3⟩ := hSw
      go_simp
    simp only [List.getElem_toArray, List.getElem_cons_zero, List.getElem_cons_succ, Act.put, List.setIfInBounds_toArray, List.set_cons_zero, List.set_cons_succ]
    refine wpAnyH_ready (rs := [1]) (by kernel_rfl) (by simp) ?_
    refine AllReadyH.cons rfl (fun K hK => ?_) AllReadyH.nil
    go_simp
    refine (rsets_any false ta na ra tc nc rc g _ (hR1.below hd1 (Nat.le_refl _)) ho hgood).mono ?_
    rintro e w2 ⟨⟨a, c, rfl, hl⟩, hb2⟩
    have hC2 := hd1.trans hb2
    refine hK.out _ _ (hS _ hC2) (fun hHeld2 => ?_)
    clear hK K hHeld
    refine wpAnyH_ready (rs := [3]) (by kernel_rfl) (by simp) ?_
    refine AllReadyH.cons rfl (fun K hK => ?_) AllReadyH.nil
    go_simp
    refine (rsets_any true ta na ra tc nc rc g _ (hR1.below hC2 (Nat.le_refl _)) ho hgood).mono ?_
    rintro e w3 ⟨⟨a', c', rfl, hr⟩, hb3⟩
    have hC3 := hC2.trans (hb3.mono hC2.size)
    have hl3 := hl.below hb3 (Nat.le_refl _)
    refine hK.out _ _ (hS _ hC3) (fun hHeld3 => ?_)
    clear hK K hHeld2
    refine wpAnyH_take (i := 4) (v := .slice a g.ns.length c) rfl (by kernel_rfl) (by kernel_rfl) (by kernel_rfl) (fun _ _ _ h => h) (Or.inl ⟨by rfl, fun w9 hSw => ?_⟩) hHeld3 ?_
    · obtain ⟨s0, s1, s2, s3⟩ := hSw
      go_simp
    simp only [List.getElem_toArray, List.getElem_cons_zero, List.getElem_cons_succ, Act.put, List.setIfInBounds_toArray, List.set_cons_zero, List.set_cons_succ]
    refine wpAnyH_take (i := 5) (v := .slice a' g.ns.length c') rfl (by kernel_rfl) (by kernel_rfl) (by kernel_rfl) (fun _ _ _ h => h) (Or.inl ⟨by rfl, fun w9 hSw => ?_⟩) hHeld3 ?_
    · obtain ⟨s0, s1, s2, s3⟩ := hSw
      go_simp
    simp only [List.getElem_toArray, List.getElem_cons_zero, List.getElem_cons_succ, Act.put, List.setIfInBounds_toArray, List.set_cons_zero, List.set_cons_succ]
    refine wpAnyH_take (i := 6) (v := .int .i64 0) rfl (by kernel_rfl) (by kernel_rfl) (by kernel_rfl) (fun _ _ _ h => h) (Or.inl ⟨by rfl, fun w9 hSw => ?_⟩) hHeld3 ?_
    · obtain ⟨s0, s1, s2, s3⟩ := hSw
      go_simp
    simp only [List.getElem_toArray, List.getElem_cons_zero, List.getElem_cons_succ, Act.put, List.setIfInBounds_toArray, List.set_cons_zero, List.set_cons_succ]
    refine wpAnyH_take (i := 7) (v := .int .i64 (-1)) rfl (by kernel_rfl) (by kernel_rfl) (by kernel_rfl) (fun _ _ _ h => h) (Or.inl ⟨by rfl, fun w9 hSw => ?_⟩) hHeld3 ?_
    · obtain ⟨s0, s1, s2, s3⟩ := hSw
      go_simp
    simp only [List.getElem_toArray, List.getElem_cons_zero, List.getElem_cons_succ, Act.put, List.setIfInBounds_toArray, List.set_cons_zero, List.set_cons_succ]
    refine wpAnyH_done (by kernel_rfl) (NoPanic.normal ?_) _
    have hO : Hid (ROfV g w3 (.slice a g.ns.length c) (.slice a' g.ns.length c')) := .inl ⟨H0.out, a, c, a', c', rfl, rfl, hl3, hr⟩
    have hBe := hB2.trans (hC3.mono hB2.size)
    clear hS hR1 hl hr hl3 c0 c1 c2 c3
    go_wp2
    refine bodyPost_ret (v := .tuple #[.slice a g.ns.length c, .slice a' g.ns.length c', .int .i64 0, .int .i64 (-1)]) (by simp [results, Tryz.results37, go_sem]; try rfl) rfl ?_
    exact ⟨⟨_, _, ret_four HR.out.1 HR.out.2, hO.out⟩, hBe⟩
  · have hne : (((checkG g).1 : Int) != 0) = true := by simp; omega
    have hO : Hid (ROfV g w1 (.slice none 0 0) (.slice none 0 0)) := .inr ⟨h0, rfl, rfl⟩
    clear h0
    go_wp2
    refine bodyPost_ret (v := .tuple #[.slice none 0 0, .slice none 0 0, .int .i64 ((checkG g).1 : Int), .int .i64 (ruI (checkG g).2)]) (by simp [results, Tryz.results37, go_sem]; try rfl) rfl ?_
    exact ⟨⟨_, _, rfl, hO.out⟩, hB2⟩

end Go.Proofs.YtigepihinflkdaaGreatDoor.EndsRef
