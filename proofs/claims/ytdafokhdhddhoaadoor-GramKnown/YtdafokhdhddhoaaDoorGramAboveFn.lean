/-
  Above: the program's sets, for every grammar that may be; no sets for the others.
-/
import Derived.Test.YtdafokhdhddhoaaDoorGramBase
import Derived.Test.YtdafokhdhddhoaaDoorBaseMath
import Derived.Laws.BitsAllLaws
import Derived.Laws.OwnMore
namespace Go.Proofs.YtdafokhdhddhoaaDoor.GramAboveFn
open Go.RowKit Go.Proofs.YtdafokhdhddhoaaDoor.GramMath Go.Proofs.YtdafokhdhddhoaaDoor.GramRow Go.Proofs.YtdafokhdhddhoaaDoor.GramOne Go.Proofs.YtdafokhdhddhoaaDoor.GramCheck
set_option linter.unusedVariables false

/-- Sets in a row of their own. -/
def VRow (w : World) (b n : Nat) (V : Nat → Nat) : Prop := ∀ i, i < n → w.cell? ⟨b, i, none⟩ = some (.int .u64 (V i : Int)) ∧ w.frozen? ⟨b, i, none⟩ = false

theorem VRow.below {w w' : World} {b n B : Nat} {V : Nat → Nat} (h : VRow w b n V) (hb : Below B w w') (hB : b < B) : VRow w' b n V := fun i hi =>
  ⟨(hb.cell (p := ⟨b, i, none⟩) hB).trans (h i hi).1, (hb.frozen (p := ⟨b, i, none⟩) hB).trans (h i hi).2⟩

theorem VRow.congr {w : World} {b n : Nat} {V U : Nat → Nat} (h : VRow w b n V) (e : ∀ i, i < n → V i = U i) : VRow w b n U := fun i hi => by rw [← e i hi]; exact h i hi

theorem VRow.set {w : World} {b n t x : Nat} {V : Nat → Nat} (h : VRow w b n V) (ht : t < n) : VRow (w.setCell ⟨b, t, none⟩ (.int .u64 (x : Int))) b n (upd V t x) := fun i hi => by
  refine ⟨?_, by rw [World.frozen?_setCell]; exact (h i hi).2⟩
  by_cases e : i = t
  · subst e
    rw [upd_at]
    exact World.cell?_setCell_same (h := (h i hi).1) ..
  · rw [upd_ne _ _ e, World.cell?_setCell_other (h := show (⟨b, t, none⟩ : Addr) ≠ ⟨b, i, none⟩ from fun h => e (by cases h; rfl))]
    exact (h i hi).1

set_option maxRecDepth 100000 in
set_option maxHeartbeats 4000000 in
theorem widen_any (b : Nat) (ra : Option Addr) (rc : Nat) (g : G) (V : Nat → Nat) (w0 w : World) (hg : GoodG g) (ho : okG g) (hR : RRow w0 ra g.rs) (hb0 : w0.heap.size ≤ b) (hB0 : Below b w0 w) (hbw : b < w.heap.size) (hV : Inv g V) (hrow : VRow w b g.ns.length V) :
    Calls Tryd.prog 54 #[.slice (some ⟨b, 0, none⟩) g.ns.length g.ns.length, .slice ra g.rs.length rc] w fun e w' => (∃ q V', e = .returned (.bool q) ∧ VRow w' b g.ns.length V' ∧ Inv g V' ∧ (q = true → sumV V g.ns.length < sumV V' g.ns.length) ∧ (q = false → ∀ r ∈ g.rs, Shut V' r)) ∧ Below b w w' := by
  obtain ⟨g1, g2, g3, _, g5, _⟩ := id ho
  have hfew := hg.few
  go_enter Tryd.func54, Tryd.ntmps54
  go_wp2
  go_loopw [5, 13] (fun gr i wr => ∃ (k : Nat) (q : Bool) (U : Nat → Nat), k ≤ g.rs.length ∧ i = .int .i64 k ∧ gr = .bool q ∧ VRow wr b g.ns.length U ∧ Inv g U ∧ Hid ((q = true → sumV V g.ns.length < sumV U g.ns.length) ∧ (sumV V g.ns.length ≤ sumV U g.ns.length) ∧ (q = false → ∀ j r, j < k → g.rs[j]? = some r → Shut U r)) ∧ Below b w wr) (fun _ i _ => g.rs.length - (intOf i).toNat)
  case atStart => exact ⟨0, false, V, by omega, rfl, rfl, hrow, hV, ⟨fun h => (by cases h), Nat.le_refl _, fun _ j r hj => by omega⟩, Below.refl _ _⟩
  case round =>
    clear hrow hV
    obtain ⟨k, q, U, hk, rfl, rfl, hrow, hU, hQ, hB⟩ := hrel
    have hBk := hB0.trans hB
    have hszk := hB.size
    have hbk : b < wr.heap.size := by omega
    have hRk := hR.below hBk hb0
    by_cases hlt : k < g.rs.length
    · obtain ⟨r, hr⟩ : ∃ r, g.rs[k]? = some r := ⟨g.rs[k], List.getElem?_eq_getElem hlt⟩
      obtain ⟨b1, off, qa, qc, hra, d0, d1, hI⟩ := hRk k r hr
      subst hra
      have hlt2 : (k : Int) < (g.rs.length : Int) := by omega
      have hrm := List.mem_of_getElem? hr
      have hok := g5 r hrm
      have hBa : Below wr.heap.size wr (wr.alloc (.cells #[.int .i64 r.left, .slice qa r.right.length qc] 52)) := (Below.refl _ _).alloc (Nat.le_refl _) _
      have hren := renaming_any qa qc r _ (hI.below hBa (Nat.le_refl _)) hok
      have hka : (wr.alloc (.cells #[.int .i64 r.left, .slice qa r.right.length qc] 52)).heap.size = wr.heap.size + 1 := by simp
      have f0 : (wr.alloc (.cells #[.int .i64 r.left, .slice qa r.right.length qc] 52)).cell? ⟨wr.heap.size, 0, none⟩ = some (.int .i64 r.left) := by simp
      cases hrb : renB r with
      | false =>
        rw [hrb, ren_false hrb] at hren
        have hQ2 : Hid ((q = true → sumV V g.ns.length < sumV U g.ns.length) ∧ (sumV V g.ns.length ≤ sumV U g.ns.length) ∧ (q = false → ∀ j r, j < k + 1 → g.rs[j]? = some r → Shut U r)) := ⟨hQ.out.1, hQ.out.2.1, fun hq j r' hj hj2 => by
          by_cases e : j = k
          · subst e
            rw [hr] at hj2
            obtain rfl := Option.some.inj hj2
            intro h
            rw [hrb] at h
            cases h
          · exact hQ.out.2.2 hq j r' (by omega) hj2⟩
        clear hQ hR hRk hr hI hrb
        go_wp2_with fail
        refine hren.mono ?_
        rintro e w2 ⟨rfl, hb2⟩
        have hB3 : Below wr.heap.size wr w2 := hBa.trans (hb2.mono (by omega))
        go_wp2
        go_roundw
        case rel => exact ⟨k + 1, q, U, by omega, by go_num, rfl, hrow.below hB3 hbk, hU, hQ2, hB.trans (hB3.mono (by omega))⟩
        case measure => simp [intOf]; omega
      | true =>
        obtain ⟨_, h2, h3, h4⟩ := ruleK_ok (hg.each r hrm)
        obtain ⟨x, hx, hx0, hxn⟩ := ren_true hrb
        have h5 := h4 x (by rw [hx]; simp)
        obtain ⟨t, ht⟩ : ∃ t : Nat, renN r = (t : Int) := ⟨(renN r).toNat, by omega⟩
        obtain ⟨l, hl⟩ : ∃ l : Nat, r.left = (l : Int) := ⟨r.left.toNat, by omega⟩
        have htn : t < g.ns.length := by omega
        have hln : l < g.ns.length := by omega
        have hU2 := inv_step hg hU hrm hrb
        rw [ht, hl] at hU2
        simp only [Int.toNat_natCast] at hU2
        have hut := inv_small hg hU htn
        have hul := inv_small hg hU hln
        have hor : bits .or .u64 (U t : Int) (U l : Int) = ((U t ||| U l : Nat) : Int) := u64_or_nat _ _ (by omega) (by omega)
        have hge : U t ≤ U t ||| U l := or_ge _ _
        have hshut : Shut U r ↔ U t ||| U l = U t := by
          unfold Shut
          rw [ht, hl]
          simp only [Int.toNat_natCast]
          exact ⟨fun h => h hrb, fun h _ => h⟩
        have hQ2 : Hid (∀ q2 : Bool, q2 = (q || !decide (U t ||| U l = U t)) → (q2 = true → sumV V g.ns.length < sumV (upd U t (U t ||| U l)) g.ns.length) ∧ (sumV V g.ns.length ≤ sumV (upd U t (U t ||| U l)) g.ns.length) ∧ (q2 = false → ∀ j r, j < k + 1 → g.rs[j]? = some r → Shut (upd U t (U t ||| U l)) r)) := by
          intro q2 hq2
          have hle : sumV U g.ns.length ≤ sumV (upd U t (U t ||| U l)) g.ns.length := sumV_le fun i _ => by
            by_cases e : i = t
            · subst e; rw [upd_at]; exact hge
            · rw [upd_ne _ _ e]; exact Nat.le_refl _
          refine ⟨fun h => ?_, Nat.le_trans hQ.out.2.1 hle, fun h => ?_⟩
          · rw [h] at hq2
            cases q with
            | true => exact Nat.lt_of_lt_of_le (hQ.out.1 rfl) hle
            | false =>
              have hne : U t ||| U l ≠ U t := by simpa using hq2.symm
              refine Nat.lt_of_le_of_lt hQ.out.2.1 (sumV_lt (fun i _ => ?_) ⟨t, htn, by rw [upd_at]; omega⟩)
              by_cases e : i = t
              · subst e; rw [upd_at]; exact hge
              · rw [upd_ne _ _ e]; exact Nat.le_refl _
          · rw [h] at hq2
            have hq3 : q = false ∧ U t ||| U l = U t := by simpa using hq2.symm
            have hid : upd U t (U t ||| U l) = U := by
              funext i
              by_cases e : i = t
              · subst e; rw [upd_at]; exact hq3.2
              · rw [upd_ne _ _ e]
            rw [hid]
            intro j r' hj hj2
            by_cases e : j = k
            · subst e
              rw [hr] at hj2
              obtain rfl := Option.some.inj hj2
              exact hshut.2 hq3.2
            · exact hQ.out.2.2 hq3.1 j r' (by omega) hj2
        rw [hrb, ht, hl] at hren
        rw [hl] at d0 f0 hBa hka
        clear hQ hR hRk hr hI hrb hshut h4 hx
        generalize U t ||| U l = y at *
        have hy : (y : Int) < 18446744073709551616 := by
          have := inv_small hg hU2 htn
          rw [upd_at] at this
          omega
        have htn2 : (t : Int) < (g.ns.length : Int) := by omega
        have hln2 : (l : Int) < (g.ns.length : Int) := by omega
        have hfin : ∀ w2 q2, Below wr.heap.size wr w2 → q2 = (q || !decide (y = U t)) → ∃ (k' : Nat) (q' : Bool) (U' : Nat → Nat), k' ≤ g.rs.length ∧ Value.int .i64 ((k : Int) + 1) = .int .i64 k' ∧ Value.bool q2 = .bool q' ∧ VRow (w2.setCell ⟨b, t, none⟩ (.int .u64 (y : Int))) b g.ns.length U' ∧ Inv g U' ∧ Hid ((q' = true → sumV V g.ns.length < sumV U' g.ns.length) ∧ (sumV V g.ns.length ≤ sumV U' g.ns.length) ∧ (q' = false → ∀ j r, j < k' → g.rs[j]? = some r → Shut U' r)) ∧ Below b w (w2.setCell ⟨b, t, none⟩ (.int .u64 (y : Int))) := fun w2 q2 hb hq =>
          ⟨k + 1, q2, _, by omega, by go_num, rfl, (hrow.below hb hbk).set htn, hU2, hQ2.out q2 hq, (hB.trans (hb.mono (by omega))).setCell (Nat.le_refl _) _⟩
        have hfin2 : Hid (_) := hfin
        clear hfin hQ2 hU2
        have hct := (hrow t htn)
        have hcl := (hrow l hln)
        go_wp2_with fail
        refine hren.mono ?_
        rintro e w2 ⟨rfl, hb2⟩
        have hB3 : Below wr.heap.size wr w2 := hBa.trans (hb2.mono (by omega))
        have k1 := (hB3.cell (p := ⟨b, t, none⟩) hbk).trans hct.1
        have k2 := (hB3.cell (p := ⟨b, l, none⟩) hbk).trans hcl.1
        have k3 := (hB3.frozen (p := ⟨b, t, none⟩) hbk).trans hct.2
        have k4 := (hb2.cell (p := ⟨wr.heap.size, 0, none⟩) (show wr.heap.size < _ by omega)).trans f0
        clear hct hcl d0 d1 f0 hrow hren hU
        cases q with
        | true =>
          go_wp2
          go_quiet (fail)
          go_wp2
          go_roundw
          case rel => exact hfin2.out _ _ (bdrew hB3 _) rfl
          case measure => simp [intOf]; omega
        | false =>
          by_cases hyt : y = U t
          · have hyt2 : ((y : Int) != (U t : Int)) = false := by simp; omega
            have hq2 : Hid (false = (false || !decide (y = U t))) := by show _ = _; simp [hyt]
            clear hyt
            go_wp2
            go_quiet (fail)
            go_wp2
            go_roundw
            case rel => exact hfin2.out _ _ (bdrew hB3 _) hq2.out
            case measure => simp [intOf]; omega
          · have hyt2 : ((y : Int) != (U t : Int)) = true := by simp; omega
            have hq2 : Hid (true = (false || !decide (y = U t))) := by show _ = _; simp [hyt]
            clear hyt
            go_wp2
            go_quiet (fail)
            go_wp2
            go_roundw
            case rel => exact hfin2.out _ _ (bdrew hB3 _) hq2.out
            case measure => simp [intOf]; omega
    · have hQ2 : Hid ((q = true → sumV V g.ns.length < sumV U g.ns.length) ∧ (q = false → ∀ r ∈ g.rs, Shut U r)) := ⟨hQ.out.1, fun hq r hr => by
        obtain ⟨j, hj, rfl⟩ := List.getElem_of_mem hr
        exact hQ.out.2.2 hq j _ (by omega) (List.getElem?_eq_getElem hj)⟩
      clear hQ hR hRk
      go_wp2
      go_ret
      exact ⟨⟨q, U, rfl, hrow, hU, hQ2.out.1, hQ2.out.2⟩, hB⟩

set_option maxRecDepth 100000 in
set_option maxHeartbeats 4000000 in
theorem above_bad (ta na ra : Option Addr) (tc nc rc : Nat) (g : G) (p : Nat → Addr) (w : World) (hG : GRow w ta na ra g) (hg : okG g) (htc : g.ts.length ≤ tc) (hnc : g.ns.length ≤ nc) (hS : Sents w p) (hbad : (checkG g).1 ≠ 0) :
    Calls Tryd.prog 38 #[.agg #[.slice ta g.ts.length tc, .slice na g.ns.length nc, .int .i64 g.ax, .slice ra g.rs.length rc]] w fun e w' => e = .returned (.slice none 0 0) ∧ Below w.heap.size w w' := by
  have hneq := neq_nil
  have hB1 : Below w.heap.size w (w.alloc (.cells #[.slice ta g.ts.length tc, .slice na g.ns.length nc, .int .i64 g.ax, .slice ra g.rs.length rc] 35)) := (Below.refl _ _).alloc (Nat.le_refl _) _
  have hck := check_any ta na ra tc nc rc g p _ (hG.below hB1 (Nat.le_refl _)) hg htc hnc (hS.below hB1 (Nat.le_refl _))
  go_enter Tryd.func38, Tryd.ntmps38
  go_wp2_with fail
  refine hck.mono ?_
  rintro e w1 ⟨⟨v, rfl, hv⟩, hb1⟩
  obtain ⟨t, u, rfl⟩ : ∃ t u, v = .iface t u := by
    revert hv hbad
    generalize checkG g = z
    intro hbad hv
    match z, hbad, hv with
    | (0, _), h, _ => exact absurd rfl h
    | (k + 1, none), _, h => exact ⟨_, _, h⟩
    | (k + 1, some i), _, ⟨b, _, h, _⟩ => exact ⟨_, _, h⟩
  go_wp2
  go_ret
  exact ⟨rfl, hB1.trans (hb1.mono (by simp))⟩

theorem infoU : (Tryd.prog.info? 79).map (fun i => (i.zero, i.size, i.bytes)) = some (some (.int .u64 0), 1, 8) := by kernel_rfl

theorem made_any (n : Nat) (hn : n ≤ 60) (w : World) : (Instr.makeSlice 76 (.int .i64 (n : Int)) (.int .i64 (n : Int))).run Tryd.prog w = .ok (.slice (some ⟨w.heap.size, 0, none⟩) n n) (w.alloc (.cells (madeCells #[.int .u64 0] n) 79)) := by
  obtain ⟨i0, hi, hz0, hz1, hz2⟩ := info_parts infoU
  have h := run_makeSlice (P := Tryd.prog) w 76 79 i0 (.int .u64 0) Tryd.underlying76 hi hz0 .i64 .i64 (n : Int) (n : Int) (by omega) (by omega) (by rw [hz1]; omega) (by rw [hz2]; omega) (by omega)
  rw [hz1] at h
  simpa [Value.cells] using h

theorem made_row (n : Nat) (w : World) : VRow (w.alloc (.cells (madeCells #[.int .u64 0] n) 79)) w.heap.size n (fun i => if i < 0 then 2 ^ i else 0) := fun i hi => by
  refine ⟨?_, by simp⟩
  have h := World.cell?_alloc_mark w (madeCells #[.int .u64 0] n) 79 (0, 0) i
  rw [show (w.alloc (.cells (madeCells #[.int .u64 0] n) 79)).cell? ⟨w.heap.size, i, none⟩ = (madeCells #[.int .u64 0] n)[i]? from h]
  rw [← Array.getElem?_toList, toList_madeCells_one, List.getElem?_replicate, if_pos hi]
  simp

theorem wrap_pow {k : Nat} (h : k < 60) : IntKind.u64.wrap (2 ^ k) = ((2 ^ k : Nat) : Int) := by
  have h1 : 2 ^ k < 2 ^ 60 := Nat.pow_lt_pow_right (by omega) h
  have h2 : 2 ^ 60 = 1152921504606846976 := by decide
  have h3 : ((2 ^ k : Nat) : Int) = (2 : Int) ^ k := by simp
  rw [← h3, IntKind.wrap_u64]
  generalize 2 ^ k = y at *
  omega

def cellN (w : World) (b i : Nat) : Nat :=
  match w.cell? ⟨b, i, none⟩ with
  | some (.int _ z) => z.toNat
  | _ => 0

theorem cellN_row {w : World} {b n : Nat} {V : Nat → Nat} (h : VRow w b n V) (i : Nat) (hi : i < n) : cellN w b i = V i := by
  unfold cellN
  rw [(h i hi).1]
  simp

set_option maxRecDepth 100000 in
set_option maxHeartbeats 4000000 in
theorem above_good (ta na ra : Option Addr) (tc nc rc : Nat) (g : G) (p : Nat → Addr) (w : World) (hG : GRow w ta na ra g) (hg : okG g) (htc : g.ts.length ≤ tc) (hnc : g.ns.length ≤ nc) (hS : Sents w p) (hgood : checkG g = (0, none)) :
    Calls Tryd.prog 38 #[.agg #[.slice ta g.ts.length tc, .slice na g.ns.length nc, .int .i64 g.ax, .slice ra g.rs.length rc]] w fun e w' => (∃ b V, e = .returned (.slice (some ⟨b, 0, none⟩) g.ns.length g.ns.length) ∧ w.heap.size ≤ b ∧ b < w'.heap.size ∧ VRow w' b g.ns.length V ∧ IsAbove g V) ∧ Below w.heap.size w w' := by
  have hneq := neq_nil
  have hgd := good_of (g := g) (by rw [hgood])
  have hfew := hgd.few
  have hB1 : Below w.heap.size w (w.alloc (.cells #[.slice ta g.ts.length tc, .slice na g.ns.length nc, .int .i64 g.ax, .slice ra g.rs.length rc] 35)) := (Below.refl _ _).alloc (Nat.le_refl _) _
  have hck := check_any ta na ra tc nc rc g p _ (hG.below hB1 (Nat.le_refl _)) hg htc hnc (hS.below hB1 (Nat.le_refl _))
  rw [hgood] at hck
  have hsz : (w.alloc (.cells #[.slice ta g.ts.length tc, .slice na g.ns.length nc, .int .i64 g.ax, .slice ra g.rs.length rc] 35)).heap.size = w.heap.size + 1 := by simp
  have b1 : (w.alloc (.cells #[.slice ta g.ts.length tc, .slice na g.ns.length nc, .int .i64 g.ax, .slice ra g.rs.length rc] 35)).cell? ⟨w.heap.size, 1, none⟩ = some (.slice na g.ns.length nc) := by simp
  have b3 : (w.alloc (.cells #[.slice ta g.ts.length tc, .slice na g.ns.length nc, .int .i64 g.ax, .slice ra g.rs.length rc] 35)).cell? ⟨w.heap.size, 3, none⟩ = some (.slice ra g.rs.length rc) := by simp
  go_enter Tryd.func38, Tryd.ntmps38
  go_wp2_with fail
  refine hck.mono ?_
  rintro e w1 ⟨⟨v, rfl, hv⟩, hb1⟩
  obtain rfl : v = .nilIface := hv
  rw [hsz] at hb1
  have c1 := (hb1.cell (p := ⟨w.heap.size, 1, none⟩) (by simp)).trans b1
  have c3 := (hb1.cell (p := ⟨w.heap.size, 3, none⟩) (by simp)).trans b3
  clear hck b1 b3
  have hmk := fun W => made_any g.ns.length (by omega) W
  have hB0 : Below w.heap.size w w1 := hB1.trans (hb1.mono (by omega))
  have hG1 := hG.below hB0 (Nat.le_refl _)
  have hs1 := hb1.size
  rw [hsz] at hs1
  have hrow0 := made_row g.ns.length w1
  have hBm : Below w1.heap.size w1 (w1.alloc (.cells (madeCells #[.int .u64 0] g.ns.length) 79)) := (Below.refl _ _).alloc (Nat.le_refl _) _
  have hsm : (w1.alloc (.cells (madeCells #[.int .u64 0] g.ns.length) 79)).heap.size = w1.heap.size + 1 := by simp
  clear hG
  go_wp2
  generalize w1.alloc (.cells (madeCells #[.int .u64 0] g.ns.length) 79) = W2 at *
  clear hmk
  go_loopw [14] (fun i wr => ∃ k : Nat, k ≤ g.ns.length ∧ i = .int .i64 k ∧ VRow wr w1.heap.size g.ns.length (fun i => if i < k then 2 ^ i else 0) ∧ w1.heap.size < wr.heap.size ∧ Below w1.heap.size w1 wr) (fun i _ => g.ns.length - (intOf i).toNat)
  case atStart => exact ⟨0, by omega, rfl, hrow0, by omega, hBm⟩
  case round =>
    clear hrow0 hBm hsm
    obtain ⟨k, hk, rfl, hrow, hbk, hB⟩ := hrel
    by_cases hlt : k < g.ns.length
    · have hlt2 : (k : Int) < (g.ns.length : Int) := by omega
      have hw := wrap_pow (k := k) (by omega)
      obtain ⟨k1, k2⟩ := hrow k hlt
      have hrow2 := (hrow.set (x := 2 ^ k) hlt).congr (U := fun i => if i < k + 1 then 2 ^ i else 0) (fun i hi => by
        unfold upd
        by_cases e : i = k
        · subst e; simp
        · rw [if_neg e]
          show (if i < k then 2 ^ i else 0) = if i < k + 1 then 2 ^ i else 0
          by_cases h : i < k
          · rw [if_pos h, if_pos (by omega)]
          · rw [if_neg h, if_neg (by omega)])
      have hB2 := hB.setCell (p := ⟨w1.heap.size, k, none⟩) (Nat.le_refl _) (.int .u64 ((2 ^ k : Nat) : Int))
      generalize 2 ^ k = y at *
      go_wp2
      go_roundw
      case rel => exact ⟨k + 1, by omega, by go_num, hrow2, by simpa using hbk, hB2⟩
      case measure => simp [intOf]; omega
    · obtain rfl : k = g.ns.length := by omega
      have hV0 : VRow wr w1.heap.size g.ns.length (fun i => 2 ^ i) := hrow.congr (fun i hi => if_pos hi)
      clear hrow
      go_wp2
      go_loopw [] (fun wr2 => ∃ V, VRow wr2 w1.heap.size g.ns.length V ∧ Inv g V ∧ w1.heap.size < wr2.heap.size ∧ Below w1.heap.size w1 wr2) (fun wr2 => g.ns.length * 1152921504606846976 - sumV (cellN wr2 w1.heap.size) g.ns.length)
      case atStart => exact ⟨_, hV0, start_inv g, hbk, hB⟩
      case round =>
        clear hV0 hbk hB
        obtain ⟨V, hrow, hinv, hbk, hB⟩ := hrel
        have c3' := (hB.cell (p := ⟨w.heap.size, 3, none⟩) (show w.heap.size < _ by omega)).trans c3
        have hwd := widen_any w1.heap.size ra rc g V w1 _ hgd hg hG1.2.2 (Nat.le_refl _) hB hbk hinv hrow
        have hs3 : Hid (sumV (cellN wr w1.heap.size) g.ns.length = sumV V g.ns.length) := sumV_congr fun i hi => cellN_row hrow i hi
        clear c1 c3
        go_wp2_with fail
        refine hwd.mono ?_
        rintro e w4 ⟨⟨q, V', rfl, hrow4, hinv4, hq1, hq2⟩, hb4⟩
        have hB4 := hB.trans hb4
        have hs4 := hb4.size
        cases q with
        | true =>
          have hs5 : Hid (sumV (cellN w4 w1.heap.size) g.ns.length = sumV V' g.ns.length) := sumV_congr fun i hi => cellN_row hrow4 i hi
          have hlt4 : Hid (sumV V g.ns.length < sumV V' g.ns.length) := hq1 rfl
          have hbd : Hid (sumV V' g.ns.length ≤ g.ns.length * 1152921504606846976) := sumV_bound fun i hi => Nat.le_of_lt (inv_small hgd hinv4 hi)
          clear hq1 hq2
          go_wp2
          go_roundw
          case rel => exact ⟨V', hrow4, hinv4, by omega, hB4⟩
          case measure =>
            have a1 := hs3.out
            have a2 := hs5.out
            have a3 := hlt4.out
            have a4 := hbd.out
            rw [a1, a2]
            omega
        | false =>
          have hab := shut_above hgd hinv4 (hq2 rfl)
          clear hq1 hq2
          go_wp2
          go_ret
          exact ⟨⟨_, V', rfl, by omega, by omega, hrow4, hab⟩, hB0.trans (hB4.mono (by omega))⟩

end Go.Proofs.YtdafokhdhddhoaaDoor.GramAboveFn
