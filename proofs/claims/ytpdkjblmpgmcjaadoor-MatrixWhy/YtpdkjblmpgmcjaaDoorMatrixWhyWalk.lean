/-
  The walk of MatrixWhy: it answers true for every grammar, pair and relation, and writes nothing that was there.
-/
import Derived.Test.YtpdkjblmpgmcjaaDoorMatrixAwake
import Derived.Test.YtpdkjblmpgmcjaaDoorMatrixWhyFn
import Derived.Test.YtpdkjblmpgmcjaaDoorMatrixRWhy
import Derived.Test.YtpdkjblmpgmcjaaDoorEndsAparts
namespace Go.Proofs.YtpdkjblmpgmcjaaDoor.MatrixWhyW
open Go.RowKit Go.Proofs.YtpdkjblmpgmcjaaDoor.GramMath Go.Proofs.YtpdkjblmpgmcjaaDoor.GramRow Go.Proofs.YtpdkjblmpgmcjaaDoor.GramCheck Go.Proofs.YtpdkjblmpgmcjaaDoor.GramErrs Go.Proofs.YtpdkjblmpgmcjaaDoor.GramAwake Go.Proofs.YtpdkjblmpgmcjaaDoor.GramAboveFn Go.Proofs.YtpdkjblmpgmcjaaDoor.GramApart Go.Proofs.YtpdkjblmpgmcjaaDoor.GramLent Go.Proofs.YtpdkjblmpgmcjaaDoor.EndsMath Go.Proofs.YtpdkjblmpgmcjaaDoor.EndsFn Go.Proofs.YtpdkjblmpgmcjaaDoor.EndsRef Go.Proofs.YtpdkjblmpgmcjaaDoor.EndsAwake Go.Proofs.YtpdkjblmpgmcjaaDoor.GramRef Go.Proofs.YtpdkjblmpgmcjaaDoor.EndsSearch Go.Proofs.YtpdkjblmpgmcjaaDoor.EndsChain Go.Proofs.YtpdkjblmpgmcjaaDoor.EndsRRing Go.Proofs.YtpdkjblmpgmcjaaDoor.EndsWays Go.Proofs.YtpdkjblmpgmcjaaDoor.EndsChainsW Go.Proofs.YtpdkjblmpgmcjaaDoor.EndsApart Go.Proofs.YtpdkjblmpgmcjaaDoor.GramOpen Go.Proofs.YtpdkjblmpgmcjaaDoor.SetsAlg Go.Proofs.YtpdkjblmpgmcjaaDoor.MatrixMath Go.Proofs.YtpdkjblmpgmcjaaDoor.MatrixAwake Go.Proofs.YtpdkjblmpgmcjaaDoor.MatrixWhyMath Go.Proofs.YtpdkjblmpgmcjaaDoor.MatrixWhyFn Go.Proofs.YtpdkjblmpgmcjaaDoor.MatrixReasonsMath Go.Proofs.YtpdkjblmpgmcjaaDoor.MatrixRMath Go.Proofs.YtpdkjblmpgmcjaaDoor.MatrixRWhy Go.Proofs.YtpdkjblmpgmcjaaDoor.MatrixOf Go.Proofs.YtpdkjblmpgmcjaaDoor.GramLess
set_option linter.unusedVariables false
set_option linter.unusedSimpArgs false

theorem lent_caps {w : World} {g1 c1 g2 c2 g3 c3 : Nat} {lq : List Q} {g : G} (h : LentG w g1 c1 g2 c2 g3 c3 lq g) : Caps w (some ⟨g3, 0, none⟩) g.rs.length := fun i hi b off hra qa n qc hc => by
  have hlen : lq.length = g.rs.length := by rw [← h.map]; simp
  obtain ⟨x, hx⟩ : ∃ x, lq[i]? = some x := ⟨lq[i]'(by omega), List.getElem?_eq_getElem (by omega)⟩
  obtain ⟨b', off', ha, _, h2⟩ := (qrow_front h.rs) i x hx
  cases ha
  cases hra
  rw [h2] at hc
  obtain ⟨_, _, _, _, h3, _⟩ := h.each x (List.mem_of_getElem? hx)
  cases hc
  omega
theorem whyR_lens {g : G} {a b x : Int} {z : Nat × Option Nat} {r k : Int} {o : Option (List Int)} (h : WhyR g a b x z r k o) : ∀ c, o = some c → 0 < c.length ∧ c.length ≤ 60 := by
  rcases h with ⟨_, _, _, _, rfl⟩ | ⟨_, _, _, _, _, rfl⟩ | ⟨_, _, _, _, _, _, ⟨_, _, _, _, rfl⟩ | ⟨f, _, _, _, _, ⟨_, rfl⟩ | ⟨_, d, rfl, h⟩ | ⟨_, d, rfl, h⟩⟩⟩
  · intro c hc; cases hc
  · intro c hc; cases hc
  · intro c hc; cases hc
  · intro c hc; cases hc
  · exact chain_lens h
  · exact chain_lens h
theorem whyR_small {g : G} {a b x : Int} {z : Nat × Option Nat} {r k : Int} {o : Option (List Int)} (h : WhyR g a b x z r k o) : (o.getD []).length ≤ 60 := by
  cases o with
  | none => simp
  | some c => exact (whyR_lens h c rfl).2
theorem whyR_z {g : G} {a b x : Int} {z : Nat × Option Nat} {r k : Int} {o : Option (List Int)} (h : WhyR g a b x z r k o) : z.1 ≤ 15 := by
  rcases h with ⟨_, rfl, _⟩ | ⟨_, _, rfl, _⟩ | ⟨_, _, _, _, _, _, ⟨_, rfl, _⟩ | ⟨f, _, rfl, _⟩⟩
  · exact UsefulTop.check_le g
  · decide
  · decide
  · decide
theorem whyR_rule {g : G} {a b x : Int} {z : Nat × Option Nat} {r k : Int} {o : Option (List Int)} (h : WhyR g a b x z r k o) : ruleZ z = ruI z.2 := by
  rcases h with ⟨hne, rfl, _⟩ | ⟨_, _, rfl, _⟩ | ⟨_, _, _, _, _, _, ⟨_, rfl, _⟩ | ⟨f, _, rfl, _⟩⟩
  · revert hne
    generalize checkG g = zz
    intro hne
    obtain ⟨k, r⟩ := zz
    cases k with
    | zero => exact absurd rfl hne
    | succ k => cases r <;> rfl
  · rfl
  · rfl
  · rfl

def pick2 {α : Type} (a b : α) : Nat → α
  | 0 => a
  | _ => b

theorem apart2 (W : World) (A B s1 : Nat) (v0 v1 : Value) (o0 o1 : Option (List Int)) (hA : RowAt W A 27 #[v0, v1]) (h1 : B ≤ s1) (h2 : s1 ≤ A) (hv0 : ChV B W v0 o0) (hv1 : ChV s1 W v1 o1)
    (hb0 : ∀ j, v0.ownBlock = some j → j < s1) (hb1 : ∀ j, v1.ownBlock = some j → j < A) (hl0 : ∀ c, o0 = some c → 0 < c.length ∧ c.length ≤ 60) (hl1 : ∀ c, o1 = some c → 0 < c.length ∧ c.length ≤ 60) :
    Calls Tryd.prog 14 #[.slice (some ⟨A, 0, none⟩) 2 2] W fun e w' => e = .returned (.bool true) ∧ Below B W w' := by
  have hlt := hA.lt
  obtain ⟨a0, N0, C0, g0, rfl, p0, q0, r0, n0, k0⟩ := chv_parts hv0 hl0
  obtain ⟨a1, N1, C1, g1, rfl, p1, q1, r1, n1, k1⟩ := chv_parts hv1 hl1
  have d0 : 0 < N0 → g0 < s1 := fun h => hb0 g0 (k0 h)
  have d1 : 0 < N1 → g1 < A ∧ s1 ≤ g1 := fun h => ⟨hb1 g1 (k1 h), by obtain ⟨xs, hx⟩ := q1 h; obtain ⟨_, _, _, _, hx, _⟩ := own_at hx; exact hx⟩
  refine apart_room B 2 A 2 (pick2 g0 g1) (pick2 N0 N1) (pick2 C0 C1) (pick2 a0 a1) _ W (by omega) (by omega) hA ?_ ?_ ?_ ?_ ?_ ?_ ?_ (by omega)
  · intro j hj
    match j, hj with
    | 0, _ => rfl
    | 1, _ => rfl
  · intro j hj
    match j, hj with
    | 0, _ => exact p0
    | 1, _ => exact p1
  · intro j hj hN
    match j, hj, hN with
    | 0, _, hN => exact q0 hN
    | 1, _, hN =>
      obtain ⟨xs, hx⟩ := q1 hN
      exact ⟨xs, own_base hx h1⟩
  · intro j hj hN
    match j, hj, hN with
    | 0, _, hN => exact r0 hN
    | 1, _, hN => exact r1 hN
  · intro a ha b hb hne hNa hNb
    match a, b, ha, hb, hne, hNa, hNb with
    | 0, 1, _, _, _, hNa, hNb => have := d0 hNa; have := d1 hNb; show g0 ≠ g1; omega
    | 1, 0, _, _, _, hNa, hNb => have := d1 hNa; have := d0 hNb; show g1 ≠ g0; omega
    | 0, 0, _, _, hne, _, _ => exact absurd rfl hne
    | 1, 1, _, _, hne, _, _ => exact absurd rfl hne
  · intro j hj
    match j, hj with
    | 0, _ => exact n0
    | 1, _ => exact n1
  · intro j hj hN
    match j, hj, hN with
    | 0, _, hN => have := d0 hN; show A ≠ g0; omega
    | 1, _, hN => have := d1 hN; show A ≠ g1; omega

set_option maxRecDepth 100000 in
set_option maxHeartbeats 8000000 in
theorem walk (ta na ra : Option Addr) (tc nc rc : Nat) (g : G) (a b x : Int) (p : Nat → Addr) (w : World) (hL : Lendable w ta na ra tc nc g) (hg : okG g) (hE : Errs w p) (hT : ErrType w) (hTb : Tab w) (hTG : 16 < w.heap.size) :
    Calls Tryd.prog 3 #[.agg #[.slice ta g.ts.length tc, .slice na g.ns.length nc, .int .i64 g.ax, .slice ra g.rs.length rc], .int .i64 a, .int .i64 b, .int .i64 x] w fun e w' => e = .returned (.bool true) ∧ Below w.heap.size w w' := by
  have hG := GramOpen.lendable_row hL
  have hB : Below w.heap.size w (w.alloc (.cells #[.slice ta g.ts.length tc, .slice na g.ns.length nc, .int .i64 g.ax, .slice ra g.rs.length rc] 25)) := (Below.refl _ _).alloc (Nat.le_refl _) _
  have hbx := UsefulTop.rowNew w #[.slice ta g.ts.length tc, .slice na g.ns.length nc, .int .i64 g.ax, .slice ra g.rs.length rc] 25
  have hL1 : Lendable (w.alloc (.cells #[.slice ta g.ts.length tc, .slice na g.ns.length nc, .int .i64 g.ax, .slice ra g.rs.length rc] 25)) ta na ra tc nc g := ⟨hL.ts.below hB (Nat.le_refl _), hL.ns.below hB (Nat.le_refl _), hL.rs.below hB (Nat.le_refl _), hL.tn, hL.nn, hL.tm, hL.nm, hL.rm, hL.each⟩
  have hlend := lentG ta na ra tc nc rc g _ hL1
  go_enter Tryd.func3, Tryd.ntmps3
  go_wp2_with fail
  refine hlend.mono ?_
  rintro e w1 ⟨⟨g1, c1, g2, c2, g3, c3, lq, rfl, hlg⟩, hb⟩
  replace hB := hB.trans (hb.mono hB.size)
  replace hbx := hbx.below hb hbx.lt
  clear hlend hL1 hL hb
  have hb : Below w1.heap.size w1 (w1.alloc (.cells #[.slice (some ⟨g1, 0, none⟩) g.ts.length c1, .slice (some ⟨g2, 0, none⟩) g.ns.length c2, .int .i64 g.ax, .slice (some ⟨g3, 0, none⟩) g.rs.length c3] 25)) := (Below.refl _ _).alloc (Nat.le_refl _) _
  have hin := UsefulTop.rowNew w1 #[.slice (some ⟨g1, 0, none⟩) g.ts.length c1, .slice (some ⟨g2, 0, none⟩) g.ns.length c2, .int .i64 g.ax, .slice (some ⟨g3, 0, none⟩) g.rs.length c3] 25
  have htc := Nat.le_of_lt hlg.tc
  have hnc := Nat.le_of_lt hlg.nc
  replace hB := hB.trans (hb.mono hB.size)
  replace hbx := hbx.below hb hbx.lt
  replace hlg := hlg.below hb (Nat.le_refl _)
  clear hb
  have hch := Why_top (some ⟨g1, 0, none⟩) (some ⟨g2, 0, none⟩) (some ⟨g3, 0, none⟩) c1 c2 c3 g a b x p _ hlg.row (lent_caps hlg) hg htc hnc (hE.below hB (Nat.le_refl _)) (SetsEach.Tab.from hTb hB hTG) (Nat.lt_of_lt_of_le hTG hB.size)
  go_wp2_with fail
  generalize w1.alloc (.cells #[.slice (some ⟨g1, 0, none⟩) g.ts.length c1, .slice (some ⟨g2, 0, none⟩) g.ns.length c2, .int .i64 g.ax, .slice (some ⟨g3, 0, none⟩) g.rs.length c3] 25) = W0 at *
  have hK : Below W0.heap.size W0 W0 := Below.refl _ _
  have hB0 := hB
  refine hch.mono ?_
  rintro e w2 ⟨⟨r1, k1, lv1, x1, z1, o1, rfl, hv1, hx1, hR1⟩, hb⟩
  have hz02 := hb.size
  replace hK := hK.trans (hb.mono hK.size)
  replace hB := hB.trans (hb.mono hB.size)
  replace hbx := hbx.below hb hbx.lt
  replace hin := hin.below hb hin.lt
  replace hlg := hlg.below hb (Nat.le_refl _)
  obtain ⟨la1, lc1, rfl, hla1⟩ := chv_row hv1
  have hs1 := chv_lt hv1
  clear hch hb
  have hb : Below w2.heap.size w2 (w2.alloc (.cells #[.int .i64 r1, .int .i64 k1, .slice la1 (o1.getD []).length lc1] 29)) := (Below.refl _ _).alloc (Nat.le_refl _) _
  have hrx := UsefulTop.rowNew w2 #[.int .i64 r1, .int .i64 k1, .slice la1 (o1.getD []).length lc1] 29
  have hz2V := hb.size
  replace hK := hK.trans (hb.mono hK.size)
  replace hB := hB.trans (hb.mono hB.size)
  replace hbx := hbx.below hb hbx.lt
  replace hin := hin.below hb hin.lt
  replace hlg := hlg.below hb (Nat.le_refl _)
  replace hx1 := hx1.below hb (Nat.le_refl _)
  replace hla1 := hla1.below hb (Nat.le_refl _)
  replace hv1 := chv_below hv1 hb (Nat.le_refl _)
  clear hb
  have i0 := hin.cell (q := 0) rfl
  have i1 := hin.cell (q := 1) rfl
  have i2 := hin.cell (q := 2) rfl
  have i3 := hin.cell (q := 3) rfl
  have hch := Why_top (some ⟨g1, 0, none⟩) (some ⟨g2, 0, none⟩) (some ⟨g3, 0, none⟩) c1 c2 c3 g a b x p _ hlg.row (lent_caps hlg) hg htc hnc (hE.below hB (Nat.le_refl _)) (SetsEach.Tab.from hTb hB hTG) (Nat.lt_of_lt_of_le hTG hB.size)
  go_wp2_with fail
  replace hs1 : ∀ j, (Value.slice la1 (o1.getD []).length lc1).ownBlock = some j → j < (w2.alloc (.cells #[.int .i64 r1, .int .i64 k1, .slice la1 (o1.getD []).length lc1] 29)).heap.size := fun j hj => Nat.lt_of_lt_of_le (hs1 j hj) hz2V
  replace hz02 := Nat.le_trans hz02 hz2V
  clear hz2V
  generalize w2.alloc (.cells #[.int .i64 r1, .int .i64 k1, .slice la1 (o1.getD []).length lc1] 29) = V2 at *
  refine hch.mono ?_
  rintro e w3 ⟨⟨r2, k2, lv2, x2, z2, o2, rfl, hv2, hx2, hR2⟩, hb⟩
  have hz23 := hb.size
  obtain ⟨ed1, ed2, ed3, ed4⟩ := whyR_det hR1 hR2
  obtain rfl := ed1
  obtain rfl := ed2
  obtain rfl := ed3
  obtain rfl := ed4
  replace hK := hK.trans (hb.mono hK.size)
  replace hB := hB.trans (hb.mono hB.size)
  replace hbx := hbx.below hb hbx.lt
  replace hin := hin.below hb hin.lt
  replace hlg := hlg.below hb (Nat.le_refl _)
  replace hrx := hrx.below hb hrx.lt
  replace hx1 := hx1.below hb (Nat.le_refl _)
  replace hla1 := hla1.below hb (Nat.le_refl _)
  replace hv1 := chv_below hv1 hb (Nat.le_refl _)
  obtain ⟨la2, lc2, rfl, hla2⟩ := chv_row hv2
  have hs2 := chv_lt hv2
  have hK3 : w3.heap.size ≤ w3.heap.size := Nat.le_refl _
  clear hch hb i0 i1 i2 i3 hx2 hR2
  have hb : Below w3.heap.size w3 (w3.alloc (.cells #[.int .i64 r1, .int .i64 k1, .slice la2 (o1.getD []).length lc2] 29)) := (Below.refl _ _).alloc (Nat.le_refl _) _
  have hry := UsefulTop.rowNew w3 #[.int .i64 r1, .int .i64 k1, .slice la2 (o1.getD []).length lc2] 29
  replace hK3 := Nat.le_trans hK3 hb.size
  replace hK := hK.trans (hb.mono hK.size)
  replace hB := hB.trans (hb.mono hB.size)
  replace hbx := hbx.below hb hbx.lt
  replace hin := hin.below hb hin.lt
  replace hlg := hlg.below hb (Nat.le_refl _)
  replace hrx := hrx.below hb hrx.lt
  replace hx1 := hx1.below hb (Nat.le_refl _)
  replace hla1 := hla1.below hb (Nat.le_refl _)
  replace hla2 := hla2.below hb (Nat.le_refl _)
  replace hv1 := chv_below hv1 hb (Nat.le_refl _)
  replace hv2 := chv_below hv2 hb (Nat.le_refl _)
  clear hb
  have b0 := hbx.cell (q := 0) rfl
  have b1 := hbx.cell (q := 1) rfl
  have b2 := hbx.cell (q := 2) rfl
  have b3 := hbx.cell (q := 3) rfl
  have hrc := rwhy_any ta na ra tc nc rc g a b x _ (hG.below hB (Nat.le_refl _)) hg
  go_wp2_with fail
  generalize w3.alloc (.cells #[.int .i64 r1, .int .i64 k1, .slice la2 (o1.getD []).length lc2] 29) = V3 at *
  refine hrc.mono ?_
  rintro e w4 ⟨⟨r3, k3, rl, rk, z3, o3, rfl, hrl, hRR⟩, hb⟩
  obtain ⟨ed1, ed2, ed3, ed4⟩ := whyR_det hR1 hRR
  obtain rfl := ed1
  obtain rfl := ed2
  obtain rfl := ed3
  obtain rfl := ed4
  replace hK3 := Nat.le_trans hK3 hb.size
  replace hK := hK.trans (hb.mono hK.size)
  replace hB := hB.trans (hb.mono hB.size)
  replace hbx := hbx.below hb hbx.lt
  replace hin := hin.below hb hin.lt
  replace hlg := hlg.below hb (Nat.le_refl _)
  replace hrx := hrx.below hb hrx.lt
  replace hry := hry.below hb hry.lt
  replace hx1 := hx1.below hb (Nat.le_refl _)
  replace hla1 := hla1.below hb (Nat.le_refl _)
  replace hla2 := hla2.below hb (Nat.le_refl _)
  replace hv1 := chv_below hv1 hb (Nat.le_refl _)
  replace hv2 := chv_below hv2 hb (Nat.le_refl _)
  clear hrc hb hRR b0 b1 b2 b3
  have hsm := whyR_small hR1
  have hz := whyR_z hR1
  have ez1 : ((z1.1 : Int) != (z1.1 : Int)) = false := by simp
  have er1 : (ruI z1.2 != ruI z1.2) = false := by simp
  have er2 : (r1 != r1) = false := by simp
  have er3 : (k1 != k1) = false := by simp
  have hkk := kind_ck _ p z1 w4 x1 (hE.below hB (Nat.le_refl _)) hz hx1
  go_wp2_with fail
  refine hkk.mono ?_
  rintro e w5 ⟨rfl, hb⟩
  replace hK3 := Nat.le_trans hK3 hb.size
  replace hK := hK.trans (hb.mono hK.size)
  replace hB := hB.trans (hb.mono hB.size)
  replace hbx := hbx.below hb hbx.lt
  replace hin := hin.below hb hin.lt
  replace hlg := hlg.below hb (Nat.le_refl _)
  replace hrx := hrx.below hb hrx.lt
  replace hry := hry.below hb hry.lt
  replace hx1 := hx1.below hb (Nat.le_refl _)
  replace hla1 := hla1.below hb (Nat.le_refl _)
  replace hla2 := hla2.below hb (Nat.le_refl _)
  replace hv1 := chv_below hv1 hb (Nat.le_refl _)
  replace hv2 := chv_below hv2 hb (Nat.le_refl _)
  replace hrl := hrl.below hb (Nat.le_refl _)
  clear hkk hb
  have hrk := rule_ck _ p z1 w5 x1 (hT.below hB (Nat.le_refl _)) hx1
  rw [whyR_rule hR1] at hrk
  go_wp2_with fail
  refine hrk.mono ?_
  rintro e w6 ⟨rfl, hb⟩
  replace hK3 := Nat.le_trans hK3 hb.size
  replace hK := hK.trans (hb.mono hK.size)
  replace hB := hB.trans (hb.mono hB.size)
  replace hbx := hbx.below hb hbx.lt
  replace hin := hin.below hb hin.lt
  replace hlg := hlg.below hb (Nat.le_refl _)
  replace hrx := hrx.below hb hrx.lt
  replace hry := hry.below hb hry.lt
  replace hx1 := hx1.below hb (Nat.le_refl _)
  replace hla1 := hla1.below hb (Nat.le_refl _)
  replace hla2 := hla2.below hb (Nat.le_refl _)
  replace hv1 := chv_below hv1 hb (Nat.le_refl _)
  replace hv2 := chv_below hv2 hb (Nat.le_refl _)
  replace hrl := hrl.below hb (Nat.le_refl _)
  clear hrk hb
  have rx0 := hrx.cell (q := 0) rfl
  have rx1 := hrx.cell (q := 1) rfl
  have rx2 := hrx.cell (q := 2) rfl
  have hq := GramSame.ints_any la1 rl lc1 rk (o1.getD []) (o1.getD []) w6 hla1 hrl (by omega) (by omega)
  rw [eqI_self] at hq
  go_wp2_with fail
  refine hq.mono ?_
  rintro e w7 ⟨rfl, qq, hww⟩
  have hb : Below w6.heap.size w6 w7 := by rw [hww]; exact drew_below w6 qq
  replace hK3 := Nat.le_trans hK3 hb.size
  replace hK := hK.trans (hb.mono hK.size)
  replace hB := hB.trans (hb.mono hB.size)
  replace hbx := hbx.below hb hbx.lt
  replace hin := hin.below hb hin.lt
  replace hlg := hlg.below hb (Nat.le_refl _)
  replace hrx := hrx.below hb hrx.lt
  replace hry := hry.below hb hry.lt
  replace hx1 := hx1.below hb (Nat.le_refl _)
  replace hla1 := hla1.below hb (Nat.le_refl _)
  replace hla2 := hla2.below hb (Nat.le_refl _)
  replace hv1 := chv_below hv1 hb (Nat.le_refl _)
  replace hv2 := chv_below hv2 hb (Nat.le_refl _)
  replace hrl := hrl.below hb (Nat.le_refl _)
  clear hq hb hww rx0 rx1 rx2
  have ry0 := hry.cell (q := 0) rfl
  have ry1 := hry.cell (q := 1) rfl
  have ry2 := hry.cell (q := 2) rfl
  have hq := GramSame.ints_any la2 rl lc2 rk (o1.getD []) (o1.getD []) w7 hla2 hrl (by omega) (by omega)
  rw [eqI_self] at hq
  go_wp2_with fail
  refine hq.mono ?_
  rintro e w8 ⟨rfl, qq, hww⟩
  have hb : Below w7.heap.size w7 w8 := by rw [hww]; exact drew_below w7 qq
  replace hK3 := Nat.le_trans hK3 hb.size
  replace hK := hK.trans (hb.mono hK.size)
  replace hB := hB.trans (hb.mono hB.size)
  replace hbx := hbx.below hb hbx.lt
  replace hin := hin.below hb hin.lt
  replace hlg := hlg.below hb (Nat.le_refl _)
  replace hrx := hrx.below hb hrx.lt
  replace hry := hry.below hb hry.lt
  replace hx1 := hx1.below hb (Nat.le_refl _)
  replace hla1 := hla1.below hb (Nat.le_refl _)
  replace hla2 := hla2.below hb (Nat.le_refl _)
  replace hv1 := chv_below hv1 hb (Nat.le_refl _)
  replace hv2 := chv_below hv2 hb (Nat.le_refl _)
  replace hrl := hrl.below hb (Nat.le_refl _)
  clear hq hb hww ry0 ry1 ry2
  have i0 := hin.cell (q := 0) rfl
  have i1 := hin.cell (q := 1) rfl
  have i2 := hin.cell (q := 2) rfl
  have i3 := hin.cell (q := 3) rfl
  have b0 := hbx.cell (q := 0) rfl
  have b1 := hbx.cell (q := 1) rfl
  have b2 := hbx.cell (q := 2) rfl
  have b3 := hbx.cell (q := 3) rfl
  have hkept := keptG g1 c1 g2 c2 g3 c3 lq ta na ra tc nc rc g w8 hlg (hG.below hB (Nat.le_refl _)) hg
  go_wp2_with fail
  refine hkept.mono ?_
  rintro e w9 ⟨rfl, hb⟩
  replace hK3 := Nat.le_trans hK3 hb.size
  replace hK := hK.trans (hb.mono hK.size)
  replace hB := hB.trans (hb.mono hB.size)
  replace hv1 := chv_below hv1 hb (Nat.le_refl _)
  replace hv2 := chv_below hv2 hb (Nat.le_refl _)
  replace hrx := hrx.below hb hrx.lt
  replace hry := hry.below hb hry.lt
  clear hkept hb i0 i1 i2 i3 b0 b1 b2 b3 hbx hin hlg
  have rx0 := hrx.cell (q := 0) rfl
  have rx1 := hrx.cell (q := 1) rfl
  have rx2 := hrx.cell (q := 2) rfl
  have ry0 := hry.cell (q := 0) rfl
  have ry1 := hry.cell (q := 1) rfl
  have ry2 := hry.cell (q := 2) rfl
  have har := UsefulTop.rowNew w9 #[.slice la1 (o1.getD []).length lc1, .slice la2 (o1.getD []).length lc2] 27
  have hb : Below w9.heap.size w9 (w9.alloc (.cells #[.slice la1 (o1.getD []).length lc1, .slice la2 (o1.getD []).length lc2] 27)) := (Below.refl _ _).alloc (Nat.le_refl _) _
  replace hK := hK.trans (hb.mono hK.size)
  replace hB := hB.trans (hb.mono hB.size)
  replace hv1 := chv_below hv1 hb (Nat.le_refl _)
  replace hv2 := chv_below hv2 hb (Nat.le_refl _)
  have hcall := apart2 _ w9.heap.size W0.heap.size V2.heap.size _ _ o1 o1 har hz02 (Nat.le_trans hz23 hK3) hv1 hv2 hs1 (fun j hj => Nat.lt_of_lt_of_le (hs2 j hj) hK3) (whyR_lens hR1) (whyR_lens hR1)
  go_wp2_with fail
  refine hcall.mono ?_
  rintro e wA ⟨rfl, hbA⟩
  have hBA := hB0.trans ((hK.trans hbA).mono hB0.size)
  clear hcall hb hbA
  go_wp2_with fail
  refine (MatrixAwake.awake_any p wA (hE.sents.below hBA (Nat.le_refl _)) (SetsEach.Tab.from hTb hBA hTG) (Nat.lt_of_lt_of_le hTG hBA.size)).mono ?_
  rintro e wZ ⟨rfl, hb⟩
  have hBe := hBA.trans (hb.mono hBA.size)
  go_wp2
  go_ret
  exact ⟨rfl, hBe⟩

end Go.Proofs.YtpdkjblmpgmcjaaDoor.MatrixWhyW
