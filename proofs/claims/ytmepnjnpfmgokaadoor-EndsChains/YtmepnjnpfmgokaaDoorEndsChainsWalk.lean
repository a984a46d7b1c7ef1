/-
  The walk of EndsChains: it answers true for every grammar, nonterminal and terminal, and writes nothing that was there; told with what the helper answers that writes into the lists.
-/
import Derived.Test.YtmepnjnpfmgokaaDoorEndsRChain
import Derived.Test.YtmepnjnpfmgokaaDoorEndsAwake
import Derived.Test.YtmepnjnpfmgokaaDoorEndsMath2
import Derived.Test.YtmepnjnpfmgokaaDoorGramLentG
import Derived.Test.YtmepnjnpfmgokaaDoorGramOpenL
import Derived.Test.YtmepnjnpfmgokaaDoorGramRuleOf
import Derived.Test.YtmepnjnpfmgokaaDoorGramEq
import Derived.Test.YtmepnjnpfmgokaaDoorUsefulOpen
namespace Go.Proofs.YtmepnjnpfmgokaaDoor.EndsChainsW
open Go.RowKit Go.Proofs.YtmepnjnpfmgokaaDoor.GramMath Go.Proofs.YtmepnjnpfmgokaaDoor.GramRow Go.Proofs.YtmepnjnpfmgokaaDoor.GramCheck Go.Proofs.YtmepnjnpfmgokaaDoor.GramErrs Go.Proofs.YtmepnjnpfmgokaaDoor.GramAwake Go.Proofs.YtmepnjnpfmgokaaDoor.GramAboveFn Go.Proofs.YtmepnjnpfmgokaaDoor.GramApart Go.Proofs.YtmepnjnpfmgokaaDoor.GramLent Go.Proofs.YtmepnjnpfmgokaaDoor.EndsMath Go.Proofs.YtmepnjnpfmgokaaDoor.EndsFn Go.Proofs.YtmepnjnpfmgokaaDoor.EndsRef Go.Proofs.YtmepnjnpfmgokaaDoor.EndsAwake Go.Proofs.YtmepnjnpfmgokaaDoor.GramRef Go.Proofs.YtmepnjnpfmgokaaDoor.EndsSearch Go.Proofs.YtmepnjnpfmgokaaDoor.EndsChain Go.Proofs.YtmepnjnpfmgokaaDoor.EndsRRing Go.Proofs.YtmepnjnpfmgokaaDoor.EndsWays
set_option linter.unusedVariables false

theorem chv_row {base : Nat} {w : World} {v : Value} {o : Option (List Int)} (h : ChV base w v o) : ∃ a c, v = .slice a (o.getD []).length c ∧ IRow w a (o.getD []) := by
  match o, h with
  | none, h => exact ⟨none, 0, h, fun i x hx => by simp at hx⟩
  | some l, ⟨g, cap, h1, h2⟩ => exact ⟨_, _, h1, GramLent.lent_rowI h2 rfl⟩
theorem found_small {g : G} {n t : Int} {b : Bool} {z : Nat × Option Nat} {o : Option (List Int)} (h : ChainR g n t b z o) : (o.getD []).length ≤ 60 := by
  rcases h with ⟨_, _, rfl⟩ | ⟨_, _, _, rfl⟩ | ⟨h0, hin, hF, _⟩
  · simp
  · simp
  · cases o with
    | none => simp
    | some c =>
      have hg := good_of h0
      have := FoundE.len hg (by have := hin.1; have := hin.2.1; omega) hF
      have := hg.few
      simp
      omega
theorem chainR_z {g : G} {n t : Int} {b : Bool} {z : Nat × Option Nat} {o : Option (List Int)} (h : ChainR g n t b z o) : z.1 ≤ 15 := by
  rcases h with ⟨_, rfl, _⟩ | ⟨_, _, rfl, _⟩ | ⟨_, _, _, rfl⟩
  · exact UsefulTop.check_le g
  · decide
  · dsimp only
    split <;> decide
theorem eqI_self (l : List Int) : GramSame.eqI l l = true := by unfold GramSame.eqI; simp


theorem chv_below {base B : Nat} {w w' : World} {v : Value} {o : Option (List Int)} (h : ChV base w v o) (hb : Below B w w') (hB : w.heap.size ≤ B) : ChV base w' v o := by
  match o, h with
  | none, h => exact h
  | some l, ⟨g, cap, h1, h2⟩ => exact ⟨g, cap, h1, GramLent.own_below h2 (hb.mono hB)⟩
theorem chv_lt {base : Nat} {w : World} {v : Value} {o : Option (List Int)} (h : ChV base w v o) : ∀ j, v.ownBlock = some j → j < w.heap.size := by
  match o, h with
  | none, h => intro j hj; subst h; cases hj
  | some l, ⟨g, cap, h1, h2⟩ => intro j hj; subst h1; exact (h2.lt j hj).2
theorem ruleZ_any {g : G} {n t : Int} {b : Bool} {z : Nat × Option Nat} {o : Option (List Int)} (h : ChainR g n t b z o) : ruleZ z = ruI z.2 := by
  rcases h with ⟨hne, rfl, _⟩ | ⟨_, _, rfl, _⟩ | ⟨_, _, _, rfl⟩
  · revert hne
    generalize checkG g = zz
    intro hne
    obtain ⟨k, r⟩ := zz
    cases k with
    | zero => exact absurd rfl hne
    | succ k => cases r <;> rfl
  · rfl
  · split <;> rfl
theorem chain_lens {g : G} {n t : Int} {b : Bool} {z : Nat × Option Nat} {o : Option (List Int)} (h : ChainR g n t b z o) : ∀ c, o = some c → 0 < c.length ∧ c.length ≤ 60 := fun c hc => by
  have h2 := found_small h
  rw [hc] at h2
  rcases h with ⟨_, _, rfl⟩ | ⟨_, _, _, rfl⟩ | ⟨_, _, hF, _⟩
  · cases hc
  · cases hc
  · exact ⟨found_pos hF c hc, h2⟩

/-- What the helper answers that writes into three lists which lie apart, with room to spare or without. -/
def Apart3 : Prop := ∀ (W : World) (A B s1 s2 : Nat) (v0 v1 v2 : Value) (o0 o1 o2 : Option (List Int)), RowAt W A 43 #[v0, v1, v2] → B ≤ s1 → s1 ≤ s2 → s2 ≤ A → ChV B W v0 o0 → ChV s1 W v1 o1 → ChV s2 W v2 o2 →
  (∀ j, v0.ownBlock = some j → j < s1) → (∀ j, v1.ownBlock = some j → j < s2) → (∀ j, v2.ownBlock = some j → j < A) → (∀ c, o0 = some c → 0 < c.length ∧ c.length ≤ 60) → (∀ c, o1 = some c → 0 < c.length ∧ c.length ≤ 60) → (∀ c, o2 = some c → 0 < c.length ∧ c.length ≤ 60) →
  Calls Tryd.prog 20 #[.slice (some ⟨A, 0, none⟩) 3 3] W fun e w' => e = .returned (.bool true) ∧ Below B W w'

set_option maxRecDepth 100000 in
set_option maxHeartbeats 8000000 in
theorem walk (hap3 : Apart3) (ta na ra : Option Addr) (tc nc rc : Nat) (g : G) (n t : Int) (p : Nat → Addr) (w : World) (hL : Lendable w ta na ra tc nc g) (hg : okG g) (hE : Errs w p) (hT : ErrType w) :
    Calls Tryd.prog 4 #[.agg #[.slice ta g.ts.length tc, .slice na g.ns.length nc, .int .i64 g.ax, .slice ra g.rs.length rc], .int .i64 n, .int .i64 t] w fun e w' => e = .returned (.bool true) ∧ Below w.heap.size w w' := by
  have hG := GramOpen.lendable_row hL
  have hB : Below w.heap.size w (w.alloc (.cells #[.slice ta g.ts.length tc, .slice na g.ns.length nc, .int .i64 g.ax, .slice ra g.rs.length rc] 25)) := (Below.refl _ _).alloc (Nat.le_refl _) _
  have hbx := UsefulTop.rowNew w #[.slice ta g.ts.length tc, .slice na g.ns.length nc, .int .i64 g.ax, .slice ra g.rs.length rc] 25
  have hL1 : Lendable (w.alloc (.cells #[.slice ta g.ts.length tc, .slice na g.ns.length nc, .int .i64 g.ax, .slice ra g.rs.length rc] 25)) ta na ra tc nc g := ⟨hL.ts.below hB (Nat.le_refl _), hL.ns.below hB (Nat.le_refl _), hL.rs.below hB (Nat.le_refl _), hL.tn, hL.nn, hL.tm, hL.nm, hL.rm, hL.each⟩
  have hlend := lentG ta na ra tc nc rc g _ hL1
  go_enter Tryd.func4, Tryd.ntmps4
  go_wp2_with fail
  refine hlend.mono ?_
  rintro e w1 ⟨⟨g1, c1, g2, c2, g3, c3, lq, rfl, hlg⟩, hb⟩
  replace hB := hB.trans (hb.mono hB.size)
  replace hbx := hbx.below hb hbx.lt
  clear hlend hL1 hL hb
  have hb : Below w1.heap.size w1 (w1.alloc (.cells #[.slice (some ⟨g1, 0, none⟩) g.ts.length c1, .slice (some ⟨g2, 0, none⟩) g.ns.length c2, .int .i64 g.ax, .slice (some ⟨g3, 0, none⟩) g.rs.length c3] 25)) := (Below.refl _ _).alloc (Nat.le_refl _) _
  have hin := UsefulTop.rowNew w1 #[.slice (some ⟨g1, 0, none⟩) g.ts.length c1, .slice (some ⟨g2, 0, none⟩) g.ns.length c2, .int .i64 g.ax, .slice (some ⟨g3, 0, none⟩) g.rs.length c3] 25
  have htc := Nat.le_of_lt hlg.tc
  have hnc := Nat.le_of_lt hlg.nc
  replace hB := hB.trans (hb.mono hB.size)
  replace hbx := hbx.below hb hbx.lt
  replace hlg := hlg.below hb (Nat.le_refl _)
  clear hb
  have hch := Chain_top (some ⟨g1, 0, none⟩) (some ⟨g2, 0, none⟩) (some ⟨g3, 0, none⟩) c1 c2 c3 g n t false p _ hlg.row hg htc hnc (hE.below hB (Nat.le_refl _))
  go_wp2_with fail
  generalize w1.alloc (.cells #[.slice (some ⟨g1, 0, none⟩) g.ts.length c1, .slice (some ⟨g2, 0, none⟩) g.ns.length c2, .int .i64 g.ax, .slice (some ⟨g3, 0, none⟩) g.rs.length c3] 25) = W0 at *
  have hK : Below W0.heap.size W0 W0 := Below.refl _ _
  have hB0 := hB
  refine hch.mono ?_
  rintro e w2 ⟨⟨lv1, x1, z1, o1, rfl, hv1, hx1, hR1⟩, hb⟩
  have hz02 := hb.size
  replace hK := hK.trans (hb.mono hK.size)
  replace hB := hB.trans (hb.mono hB.size)
  replace hbx := hbx.below hb hbx.lt
  replace hin := hin.below hb hin.lt
  replace hlg := hlg.below hb (Nat.le_refl _)
  obtain ⟨la1, lc1, rfl, hla1⟩ := chv_row hv1
  have hs1 := chv_lt hv1
  clear hch hb
  have i0 := hin.cell (q := 0) rfl
  have i1 := hin.cell (q := 1) rfl
  have i2 := hin.cell (q := 2) rfl
  have i3 := hin.cell (q := 3) rfl
  have hch := Chain_top (some ⟨g1, 0, none⟩) (some ⟨g2, 0, none⟩) (some ⟨g3, 0, none⟩) c1 c2 c3 g n t true p _ hlg.row hg htc hnc (hE.below hB (Nat.le_refl _))
  go_wp2_with fail
  refine hch.mono ?_
  rintro e w3 ⟨⟨lv2, x2, z2, o2, rfl, hv2, hx2, hR2⟩, hb⟩
  have hz23 := hb.size
  replace hK := hK.trans (hb.mono hK.size)
  replace hB := hB.trans (hb.mono hB.size)
  replace hbx := hbx.below hb hbx.lt
  replace hin := hin.below hb hin.lt
  replace hlg := hlg.below hb (Nat.le_refl _)
  replace hx1 := hx1.below hb (Nat.le_refl _)
  replace hla1 := hla1.below hb (Nat.le_refl _)
  replace hv1 := chv_below hv1 hb (Nat.le_refl _)
  obtain ⟨la2, lc2, rfl, hla2⟩ := chv_row hv2
  have hs2 := chv_lt hv2
  clear hch hb i0 i1 i2 i3
  have i0 := hin.cell (q := 0) rfl
  have i1 := hin.cell (q := 1) rfl
  have i2 := hin.cell (q := 2) rfl
  have i3 := hin.cell (q := 3) rfl
  have hch := Chain_top (some ⟨g1, 0, none⟩) (some ⟨g2, 0, none⟩) (some ⟨g3, 0, none⟩) c1 c2 c3 g n t true p _ hlg.row hg htc hnc (hE.below hB (Nat.le_refl _))
  go_wp2_with fail
  refine hch.mono ?_
  rintro e w4 ⟨⟨lv3, x3, z3, o3, rfl, hv3, hx3, hR3⟩, hb⟩
  have hz34 := hb.size
  have hK4 : Below w4.heap.size w4 w4 := Below.refl _ _
  obtain ⟨rfl, rfl⟩ := hR2.det hR3
  replace hK := hK.trans (hb.mono hK.size)
  replace hB := hB.trans (hb.mono hB.size)
  replace hbx := hbx.below hb hbx.lt
  replace hin := hin.below hb hin.lt
  replace hlg := hlg.below hb (Nat.le_refl _)
  replace hx1 := hx1.below hb (Nat.le_refl _)
  replace hla1 := hla1.below hb (Nat.le_refl _)
  replace hx2 := hx2.below hb (Nat.le_refl _)
  replace hla2 := hla2.below hb (Nat.le_refl _)
  replace hv1 := chv_below hv1 hb (Nat.le_refl _)
  replace hv2 := chv_below hv2 hb (Nat.le_refl _)
  obtain ⟨la3, lc3, rfl, hla3⟩ := chv_row hv3
  have hs3 := chv_lt hv3
  clear hch hb hx3 i0 i1 i2 i3
  have b0 := hbx.cell (q := 0) rfl
  have b1 := hbx.cell (q := 1) rfl
  have b2 := hbx.cell (q := 2) rfl
  have b3 := hbx.cell (q := 3) rfl
  have hrc := rchain_any false ta na ra tc nc rc g n t _ (hG.below hB (Nat.le_refl _)) hg
  go_wp2_with fail
  refine hrc.mono ?_
  rintro e w5 ⟨⟨rl1, rk1, y1, q1, rfl, hrl1, hRR⟩, hb⟩
  obtain ⟨rfl, rfl⟩ := hR1.det hRR
  replace hK := hK.trans (hb.mono hK.size)
  replace hK4 := hK4.trans (hb.mono hK4.size)
  replace hB := hB.trans (hb.mono hB.size)
  replace hbx := hbx.below hb hbx.lt
  replace hin := hin.below hb hin.lt
  replace hlg := hlg.below hb (Nat.le_refl _)
  replace hx1 := hx1.below hb (Nat.le_refl _)
  replace hla1 := hla1.below hb (Nat.le_refl _)
  replace hx2 := hx2.below hb (Nat.le_refl _)
  replace hla2 := hla2.below hb (Nat.le_refl _)
  replace hla3 := hla3.below hb (Nat.le_refl _)
  replace hv1 := chv_below hv1 hb (Nat.le_refl _)
  replace hv2 := chv_below hv2 hb (Nat.le_refl _)
  replace hv3 := chv_below hv3 hb (Nat.le_refl _)
  clear hrc hb hRR b0 b1 b2 b3
  have b0 := hbx.cell (q := 0) rfl
  have b1 := hbx.cell (q := 1) rfl
  have b2 := hbx.cell (q := 2) rfl
  have b3 := hbx.cell (q := 3) rfl
  have hrc := rchain_any true ta na ra tc nc rc g n t _ (hG.below hB (Nat.le_refl _)) hg
  go_wp2_with fail
  refine hrc.mono ?_
  rintro e w6 ⟨⟨rl2, rk2, y2, q2, rfl, hrl2, hRR⟩, hb⟩
  obtain ⟨rfl, rfl⟩ := hR2.det hRR
  replace hK := hK.trans (hb.mono hK.size)
  replace hK4 := hK4.trans (hb.mono hK4.size)
  replace hB := hB.trans (hb.mono hB.size)
  replace hbx := hbx.below hb hbx.lt
  replace hin := hin.below hb hin.lt
  replace hlg := hlg.below hb (Nat.le_refl _)
  replace hx1 := hx1.below hb (Nat.le_refl _)
  replace hla1 := hla1.below hb (Nat.le_refl _)
  replace hx2 := hx2.below hb (Nat.le_refl _)
  replace hla2 := hla2.below hb (Nat.le_refl _)
  replace hla3 := hla3.below hb (Nat.le_refl _)
  replace hrl1 := hrl1.below hb (Nat.le_refl _)
  replace hv1 := chv_below hv1 hb (Nat.le_refl _)
  replace hv2 := chv_below hv2 hb (Nat.le_refl _)
  replace hv3 := chv_below hv3 hb (Nat.le_refl _)
  clear hrc hb hRR b0 b1 b2 b3
  have hsm1 := found_small hR1
  have hsm2 := found_small hR2
  have hz1 := chainR_z hR1
  have hz2 := chainR_z hR2
  have ez1 : ((z1.1 : Int) != (z1.1 : Int)) = false := by simp
  have ez2 : ((z2.1 : Int) != (z2.1 : Int)) = false := by simp
  have er1 : (ruI z1.2 != ruI z1.2) = false := by simp
  have er2 : (ruI z2.2 != ruI z2.2) = false := by simp
  have hkk := kind_ck _ p z1 w6 x1 (hE.below hB (Nat.le_refl _)) hz1 hx1
  go_wp2_with fail
  refine hkk.mono ?_
  rintro e w7 ⟨rfl, hb⟩
  replace hK := hK.trans (hb.mono hK.size)
  replace hK4 := hK4.trans (hb.mono hK4.size)
  replace hB := hB.trans (hb.mono hB.size)
  replace hbx := hbx.below hb hbx.lt
  replace hin := hin.below hb hin.lt
  replace hlg := hlg.below hb (Nat.le_refl _)
  replace hx1 := hx1.below hb (Nat.le_refl _)
  replace hla1 := hla1.below hb (Nat.le_refl _)
  replace hx2 := hx2.below hb (Nat.le_refl _)
  replace hla2 := hla2.below hb (Nat.le_refl _)
  replace hla3 := hla3.below hb (Nat.le_refl _)
  replace hrl1 := hrl1.below hb (Nat.le_refl _)
  replace hrl2 := hrl2.below hb (Nat.le_refl _)
  replace hv1 := chv_below hv1 hb (Nat.le_refl _)
  replace hv2 := chv_below hv2 hb (Nat.le_refl _)
  replace hv3 := chv_below hv3 hb (Nat.le_refl _)
  clear hkk hb 
  have hrk := rule_ck _ p z1 w7 x1 (hT.below hB (Nat.le_refl _)) hx1
  rw [ruleZ_any hR1] at hrk
  go_wp2_with fail
  refine hrk.mono ?_
  rintro e w8 ⟨rfl, hb⟩
  replace hK := hK.trans (hb.mono hK.size)
  replace hK4 := hK4.trans (hb.mono hK4.size)
  replace hB := hB.trans (hb.mono hB.size)
  replace hbx := hbx.below hb hbx.lt
  replace hin := hin.below hb hin.lt
  replace hlg := hlg.below hb (Nat.le_refl _)
  replace hx1 := hx1.below hb (Nat.le_refl _)
  replace hla1 := hla1.below hb (Nat.le_refl _)
  replace hx2 := hx2.below hb (Nat.le_refl _)
  replace hla2 := hla2.below hb (Nat.le_refl _)
  replace hla3 := hla3.below hb (Nat.le_refl _)
  replace hrl1 := hrl1.below hb (Nat.le_refl _)
  replace hrl2 := hrl2.below hb (Nat.le_refl _)
  replace hv1 := chv_below hv1 hb (Nat.le_refl _)
  replace hv2 := chv_below hv2 hb (Nat.le_refl _)
  replace hv3 := chv_below hv3 hb (Nat.le_refl _)
  clear hrk hb 
  have hkk := kind_ck _ p z2 w8 x2 (hE.below hB (Nat.le_refl _)) hz2 hx2
  go_wp2_with fail
  refine hkk.mono ?_
  rintro e w9 ⟨rfl, hb⟩
  replace hK := hK.trans (hb.mono hK.size)
  replace hK4 := hK4.trans (hb.mono hK4.size)
  replace hB := hB.trans (hb.mono hB.size)
  replace hbx := hbx.below hb hbx.lt
  replace hin := hin.below hb hin.lt
  replace hlg := hlg.below hb (Nat.le_refl _)
  replace hx1 := hx1.below hb (Nat.le_refl _)
  replace hla1 := hla1.below hb (Nat.le_refl _)
  replace hx2 := hx2.below hb (Nat.le_refl _)
  replace hla2 := hla2.below hb (Nat.le_refl _)
  replace hla3 := hla3.below hb (Nat.le_refl _)
  replace hrl1 := hrl1.below hb (Nat.le_refl _)
  replace hrl2 := hrl2.below hb (Nat.le_refl _)
  replace hv1 := chv_below hv1 hb (Nat.le_refl _)
  replace hv2 := chv_below hv2 hb (Nat.le_refl _)
  replace hv3 := chv_below hv3 hb (Nat.le_refl _)
  clear hkk hb 
  have hrk := rule_ck _ p z2 w9 x2 (hT.below hB (Nat.le_refl _)) hx2
  rw [ruleZ_any hR2] at hrk
  go_wp2_with fail
  refine hrk.mono ?_
  rintro e w10 ⟨rfl, hb⟩
  replace hK := hK.trans (hb.mono hK.size)
  replace hK4 := hK4.trans (hb.mono hK4.size)
  replace hB := hB.trans (hb.mono hB.size)
  replace hbx := hbx.below hb hbx.lt
  replace hin := hin.below hb hin.lt
  replace hlg := hlg.below hb (Nat.le_refl _)
  replace hx1 := hx1.below hb (Nat.le_refl _)
  replace hla1 := hla1.below hb (Nat.le_refl _)
  replace hx2 := hx2.below hb (Nat.le_refl _)
  replace hla2 := hla2.below hb (Nat.le_refl _)
  replace hla3 := hla3.below hb (Nat.le_refl _)
  replace hrl1 := hrl1.below hb (Nat.le_refl _)
  replace hrl2 := hrl2.below hb (Nat.le_refl _)
  replace hv1 := chv_below hv1 hb (Nat.le_refl _)
  replace hv2 := chv_below hv2 hb (Nat.le_refl _)
  replace hv3 := chv_below hv3 hb (Nat.le_refl _)
  clear hrk hb 
  have hq := GramSame.ints_any la1 rl1 lc1 rk1 (o1.getD []) (o1.getD []) w10 hla1 hrl1 (by omega) (by omega)
  rw [eqI_self] at hq
  go_wp2_with fail
  refine hq.mono ?_
  rintro e w11 ⟨rfl, qq, hww⟩
  have hb : Below w10.heap.size w10 w11 := by rw [hww]; exact drew_below w10 qq
  replace hK := hK.trans (hb.mono hK.size)
  replace hK4 := hK4.trans (hb.mono hK4.size)
  replace hB := hB.trans (hb.mono hB.size)
  replace hbx := hbx.below hb hbx.lt
  replace hin := hin.below hb hin.lt
  replace hlg := hlg.below hb (Nat.le_refl _)
  replace hx1 := hx1.below hb (Nat.le_refl _)
  replace hla1 := hla1.below hb (Nat.le_refl _)
  replace hx2 := hx2.below hb (Nat.le_refl _)
  replace hla2 := hla2.below hb (Nat.le_refl _)
  replace hla3 := hla3.below hb (Nat.le_refl _)
  replace hrl1 := hrl1.below hb (Nat.le_refl _)
  replace hrl2 := hrl2.below hb (Nat.le_refl _)
  replace hv1 := chv_below hv1 hb (Nat.le_refl _)
  replace hv2 := chv_below hv2 hb (Nat.le_refl _)
  replace hv3 := chv_below hv3 hb (Nat.le_refl _)
  clear hq hb hww
  have hq := GramSame.ints_any la2 rl2 lc2 rk2 (o2.getD []) (o2.getD []) w11 hla2 hrl2 (by omega) (by omega)
  rw [eqI_self] at hq
  go_wp2_with fail
  refine hq.mono ?_
  rintro e w12 ⟨rfl, qq, hww⟩
  have hb : Below w11.heap.size w11 w12 := by rw [hww]; exact drew_below w11 qq
  replace hK := hK.trans (hb.mono hK.size)
  replace hK4 := hK4.trans (hb.mono hK4.size)
  replace hB := hB.trans (hb.mono hB.size)
  replace hbx := hbx.below hb hbx.lt
  replace hin := hin.below hb hin.lt
  replace hlg := hlg.below hb (Nat.le_refl _)
  replace hx1 := hx1.below hb (Nat.le_refl _)
  replace hla1 := hla1.below hb (Nat.le_refl _)
  replace hx2 := hx2.below hb (Nat.le_refl _)
  replace hla2 := hla2.below hb (Nat.le_refl _)
  replace hla3 := hla3.below hb (Nat.le_refl _)
  replace hrl1 := hrl1.below hb (Nat.le_refl _)
  replace hrl2 := hrl2.below hb (Nat.le_refl _)
  replace hv1 := chv_below hv1 hb (Nat.le_refl _)
  replace hv2 := chv_below hv2 hb (Nat.le_refl _)
  replace hv3 := chv_below hv3 hb (Nat.le_refl _)
  clear hq hb hww
  have hq := GramSame.ints_any la3 rl2 lc3 rk2 (o2.getD []) (o2.getD []) w12 hla3 hrl2 (by omega) (by omega)
  rw [eqI_self] at hq
  go_wp2_with fail
  refine hq.mono ?_
  rintro e w13 ⟨rfl, qq, hww⟩
  have hb : Below w12.heap.size w12 w13 := by rw [hww]; exact drew_below w12 qq
  replace hK := hK.trans (hb.mono hK.size)
  replace hK4 := hK4.trans (hb.mono hK4.size)
  replace hB := hB.trans (hb.mono hB.size)
  replace hbx := hbx.below hb hbx.lt
  replace hin := hin.below hb hin.lt
  replace hlg := hlg.below hb (Nat.le_refl _)
  replace hx1 := hx1.below hb (Nat.le_refl _)
  replace hla1 := hla1.below hb (Nat.le_refl _)
  replace hx2 := hx2.below hb (Nat.le_refl _)
  replace hla2 := hla2.below hb (Nat.le_refl _)
  replace hla3 := hla3.below hb (Nat.le_refl _)
  replace hrl1 := hrl1.below hb (Nat.le_refl _)
  replace hrl2 := hrl2.below hb (Nat.le_refl _)
  replace hv1 := chv_below hv1 hb (Nat.le_refl _)
  replace hv2 := chv_below hv2 hb (Nat.le_refl _)
  replace hv3 := chv_below hv3 hb (Nat.le_refl _)
  clear hq hb hww
  have i0 := hin.cell (q := 0) rfl
  have i1 := hin.cell (q := 1) rfl
  have i2 := hin.cell (q := 2) rfl
  have i3 := hin.cell (q := 3) rfl
  have b0 := hbx.cell (q := 0) rfl
  have b1 := hbx.cell (q := 1) rfl
  have b2 := hbx.cell (q := 2) rfl
  have b3 := hbx.cell (q := 3) rfl
  have hkept := keptG g1 c1 g2 c2 g3 c3 lq ta na ra tc nc rc g w13 hlg (hG.below hB (Nat.le_refl _)) hg
  go_wp2_with fail
  refine hkept.mono ?_
  rintro e w14 ⟨rfl, hb⟩
  replace hK := hK.trans (hb.mono hK.size)
  replace hK4 := hK4.trans (hb.mono hK4.size)
  replace hB := hB.trans (hb.mono hB.size)
  replace hbx := hbx.below hb hbx.lt
  replace hin := hin.below hb hin.lt
  replace hlg := hlg.below hb (Nat.le_refl _)
  replace hx1 := hx1.below hb (Nat.le_refl _)
  replace hla1 := hla1.below hb (Nat.le_refl _)
  replace hx2 := hx2.below hb (Nat.le_refl _)
  replace hla2 := hla2.below hb (Nat.le_refl _)
  replace hla3 := hla3.below hb (Nat.le_refl _)
  replace hrl1 := hrl1.below hb (Nat.le_refl _)
  replace hrl2 := hrl2.below hb (Nat.le_refl _)
  replace hv1 := chv_below hv1 hb (Nat.le_refl _)
  replace hv2 := chv_below hv2 hb (Nat.le_refl _)
  replace hv3 := chv_below hv3 hb (Nat.le_refl _)
  clear hkept hb i0 i1 i2 i3 b0 b1 b2 b3
  have hz4f := hK4.size
  have har := UsefulTop.rowNew w14 #[.slice la1 (o1.getD []).length lc1, .slice la2 (o2.getD []).length lc2, .slice la3 (o2.getD []).length lc3] 43
  have hb : Below w14.heap.size w14 (w14.alloc (.cells #[.slice la1 (o1.getD []).length lc1, .slice la2 (o2.getD []).length lc2, .slice la3 (o2.getD []).length lc3] 43)) := (Below.refl _ _).alloc (Nat.le_refl _) _
  replace hK := hK.trans (hb.mono hK.size)
  replace hK4 := hK4.trans (hb.mono hK4.size)
  replace hB := hB.trans (hb.mono hB.size)
  replace hv1 := chv_below hv1 hb (Nat.le_refl _)
  replace hv2 := chv_below hv2 hb (Nat.le_refl _)
  replace hv3 := chv_below hv3 hb (Nat.le_refl _)
  have hz4e : w4.heap.size ≤ w14.heap.size := hz4f
  have hz3e : w3.heap.size ≤ w14.heap.size := by omega
  have hcall := hap3 _ w14.heap.size W0.heap.size w2.heap.size w3.heap.size _ _ _ o1 o2 o2 har hz02 hz23 hz3e hv1 hv2 hv3 hs1 hs2 (fun j hj => Nat.lt_of_lt_of_le (hs3 j hj) hz4e) (chain_lens hR1) (chain_lens hR2) (chain_lens hR2)
  go_wp2_with fail
  refine hcall.mono ?_
  rintro e wA ⟨rfl, hbA⟩
  have hBA := hB0.trans ((hK.trans hbA).mono hB0.size)
  clear hcall hb hbA
  go_wp2_with fail
  refine (awake_any p wA (hE.sents.below hBA (Nat.le_refl _))).mono ?_
  rintro e wZ ⟨rfl, hb⟩
  have hBe := hBA.trans (hb.mono hBA.size)
  go_wp2
  go_ret
  exact ⟨rfl, hBe⟩

end Go.Proofs.YtmepnjnpfmgokaaDoor.EndsChainsW
