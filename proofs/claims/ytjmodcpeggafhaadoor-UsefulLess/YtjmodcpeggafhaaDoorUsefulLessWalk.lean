/-
  The walk of UsefulLess: it answers true for every grammar and rule, and writes nothing that was there.
-/
import Derived.Test.YtjmodcpeggafhaaDoorUsefulTop
import Derived.Test.YtjmodcpeggafhaaDoorGramLessMath
import Derived.Deep.DeepCutAuto
import Derived.Test.YtjmodcpeggafhaaDoorUsefulKnown
import Derived.Test.YtjmodcpeggafhaaDoorGramLentG
import Derived.Test.YtjmodcpeggafhaaDoorGramOpenL
namespace Go.Proofs.YtjmodcpeggafhaaDoor.UsefulLess
open Go.RowKit Go.Proofs.YtjmodcpeggafhaaDoor.GramMath Go.Proofs.YtjmodcpeggafhaaDoor.GramRow Go.Proofs.YtjmodcpeggafhaaDoor.SetsMath Go.Proofs.YtjmodcpeggafhaaDoor.SetsAlg Go.Proofs.YtjmodcpeggafhaaDoor.UsefulMath Go.Proofs.YtjmodcpeggafhaaDoor.UsefulTop Go.Proofs.YtjmodcpeggafhaaDoor.GramLess Go.Proofs.YtjmodcpeggafhaaDoor.GramCheck
set_option linter.unusedVariables false

theorem reachI_isSet (g : G) : IsSet (reachI g) := setI_isSet _
theorem usefulI_isSet (g : G) : IsSet (usefulI g) := setI_isSet _
theorem okI_isSet {g : G} {x : Int} (h : IsSet x) : IsSet (okI g x) := by
  unfold okI
  split
  · exact h
  · exact zero_isSet

theorem hasB_reachI {g : G} (h : GoodG g) (k : Int) : hasB (reachI g) k = true ↔ UsefulMath.Reach g.rs (fun k => k = g.ax) k := hasB_setI (reach_range h h.okRs) k
theorem hasB_usefulI {g : G} (h : GoodG g) (k : Int) : hasB (usefulI g) k = true ↔ Prod g.rs k ∧ UsefulMath.Reach (g.rs.filter (nin (prodI g))) (fun k => k = g.ax) k := hasB_setI (fun k hk => prod_range h k hk.1) k

theorem useful_prod {g : G} (h : GoodG g) : minusI (usefulI g) (prodI g) = 0 := (minus_zero (usefulI_isSet g) (prodI_isSet g)).2 fun j hj => (hasB_prodI h j).2 ((hasB_usefulI h j).1 hj).1
theorem useful_reach {g : G} (h : GoodG g) : minusI (usefulI g) (reachI g) = 0 := (minus_zero (usefulI_isSet g) (reachI_isSet g)).2 fun j hj => (hasB_reachI h j).2 (((hasB_usefulI h j).1 hj).2.mono (fun r hr => (List.mem_filter.1 hr).1) (fun _ h => h))
theorem ax_reach {g : G} (h : GoodG g) : hasB (reachI g) g.ax = true := (hasB_reachI h _).2 (.base rfl)

theorem more_prod {g g' : G} (h : GoodG g) (h' : GoodG g') (hr : ∀ r ∈ g.rs, r ∈ g'.rs) : minusI (prodI g) (prodI g') = 0 := (minus_zero (prodI_isSet g) (prodI_isSet g')).2 fun j hj => (hasB_prodI h' j).2 (((hasB_prodI h j).1 hj).mono hr)
theorem more_reach {g g' : G} (h : GoodG g) (h' : GoodG g') (ha : g'.ax = g.ax) (hr : ∀ r ∈ g.rs, r ∈ g'.rs) : minusI (reachI g) (reachI g') = 0 := (minus_zero (reachI_isSet g) (reachI_isSet g')).2 fun j hj => (hasB_reachI h' j).2 (((hasB_reachI h j).1 hj).mono hr (fun k hk => hk.trans ha.symm))

/-- The statement's own look: is one set within another? -/
theorem in_yes {s t : Int} (hs : IsSet s) (ht : IsSet t) (h : minusI s t = 0) (w : World) : Calls Tryd.prog 27 #[.int .u64 s, .int .u64 t] w fun e w' => e = .returned (.bool true) ∧ w' = w := by
  have E : Hid (_) := bits_andNot2 hs ht
  go_enter Tryd.func27, Tryd.ntmps27
  go_wp2
  go_ret
  exact ⟨by rw [E.out, h]; rfl, rfl⟩

theorem shift_one {s k : Int} (hs : IsSet s) (a : 0 ≤ k) (b : k < 64) (h : hasB s k = true) : (bits .and .u64 (s / 2 ^ k.toNat) 1 != 1) = false := by
  have hd := div_isSet hs k.toNat
  have h1 := hasB_div hs a b
  rw [h, beq_iff_eq] at h1
  rw [bits_and2 hd ⟨by decide, by decide⟩]
  have h0 := hd.1
  generalize s / 2 ^ k.toNat = x at *
  have e : meetI x 1 = 1 := by
    unfold meetI
    rw [show (1 : Int).toNat = 1 from rfl, Nat.and_one_is_mod]
    omega
  rw [e]
  rfl

/-- The grammar with one more rule. -/
def more (g : G) (r : R) : G := withR g (g.rs ++ [r])

theorem more_ok {g : G} {r : R} (hg : okG g) (hr : okR r) (h : g.rs.length ≤ 120) : okG (more g r) := ⟨hg.1, hg.2.1, by show (g.rs ++ [r]).length ≤ _; rw [List.length_append, List.length_singleton]; omega, hg.2.2.2.1, fun x hx => by
  rcases List.mem_append.1 hx with h | h
  · exact hg.2.2.2.2.1 x h
  · rw [List.mem_singleton.1 h]; exact hr, hg.2.2.2.2.2.1, hg.2.2.2.2.2.2⟩

theorem more_len (g : G) (r : R) : (more g r).rs.length = g.rs.length + 1 := by show (g.rs ++ [r]).length = _; rw [List.length_append, List.length_singleton]

theorem prod_top2 (ta na ra : Option Addr) (tc nc rc : Nat) (g : G) (r : R) (p : Nat → Addr) (w : World) (hG : GRow w ta na ra (more g r)) (hg : okG (more g r)) (htc : g.ts.length ≤ tc) (hnc : g.ns.length ≤ nc) (hS : Sents w p) :
    Calls Tryd.prog 10 #[.agg #[.slice ta g.ts.length tc, .slice na g.ns.length nc, .int .i64 g.ax, .slice ra (g.rs.length + 1) rc]] w fun e w' => (∃ v, e = .returned (.tuple #[.int .u64 (okI (more g r) (prodI (more g r))), v]) ∧ CkV w.heap.size p (checkG (more g r)) w' v) ∧ Below w.heap.size w w' := by
  have h := Productive_top ta na ra tc nc rc (more g r) p w hG hg htc hnc hS
  rw [more_len] at h
  exact h
theorem reach_top2 (ta na ra : Option Addr) (tc nc rc : Nat) (g : G) (r : R) (p : Nat → Addr) (w : World) (hG : GRow w ta na ra (more g r)) (hg : okG (more g r)) (htc : g.ts.length ≤ tc) (hnc : g.ns.length ≤ nc) (hS : Sents w p) :
    Calls Tryd.prog 11 #[.agg #[.slice ta g.ts.length tc, .slice na g.ns.length nc, .int .i64 g.ax, .slice ra (g.rs.length + 1) rc]] w fun e w' => (∃ v, e = .returned (.tuple #[.int .u64 (okI (more g r) (reachI (more g r))), v]) ∧ CkV w.heap.size p (checkG (more g r)) w' v) ∧ Below w.heap.size w w' := by
  have h := Reached_top ta na ra tc nc rc (more g r) p w hG hg htc hnc hS
  rw [more_len] at h
  exact h
theorem in_more (g : G) (r : R) : ∀ x ∈ g.rs, x ∈ (more g r).rs := fun x hx => List.mem_append.2 (.inl hx)

theorem infoR : (Tryd.prog.info? 56).map (fun i => (i.zero, i.size, i.bytes)) = some (some (.agg #[.int .i64 0, .slice none 0 0]), 2, 32) := by kernel_rfl

/-- An append to a row of rules of the call's own, as one step of a region that draws its order. -/
theorem stepQ {ops : Array Oper} {o : Oper} {a : Act} {w : World} {K : Act → World → Prop} {Q' : Exit → Act → World → Prop} {E : Prop} (hg : o.guard = none) (s x : Operand)
    (ho : o.op = .call { callee := .builtin .append, args := #[s, x], argTypes := #[23, 23] }) (base : Nat) (v : Value) (n : Nat) (l : List Q) (hn : n = l.length) (hs : a.eval s = v) (hown : w.ownsRow base 56 2 v n (cellsQ l))
    (ad : Addr) (k c : Nat) (m : List Q) (hk : k = m.length) (hx : a.eval x = .slice (some ad) k c) (hsrc : ∀ j u, (cellsQ m)[j]? = some u → w.cell? (ad.add j) = some u) (hsz : n + k ≤ 1000000) (hbase : base ≤ w.heap.size)
    (h : ∀ v' w', w'.ownsRow base 56 2 v' (n + k) (cellsQ (l ++ m)) → w.grownBy w' v.ownBlock → K (a.put o.dst v') w') :
    if Region.wanted o (yielded ops a.tmps) = true then Oper.wp Tryd.prog o a w K Q' else E := by
  obtain ⟨i0, hi, hz0, hz1, hz2⟩ := info_parts infoR
  have hw : Region.wanted o (yielded ops a.tmps) = true := by simp [Region.wanted, hg]
  rw [if_pos hw]
  refine wp_append_own w s x 23 ho base 56 i0 (.agg #[.int .i64 0, .slice none 0 0]) 2 32 Tryd.underlying23 hi hz0 hz1 hz2 rfl (by decide) v n (cellsQ l) hs hown ad k c (cellsQ m) hx (by rw [cellsQ_len, hk]) hsrc (qv_one m) (by unfold maxLen; omega) (by omega) hbase ?_
  intro v' w' h1 h2 _
  rw [← cellsQ_app] at h1
  exact h v' w' h1 h2

end Go.Proofs.YtjmodcpeggafhaaDoor.UsefulLess

namespace Go.Proofs.YtjmodcpeggafhaaDoor.UsefulLess
open Go.RowKit Go.Proofs.YtjmodcpeggafhaaDoor.GramMath Go.Proofs.YtjmodcpeggafhaaDoor.GramRow Go.Proofs.YtjmodcpeggafhaaDoor.SetsMath Go.Proofs.YtjmodcpeggafhaaDoor.SetsAlg Go.Proofs.YtjmodcpeggafhaaDoor.UsefulMath Go.Proofs.YtjmodcpeggafhaaDoor.UsefulTop Go.Proofs.YtjmodcpeggafhaaDoor.GramLess Go.Proofs.YtjmodcpeggafhaaDoor.GramLent Go.Proofs.YtjmodcpeggafhaaDoor.GramCheck Go.Proofs.YtjmodcpeggafhaaDoor.GramErrs Go.Proofs.YtjmodcpeggafhaaDoor.UsefulKnown Go.Proofs.YtjmodcpeggafhaaDoor.OpRow Go.Proofs.YtjmodcpeggafhaaDoor.GramApart
set_option linter.unusedVariables false
set_option linter.unusedSimpArgs false

theorem lend_below {w w' : World} {ta na ra : Option Addr} {tc nc : Nat} {g : G} {B : Nat} (h : Lendable w ta na ra tc nc g) (hb : Below B w w') (hB : w.heap.size ≤ B) : Lendable w' ta na ra tc nc g := ⟨h.ts.below hb hB, h.ns.below hb hB, h.rs.below hb hB, h.tn, h.nn, h.tm, h.nm, h.rm, h.each⟩

set_option maxRecDepth 100000 in
set_option maxHeartbeats 4000000 in
theorem walk (ta na ra qa : Option Addr) (tc nc rc qc : Nat) (g : G) (r : R) (p : Nat → Addr) (w : World) (hL : Lendable w ta na ra tc nc g) (hg : okG g) (hr : okR r) (hI : IRow w qa r.right) (hrl : r.right.length * 8 ≤ 140737488351232) (hrn : qa = none → r.right.length = 0 ∧ qc = 0) (hE : Errs w p) (hT : Tab w) (hGl : 15 < w.heap.size) :
    Calls Tryd.prog 8 #[.agg #[.slice ta g.ts.length tc, .slice na g.ns.length nc, .int .i64 g.ax, .slice ra g.rs.length rc], .agg #[.int .i64 r.left, .slice qa r.right.length qc]] w fun e w' => e = .returned (.bool true) ∧ Below w.heap.size w w' := by
  have hneq := neq_nil
  have hB0 : Below w.heap.size w ((w.alloc (.cells #[.slice ta g.ts.length tc, .slice na g.ns.length nc, .int .i64 g.ax, .slice ra g.rs.length rc] 25)).alloc (.cells #[.int .i64 r.left, .slice qa r.right.length qc] 56)) := ((Below.refl _ _).alloc (Nat.le_refl _) _).alloc (by simp) _
  have hbx0 : RowAt ((w.alloc (.cells #[.slice ta g.ts.length tc, .slice na g.ns.length nc, .int .i64 g.ax, .slice ra g.rs.length rc] 25)).alloc (.cells #[.int .i64 r.left, .slice qa r.right.length qc] 56)) w.heap.size 25 #[.slice ta g.ts.length tc, .slice na g.ns.length nc, .int .i64 g.ax, .slice ra g.rs.length rc] := (rowNew w #[.slice ta g.ts.length tc, .slice na g.ns.length nc, .int .i64 g.ax, .slice ra g.rs.length rc] 25).alloc _
  have hry0 : RowAt ((w.alloc (.cells #[.slice ta g.ts.length tc, .slice na g.ns.length nc, .int .i64 g.ax, .slice ra g.rs.length rc] 25)).alloc (.cells #[.int .i64 r.left, .slice qa r.right.length qc] 56)) (w.heap.size + 1) 56 #[.int .i64 r.left, .slice qa r.right.length qc] := by
    have := rowNew (w.alloc (.cells #[.slice ta g.ts.length tc, .slice na g.ns.length nc, .int .i64 g.ax, .slice ra g.rs.length rc] 25)) #[.int .i64 r.left, .slice qa r.right.length qc] 56
    rw [show (w.alloc (.cells #[.slice ta g.ts.length tc, .slice na g.ns.length nc, .int .i64 g.ax, .slice ra g.rs.length rc] 25)).heap.size = w.heap.size + 1 from by simp] at this
    exact this
  have hkn := known_any p ((w.alloc (.cells #[.slice ta g.ts.length tc, .slice na g.ns.length nc, .int .i64 g.ax, .slice ra g.rs.length rc] 25)).alloc (.cells #[.int .i64 r.left, .slice qa r.right.length qc] 56)) (hE.below hB0 (Nat.le_refl _)) (SetsEach.Tab.from hT hB0 hGl) (by have := hB0.size; omega)
  go_enter Tryd.func8, Tryd.ntmps8
  go_wp2_with fail
  generalize ((w.alloc (.cells #[.slice ta g.ts.length tc, .slice na g.ns.length nc, .int .i64 g.ax, .slice ra g.rs.length rc] 25)).alloc (.cells #[.int .i64 r.left, .slice qa r.right.length qc] 56)) = W0 at *
  refine hkn.mono ?_
  rintro e w1 ⟨rfl, hb⟩
  have hB1 := hB0.trans (hb.mono hB0.size)
  have hbx1 := hbx0.below hb hbx0.lt
  have hry1 := hry0.below hb hry0.lt
  clear hkn hb hbx0 hry0 hB0
  have a0 := hbx1.cell (q := 0) rfl
  have a1 := hbx1.cell (q := 1) rfl
  have a2 := hbx1.cell (q := 2) rfl
  have a3 := hbx1.cell (q := 3) rfl
  have hlend := lentG ta na ra tc nc rc g _ (lend_below hL hB1 (Nat.le_refl _))
  go_wp2_with fail
  refine hlend.mono ?_
  rintro e w2 ⟨⟨g1, c1, g2, c2, g3, c3, lq, rfl, hlg⟩, hb⟩
  have hB2 := hB1.trans (hb.mono hB1.size)
  have hbx2 := hbx1.below hb hbx1.lt
  have hry2 := hry1.below hb hry1.lt
  clear hlend hb hbx1 hry1 hB1 a0 a1 a2 a3
  have hck := Productive_top (some ⟨g1, 0, none⟩) (some ⟨g2, 0, none⟩) (some ⟨g3, 0, none⟩) c1 c2 c3 g p _ hlg.row hg (Nat.le_of_lt hlg.tc) (Nat.le_of_lt hlg.nc) (hE.sents.below hB2 (Nat.le_refl _))
  go_wp2_with fail
  refine hck.mono ?_
  rintro e w3 ⟨⟨v0, rfl, hv0⟩, hb⟩
  have hB3 := hB2.trans (hb.mono hB2.size)
  have hbx3 := hbx2.below hb hbx2.lt
  have hry3 := hry2.below hb hry2.lt
  clear hck hb hbx2 hry2 hB2 hlg
  have a0 := hbx3.cell (q := 0) rfl
  have a1 := hbx3.cell (q := 1) rfl
  have a2 := hbx3.cell (q := 2) rfl
  have a3 := hbx3.cell (q := 3) rfl
  have hlend := lentG ta na ra tc nc rc g _ (lend_below hL hB3 (Nat.le_refl _))
  go_wp2_with fail
  refine hlend.mono ?_
  rintro e w4 ⟨⟨g1, c1, g2, c2, g3, c3, lq, rfl, hlg⟩, hb⟩
  have hB4 := hB3.trans (hb.mono hB3.size)
  have hbx4 := hbx3.below hb hbx3.lt
  have hry4 := hry3.below hb hry3.lt
  replace hv0 := hv0.below hb (Nat.le_refl _)
  clear hlend hb hbx3 hry3 hB3 a0 a1 a2 a3
  have hck := Reached_top (some ⟨g1, 0, none⟩) (some ⟨g2, 0, none⟩) (some ⟨g3, 0, none⟩) c1 c2 c3 g p _ hlg.row hg (Nat.le_of_lt hlg.tc) (Nat.le_of_lt hlg.nc) (hE.sents.below hB4 (Nat.le_refl _))
  go_wp2_with fail
  refine hck.mono ?_
  rintro e w5 ⟨⟨v1, rfl, hv1⟩, hb⟩
  have hB5 := hB4.trans (hb.mono hB4.size)
  have hbx5 := hbx4.below hb hbx4.lt
  have hry5 := hry4.below hb hry4.lt
  replace hv0 := hv0.below hb (Nat.le_refl _)
  clear hck hb hbx4 hry4 hB4 hlg
  have a0 := hbx5.cell (q := 0) rfl
  have a1 := hbx5.cell (q := 1) rfl
  have a2 := hbx5.cell (q := 2) rfl
  have a3 := hbx5.cell (q := 3) rfl
  have hlend := lentG ta na ra tc nc rc g _ (lend_below hL hB5 (Nat.le_refl _))
  go_wp2_with fail
  refine hlend.mono ?_
  rintro e w6 ⟨⟨g1, c1, g2, c2, g3, c3, lq, rfl, hlg⟩, hb⟩
  have hB6 := hB5.trans (hb.mono hB5.size)
  have hbx6 := hbx5.below hb hbx5.lt
  have hry6 := hry5.below hb hry5.lt
  replace hv0 := hv0.below hb (Nat.le_refl _)
  replace hv1 := hv1.below hb (Nat.le_refl _)
  clear hlend hb hbx5 hry5 hB5 a0 a1 a2 a3
  have hck := Useful_top (some ⟨g1, 0, none⟩) (some ⟨g2, 0, none⟩) (some ⟨g3, 0, none⟩) c1 c2 c3 g p _ hlg.row hg (Nat.le_of_lt hlg.tc) (Nat.le_of_lt hlg.nc) (fun h => by cases h) (hE.sents.below hB6 (Nat.le_refl _))
  go_wp2_with fail
  refine hck.mono ?_
  rintro e w7 ⟨⟨v2, rfl, hv2⟩, hb⟩
  have hB7 := hB6.trans (hb.mono hB6.size)
  have hbx7 := hbx6.below hb hbx6.lt
  have hry7 := hry6.below hb hry6.lt
  replace hv0 := hv0.below hb (Nat.le_refl _)
  replace hv1 := hv1.below hb (Nat.le_refl _)
  clear hck hb hbx6 hry6 hB6 hlg
  by_cases h0 : (checkG g).1 = 0
  · have hgd := good_of h0
    obtain rfl := ck_nil hv0 h0
    obtain rfl := ck_nil hv1 h0
    obtain rfl := ck_nil hv2 h0
    simp only [okI_yes h0]
    clear hv0 hv1 hv2
    have hx0 := hgd.ax0
    have hx1 := hgd.ax1
    have hn60 := hgd.okRs.1
    have hwax : IntKind.u64.wrap g.ax = g.ax := by rw [IntKind.wrap_u64]; omega
    have a2 := hbx7.cell (q := 2) rfl
    go_wp2_with fail
    refine (in_yes (usefulI_isSet g) (prodI_isSet g) (useful_prod hgd) _).mono ?_
    rintro e w8 ⟨rfl, hw8⟩
    obtain rfl := hw8.symm
    go_wp2_with fail
    refine (in_yes (usefulI_isSet g) (reachI_isSet g) (useful_reach hgd) _).mono ?_
    rintro e w9 ⟨rfl, hw9⟩
    obtain rfl := hw9.symm
    have hsh := shift_one (reachI_isSet g) hx0 (by omega) (ax_reach hgd)
    have a0 := hbx7.cell (q := 0) rfl
    have a1 := hbx7.cell (q := 1) rfl
    have a3 := hbx7.cell (q := 3) rfl
    have hlend := lentG ta na ra tc nc rc g _ (lend_below hL hB7 (Nat.le_refl _))
    go_wp2_with fail
    refine hlend.mono ?_
    rintro e w8 ⟨⟨g1, c1, g2, c2, g3, c3, lq, rfl, hlg⟩, hb⟩
    have hB8 := hB7.trans (hb.mono hB7.size)
    have hry8 := hry7.below hb hry7.lt
    clear hlend hb hbx7 hry7 hB7 a0 a1 a2 a3 hsh
    have hb9 : Below w8.heap.size w8 (w8.alloc (.cells #[.slice (some ⟨g1, 0, none⟩) g.ts.length c1, .slice (some ⟨g2, 0, none⟩) g.ns.length c2, .int .i64 g.ax, .slice (some ⟨g3, 0, none⟩) g.rs.length c3] 25)) := (Below.refl _ _).alloc (Nat.le_refl _) _
    have hin9 := rowNew w8 #[.slice (some ⟨g1, 0, none⟩) g.ts.length c1, .slice (some ⟨g2, 0, none⟩) g.ns.length c2, .int .i64 g.ax, .slice (some ⟨g3, 0, none⟩) g.rs.length c3] 25
    have hry9 := hry8.alloc (.cells #[.slice (some ⟨g1, 0, none⟩) g.ts.length c1, .slice (some ⟨g2, 0, none⟩) g.ns.length c2, .int .i64 g.ax, .slice (some ⟨g3, 0, none⟩) g.rs.length c3] 25)
    have hs9 : (w8.alloc (.cells #[.slice (some ⟨g1, 0, none⟩) g.ts.length c1, .slice (some ⟨g2, 0, none⟩) g.ns.length c2, .int .i64 g.ax, .slice (some ⟨g3, 0, none⟩) g.rs.length c3] 25)).heap.size = w8.heap.size + 1 := by simp
    have hB9 := hB8.trans (hb9.mono hB8.size)
    have hlg9 := hlg.below hb9 (Nat.le_refl _)
    clear hry8
    have h120 := hgd.rules
    have hlql : lq.length = g.rs.length := by rw [← hlg9.map, List.length_map]
    have hlen2 : (cellsQ lq).length = g.rs.length * 2 := by rw [cellsQ_len, hlql]
    have hsrc9 := qrow_pre (qrow_front hlg9.rs) lq.length _ rfl
    rw [List.take_length] at hsrc9
    obtain ⟨i0, hi, hz0, hz1, hz2⟩ := info_parts infoR
    have d0 := hin9.cell (q := 3) rfl
    go_wp2_with (at_builtin; refine wpList_append_own _ rfl (.tmp 86) (.tmp 88) 23 rfl (w8.alloc (.cells #[.slice (some ⟨g1, 0, none⟩) g.ts.length c1, .slice (some ⟨g2, 0, none⟩) g.ns.length c2, .int .i64 g.ax, .slice (some ⟨g3, 0, none⟩) g.rs.length c3] 25)).heap.size 56 i0 (.agg #[.int .i64 0, .slice none 0 0]) 2 32 Tryd.underlying23 hi hz0 hz1 hz2 rfl (by decide) _ _ _ rfl (World.ownsRow_nil (w8.alloc (.cells #[.slice (some ⟨g1, 0, none⟩) g.ts.length c1, .slice (some ⟨g2, 0, none⟩) g.ns.length c2, .int .i64 g.ax, .slice (some ⟨g3, 0, none⟩) g.rs.length c3] 25)) (w8.alloc (.cells #[.slice (some ⟨g1, 0, none⟩) g.ts.length c1, .slice (some ⟨g2, 0, none⟩) g.ns.length c2, .int .i64 g.ax, .slice (some ⟨g3, 0, none⟩) g.rs.length c3] 25)).heap.size 56 2) ⟨g3, 0, none⟩ g.rs.length c3 (cellsQ lq) rfl hlen2 hsrc9 (qv_one lq) (by unfold maxLen; omega) (by omega) (Nat.le_refl _) ?_; intro v1 w10 hown1 hgrow1 _; simp only [Nat.zero_add, List.nil_append] at hown1)
    generalize w8.alloc (.cells #[.slice (some ⟨g1, 0, none⟩) g.ts.length c1, .slice (some ⟨g2, 0, none⟩) g.ns.length c2, .int .i64 g.ax, .slice (some ⟨g3, 0, none⟩) g.rs.length c3] 25) = W9 at *
    clear d0
    have hb10 : Below W9.heap.size W9 w10 := (Below.refl _ _).grown hgrow1 (Nat.le_refl _) (fun k hk => by cases hk)
    obtain ⟨a5, c5, hv5⟩ := own_slice hown1
    subst hv5
    have hS : ∀ w', Below W9.heap.size W9 w' → (w'.cell? ⟨w.heap.size + 1, 0, none⟩ = some (.int .i64 r.left) ∧ w'.cell? ⟨w.heap.size + 1, 1, none⟩ = some (.slice qa r.right.length qc)) := fun w' hb => ⟨(hry9.below hb hry9.lt).cell (q := 0) rfl, (hry9.below hb hry9.lt).cell (q := 1) rfl⟩
    have hd10 : Below W9.heap.size W9 w10.drew := hb10.trans (⟨rfl, rfl, rfl, Nat.le_refl _, fun _ _ => rfl⟩)
    have hown2 := hown1.drew
    have hsd : w10.drew.heap.size = w10.heap.size := rfl
    refine wp_region_noPanic ?_
    refine wp_region_held_drew (S := (fun w' => w'.cell? ⟨w.heap.size + 1, 0, none⟩ = some (.int .i64 r.left) ∧ w'.cell? ⟨w.heap.size + 1, 1, none⟩ = some (.slice qa r.right.length qc))) (by kernel_rfl) (hS _ hd10) (fun hHeld => ?_)
    refine wpAnyH_take (i := 0) (v := .slice a5 g.rs.length c5) rfl (by kernel_rfl) (by kernel_rfl) (by kernel_rfl) (fun _ _ _ h => h) (Or.inl ⟨by rfl, fun w9 hSw => ?_⟩) hHeld ?_
    · obtain ⟨s2, s3⟩ := hSw
      go_simp
    simp only [List.getElem_toArray, List.getElem_cons_zero, List.getElem_cons_succ, Act.put, List.setIfInBounds_toArray, List.set_cons_zero, List.set_cons_succ]
    refine wpAnyH_take (i := 1) (v := .pointer (some ⟨w.heap.size + 1, 0, none⟩)) rfl (by kernel_rfl) (by kernel_rfl) (by kernel_rfl) (fun _ _ _ h => h) (Or.inl ⟨by rfl, fun w9 hSw => ?_⟩) hHeld ?_
    · obtain ⟨s2, s3⟩ := hSw
      go_simp
    simp only [List.getElem_toArray, List.getElem_cons_zero, List.getElem_cons_succ, Act.put, List.setIfInBounds_toArray, List.set_cons_zero, List.set_cons_succ]
    refine wpAnyH_take (i := 2) (v := .int .i64 r.left) rfl (by kernel_rfl) (by kernel_rfl) (by kernel_rfl) (fun _ _ _ h => h) (Or.inl ⟨by rfl, fun w9 hSw => ?_⟩) hHeld ?_
    · obtain ⟨s2, s3⟩ := hSw
      go_simp
    simp only [List.getElem_toArray, List.getElem_cons_zero, List.getElem_cons_succ, Act.put, List.setIfInBounds_toArray, List.set_cons_zero, List.set_cons_succ]
    refine wpAnyH_take (i := 3) (v := .pointer (some ⟨w.heap.size + 1, 1, none⟩)) rfl (by kernel_rfl) (by kernel_rfl) (by kernel_rfl) (fun _ _ _ h => h) (Or.inl ⟨by rfl, fun w9 hSw => ?_⟩) hHeld ?_
    · obtain ⟨s2, s3⟩ := hSw
      go_simp
    simp only [List.getElem_toArray, List.getElem_cons_zero, List.getElem_cons_succ, Act.put, List.setIfInBounds_toArray, List.set_cons_zero, List.set_cons_succ]
    refine wpAnyH_take (i := 4) (v := .slice qa r.right.length qc) rfl (by kernel_rfl) (by kernel_rfl) (by kernel_rfl) (fun _ _ _ h => h) (Or.inl ⟨by rfl, fun w9 hSw => ?_⟩) hHeld ?_
    · obtain ⟨s2, s3⟩ := hSw
      go_simp
    simp only [List.getElem_toArray, List.getElem_cons_zero, List.getElem_cons_succ, Act.put, List.setIfInBounds_toArray, List.set_cons_zero, List.set_cons_succ]
    refine wpAnyH_ready (rs := [5]) (by kernel_rfl) (by simp) ?_
    refine AllReadyH.cons rfl (fun K hK => ?_) AllReadyH.nil
    go_simp
    refine (lentI qa qc r.right _ (hI.below (hB9.trans (hd10.mono hB9.size)) (Nat.le_refl _)) hrl hrn).mono ?_
    rintro e w11 ⟨⟨gi, ci, rfl, hci, hcm, hgi, hri⟩, hb⟩
    have hb11 := hd10.trans (hb.mono hd10.size)
    have hown3 := GramLent.own_below hown2 hb
    refine hK.out _ _ (hS _ hb11) (fun hHeld2 => ?_)
    clear hK K hHeld
    refine wpAnyH_take (i := 6) (v := .agg #[.int .i64 r.left, .slice (some ⟨gi, 0, none⟩) r.right.length ci]) rfl (by kernel_rfl) (by kernel_rfl) (by kernel_rfl) (fun _ _ _ h => h) (Or.inl ⟨by rfl, fun w9 hSw => ?_⟩) hHeld2 ?_
    · obtain ⟨s2, s3⟩ := hSw
      go_simp
    simp only [List.getElem_toArray, List.getElem_cons_zero, List.getElem_cons_succ, Act.put, List.setIfInBounds_toArray, List.set_cons_zero, List.set_cons_succ]
    refine wpAnyH_ready (rs := [7]) (by kernel_rfl) (by simp) ?_
    refine AllReadyH.cons rfl (fun K hK => ?_) AllReadyH.nil
    go_simp
    have hb12 := hb11.alloc hb11.size (.cells #[.int .i64 r.left, .slice (some ⟨gi, 0, none⟩) r.right.length ci] 56)
    have hcn := cells_new w11 #[.int .i64 r.left, .slice (some ⟨gi, 0, none⟩) r.right.length ci] 56
    have hown4 := hown3.alloc (.cells #[.int .i64 r.left, .slice (some ⟨gi, 0, none⟩) r.right.length ci] 56)
    refine hK.out _ _ (hS _ hb12) (fun hHeld3 => ?_)
    clear hK K hHeld2
    refine wpAnyH_ready (rs := [8]) (by kernel_rfl) (by simp) ?_
    refine AllReadyH.cons rfl (fun K hK => ?_) AllReadyH.nil
    refine stepQ rfl _ _ rfl W9.heap.size _ g.rs.length lq hlql.symm (by rfl) hown4 ⟨w11.heap.size, 0, none⟩ 1 1 [⟨r, some ⟨gi, 0, none⟩, ci⟩] rfl (by rfl) hcn (by omega) hb12.size ?_
    intro v6 w13 hown6 hgrow6
    have hb13 : Below W9.heap.size W9 w13 := hb12.grown hgrow6 hb12.size (fun k hk => (hown4.lt k hk).1)
    obtain ⟨a6, c6, hv6⟩ := own_slice hown6
    subst hv6
    refine hK.out _ _ (hS _ hb13) (fun hHeld4 => ?_)
    clear hK K hHeld3
    simp only [List.getElem_toArray, List.getElem_cons_zero, List.getElem_cons_succ, Act.put, List.setIfInBounds_toArray, List.set_cons_zero, List.set_cons_succ]
    refine wpAnyH_take (i := 9) (v := .slice a6 (g.rs.length + 1) c6) rfl (by kernel_rfl) (by kernel_rfl) (by kernel_rfl) (fun _ _ _ h => h) (Or.inl ⟨by rfl, fun w9 hSw => ?_⟩) hHeld4 ?_
    · obtain ⟨s2, s3⟩ := hSw
      go_simp
    simp only [List.getElem_toArray, List.getElem_cons_zero, List.getElem_cons_succ, Act.put, List.setIfInBounds_toArray, List.set_cons_zero, List.set_cons_succ]
    refine wpAnyH_done (by kernel_rfl) (NoPanic.normal ?_) _
    have hlt8 : w8.heap.size < W9.heap.size := by omega
    have hne : (Value.slice a5 g.rs.length c5).ownBlock ≠ some gi := fun e => by
      have h1 := (hown2.lt gi e).2
      omega
    have hri13 : IRow w13 (some ⟨gi, 0, none⟩) (r.right ++ [-7171]) := grown_row hgrow6 (hri.below ((Below.refl w11.heap.size w11).alloc (Nat.le_refl _) _) (Nat.le_refl _)) hne
    have hgi8 : w8.heap.size < gi := by have := hb10.size; omega
    have hri14 : IRow (w13.setCell ⟨w8.heap.size, 3, none⟩ (.slice a6 (g.rs.length + 1) c6)) (some ⟨gi, 0, none⟩) r.right := row_frontI (Cut.i (Cut.set w13 w8.heap.size 3 (.slice a6 (g.rs.length + 1) c6)) hri13 hgi8)
    have hin13 := hin9.below hb13 hin9.lt
    have d3 := hin13.cell (q := 3) rfl
    have d4 := hin13.frozen 3
    have hin14 : RowAt (w13.setCell ⟨w8.heap.size, 3, none⟩ (.slice a6 (g.rs.length + 1) c6)) w8.heap.size 25 #[.slice (some ⟨g1, 0, none⟩) g.ts.length c1, .slice (some ⟨g2, 0, none⟩) g.ns.length c2, .int .i64 g.ax, .slice a6 (g.rs.length + 1) c6] := hin13.set 3 (.slice a6 (g.rs.length + 1) c6)
    have hb14 : Below w8.heap.size w8 (w13.setCell ⟨w8.heap.size, 3, none⟩ (.slice a6 (g.rs.length + 1) c6)) := (hb9.trans (hb13.mono (Nat.le_of_lt hlt8))).setCell (Nat.le_refl _) _
    have hQ14 : QRow (w13.setCell ⟨w8.heap.size, 3, none⟩ (.slice a6 (g.rs.length + 1) c6)) a6 (lq ++ [(⟨r, some ⟨gi, 0, none⟩, ci⟩ : Q)]) := own_qrow (by rw [List.length_append, hlql]; rfl) (ownsRow_setCell_below hown6 (a := ⟨w8.heap.size, 3, none⟩) hlt8 (.slice a6 (g.rs.length + 1) c6))
    have e0 := hin14.cell (q := 0) rfl
    have e1 := hin14.cell (q := 1) rfl
    have e2 := hin14.cell (q := 2) rfl
    have e3 := hin14.cell (q := 3) rfl
    clear hri13 hri hgrow6 hgrow1 hown1 hown2 hown3 hown4 hown6 hb10 hb11 hb12 hb13 hb hd10 hcn hHeld4 hS hry9 hsrc9 hlg9 hB9
    have hlg14 := hlg.below hb14 (Nat.le_refl _)
    have hB14 : Below w.heap.size w (w13.setCell ⟨w8.heap.size, 3, none⟩ (.slice a6 (g.rs.length + 1) c6)) := hB8.trans (hb14.mono hB8.size)
    have hG14 : GRow (w13.setCell ⟨w8.heap.size, 3, none⟩ (.slice a6 (g.rs.length + 1) c6)) (some ⟨g1, 0, none⟩) (some ⟨g2, 0, none⟩) a6 (more g r) := by
      have h3 := rrow_of hQ14 (fun x hx => by
        rcases List.mem_append.1 hx with h | h
        · obtain ⟨b, h1, _, _, _, h4⟩ := hlg14.each x h
          exact row_frontI h4
        · rw [List.mem_singleton.1 h]
          exact hri14)
      rw [List.map_append, hlg14.map] at h3
      exact ⟨hlg14.row.1, hlg14.row.2.1, h3⟩
    have hgm := more_ok hg hr h120
    have hck := prod_top2 (some ⟨g1, 0, none⟩) (some ⟨g2, 0, none⟩) a6 c1 c2 c6 g r p _ hG14 hgm (Nat.le_of_lt hlg.tc) (Nat.le_of_lt hlg.nc) (hE.sents.below hB14 (Nat.le_refl _))
    go_wp2_with fail
    generalize (w13.setCell ⟨w8.heap.size, 3, none⟩ (.slice a6 (g.rs.length + 1) c6)) = W14 at *
    refine hck.mono ?_
    rintro e w15 ⟨⟨v3, rfl, hv3⟩, hb⟩
    have hB15 := hB14.trans (hb.mono hB14.size)
    have hin15 := hin14.below hb hin14.lt
    have hG15 := hG14.below hb (Nat.le_refl _)
    clear hck hb e0 e1 e2 e3 d3 d4 hG14
    have e0 := hin15.cell (q := 0) rfl
    have e1 := hin15.cell (q := 1) rfl
    have e2 := hin15.cell (q := 2) rfl
    have e3 := hin15.cell (q := 3) rfl
    have hck := reach_top2 (some ⟨g1, 0, none⟩) (some ⟨g2, 0, none⟩) a6 c1 c2 c6 g r p _ hG15 hgm (Nat.le_of_lt hlg.tc) (Nat.le_of_lt hlg.nc) (hE.sents.below hB15 (Nat.le_refl _))
    go_wp2_with fail
    refine hck.mono ?_
    rintro e w16 ⟨⟨v4, rfl, hv4⟩, hb⟩
    have hB16 := hB15.trans (hb.mono hB15.size)
    clear hck e0 e1 e2 e3
    by_cases hm0 : (checkG (more g r)).1 = 0
    · have hmd := good_of hm0
      obtain rfl := ck_nil hv3 hm0
      obtain rfl := ck_nil hv4 hm0
      simp only [okI_yes hm0]
      go_wp2_with fail
      refine (in_yes (prodI_isSet g) (prodI_isSet (more g r)) (more_prod hgd hmd (in_more g r)) _).mono ?_
      rintro e w17 ⟨rfl, hw17⟩
      obtain rfl := hw17.symm
      go_wp2_with fail
      refine (in_yes (reachI_isSet g) (reachI_isSet (more g r)) (more_reach hgd hmd rfl (in_more g r)) _).mono ?_
      rintro e w18 ⟨rfl, hw18⟩
      obtain rfl := hw18.symm
      go_wp2
      go_ret
      exact ⟨rfl, hB16⟩
    · obtain ⟨t3, u3, rfl⟩ := ck_iface hv3 hm0
      obtain ⟨t4, u4, rfl⟩ := ck_iface hv4 hm0
      simp only [okI_no hm0]
      go_wp2
      go_ret
      exact ⟨rfl, hB16⟩
  · have hi0 := ck_iface hv0 h0
    obtain ⟨t0, u0, rfl⟩ := hi0
    obtain ⟨t1, u1, rfl⟩ := ck_iface hv1 h0
    obtain ⟨t2, u2, rfl⟩ := ck_iface hv2 h0
    simp only [okI_no h0]
    go_wp2
    go_ret
    exact ⟨rfl, hB7⟩

end Go.Proofs.YtjmodcpeggafhaaDoor.UsefulLess
