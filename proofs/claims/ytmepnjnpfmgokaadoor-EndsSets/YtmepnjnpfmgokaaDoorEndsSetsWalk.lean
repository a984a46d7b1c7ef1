/-
  The walk of EndsSets: it answers true for every grammar, and writes nothing that was there.
-/
import Derived.Test.YtmepnjnpfmgokaaDoorEndsROf
import Derived.Test.YtmepnjnpfmgokaaDoorEndsAwake
import Derived.Test.YtmepnjnpfmgokaaDoorGramApartS
import Derived.Test.YtmepnjnpfmgokaaDoorGramLentG
import Derived.Test.YtmepnjnpfmgokaaDoorGramOpenL
import Derived.Test.YtmepnjnpfmgokaaDoorGramRuleOf
import Derived.Test.YtmepnjnpfmgokaaDoorUsefulOpen
namespace Go.Proofs.YtmepnjnpfmgokaaDoor.EndsSetsW
open Go.RowKit Go.Proofs.YtmepnjnpfmgokaaDoor.GramMath Go.Proofs.YtmepnjnpfmgokaaDoor.GramRow Go.Proofs.YtmepnjnpfmgokaaDoor.GramCheck Go.Proofs.YtmepnjnpfmgokaaDoor.GramErrs Go.Proofs.YtmepnjnpfmgokaaDoor.GramAwake Go.Proofs.YtmepnjnpfmgokaaDoor.GramAboveFn Go.Proofs.YtmepnjnpfmgokaaDoor.GramApart Go.Proofs.YtmepnjnpfmgokaaDoor.GramLent Go.Proofs.YtmepnjnpfmgokaaDoor.EndsMath Go.Proofs.YtmepnjnpfmgokaaDoor.EndsFn Go.Proofs.YtmepnjnpfmgokaaDoor.EndsRef Go.Proofs.YtmepnjnpfmgokaaDoor.EndsAwake Go.Proofs.YtmepnjnpfmgokaaDoor.GramRef
set_option linter.unusedVariables false

/-- How many sets there are. -/
def okn (g : G) : Nat := if (checkG g).1 = 0 then g.ns.length else 0

/-- A list of sets, or none. -/
structure Fl (base : Nat) (w : World) (a : Option Addr) (b nn : Nat) (V : Nat → Nat) : Prop where
  ad : 0 < nn → a = some ⟨b, 0, none⟩
  nil : nn = 0 → a = none
  row : VRow w b nn V
  ge : 0 < nn → base ≤ b ∧ b < w.heap.size

theorem Fl.below {base : Nat} {w w' : World} {a : Option Addr} {b nn B : Nat} {V : Nat → Nat} (h : Fl base w a b nn V) (hb : Below B w w') (hB : w.heap.size ≤ B) : Fl base w' a b nn V := by
  refine ⟨h.ad, h.nil, ?_, fun h0 => ⟨(h.ge h0).1, Nat.lt_of_lt_of_le (h.ge h0).2 hb.size⟩⟩
  rcases Nat.eq_zero_or_pos nn with h0 | h0
  · subst h0
    exact fun i hi => absurd hi (by omega)
  · exact h.row.below hb (Nat.lt_of_lt_of_le (h.ge h0).2 hB)
theorem Fl.urow {base : Nat} {w : World} {a : Option Addr} {b nn : Nat} {V : Nat → Nat} (h : Fl base w a b nn V) : URow w a nn V := fun i hi => by
  rw [h.ad (by omega)]
  exact vrow_row h.row i hi
theorem Fl.mono {base base' : Nat} {w : World} {a : Option Addr} {b nn : Nat} {V : Nat → Nat} (h : Fl base w a b nn V) (hb : base' ≤ base) : Fl base' w a b nn V := ⟨h.ad, h.nil, h.row, fun h0 => ⟨Nat.le_trans hb (h.ge h0).1, (h.ge h0).2⟩⟩

theorem of_flat {base : Nat} {g : G} {w : World} {u v : Value} (h : OfV base g w u v) : ∃ al ar bl br, u = .slice al (okn g) (okn g) ∧ v = .slice ar (okn g) (okn g) ∧ Fl base w al bl (okn g) (putE false g) ∧ Fl base w ar br (okn g) (putE true g) ∧ (0 < okn g → bl < br) ∧ okn g ≤ 60 := by
  unfold okn
  rcases h with ⟨h0, bl, br, Vl, Vr, rfl, rfl, hl, hr, hlr⟩ | ⟨h0, rfl, rfl⟩
  · have hg := good_of h0
    have hx := hg.ax0
    have hx1 := hg.ax1
    have hf := hg.few
    rw [if_pos h0]
    exact ⟨_, _, bl, br, rfl, rfl, ⟨fun _ => rfl, fun h => by omega, hl.row.congr (fun i hi => hl.ends.eq (putE_ends hg) hi hi (fun _ => Iff.rfl)), fun _ => ⟨hl.ge, hl.lt⟩⟩, ⟨fun _ => rfl, fun h => by omega, hr.row.congr (fun i hi => hr.ends.eq (putE_ends hg) hi hi (fun _ => Iff.rfl)), fun _ => ⟨hr.ge, hr.lt⟩⟩, fun _ => hlr, by omega⟩
  · rw [if_neg h0]
    exact ⟨none, none, 0, 0, rfl, rfl, ⟨fun h => by omega, fun _ => rfl, fun i hi => absurd hi (by omega), fun h => by omega⟩, ⟨fun h => by omega, fun _ => rfl, fun i hi => absurd hi (by omega), fun h => by omega⟩, fun h => by omega, by omega⟩
theorem rof_flat {g : G} {w : World} {u v : Value} (h : ROfV g w u v) : ∃ a c a' c', u = .slice a (okn g) c ∧ v = .slice a' (okn g) c' ∧ URow w a (okn g) (putE false g) ∧ URow w a' (okn g) (putE true g) := by
  unfold okn
  rcases h with ⟨h0, a, c, a', c', rfl, rfl, h1, h2⟩ | ⟨h0, rfl, rfl⟩
  · rw [if_pos h0]
    exact ⟨a, c, a', c', rfl, rfl, h1, h2⟩
  · rw [if_neg h0]
    exact ⟨none, 0, none, 0, rfl, rfl, fun i hi => absurd hi (by omega), fun i hi => absurd hi (by omega)⟩

theorem ruleZ_ruI (g : G) : ruleZ (checkG g) = ruI (checkG g).2 := by
  by_cases h : (checkG g).1 = 0
  · rw [check_none h]; rfl
  · generalize checkG g = z at *
    match z, h with
    | (0, _), h => exact absurd rfl h
    | (k + 1, none), _ => rfl
    | (k + 1, some i), _ => rfl

def four (a b c d : Nat) : Nat → Nat
  | 0 => a
  | 1 => b
  | 2 => c
  | _ => d
def fourA (a b c d : Option Addr) : Nat → Option Addr
  | 0 => a
  | 1 => b
  | 2 => c
  | _ => d

theorem fl_at {base : Nat} {w : World} {a : Option Addr} {b nn : Nat} {V : Nat → Nat} (h : Fl base w a b nn V) {g : Nat → Nat} {j : Nat} (hg : g j = b) : at' g (fun _ => nn) j a := by
  rcases Nat.eq_zero_or_pos nn with h0 | h0
  · rw [h.nil h0]; exact h0
  · rw [h.ad h0, ← hg]; exact rfl

theorem apart_four (B nn b0 b1 b2 b3 : Nat) (a0 a1 a2 a3 : Option Addr) (V0 V1 V2 V3 : Nat → Nat) (W : World) (h0 : Fl B W a0 b0 nn V0) (h1 : Fl B W a1 b1 nn V1) (h2 : Fl B W a2 b2 nn V2) (h3 : Fl B W a3 b3 nn V3) (hlt : 0 < nn → b0 < b1 ∧ b1 < b2 ∧ b2 < b3) (hn : nn ≤ 60) (hBW : B ≤ W.heap.size) :
    Calls Tryd.prog 15 #[.slice (some ⟨W.heap.size, 0, none⟩) 4 4] (W.alloc (.cells #[.slice a0 nn nn, .slice a1 nn nn, .slice a2 nn nn, .slice a3 nn nn] 27)) fun e w' => e = .returned (.bool true) ∧ Below B W w' := by
  have hal : Below W.heap.size W (W.alloc (.cells #[.slice a0 nn nn, .slice a1 nn nn, .slice a2 nn nn, .slice a3 nn nn] 27)) := (Below.refl _ _).alloc (Nat.le_refl _) _
  have k0 := h0.below hal (Nat.le_refl _)
  have k1 := h1.below hal (Nat.le_refl _)
  have k2 := h2.below hal (Nat.le_refl _)
  have k3 := h3.below hal (Nat.le_refl _)
  refine (apart_sets B 4 W.heap.size 4 (four b0 b1 b2 b3) (fun _ => nn) (fourA a0 a1 a2 a3) _ _ (by omega) (World.alloc_heap_new W _) ?_ ?_ ?_ ?_ ?_ hBW ?_ ?_).mono fun e w' ⟨he, hb⟩ => ⟨he, (hal.mono hBW).trans hb⟩
  · intro j hj
    match j, hj with
    | 0, _ => rfl
    | 1, _ => rfl
    | 2, _ => rfl
    | 3, _ => rfl
  · intro j hj
    match j, hj with
    | 0, _ => exact fl_at k0 rfl
    | 1, _ => exact fl_at k1 rfl
    | 2, _ => exact fl_at k2 rfl
    | 3, _ => exact fl_at k3 rfl
  · intro j hj q hq
    match j, hj with
    | 0, _ => exact ⟨(k0.row q hq).2, _, (k0.row q hq).1, fun h => by omega⟩
    | 1, _ => exact ⟨(k1.row q hq).2, _, (k1.row q hq).1, fun h => by omega⟩
    | 2, _ => exact ⟨(k2.row q hq).2, _, (k2.row q hq).1, fun h => by omega⟩
    | 3, _ => exact ⟨(k3.row q hq).2, _, (k3.row q hq).1, fun h => by omega⟩
  · intro a ha b hb hab hN _
    obtain ⟨p1, p2, p3⟩ := hlt hN
    match a, ha, b, hb with
    | 0, _, 0, _ => exact absurd rfl hab
    | 0, _, 1, _ => show b0 ≠ b1; omega
    | 0, _, 2, _ => show b0 ≠ b2; omega
    | 0, _, 3, _ => show b0 ≠ b3; omega
    | 1, _, 0, _ => show b1 ≠ b0; omega
    | 1, _, 1, _ => exact absurd rfl hab
    | 1, _, 2, _ => show b1 ≠ b2; omega
    | 1, _, 3, _ => show b1 ≠ b3; omega
    | 2, _, 0, _ => show b2 ≠ b0; omega
    | 2, _, 1, _ => show b2 ≠ b1; omega
    | 2, _, 2, _ => exact absurd rfl hab
    | 2, _, 3, _ => show b2 ≠ b3; omega
    | 3, _, 0, _ => show b3 ≠ b0; omega
    | 3, _, 1, _ => show b3 ≠ b1; omega
    | 3, _, 2, _ => show b3 ≠ b2; omega
    | 3, _, 3, _ => exact absurd rfl hab
  · intro j hj
    show nn ≤ 64
    omega
  · intro j hj hN
    match j, hj with
    | 0, _ => exact (h0.ge hN).1
    | 1, _ => exact (h1.ge hN).1
    | 2, _ => exact (h2.ge hN).1
    | 3, _ => exact (h3.ge hN).1
  · intro j hj hN
    have q0 := (h0.ge hN).2
    have q1 := (h1.ge hN).2
    have q2 := (h2.ge hN).2
    have q3 := (h3.ge hN).2
    match j, hj with
    | 0, _ => show W.heap.size ≠ b0; omega
    | 1, _ => show W.heap.size ≠ b1; omega
    | 2, _ => show W.heap.size ≠ b2; omega
    | 3, _ => show W.heap.size ≠ b3; omega

set_option maxRecDepth 100000 in
set_option maxHeartbeats 8000000 in
theorem walk (ta na ra : Option Addr) (tc nc rc : Nat) (g : G) (p : Nat → Addr) (w : World) (hL : Lendable w ta na ra tc nc g) (hg : okG g) (hE : Errs w p) (hT : ErrType w) :
    Calls Tryd.prog 3 #[.agg #[.slice ta g.ts.length tc, .slice na g.ns.length nc, .int .i64 g.ax, .slice ra g.rs.length rc]] w fun e w' => e = .returned (.bool true) ∧ Below w.heap.size w w' := by
  have hG := GramOpen.lendable_row hL
  have hB : Below w.heap.size w (w.alloc (.cells #[.slice ta g.ts.length tc, .slice na g.ns.length nc, .int .i64 g.ax, .slice ra g.rs.length rc] 25)) := (Below.refl _ _).alloc (Nat.le_refl _) _
  have hbx := UsefulTop.rowNew w #[.slice ta g.ts.length tc, .slice na g.ns.length nc, .int .i64 g.ax, .slice ra g.rs.length rc] 25
  have hL1 : Lendable (w.alloc (.cells #[.slice ta g.ts.length tc, .slice na g.ns.length nc, .int .i64 g.ax, .slice ra g.rs.length rc] 25)) ta na ra tc nc g := ⟨hL.ts.below hB (Nat.le_refl _), hL.ns.below hB (Nat.le_refl _), hL.rs.below hB (Nat.le_refl _), hL.tn, hL.nn, hL.tm, hL.nm, hL.rm, hL.each⟩
  have hlend := lentG ta na ra tc nc rc g _ hL1
  go_enter Tryd.func3, Tryd.ntmps3
  go_wp2_with fail
  refine hlend.mono ?_
  rintro e w1 ⟨⟨g1, c1, g2, c2, g3, c3, lq, rfl, hlg⟩, hb⟩
  replace hB := hB.trans (hb.mono hB.size)
  replace hbx := hbx.below hb hbx.lt
  clear hlend hL1 hL hb
  have hb : Below w1.heap.size w1 (w1.alloc (.cells #[.slice (some ⟨g1, 0, none⟩) g.ts.length c1, .slice (some ⟨g2, 0, none⟩) g.ns.length c2, .int .i64 g.ax, .slice (some ⟨g3, 0, none⟩) g.rs.length c3] 25)) := (Below.refl _ _).alloc (Nat.le_refl _) _
  have hin := UsefulTop.rowNew w1 #[.slice (some ⟨g1, 0, none⟩) g.ts.length c1, .slice (some ⟨g2, 0, none⟩) g.ns.length c2, .int .i64 g.ax, .slice (some ⟨g3, 0, none⟩) g.rs.length c3] 25
  have htc := Nat.le_of_lt hlg.tc
  have hnc := Nat.le_of_lt hlg.nc
  replace hB := hB.trans (hb.mono hB.size)
  replace hbx := hbx.below hb hbx.lt
  replace hlg := hlg.below hb (Nat.le_refl _)
  clear hb
  have hof := Of_top (some ⟨g1, 0, none⟩) (some ⟨g2, 0, none⟩) (some ⟨g3, 0, none⟩) c1 c2 c3 g p _ hlg.row hg htc hnc (hE.sents.below hB (Nat.le_refl _))
  go_wp2_with fail
  generalize w1.alloc (.cells #[.slice (some ⟨g1, 0, none⟩) g.ts.length c1, .slice (some ⟨g2, 0, none⟩) g.ns.length c2, .int .i64 g.ax, .slice (some ⟨g3, 0, none⟩) g.rs.length c3] 25) = W0 at *
  have hK : Below W0.heap.size W0 W0 := Below.refl _ _
  have hlg0 := hlg
  have hB0 := hB
  have hbx0 := hbx
  have hin0 := hin
  refine hof.mono ?_
  rintro e w2 ⟨⟨u, v, x, rfl, hO, hx⟩, hb⟩
  obtain ⟨al, ar, bl, br, rfl, rfl, hl1, hr1, ho1, hn60⟩ := of_flat hO
  replace hK := hK.trans (hb.mono hK.size)
  replace hB := hB.trans (hb.mono hB.size)
  replace hbx := hbx.below hb hbx.lt
  replace hin := hin.below hb hin.lt
  replace hlg := hlg.below hb (Nat.le_refl _)
  clear hof hb hO
  have hex := UsefulTop.rowNew w2 #[.slice al (okn g) (okn g), .slice ar (okn g) (okn g)] 29
  have hb : Below w2.heap.size w2 (w2.alloc (.cells #[.slice al (okn g) (okn g), .slice ar (okn g) (okn g)] 29)) := (Below.refl _ _).alloc (Nat.le_refl _) _
  replace hK := hK.trans (hb.mono hK.size)
  replace hB := hB.trans (hb.mono hB.size)
  replace hbx := hbx.below hb hbx.lt
  replace hin := hin.below hb hin.lt
  replace hlg := hlg.below hb (Nat.le_refl _)
  replace hl1 := hl1.below hb (Nat.le_refl _)
  replace hr1 := hr1.below hb (Nat.le_refl _)
  replace hx := hx.below hb (Nat.le_refl _)
  clear hb
  have i0 := hin.cell (q := 0) rfl
  have i1 := hin.cell (q := 1) rfl
  have i2 := hin.cell (q := 2) rfl
  have i3 := hin.cell (q := 3) rfl
  have hof := Of_top (some ⟨g1, 0, none⟩) (some ⟨g2, 0, none⟩) (some ⟨g3, 0, none⟩) c1 c2 c3 g p _ hlg.row hg htc hnc (hE.sents.below hB (Nat.le_refl _))
  go_wp2_with fail
  have hZ : W0.heap.size ≤ (w2.alloc (.cells #[.slice al (okn g) (okn g), .slice ar (okn g) (okn g)] 29)).heap.size := by have := hK.size; simp at this ⊢; omega
  refine hof.mono ?_
  rintro e w3 ⟨⟨u2, v2, x2, rfl, hO, hx2⟩, hb⟩
  obtain ⟨al2, ar2, bl2, br2, rfl, rfl, hl2', hr2', ho2, _⟩ := of_flat hO
  have hl2 := hl2'.mono hZ
  have hr2 := hr2'.mono hZ
  have h12 : 0 < okn g → br < bl2 := fun h => by have h1 := (hr1.ge h).2; have h2 := (hl2'.ge h).1; omega
  clear hl2' hr2' i0 i1 i2 i3
  replace hK := hK.trans (hb.mono hK.size)
  replace hB := hB.trans (hb.mono hB.size)
  replace hbx := hbx.below hb hbx.lt
  replace hin := hin.below hb hin.lt
  replace hex := hex.below hb hex.lt
  replace hlg := hlg.below hb (Nat.le_refl _)
  replace hl1 := hl1.below hb (Nat.le_refl _)
  replace hr1 := hr1.below hb (Nat.le_refl _)
  replace hx := hx.below hb (Nat.le_refl _)
  clear hof hb hO hx2
  have hey := UsefulTop.rowNew w3 #[.slice al2 (okn g) (okn g), .slice ar2 (okn g) (okn g)] 29
  have hb : Below w3.heap.size w3 (w3.alloc (.cells #[.slice al2 (okn g) (okn g), .slice ar2 (okn g) (okn g)] 29)) := (Below.refl _ _).alloc (Nat.le_refl _) _
  replace hK := hK.trans (hb.mono hK.size)
  replace hB := hB.trans (hb.mono hB.size)
  replace hbx := hbx.below hb hbx.lt
  replace hin := hin.below hb hin.lt
  replace hex := hex.below hb hex.lt
  replace hlg := hlg.below hb (Nat.le_refl _)
  replace hl1 := hl1.below hb (Nat.le_refl _)
  replace hr1 := hr1.below hb (Nat.le_refl _)
  replace hx := hx.below hb (Nat.le_refl _)
  replace hl2 := hl2.below hb (Nat.le_refl _)
  replace hr2 := hr2.below hb (Nat.le_refl _)
  clear hb
  have b0 := hbx.cell (q := 0) rfl
  have b1 := hbx.cell (q := 1) rfl
  have b2 := hbx.cell (q := 2) rfl
  have b3 := hbx.cell (q := 3) rfl
  have hrf := rof_any ta na ra tc nc rc g _ (hG.below hB (Nat.le_refl _)) hg
  go_wp2_with fail
  refine hrf.mono ?_
  rintro e w4 ⟨⟨ru, rv, rfl, hro⟩, hb⟩
  obtain ⟨ra1, rc1, ra2, rc2, rfl, rfl, ul, ur⟩ := rof_flat hro
  replace hK := hK.trans (hb.mono hK.size)
  replace hB := hB.trans (hb.mono hB.size)
  replace hbx := hbx.below hb hbx.lt
  replace hin := hin.below hb hin.lt
  replace hex := hex.below hb hex.lt
  replace hey := hey.below hb hey.lt
  replace hlg := hlg.below hb (Nat.le_refl _)
  replace hl1 := hl1.below hb (Nat.le_refl _)
  replace hr1 := hr1.below hb (Nat.le_refl _)
  replace hx := hx.below hb (Nat.le_refl _)
  replace hl2 := hl2.below hb (Nat.le_refl _)
  replace hr2 := hr2.below hb (Nat.le_refl _)
  clear hrf hb hro b0 b1 b2 b3
  have ez : (((checkG g).1 : Int) != ((checkG g).1 : Int)) = false := by simp
  have er : (ruI (checkG g).2 != ruI (checkG g).2) = false := by simp
  have hkk := kind_ck _ p (checkG g) w4 x (hE.below hB (Nat.le_refl _)) (UsefulTop.check_le g) hx
  go_wp2_with fail
  refine hkk.mono ?_
  rintro e w5 ⟨rfl, hb⟩
  replace hK := hK.trans (hb.mono hK.size)
  replace hB := hB.trans (hb.mono hB.size)
  replace hbx := hbx.below hb hbx.lt
  replace hin := hin.below hb hin.lt
  replace hex := hex.below hb hex.lt
  replace hey := hey.below hb hey.lt
  replace hlg := hlg.below hb (Nat.le_refl _)
  replace hl1 := hl1.below hb (Nat.le_refl _)
  replace hr1 := hr1.below hb (Nat.le_refl _)
  replace hx := hx.below hb (Nat.le_refl _)
  replace hl2 := hl2.below hb (Nat.le_refl _)
  replace hr2 := hr2.below hb (Nat.le_refl _)
  replace ul := ul.below hb (Nat.le_refl _)
  replace ur := ur.below hb (Nat.le_refl _)
  clear hkk hb
  have hrk := rule_ck _ p (checkG g) w5 x (hT.below hB (Nat.le_refl _)) hx
  rw [ruleZ_ruI] at hrk
  go_wp2_with fail
  refine hrk.mono ?_
  rintro e w6 ⟨rfl, hb⟩
  replace hK := hK.trans (hb.mono hK.size)
  replace hB := hB.trans (hb.mono hB.size)
  replace hbx := hbx.below hb hbx.lt
  replace hin := hin.below hb hin.lt
  replace hex := hex.below hb hex.lt
  replace hey := hey.below hb hey.lt
  replace hlg := hlg.below hb (Nat.le_refl _)
  replace hl1 := hl1.below hb (Nat.le_refl _)
  replace hr1 := hr1.below hb (Nat.le_refl _)
  replace hx := hx.below hb (Nat.le_refl _)
  replace hl2 := hl2.below hb (Nat.le_refl _)
  replace hr2 := hr2.below hb (Nat.le_refl _)
  replace ul := ul.below hb (Nat.le_refl _)
  replace ur := ur.below hb (Nat.le_refl _)
  clear hrk hb
  have e0 := hex.cell (q := 0) rfl
  have hss := sets_same al ra1 (okn g) (okn g) rc1 (putE false g) w6 hl1.urow ul (by omega)
  go_wp2_with fail
  refine hss.mono ?_
  rintro e w7 ⟨rfl, hb⟩
  replace hK := hK.trans (hb.mono hK.size)
  replace hB := hB.trans (hb.mono hB.size)
  replace hbx := hbx.below hb hbx.lt
  replace hin := hin.below hb hin.lt
  replace hex := hex.below hb hex.lt
  replace hey := hey.below hb hey.lt
  replace hlg := hlg.below hb (Nat.le_refl _)
  replace hl1 := hl1.below hb (Nat.le_refl _)
  replace hr1 := hr1.below hb (Nat.le_refl _)
  replace hx := hx.below hb (Nat.le_refl _)
  replace hl2 := hl2.below hb (Nat.le_refl _)
  replace hr2 := hr2.below hb (Nat.le_refl _)
  replace ul := ul.below hb (Nat.le_refl _)
  replace ur := ur.below hb (Nat.le_refl _)
  clear hss hb e0
  have e1 := hex.cell (q := 1) rfl
  have hss := sets_same ar ra2 (okn g) (okn g) rc2 (putE true g) w7 hr1.urow ur (by omega)
  go_wp2_with fail
  refine hss.mono ?_
  rintro e w8 ⟨rfl, hb⟩
  replace hK := hK.trans (hb.mono hK.size)
  replace hB := hB.trans (hb.mono hB.size)
  replace hbx := hbx.below hb hbx.lt
  replace hin := hin.below hb hin.lt
  replace hex := hex.below hb hex.lt
  replace hey := hey.below hb hey.lt
  replace hlg := hlg.below hb (Nat.le_refl _)
  replace hl1 := hl1.below hb (Nat.le_refl _)
  replace hr1 := hr1.below hb (Nat.le_refl _)
  replace hx := hx.below hb (Nat.le_refl _)
  replace hl2 := hl2.below hb (Nat.le_refl _)
  replace hr2 := hr2.below hb (Nat.le_refl _)
  replace ul := ul.below hb (Nat.le_refl _)
  replace ur := ur.below hb (Nat.le_refl _)
  clear hss hb e1
  have y0 := hey.cell (q := 0) rfl
  have hss := sets_same al2 ra1 (okn g) (okn g) rc1 (putE false g) w8 hl2.urow ul (by omega)
  go_wp2_with fail
  refine hss.mono ?_
  rintro e w9 ⟨rfl, hb⟩
  replace hK := hK.trans (hb.mono hK.size)
  replace hB := hB.trans (hb.mono hB.size)
  replace hbx := hbx.below hb hbx.lt
  replace hin := hin.below hb hin.lt
  replace hex := hex.below hb hex.lt
  replace hey := hey.below hb hey.lt
  replace hlg := hlg.below hb (Nat.le_refl _)
  replace hl1 := hl1.below hb (Nat.le_refl _)
  replace hr1 := hr1.below hb (Nat.le_refl _)
  replace hx := hx.below hb (Nat.le_refl _)
  replace hl2 := hl2.below hb (Nat.le_refl _)
  replace hr2 := hr2.below hb (Nat.le_refl _)
  replace ul := ul.below hb (Nat.le_refl _)
  replace ur := ur.below hb (Nat.le_refl _)
  clear hss hb y0
  have y1 := hey.cell (q := 1) rfl
  have hss := sets_same ar2 ra2 (okn g) (okn g) rc2 (putE true g) w9 hr2.urow ur (by omega)
  go_wp2_with fail
  refine hss.mono ?_
  rintro e w10 ⟨rfl, hb⟩
  replace hK := hK.trans (hb.mono hK.size)
  replace hB := hB.trans (hb.mono hB.size)
  replace hbx := hbx.below hb hbx.lt
  replace hin := hin.below hb hin.lt
  replace hex := hex.below hb hex.lt
  replace hey := hey.below hb hey.lt
  replace hlg := hlg.below hb (Nat.le_refl _)
  replace hl1 := hl1.below hb (Nat.le_refl _)
  replace hr1 := hr1.below hb (Nat.le_refl _)
  replace hx := hx.below hb (Nat.le_refl _)
  replace hl2 := hl2.below hb (Nat.le_refl _)
  replace hr2 := hr2.below hb (Nat.le_refl _)
  replace ul := ul.below hb (Nat.le_refl _)
  replace ur := ur.below hb (Nat.le_refl _)
  clear hss hb y1
  have i0 := hin.cell (q := 0) rfl
  have i1 := hin.cell (q := 1) rfl
  have i2 := hin.cell (q := 2) rfl
  have i3 := hin.cell (q := 3) rfl
  have b0 := hbx.cell (q := 0) rfl
  have b1 := hbx.cell (q := 1) rfl
  have b2 := hbx.cell (q := 2) rfl
  have b3 := hbx.cell (q := 3) rfl
  have hkept := keptG g1 c1 g2 c2 g3 c3 lq ta na ra tc nc rc g w10 hlg (hG.below hB (Nat.le_refl _)) hg
  go_wp2_with fail
  refine hkept.mono ?_
  rintro e w11 ⟨rfl, hb⟩
  replace hK := hK.trans (hb.mono hK.size)
  replace hB := hB.trans (hb.mono hB.size)
  replace hbx := hbx.below hb hbx.lt
  replace hin := hin.below hb hin.lt
  replace hex := hex.below hb hex.lt
  replace hey := hey.below hb hey.lt
  replace hlg := hlg.below hb (Nat.le_refl _)
  replace hl1 := hl1.below hb (Nat.le_refl _)
  replace hr1 := hr1.below hb (Nat.le_refl _)
  replace hx := hx.below hb (Nat.le_refl _)
  replace hl2 := hl2.below hb (Nat.le_refl _)
  replace hr2 := hr2.below hb (Nat.le_refl _)
  replace ul := ul.below hb (Nat.le_refl _)
  replace ur := ur.below hb (Nat.le_refl _)
  clear hkept hb i0 i1 i2 i3 b0 b1 b2 b3
  have e0 := hex.cell (q := 0) rfl
  have e1 := hex.cell (q := 1) rfl
  have y0 := hey.cell (q := 0) rfl
  have y1 := hey.cell (q := 1) rfl
  have hZ2 : W0.heap.size ≤ w11.heap.size := hK.size
  have hBW := hK
  have hap := apart_four W0.heap.size (okn g) bl br bl2 br2 al ar al2 ar2 _ _ _ _ w11 hl1 hr1 hl2 hr2 (fun h => ⟨ho1 h, h12 h, ho2 h⟩) hn60 hZ2
  go_wp2_with fail
  refine hap.mono ?_
  rintro e w12 ⟨rfl, hb⟩
  clear hap e0 e1 y0 y1 hl1 hr1 hl2 hr2 ul ur hex hey hx
  replace hBW := hBW.trans hb
  have hBx := hB0.trans (hBW.mono hB0.size)
  have hbx1 := hbx0.below hBW hbx0.lt
  have hin1 := hin0.below hBW hin0.lt
  have hlg1 := hlg0.below hBW (Nat.le_refl _)
  clear hbx hin hlg hB hb
  have i0 := hin1.cell (q := 0) rfl
  have i1 := hin1.cell (q := 1) rfl
  have i2 := hin1.cell (q := 2) rfl
  have i3 := hin1.cell (q := 3) rfl
  have b0 := hbx1.cell (q := 0) rfl
  have b1 := hbx1.cell (q := 1) rfl
  have b2 := hbx1.cell (q := 2) rfl
  have b3 := hbx1.cell (q := 3) rfl
  have hkept := keptG g1 c1 g2 c2 g3 c3 lq ta na ra tc nc rc g w12 hlg1 (hG.below hBx (Nat.le_refl _)) hg
  go_wp2_with fail
  refine hkept.mono ?_
  rintro e w13 ⟨rfl, hb⟩
  have hBy := hBx.trans (hb.mono hBx.size)
  clear hkept hb i0 i1 i2 i3 b0 b1 b2 b3
  go_wp2_with fail
  refine (awake_any p w13 (hE.sents.below hBy (Nat.le_refl _))).mono ?_
  rintro e w14 ⟨rfl, hb⟩
  have hBe := hBy.trans (hb.mono hBy.size)
  go_wp2
  go_ret
  exact ⟨rfl, hBe⟩

end Go.Proofs.YtmepnjnpfmgokaaDoor.EndsSetsW
