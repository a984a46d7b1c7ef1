/-
  Texts that stand together: MatrixRPack, MatrixTM, PrecfunFitsW.
-/
import Derived.Test.YtigepihinflkdaaGreatDoorBMatrixRTC
import Derived.Laws.OwnMore
import Derived.Test.YtigepihinflkdaaGreatDoorBMatrixROf
import Derived.Laws.StructEq
import Derived.Test.YtigepihinflkdaaGreatDoorBagPrecRFits
import Derived.Test.YtigepihinflkdaaGreatDoorBagPrecAwake3
import Derived.Test.YtigepihinflkdaaGreatDoorBagGramEq
namespace Go.Proofs.YtigepihinflkdaaGreatDoor.MatrixRT
open Go.RowKit Go.Proofs.YtigepihinflkdaaGreatDoor.GramMath Go.Proofs.YtigepihinflkdaaGreatDoor.GramRow Go.Proofs.YtigepihinflkdaaGreatDoor.SetsAlg Go.Proofs.YtigepihinflkdaaGreatDoor.MatrixMath Go.Proofs.YtigepihinflkdaaGreatDoor.MatrixPut Go.Proofs.YtigepihinflkdaaGreatDoor.GramApart Go.Proofs.YtigepihinflkdaaGreatDoor.MatrixClash Go.Proofs.YtigepihinflkdaaGreatDoor.GramLent
set_option linter.unusedVariables false
set_option linter.unusedSimpArgs false

def bytesV (f : Nat → Nat) (n k : Nat) : List Value := (List.range n).map (fun j => Value.int .u8 (pkN f k j : Int))

theorem addR : ∀ i : Nat, i < 4 → ∀ a : Nat, a < 64 → ∀ c : Nat, c < 4 → a < 4 ^ i → IntKind.u8.wrap ((a : Int) + ((c * 4 ^ i : Nat) : Int)) = ((a + c * 4 ^ i : Nat) : Int) := by decide +kernel

end Go.Proofs.YtigepihinflkdaaGreatDoor.MatrixRT

namespace Go.Proofs.YtigepihinflkdaaGreatDoor.MatrixRT
open Go.RowKit Go.Proofs.YtigepihinflkdaaGreatDoor.GramMath Go.Proofs.YtigepihinflkdaaGreatDoor.GramRow Go.Proofs.YtigepihinflkdaaGreatDoor.SetsAlg Go.Proofs.YtigepihinflkdaaGreatDoor.MatrixMath Go.Proofs.YtigepihinflkdaaGreatDoor.MatrixPut Go.Proofs.YtigepihinflkdaaGreatDoor.GramApart Go.Proofs.YtigepihinflkdaaGreatDoor.MatrixClash Go.Proofs.YtigepihinflkdaaGreatDoor.GramLent Go.Proofs.YtigepihinflkdaaGreatDoor.MatrixAwake Go.Proofs.YtigepihinflkdaaGreatDoor.EndsMath Go.Proofs.YtigepihinflkdaaGreatDoor.EndsRef Go.Proofs.YtigepihinflkdaaGreatDoor.GramSame
set_option linter.unusedVariables false
set_option linter.unusedSimpArgs false

theorem relG_iff {g : G} (hg : GoodG g) {a b : Nat} {x : Int} : relG g a b x = true ↔ Rel g x a b := relB_iff hg (putE_ends hg) (putE_ends hg)

theorem relT_bits (r : Int → Bool) : (relT r 3 / 2 ^ 0 % 2 == 1) = r 1 ∧ (relT r 3 / 2 ^ 1 % 2 == 1) = r 2 ∧ (relT r 3 / 2 ^ 2 % 2 == 1) = r 3 ∧ ((relT r 3 == 0) = true ↔ r 1 = false ∧ r 2 = false ∧ r 3 = false) := by
  unfold relT
  cases r 1 <;> cases r 2 <;> cases r 3 <;> simp

theorem alike_of {g : G} (hg : GoodG g) {S : Nat → Nat → Int} (h : IsMat g S) : Alike (g.ts.length + 1) (relN g) S := fun a b x => by
  rw [Bool.eq_iff_iff]
  by_cases hin : 0 ≤ a ∧ a < ((g.ts.length + 1 : Nat) : Int) ∧ 0 ≤ b ∧ b < ((g.ts.length + 1 : Nat) : Int) ∧ 0 ≤ x ∧ x ≤ 3
  · obtain ⟨h1, h2, h3, h4, h5, h6⟩ := id hin
    obtain ⟨i, rfl⟩ := Int.eq_ofNat_of_zero_le h1
    obtain ⟨j, rfl⟩ := Int.eq_ofNat_of_zero_le h3
    obtain ⟨e1, e2, e3, e0⟩ := relT_bits (relG g i j)
    unfold rholdsB
    rw [decide_eq_true hin, Bool.true_and]
    show (if x = 0 then relT (relG g i j) 3 == 0 else relT (relG g i j) 3 / 2 ^ (x.toNat - 1) % 2 == 1) = true ↔ _
    rcases (by omega : x = 0 ∨ x = 1 ∨ x = 2 ∨ x = 3) with rfl | rfl | rfl | rfl
    · rw [if_pos rfl, e0, holds_none hg h]
      constructor
      · rintro ⟨r1, r2, r3⟩
        refine ⟨by omega, by omega, fun y hy => ?_⟩
        obtain ⟨⟨y1, y2⟩, _⟩ := hy.ok hg
        rcases (by omega : y = 1 ∨ y = 2 ∨ y = 3) with rfl | rfl | rfl
        · rw [(relG_iff hg).2 hy] at r1; cases r1
        · rw [(relG_iff hg).2 hy] at r2; cases r2
        · rw [(relG_iff hg).2 hy] at r3; cases r3
      · rintro ⟨_, _, hno⟩
        have key : ∀ y : Int, relG g i j y = false := fun y => by
          cases hy : relG g i j y with
          | false => rfl
          | true => exact absurd ((relG_iff hg).1 hy) (hno y)
        exact ⟨key 1, key 2, key 3⟩
    · rw [if_neg (by decide), holds_iff hg h (by decide) (by decide), ← relG_iff hg]
      rw [show relT (relG g i j) 3 / 2 ^ (Int.toNat 1 - 1) % 2 = relT (relG g i j) 3 / 2 ^ 0 % 2 from rfl, e1]
    · rw [if_neg (by decide), holds_iff hg h (by decide) (by decide), ← relG_iff hg]
      rw [show relT (relG g i j) 3 / 2 ^ (Int.toNat 2 - 1) % 2 = relT (relG g i j) 3 / 2 ^ 1 % 2 from rfl, e2]
    · rw [if_neg (by decide), holds_iff hg h (by decide) (by decide), ← relG_iff hg]
      rw [show relT (relG g i j) 3 / 2 ^ (Int.toNat 3 - 1) % 2 = relT (relG g i j) 3 / 2 ^ 2 % 2 from rfl, e3]
  · rw [rholds_out hin]
    constructor
    · intro h; cases h
    · intro hh
      exfalso
      have hb := hh
      unfold holdsB at hb
      simp only [Bool.and_eq_true, decide_eq_true_eq] at hb
      obtain ⟨⟨⟨⟨p1, p2⟩, p3⟩, p4⟩, _⟩ := hb
      by_cases hx : x = 0
      · subst hx
        have := (holds_none hg h).1 hh
        omega
      · have := ((holds_iff hg h (by omega) p4).1 hh).ok hg
        omega

theorem alike_zero (S : Nat → Nat → Int) (F : Nat → Nat → Nat) : Alike 0 F S := fun a b x => by
  rw [rholds_out (by omega)]
  unfold holdsB
  by_cases h : 0 ≤ a
  · have h2 : ¬ a < ((0 : Nat) : Int) := by omega
    simp only [h2, decide_false, Bool.and_false, Bool.false_and]
  · simp [h]

/-- Pairs in a row. -/
def PRow (w : World) (a : Option Addr) (l : List Pr) : Prop := ∀ i x, l[i]? = some x → ∃ b, a = some ⟨b, 0, none⟩ ∧ w.cell? ⟨b, i * 4, none⟩ = some (.int .i64 x.a) ∧ w.cell? ⟨b, i * 4 + 1, none⟩ = some (.int .i64 x.b) ∧ w.cell? ⟨b, i * 4 + 2, none⟩ = some (.int .i64 x.f) ∧ w.cell? ⟨b, i * 4 + 3, none⟩ = some (.int .i64 x.s)

end Go.Proofs.YtigepihinflkdaaGreatDoor.MatrixRT

namespace Go.Proofs.YtigepihinflkdaaGreatDoor.PrecfunFitsW
open Go.RowKit Go.Proofs.YtigepihinflkdaaGreatDoor.GramMath Go.Proofs.YtigepihinflkdaaGreatDoor.GramRow Go.Proofs.YtigepihinflkdaaGreatDoor.GramCheck Go.Proofs.YtigepihinflkdaaGreatDoor.GramErrs Go.Proofs.YtigepihinflkdaaGreatDoor.GramApart Go.Proofs.YtigepihinflkdaaGreatDoor.GramLess Go.Proofs.YtigepihinflkdaaGreatDoor.GramLent Go.Proofs.YtigepihinflkdaaGreatDoor.OpRow Go.Proofs.YtigepihinflkdaaGreatDoor.EndsMath Go.Proofs.YtigepihinflkdaaGreatDoor.GramOpen Go.Proofs.YtigepihinflkdaaGreatDoor.SetsAlg Go.Proofs.YtigepihinflkdaaGreatDoor.MatrixMath Go.Proofs.YtigepihinflkdaaGreatDoor.MatrixPut Go.Proofs.YtigepihinflkdaaGreatDoor.MatrixOf Go.Proofs.YtigepihinflkdaaGreatDoor.MatrixClash Go.Proofs.YtigepihinflkdaaGreatDoor.MatrixRT Go.Proofs.YtigepihinflkdaaGreatDoor.MatrixTell Go.Proofs.YtigepihinflkdaaGreatDoor.PrecFn Go.Proofs.YtigepihinflkdaaGreatDoor.PrecAwake
set_option linter.unusedVariables false
set_option linter.unusedSimpArgs false

/-- The document's matrix, or none, in blocks from B on. -/
def RK (B : Nat) (w : World) (ro : Option Addr) (t : Nat) (F : Nat → Nat → Nat) : Prop := ∀ W : World, (∀ k, B ≤ k → k < w.heap.size → W.heap[k]? = w.heap[k]?) → RMatV W ro t F
theorem RK.here {B : Nat} {w : World} {ro : Option Addr} {t : Nat} {F : Nat → Nat → Nat} (h : RK B w ro t F) : RMatV w ro t F := h w (fun _ _ _ => rfl)
theorem RK.below {B C : Nat} {w w' : World} {ro : Option Addr} {t : Nat} {F : Nat → Nat → Nat} (h : RK B w ro t F) (hb : Below C w w') (hC : w.heap.size ≤ C) : RK B w' ro t F :=
  fun W hW => h W (fun k h1 h2 => (hW k h1 (Nat.lt_of_lt_of_le h2 hb.size)).trans (hb.block k (Nat.lt_of_lt_of_le h2 hC)))

theorem both_of {base B : Nat} {g : G} {w w' : World} {u : Value} {ro : Option Addr} (h1 : MOfV base g w u) (hb : Below w.heap.size w w') (h2 : ROfK B g w' ro) :
    ∃ (po : Option Addr) (t : Nat) (S : Nat → Nat → Int) (F : Nat → Nat → Nat), u = .pointer po ∧ t ≤ 60 ∧ (∀ i j, F i j < 8) ∧ MatrixRT.Alike t F S ∧ MatV w' po t S ∧ RK B w' ro t F := by
  rcases h1 with ⟨h0, M, S, rfl, _, hm, him⟩ | ⟨h0, rfl⟩
  · have hgood := good_of h0
    have hfew := hgood.few
    have hax0 := hgood.ax0
    have hax1 := hgood.ax1
    obtain ⟨R, rfl, hR⟩ : ∃ R, ro = some ⟨R, 0, none⟩ ∧ RMatAt w' R (g.ts.length + 1) (relN g) := by
      rcases h2.here with ⟨_, h⟩ | ⟨h, _⟩
      · exact h
      · exact absurd h0 h
    refine ⟨some ⟨M, 0, none⟩, g.ts.length + 1, S, relN g, rfl, by omega, fun i j => relT_lt _ _, alike_of hgood him, .inr ⟨M, rfl, hm.below hb hm.lt⟩, fun W hW => ?_⟩
    rcases h2 W hW with ⟨_, R', e, h⟩ | ⟨h, _⟩
    · exact .inr ⟨R', e, h⟩
    · exact absurd h0 h
  · obtain rfl : ro = none := by
      rcases h2.here with ⟨h, _⟩ | ⟨_, h⟩
      · exact absurd h h0
      · exact h
    exact ⟨none, 0, fun _ _ => 0, fun _ _ => 0, rfl, by omega, fun _ _ => Nat.zero_lt_succ _, alike_zero _ _, .inl ⟨rfl, rfl⟩, fun W hW => .inl ⟨rfl, rfl⟩⟩

set_option maxRecDepth 100000 in
set_option maxHeartbeats 4000000 in
theorem few_any (ta na ra : Option Addr) (tc nc rc : Nat) (g : G) (w : World) :
    Calls Tryz.prog 9 #[.agg #[.slice ta g.ts.length tc, .slice na g.ns.length nc, .int .i64 g.ax, .slice ra g.rs.length rc]] w fun e w' => e = .returned (.bool (decide ((g.ts.length : Int) ≤ 8))) ∧ Below w.heap.size w w' := by
  have hB : Below w.heap.size w (w.alloc (.cells #[.slice ta g.ts.length tc, .slice na g.ns.length nc, .int .i64 g.ax, .slice ra g.rs.length rc] 25)) := (Below.refl _ _).alloc (Nat.le_refl _) _
  have hbx : RowAt (w.alloc (.cells #[.slice ta g.ts.length tc, .slice na g.ns.length nc, .int .i64 g.ax, .slice ra g.rs.length rc] 25)) w.heap.size 25 #[.slice ta g.ts.length tc, .slice na g.ns.length nc, .int .i64 g.ax, .slice ra g.rs.length rc] := heap_new _ _
  have b0 := hbx.cell (q := 0) rfl
  go_enter Tryz.func9, Tryz.ntmps9
  go_wp2
  go_ret
  exact ⟨rfl, hB⟩

set_option maxRecDepth 100000 in
set_option maxHeartbeats 16000000 in
theorem walk (ta na ra : Option Addr) (tc nc rc : Nat) (g : G) (xa ya : Option Addr) (xc yc : Nat) (X Y : List Int) (p : Nat → Addr) (w : World) (hG : GRow w ta na ra g) (hcap : Caps w ra g.rs.length) (hg : okG g) (htc : g.ts.length ≤ tc) (hnc : g.ns.length ≤ nc)
    (hX : IRow w xa X) (hX8 : X.length * 8 ≤ 140737488351232) (hXn : xa = none → X.length = 0 ∧ xc = 0) (hY : IRow w ya Y) (hY8 : Y.length * 8 ≤ 140737488351232) (hYn : ya = none → Y.length = 0 ∧ yc = 0)
    (hE : Errs w p) (hT : Tab w) (hTG : 16 < w.heap.size) :
    Calls Tryz.prog 4 #[.agg #[.slice ta g.ts.length tc, .slice na g.ns.length nc, .int .i64 g.ax, .slice ra g.rs.length rc], .slice xa X.length xc, .slice ya Y.length yc] w fun e w' => e = .returned (.bool true) ∧ Below w.heap.size w w' := by
  have hB : Below w.heap.size w (w.alloc (.cells #[.slice ta g.ts.length tc, .slice na g.ns.length nc, .int .i64 g.ax, .slice ra g.rs.length rc] 25)) := (Below.refl _ _).alloc (Nat.le_refl _) _
  have hbx : RowAt (w.alloc (.cells #[.slice ta g.ts.length tc, .slice na g.ns.length nc, .int .i64 g.ax, .slice ra g.rs.length rc] 25)) w.heap.size 25 #[.slice ta g.ts.length tc, .slice na g.ns.length nc, .int .i64 g.ax, .slice ra g.rs.length rc] := heap_new _ _
  have hof := MOf_top ta na ra tc nc rc g p _ (hG.below hB (Nat.le_refl _)) (caps_below hG.2.2 hcap hB (Nat.le_refl _)) hg htc hnc (hE.sents.below hB (Nat.le_refl _)) (SetsEach.Tab.from hT hB hTG) (by simp; omega)
  have HX : Hid (IRow w xa X ∧ X.length * 8 ≤ 140737488351232 ∧ (xa = none → X.length = 0 ∧ xc = 0)) := ⟨hX, hX8, hXn⟩
  have HY : Hid (IRow w ya Y ∧ Y.length * 8 ≤ 140737488351232 ∧ (ya = none → Y.length = 0 ∧ yc = 0)) := ⟨hY, hY8, hYn⟩
  have HG : Hid (GRow w ta na ra g ∧ Caps w ra g.rs.length ∧ okG g) := ⟨hG, hcap, hg⟩
  have HE : Hid (Errs w p ∧ Tab w) := ⟨hE, hT⟩
  clear hX hX8 hXn hY hY8 hYn hG hcap hg hE hT htc hnc
  have g0 := hbx.cell (q := 0) rfl
  have g1 := hbx.cell (q := 1) rfl
  have g2 := hbx.cell (q := 2) rfl
  have g3 := hbx.cell (q := 3) rfl
  go_enter Tryz.func4, Tryz.ntmps4
  go_wp2_with fail
  refine hof.mono ?_
  rintro e w1 ⟨⟨u, y, rfl, hO, hy⟩, hb⟩
  replace hB := hB.trans (hb.mono hB.size)
  replace hbx := hbx.below hb hbx.lt
  have HO : Hid (MOfV (w.alloc (.cells #[.slice ta g.ts.length tc, .slice na g.ns.length nc, .int .i64 g.ax, .slice ra g.rs.length rc] 25)).heap.size g w1 u) := hO
  clear hof hb g0 g1 g2 g3 hO hy
  have g0 := hbx.cell (q := 0) rfl
  have g1 := hbx.cell (q := 1) rfl
  have g2 := hbx.cell (q := 2) rfl
  have g3 := hbx.cell (q := 3) rfl
  have hfew := few_any ta na ra tc nc rc g w1
  go_wp2_with fail
  refine hfew.mono ?_
  rintro e w2 ⟨rfl, hb⟩
  have hb12 := hb
  replace hB := hB.trans (hb.mono hB.size)
  replace hbx := hbx.below hb hbx.lt
  clear hfew hb g0 g1 g2 g3
  have g0 := hbx.cell (q := 0) rfl
  have g1 := hbx.cell (q := 1) rfl
  have g2 := hbx.cell (q := 2) rfl
  have g3 := hbx.cell (q := 3) rfl
  by_cases h8 : (g.ts.length : Int) ≤ 8
  · rw [decide_eq_true h8]
    have hro := mof_any ta na ra tc nc rc g w2 (HG.out.1.below hB (Nat.le_refl _)) HG.out.2.2
    clear h8
    go_wp2_with fail
    refine hro.mono ?_
    rintro e w3 ⟨⟨ro, rfl, hK⟩, hb⟩
    replace hB := hB.trans (hb.mono hB.size)
    obtain ⟨po, t, S, F, rfl, ht, hF8, hal, hmv, hrk⟩ := both_of HO.out (hb12.trans (hb.mono hb12.size)) hK
    have HM : Hid (MatV w3 po t S ∧ RK w2.heap.size w3 ro t F ∧ t ≤ 60 ∧ (∀ i j, F i j < 8) ∧ MatrixRT.Alike t F S) := ⟨hmv, hrk, ht, hF8, hal⟩
    clear hro hb hK hmv hrk ht hF8 hal hbx g0 g1 g2 g3 HO hb12 HG
    have hl1 := lentI xa xc X w3 (HX.out.1.below hB (Nat.le_refl _)) HX.out.2.1 HX.out.2.2
    go_wp2_with fail
    refine hl1.mono ?_
    rintro e w4 ⟨⟨lx, cx, rfl, hcx, hcm, hlx, hLX⟩, hb34⟩
    replace hB := hB.trans (hb34.mono hB.size)
    have HLX : Hid (IRow w4 (some ⟨lx, 0, none⟩) (X ++ [-7171]) ∧ X.length < cx) := ⟨hLX, hcx⟩
    clear hl1 hLX hcx hcm hlx
    have hl2 := lentI ya yc Y w4 (HY.out.1.below hB (Nat.le_refl _)) HY.out.2.1 HY.out.2.2
    go_wp2_with fail
    refine hl2.mono ?_
    rintro e w5 ⟨⟨ly, cy, rfl, hcy, hcm, hly, hLY⟩, hb45⟩
    replace hB := hB.trans (hb45.mono hB.size)
    have HLY : Hid (IRow w5 (some ⟨ly, 0, none⟩) (Y ++ [-7171]) ∧ Y.length < cy) := ⟨hLY, hcy⟩
    have hb35 := hb34.trans (hb45.mono hb34.size)
    replace HLX : Hid (IRow w5 (some ⟨lx, 0, none⟩) (X ++ [-7171]) ∧ X.length < cx) := ⟨HLX.out.1.below hb45 (Nat.le_refl _), HLX.out.2⟩
    replace HM : Hid (MatV w5 po t S ∧ RK w2.heap.size w5 ro t F ∧ t ≤ 60 ∧ (∀ i j, F i j < 8) ∧ MatrixRT.Alike t F S) := ⟨HM.out.1.below hb35 (Nat.le_refl _), HM.out.2.1.below hb35 (Nat.le_refl _), HM.out.2.2⟩
    clear hl2 hLY hcy hcm hly hb34 hb45 hb35
    have hf1 := fits_any po t S (some ⟨lx, 0, none⟩) (some ⟨ly, 0, none⟩) cx cy X Y w5 HM.out.1 HM.out.2.2.1 (row_frontI HLX.out.1) (row_frontI HLY.out.1)
    go_wp2_with fail
    refine hf1.mono ?_
    rintro e w6 ⟨rfl, n1, rfl⟩
    have hbn : Below w5.heap.size w5 (w5.drewN n1) := drew_below w5 n1
    replace HLX : Hid (IRow (w5.drewN n1) (some ⟨lx, 0, none⟩) (X ++ [-7171]) ∧ X.length < cx) := ⟨HLX.out.1.below hbn (Nat.le_refl _), HLX.out.2⟩
    replace HLY : Hid (IRow (w5.drewN n1) (some ⟨ly, 0, none⟩) (Y ++ [-7171]) ∧ Y.length < cy) := ⟨HLY.out.1.below hbn (Nat.le_refl _), HLY.out.2⟩
    replace HM : Hid (RMatV (w5.drewN n1) ro t F ∧ t ≤ 60 ∧ (∀ i j, F i j < 8) ∧ MatrixRT.Alike t F S) := ⟨(HM.out.2.1.below hbn (Nat.le_refl _)).here, HM.out.2.2⟩
    replace hB := hB.trans (hbn.mono hB.size)
    clear hf1 hbn
    generalize w5.drewN n1 = w6 at *
    have hf2 := rfits_any ro t F S xa ya xc yc X Y w6 HM.out.1 HM.out.2.1 HM.out.2.2.1 HM.out.2.2.2 (HX.out.1.below hB (Nat.le_refl _)) (HY.out.1.below hB (Nat.le_refl _)) (by have := HX.out.2.1; omega) (by have := HY.out.2.1; omega)
    generalize fitsB (rY t S) (rQ t S) (rK t S) t X Y = bb at *
    go_wp2_with fail
    refine hf2.mono ?_
    rintro e w7 ⟨rfl, n2, rfl⟩
    have hbn : Below w6.heap.size w6 (w6.drewN n2) := drew_below w6 n2
    replace HLX : Hid (IRow (w6.drewN n2) (some ⟨lx, 0, none⟩) (X ++ [-7171]) ∧ X.length < cx) := ⟨HLX.out.1.below hbn (Nat.le_refl _), HLX.out.2⟩
    replace HLY : Hid (IRow (w6.drewN n2) (some ⟨ly, 0, none⟩) (Y ++ [-7171]) ∧ Y.length < cy) := ⟨HLY.out.1.below hbn (Nat.le_refl _), HLY.out.2⟩
    replace hB := hB.trans (hbn.mono hB.size)
    clear hf2 hbn HM
    generalize w6.drewN n2 = w7 at *
    have hk1 := keptI lx xa cx xc X w7 HLX.out.1 (HX.out.1.below hB (Nat.le_refl _)) (by have := HX.out.2.1; omega) HLX.out.2
    have hbb : (bb == bb) = true := by simp
    go_wp2_with fail
    refine hk1.mono ?_
    rintro e w8 ⟨rfl, n3, rfl⟩
    have hbn : Below w7.heap.size w7 (w7.drewN n3) := drew_below w7 n3
    replace HLY : Hid (IRow (w7.drewN n3) (some ⟨ly, 0, none⟩) (Y ++ [-7171]) ∧ Y.length < cy) := ⟨HLY.out.1.below hbn (Nat.le_refl _), HLY.out.2⟩
    replace hB := hB.trans (hbn.mono hB.size)
    clear hk1 hbn HLX
    generalize w7.drewN n3 = w8 at *
    have hk2 := keptI ly ya cy yc Y w8 HLY.out.1 (HY.out.1.below hB (Nat.le_refl _)) (by have := HY.out.2.1; omega) HLY.out.2
    go_wp2_with fail
    refine hk2.mono ?_
    rintro e w9 ⟨rfl, n4, rfl⟩
    have hbn : Below w8.heap.size w8 (w8.drewN n4) := drew_below w8 n4
    replace hB := hB.trans (hbn.mono hB.size)
    clear hk2 hbn HLY
    generalize w8.drewN n4 = w9 at *
    have haw := awake_any p w9 (HE.out.1.below hB (Nat.le_refl _)) (SetsEach.Tab.from HE.out.2 hB hTG) (Nat.lt_of_lt_of_le hTG hB.size)
    go_wp2_with fail
    refine haw.mono ?_
    rintro e w10 ⟨rfl, hb⟩
    have hBe := hB.trans (hb.mono hB.size)
    go_wp2
    go_ret
    exact ⟨rfl, hBe⟩
  · rw [decide_eq_false h8]
    have haw := awake_any p w2 (HE.out.1.below hB (Nat.le_refl _)) (SetsEach.Tab.from HE.out.2 hB hTG) (Nat.lt_of_lt_of_le hTG hB.size)
    clear h8
    go_wp2_with fail
    refine haw.mono ?_
    rintro e w3 ⟨rfl, hb⟩
    have hBe := hB.trans (hb.mono hB.size)
    go_wp2
    go_ret
    exact ⟨rfl, hBe⟩

end Go.Proofs.YtigepihinflkdaaGreatDoor.PrecfunFitsW
