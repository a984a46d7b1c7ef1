/-
  The walk of UsefulTrimmed.
-/
import Derived.Test.YtnlaffhhbabjaaaDoorUsefulTrimmedBag
import Derived.Test.YtnlaffhhbabjaaaDoorUsefulDerives
import Derived.Test.YtnlaffhhbabjaaaDoorGramOpens
import Derived.Test.YtnlaffhhbabjaaaDoorGramLentG
namespace Go.Proofs.YtnlaffhhbabjaaaDoor.UsefulTrimmedW
open Go.RowKit Go.Proofs.YtnlaffhhbabjaaaDoor.GramLess Go.Proofs.YtnlaffhhbabjaaaDoor.GramMath Go.Proofs.YtnlaffhhbabjaaaDoor.GramRow Go.Proofs.YtnlaffhhbabjaaaDoor.GramOne Go.Proofs.YtnlaffhhbabjaaaDoor.GramApart Go.Proofs.YtnlaffhhbabjaaaDoor.GramCopy Go.Proofs.YtnlaffhhbabjaaaDoor.GramRoll Go.Proofs.YtnlaffhhbabjaaaDoor.GramLent Go.Proofs.YtnlaffhhbabjaaaDoor.GramErrs Go.Proofs.YtnlaffhhbabjaaaDoor.GramCheck Go.Proofs.YtnlaffhhbabjaaaDoor.SetsMath Go.Proofs.YtnlaffhhbabjaaaDoor.SetsAlg Go.Proofs.YtnlaffhhbabjaaaDoor.SetsEach Go.Proofs.YtnlaffhhbabjaaaDoor.UsefulMath Go.Proofs.YtnlaffhhbabjaaaDoor.UsefulTop Go.Proofs.YtnlaffhhbabjaaaDoor.UsefulTrimM Go.Proofs.YtnlaffhhbabjaaaDoor.UsefulTrim
set_option linter.unusedVariables false
set_option linter.unusedSimpArgs false

theorem setTo_full {S : Nat → Bool} : ∀ {n : Nat}, n ≤ 64 → (∀ j, j < n → S j = true) → setTo S n = fullI n
  | 0, _, _ => rfl
  | n + 1, hn, h => by
    unfold setTo
    rw [if_pos (h n (by omega)), setTo_full (by omega) (fun j hj => h j (by omega))]
    exact fullI_succ (by omega)

theorem useful_full {g : G} (hg : GoodG g) (ha : usefulS g g.ax.toNat = true) : usefulI (trimG g) = fullI (trimG g).ns.length := by
  have hh := trim_good hg ha
  rw [← set_useful hh]
  exact setTo_full (by have := hh.few; omega) (fun j hj => cut_all hg ha hj)

theorem trimZ_trim {g : G} (hg : GoodG g) (ha : usefulS g g.ax.toNat = true) : trimZ (trimG g) = (0, none) := by
  have hh := trim_good hg ha
  have hc : (checkG (trimG g)).1 = 0 := by unfold trimG; rw [cut_good hg ha]
  exact trimZ_ok hc (cut_all hg ha (by have := hh.ax0; have := hh.ax1; omega))

theorem trimZ_zero {g : G} (h : (trimZ g).1 = 0) : GoodG g ∧ usefulS g g.ax.toNat = true := by
  by_cases h0 : (checkG g).1 = 0
  · refine ⟨good_of h0, ?_⟩
    cases hu : usefulS g g.ax.toNat with
    | true => rfl
    | false => rw [trimZ_none h0 hu] at h; cases h
  · rw [trimZ_bad h0] at h
    exact absurd h h0

theorem caps_below {w w' : World} {ra : Option Addr} {m : Nat} {rs : List R} (hR : RRow w ra rs) (hm : m = rs.length) (h : GramOpen.Caps w ra m) {B : Nat} (hb : Below B w w') (hB : w.heap.size ≤ B) : GramOpen.Caps w' ra m := fun i hi b off he qa n qc hc => by
  obtain ⟨r, hr⟩ : ∃ r, rs[i]? = some r := ⟨rs[i]'(by omega), List.getElem?_eq_getElem _⟩
  obtain ⟨b', off', qa', qc', he', _, h2, _⟩ := hR i r hr
  rw [he] at he'
  obtain ⟨rfl, rfl⟩ : b = b' ∧ off = off' := by simpa using he'
  rw [hb.cell (Nat.lt_of_lt_of_le (cell_lt h2) hB)] at hc
  exact h i hi b off he qa n qc hc

theorem infoInt2 : (Tryd.prog.info? 3).map (fun i => (i.zero, i.size, i.bytes)) = some (some (.int .i64 0), 1, 8) := by kernel_rfl

def atF (U : Nat → Bool) (nt : Nat) (x : Int) : Int := if 0 ≤ x ∧ x < nt ∧ U x.toNat = true then (cntB U x.toNat : Int) else -1
def okT (U : Nat → Bool) (nt : Nat) (x : Int) : Bool := decide (0 ≤ atF U nt x)
def atK (U : Nat → Bool) (nt : Nat) (x : Int) (k : Nat) : Int := if 0 ≤ x ∧ x < nt ∧ U x.toNat = true ∧ cntB U x.toNat < k then (cntB U x.toNat : Int) else -1
theorem atK_zero (U : Nat → Bool) (nt : Nat) (x : Int) : atK U nt x 0 = -1 := if_neg (by omega)
theorem atK_out {U : Nat → Bool} {nt : Nat} {x : Int} (h : x < 0 ∨ (nt : Int) ≤ x) (k : Nat) : atK U nt x k = atF U nt x := by
  unfold atK atF
  rw [if_neg (by omega), if_neg (by omega)]
theorem atK_end {U : Nat → Bool} {nt : Nat} {x : Int} {k : Nat} (hk : k = cntB U nt) : atK U nt x k = atF U nt x := by
  unfold atK atF
  by_cases h : 0 ≤ x ∧ x < nt ∧ U x.toNat = true
  · rw [if_pos h, if_pos ⟨h.1, h.2.1, h.2.2, by rw [hk]; exact cntB_lt (by omega) h.2.2⟩]
  · rw [if_neg h, if_neg (fun hh => h ⟨hh.1, hh.2.1, hh.2.2.1⟩)]
theorem atK_hit {U : Nat → Bool} {nt q k : Nat} (hq : q < nt) (hU : U q = true) (hk : k = cntB U q) : atK U nt (q : Int) (k + 1) = (k : Int) := by
  unfold atK
  rw [if_pos ⟨by omega, by omega, by rwa [Int.toNat_natCast], by rw [Int.toNat_natCast]; omega⟩, Int.toNat_natCast, ← hk]
theorem atK_miss {U : Nat → Bool} {nt q k : Nat} (h : ¬ (U q = true ∧ k = cntB U q)) : atK U nt (q : Int) (k + 1) = atK U nt (q : Int) k := by
  unfold atK
  rw [Int.toNat_natCast]
  by_cases hc : 0 ≤ (q : Int) ∧ (q : Int) < nt ∧ U q = true ∧ cntB U q < k
  · rw [if_pos hc, if_pos ⟨hc.1, hc.2.1, hc.2.2.1, by omega⟩]
  · rw [if_neg hc, if_neg (fun hh => hc ⟨hh.1, hh.2.1, hh.2.2.1, by have h2 : ¬ k = cntB U q := fun e => h ⟨hh.2.2.1, e⟩; omega⟩)]

def DA (T : Nat → Bool) (rs : List R) (i : Nat) : Prop := ∀ j r, j < i → rs[j]? = some r → ∀ x ∈ r.right, 0 ≤ x → T x.toNat = true
def DB (T : Nat → Bool) (zs : List Int) (k : Nat) : Prop := ∀ j x, j < k → zs[j]? = some x → 0 ≤ x → T x.toNat = true
theorem DA.next {T : Nat → Bool} {rs : List R} {i : Nat} {r : R} (h : DA T rs i) (hr : rs[i]? = some r) (hk : DB T r.right r.right.length) : DA T rs (i + 1) := fun j q hj hq x hx h0 => by
  by_cases e : j = i
  · subst e
    rw [hr] at hq
    cases hq
    obtain ⟨m, hm, he⟩ := List.mem_iff_getElem.1 hx
    exact hk m x hm (by rw [List.getElem?_eq_getElem hm, he]) h0
  · exact h j q (by omega) hq x hx h0
theorem DB.neg {T : Nat → Bool} {zs : List Int} {k : Nat} {x : Int} (h : DB T zs k) (hx : zs[k]? = some x) (h0 : x < 0) : DB T zs (k + 1) := fun j y hj hy hy0 => by
  by_cases e : j = k
  · subst e
    rw [hx] at hy
    cases hy
    omega
  · exact h j y (by omega) hy hy0
theorem DB.mark {T : Nat → Bool} {zs : List Int} {k : Nat} {x : Int} (h : DB T zs k) (hx : zs[k]? = some x) : DB (updB T x.toNat) zs (k + 1) := fun j y hj hy hy0 => by
  by_cases e : j = k
  · subst e
    rw [hx] at hy
    cases hy
    exact updB_at _ _
  · exact updB_up _ _ _ (h j y (by omega) hy hy0)
theorem DA.all {T : Nat → Bool} {rs : List R} {S : Nat → Bool} (hd : DA T rs rs.length) {j : Nat} (hU : useS S rs j = true) : T j = true := by
  unfold useS at hU
  obtain ⟨r, hr, h3⟩ := List.any_eq_true.1 hU
  rw [Bool.and_eq_true, List.any_eq_true] at h3
  obtain ⟨h4, x, hx, h5⟩ := h3
  rw [beq_iff_eq] at h5
  obtain ⟨m, hm, he⟩ := List.mem_iff_getElem.1 hr
  have := hd m r hm (by rw [List.getElem?_eq_getElem hm, he]) x hx (by omega)
  rw [h5, Int.toNat_natCast] at this
  exact this

set_option maxRecDepth 100000 in
set_option maxHeartbeats 32000000 in
theorem walk (ta na ra ka : Option Addr) (tc nc rc kc : Nat) (g : G) (ts : List Int) (p : Nat → Addr) (w : World) (hL : Lendable w ta na ra tc nc g) (hcap : GramOpen.Caps w ra g.rs.length) (hg : okG g) (hI : IRow w ka ts) (hts : ts.length * 8 ≤ 140737488351232) (hI64 : ∀ x ∈ ts, I64 x) (hE : Errs w p) (hT : Tab w) (hGl : 15 < w.heap.size) :
    Calls Tryd.prog 4 #[.agg #[.slice ta g.ts.length tc, .slice na g.ns.length nc, .int .i64 g.ax, .slice ra g.rs.length rc], .slice ka ts.length kc] w fun e w' => e = .returned (.bool true) ∧ Below w.heap.size w w' := by
  have hneq := neq_nil
  have hnn := nil_neq
  have hG := GramOpen.lendable_row hL
  have hG0 : 0 < w.heap.size := cell_lt (show w.cell? ⟨0, 0, none⟩ = _ from (hE.1 14 (by omega)).1)
  have hB1 : Below w.heap.size w (w.alloc (.cells #[.slice ta g.ts.length tc, .slice na g.ns.length nc, .int .i64 g.ax, .slice ra g.rs.length rc] 25)) := (Below.refl _ _).alloc (Nat.le_refl _) _
  have hbx1 := rowNew w #[.slice ta g.ts.length tc, .slice na g.ns.length nc, .int .i64 g.ax, .slice ra g.rs.length rc] 25
  have hkn := UsefulKnown.known_any p _ (hE.below hB1 (Nat.le_refl _)) (Tab.from hT hB1 hGl) (Nat.lt_of_lt_of_le hGl hB1.size)
  go_enter Tryd.func4, Tryd.ntmps4
  go_wp2_with fail
  refine hkn.mono ?_
  rintro e w1 ⟨rfl, hb⟩
  have hB2 := hB1.trans (hb.mono hB1.size)
  have hbx2 := hbx1.below hb hbx1.lt
  clear hkn hbx1 hB1 hb
  have a0 := hbx2.cell (q := 0) rfl
  have a1 := hbx2.cell (q := 1) rfl
  have a2 := hbx2.cell (q := 2) rfl
  have a3 := hbx2.cell (q := 3) rfl
  have hL2 : Lendable w1 ta na ra tc nc g := ⟨hL.ts.below hB2 (Nat.le_refl _), hL.ns.below hB2 (Nat.le_refl _), hL.rs.below hB2 (Nat.le_refl _), hL.tn, hL.nn, hL.tm, hL.nm, hL.rm, hL.each⟩
  have hlend := lentG ta na ra tc nc rc g _ hL2
  go_wp2_with fail
  refine hlend.mono ?_
  rintro e w2 ⟨⟨g1, c1, g2, c2, g3, c3, lq, rfl, hlg⟩, hb⟩
  have hB3 := hB2.trans (hb.mono hB2.size)
  have hbx3 := hbx2.below hb hbx2.lt
  clear hlend hL2 hL hbx2 hB2 hb a0 a1 a2 a3
  have htrim := trim_top (some ⟨g1, 0, none⟩) (some ⟨g2, 0, none⟩) (some ⟨g3, 0, none⟩) c1 c2 c3 g p _ hlg.row hg (Nat.le_of_lt hlg.tc) (Nat.le_of_lt hlg.nc) (fun h => by cases h) (hE.below hB3 (Nat.le_refl _)) (Tab.from hT hB3 hGl) (Nat.lt_of_lt_of_le hGl hB3.size) (Nat.lt_of_lt_of_le hG0 hB3.size)
  go_wp2_with fail
  refine htrim.mono ?_
  rintro e w3 ⟨hV, hb⟩
  have hB4 := hB3.trans (hb.mono hB3.size)
  have hbx4 := hbx3.below hb hbx3.lt
  clear htrim hB3 hbx3 hb hlg
  rcases hV with ⟨h0, b1, b2, b3, bs, rfl, hc⟩ | ⟨h0, v, rfl, hv⟩
  · obtain ⟨hgood, hax⟩ := trimZ_zero h0
    have hh := trim_good hgood hax
    have oh := okG_cut hgood hg (usefulS g)
    have htz := trimZ_trim hgood hax
    have htt := trim_trim hgood hax
    have huf := useful_full hgood hax
    have hterm : Hid (∀ j, j < (trimG g).ts.length → useS (usefulS (trimG g)) (trimG g).rs j = true) := fun j hj => cut_terms hgood hax hj
    have hdw : Hid (D g.rs [-1 - g.ax] ts → WholeT g ts) := fun hd => derive_whole hgood hax hd
    have hds : Hid (WholeT g ts → (D (trimG g).rs [-1 - (trimG g).ax] (ts.map (renX (usefulS g) (useS (usefulS g) g.rs))) ↔ D g.rs [-1 - g.ax] ts)) := fun hw => derive_same hgood hax hw
    have hts' : Hid ((trimG g).ts = sel (useS (usefulS g) g.rs) g.ts) := rfl
    change okG (trimG g) at oh
    generalize trimG g = h at *
    have h60 := hh.few
    have hax0 := hh.ax0
    have hax1 := hh.ax1
    have hck : (checkG h).1 = 0 := by
      by_cases hc0 : (checkG h).1 = 0
      · exact hc0
      · rw [trimZ_bad hc0] at htz; rw [htz] at hc0; exact absurd rfl hc0
    have hBn : Below w3.heap.size w3 (w3.alloc (.cells #[.slice (some ⟨b1, 0, none⟩) h.ts.length h.ts.length, .slice (some ⟨b2, 0, none⟩) h.ns.length h.ns.length, .int .i64 h.ax, .slice (some ⟨b3, 0, none⟩) h.rs.length h.rs.length] 25)) := (Below.refl _ _).alloc (Nat.le_refl _) _
    have ht5 := rowNew w3 #[.slice (some ⟨b1, 0, none⟩) h.ts.length h.ts.length, .slice (some ⟨b2, 0, none⟩) h.ns.length h.ns.length, .int .i64 h.ax, .slice (some ⟨b3, 0, none⟩) h.rs.length h.rs.length] 25
    have hc5 := hc.below hBn (Nat.le_refl _)
    have hbx5 := hbx4.alloc (.cells #[.slice (some ⟨b1, 0, none⟩) h.ts.length h.ts.length, .slice (some ⟨b2, 0, none⟩) h.ns.length h.ns.length, .int .i64 h.ax, .slice (some ⟨b3, 0, none⟩) h.rs.length h.rs.length] 25)
    have hB5 := hB4.trans (hBn.mono hB4.size)
    have hz5 : (w3.alloc (.cells #[.slice (some ⟨b1, 0, none⟩) h.ts.length h.ts.length, .slice (some ⟨b2, 0, none⟩) h.ns.length h.ns.length, .int .i64 h.ax, .slice (some ⟨b3, 0, none⟩) h.rs.length h.rs.length] 25)).heap.size = w3.heap.size + 1 := by simp
    clear hc hbx4 hB4 hBn h0
    have x0 := ht5.cell (q := 0) rfl
    have x1 := ht5.cell (q := 1) rfl
    have x2 := ht5.cell (q := 2) rfl
    have x3 := ht5.cell (q := 3) rfl
    have htrim := trim_top (some ⟨b1, 0, none⟩) (some ⟨b2, 0, none⟩) (some ⟨b3, 0, none⟩) h.ts.length h.ns.length h.rs.length h p _ hc5.row oh (Nat.le_refl _) (Nat.le_refl _) (fun h => by cases h) (hE.below hB5 (Nat.le_refl _)) (Tab.from hT hB5 hGl) (Nat.lt_of_lt_of_le hGl hB5.size) (Nat.lt_of_lt_of_le hG0 hB5.size)
    go_wp2_with fail
    generalize w3.alloc (.cells #[.slice (some ⟨b1, 0, none⟩) h.ts.length h.ts.length, .slice (some ⟨b2, 0, none⟩) h.ns.length h.ns.length, .int .i64 h.ax, .slice (some ⟨b3, 0, none⟩) h.rs.length h.rs.length] 25) = W5 at *
    refine htrim.mono ?_
    rintro e w6 ⟨hV, hb⟩
    obtain ⟨d1, d2, d3, ds, rfl, hd⟩ : ∃ d1 d2 d3 ds, e = .returned (.tuple #[.agg #[.slice (some ⟨d1, 0, none⟩) h.ts.length h.ts.length, .slice (some ⟨d2, 0, none⟩) h.ns.length h.ns.length, .int .i64 h.ax, .slice (some ⟨d3, 0, none⟩) h.rs.length h.rs.length], .nilIface]) ∧ CopyAt w6 W5.heap.size d1 d2 d3 ds h := by
      rcases hV with ⟨_, d1, d2, d3, ds, he, hd⟩ | ⟨h0, _⟩
      · rw [htt] at he hd
        exact ⟨d1, d2, d3, ds, he, hd⟩
      · rw [htz] at h0; exact absurd rfl h0
    have hB6 := hB5.trans (hb.mono hB5.size)
    have hbx6 := hbx5.below hb hbx5.lt
    have ht6 := ht5.below hb ht5.lt
    have hc6 := hc5.below hb (Nat.le_refl _)
    clear htrim hB5 hbx5 ht5 hc5 hb x0 x1 x2 x3
    have hBn : Below w6.heap.size w6 (w6.alloc (.cells #[.slice (some ⟨d1, 0, none⟩) h.ts.length h.ts.length, .slice (some ⟨d2, 0, none⟩) h.ns.length h.ns.length, .int .i64 h.ax, .slice (some ⟨d3, 0, none⟩) h.rs.length h.rs.length] 25)) := (Below.refl _ _).alloc (Nat.le_refl _) _
    have hu7 := rowNew w6 #[.slice (some ⟨d1, 0, none⟩) h.ts.length h.ts.length, .slice (some ⟨d2, 0, none⟩) h.ns.length h.ns.length, .int .i64 h.ax, .slice (some ⟨d3, 0, none⟩) h.rs.length h.rs.length] 25
    have hd7 := hd.below hBn (Nat.le_refl _)
    have hc7 := hc6.below hBn (Nat.le_refl _)
    have ht7 := ht6.alloc (.cells #[.slice (some ⟨d1, 0, none⟩) h.ts.length h.ts.length, .slice (some ⟨d2, 0, none⟩) h.ns.length h.ns.length, .int .i64 h.ax, .slice (some ⟨d3, 0, none⟩) h.rs.length h.rs.length] 25)
    have hbx7 := hbx6.alloc (.cells #[.slice (some ⟨d1, 0, none⟩) h.ts.length h.ts.length, .slice (some ⟨d2, 0, none⟩) h.ns.length h.ns.length, .int .i64 h.ax, .slice (some ⟨d3, 0, none⟩) h.rs.length h.rs.length] 25)
    have hB7 := hB6.trans (hBn.mono hB6.size)
    clear hd hc6 ht6 hbx6 hB6 hBn
    have x0 := ht7.cell (q := 0) rfl
    have x1 := ht7.cell (q := 1) rfl
    have x2 := ht7.cell (q := 2) rfl
    have x3 := ht7.cell (q := 3) rfl
    have hus := Useful_top (some ⟨b1, 0, none⟩) (some ⟨b2, 0, none⟩) (some ⟨b3, 0, none⟩) h.ts.length h.ns.length h.rs.length h p _ hc7.row oh (Nat.le_refl _) (Nat.le_refl _) (fun h => by cases h) (hE.sents.below hB7 (Nat.le_refl _))
    rw [okI_yes hck, huf] at hus
    go_wp2_with fail
    generalize w6.alloc (.cells #[.slice (some ⟨d1, 0, none⟩) h.ts.length h.ts.length, .slice (some ⟨d2, 0, none⟩) h.ns.length h.ns.length, .int .i64 h.ax, .slice (some ⟨d3, 0, none⟩) h.rs.length h.rs.length] 25) = W7 at *
    refine hus.mono ?_
    rintro e w8 ⟨⟨v8, rfl, hv8⟩, hb⟩
    obtain rfl := ck_nil hv8 hck
    have hB8 := hB7.trans (hb.mono hB7.size)
    have hbx8 := hbx7.below hb hbx7.lt
    have ht8 := ht7.below hb ht7.lt
    have hu8 := hu7.below hb hu7.lt
    have hc8 := hc7.below hb (Nat.le_refl _)
    have hd8 := hd7.below hb (Nat.le_refl _)
    clear hus hB7 hbx7 ht7 hu7 hc7 hd7 hb x0 x1 x2 x3 hv8
    have x0 := ht8.cell (q := 0) rfl
    have x1 := ht8.cell (q := 1) rfl
    have x2 := ht8.cell (q := 2) rfl
    have x3 := ht8.cell (q := 3) rfl
    have y0 := hu8.cell (q := 0) rfl
    have y1 := hu8.cell (q := 1) rfl
    have y2 := hu8.cell (q := 2) rfl
    have y3 := hu8.cell (q := 3) rfl
    have hge := GramSame.grammar_any (some ⟨b1, 0, none⟩) (some ⟨b2, 0, none⟩) (some ⟨b3, 0, none⟩) (some ⟨d1, 0, none⟩) (some ⟨d2, 0, none⟩) (some ⟨d3, 0, none⟩) h.ts.length h.ns.length h.rs.length h.ts.length h.ns.length h.rs.length h h w8 hc8.row hd8.row oh oh
    rw [GramSame.eqG_refl] at hge
    go_wp2_with fail
    refine hge.mono ?_
    rintro e w9 ⟨rfl, hb⟩
    have hB9 := hB8.trans (hb.mono hB8.size)
    have hbx9 := hbx8.below hb hbx8.lt
    have ht9 := ht8.below hb ht8.lt
    have hc9 := hc8.below hb (Nat.le_refl _)
    clear hge x0 x1 x2 x3 y0 y1 y2 y3 hB8 hbx8 ht8 hu8 hc8 hd8 hb
    have x0 := ht9.cell (q := 0) rfl
    have x1 := ht9.cell (q := 1) rfl
    have x2 := ht9.cell (q := 2) rfl
    have x3 := ht9.cell (q := 3) rfl
    have hn60 : ¬ (60 : Int) < (h.ns.length : Int) := by omega
    have hfw : (fullI (h.ns.length : Int) != IntKind.u64.wrap (IntKind.u64.wrap (2 ^ h.ns.length) - 1)) = false := by
      have e := fullI_wrap (n := (h.ns.length : Int)) (by omega) (by omega)
      rw [Int.toNat_natCast] at e
      rw [e]
      simp
    have hmk := fun W => UsefulRef.madeB_any h.ts.length (by omega) W
    have hwn : IntKind.u64.wrap (h.ns.length : Int) = (h.ns.length : Int) := by rw [IntKind.wrap_u64]; omega
    have hst0 : UsefulRef.BRow (w9.alloc (.cells (madeCells #[.bool false] h.ts.length) 4)) w9.heap.size h.ts.length (fun _ => false) := UsefulRef.madeB_row h.ts.length w9
    have hBs : Below w9.heap.size w9 (w9.alloc (.cells (madeCells #[.bool false] h.ts.length) 4)) := (Below.refl _ _).alloc (Nat.le_refl _) _
    have hzs : (w9.alloc (.cells (madeCells #[.bool false] h.ts.length) 4)).heap.size = w9.heap.size + 1 := by simp
    go_wp2
    generalize w9.alloc (.cells (madeCells #[.bool false] h.ts.length) 4) = Ws at *
    clear hmk x0 x1 x2 x3 hfw hwn
    obtain ⟨tb, htb⟩ : ∃ tb, tb = w3.heap.size := ⟨_, rfl⟩
    rw [← htb] at ht9 ⊢
    have htb9 : tb < w9.heap.size := ht9.lt
    clear htb
    have Hh : Hid (GoodG h) := hh
    have hrl := hh.rules
    go_loopw [12] (fun s12 wr => ∃ i : Nat, i ≤ h.rs.length ∧ s12 = .int .i64 (i : Int) ∧ But (fun k => k = w9.heap.size) Ws wr ∧ ∃ T, UsefulRef.BRow wr w9.heap.size h.ts.length T ∧ Hid (DA T h.rs i)) (fun s12 _ => h.rs.length - (intOf s12).toNat)
    case atStart => exact ⟨0, by omega, rfl, But.refl _ _, _, hst0, fun j r hj => absurd hj (by omega)⟩
    case round =>
      clear hst0
      obtain ⟨i, hi, rfl, hfr, T, hTr, hDA⟩ := hrel
      have hBt : Below w9.heap.size w9 wr := hBs.trans (hfr.below (by omega) (fun k hk => by omega))
      have htr := ht9.below hBt htb9
      have x3 := htr.cell (q := 3) rfl
      by_cases hil : i < h.rs.length
      · have hil2 : (i : Int) < (h.rs.length : Int) := by omega
        obtain ⟨r, hr⟩ : ∃ r, h.rs[i]? = some r := ⟨h.rs[i], List.getElem?_eq_getElem hil⟩
        obtain ⟨_, _, _, hsy⟩ := ruleK_ok (Hh.out.each r (List.mem_of_getElem? hr))
        obtain ⟨rb, off, qa, qc, hra, _, d1w, hIw⟩ := hc9.row.2.2 i r hr
        cases hra
        have Hr : Hid (h.rs[i]? = some r) := hr
        have Hsy : Hid (∀ x ∈ r.right, -(h.ns.length : Int) ≤ x ∧ x < (h.ts.length : Int)) := hsy
        have h32 : r.right.length ≤ 32 := (ruleK_ok (Hh.out.each r (List.mem_of_getElem? hr))).1
        clear hsy hr
        go_wp2
        go_loopw [13] (fun s13 wr => ∃ k : Nat, k ≤ r.right.length ∧ s13 = .int .i64 (k : Int) ∧ But (fun k => k = w9.heap.size) Ws wr ∧ ∃ T, UsefulRef.BRow wr w9.heap.size h.ts.length T ∧ Hid (DA T h.rs i) ∧ Hid (DB T r.right k)) (fun s13 _ => r.right.length - (intOf s13).toNat)
        case atStart => exact ⟨0, by omega, rfl, hfr, T, hTr, hDA, fun j x hj => absurd hj (by omega)⟩
        case round =>
          clear hTr hDA hfr hBt htr x3
          obtain ⟨k, hk, rfl, hfr, T2, hTr, hDA, hDB⟩ := hrel
          have hBt : Below w9.heap.size w9 wr := hBs.trans (hfr.below (by omega) (fun k hk => by omega))
          have x3 := (ht9.below hBt htb9).cell (q := 3) rfl
          have d1 := (hBt.cell (p := ⟨b3, 0 + i * 2 + 1, none⟩) (cell_lt d1w)).trans d1w
          rw [Nat.zero_add] at d1
          by_cases hkl : k < r.right.length
          · have hkl2 : (k : Int) < (r.right.length : Int) := by omega
            obtain ⟨x, hx⟩ : ∃ x, r.right[k]? = some x := ⟨r.right[k], List.getElem?_eq_getElem hkl⟩
            obtain ⟨xb, xo, hqa, hc⟩ := (hIw.below hBt (Nat.le_refl _)) k x hx
            subst hqa
            have hsx := Hsy.out x (List.mem_of_getElem? hx)
            by_cases hx0 : x < 0
            · have hx1 : ¬ 0 ≤ x := by omega
              have hd0 : decide (0 ≤ x) = false := by simpa using hx0
              have hDB2 : Hid (DB T2 r.right (k + 1)) := DB.neg hDB.out hx hx0
              clear hDB hx
              go_wp2
              go_roundw
              case rel => exact ⟨k + 1, by omega, by go_num, hfr, T2, hTr, hDA, hDB2⟩
              case measure => simp [intOf]; omega
            · obtain ⟨q, rfl⟩ : ∃ q : Nat, x = (q : Int) := ⟨x.toNat, by omega⟩
              have hq : q < h.ts.length := by omega
              have hq2 : (q : Int) < (h.ts.length : Int) := by omega
              have hx1 : 0 ≤ (q : Int) := by omega
              have hd0 : decide (0 ≤ (q : Int)) = true := by simp
              have cq := (hTr q hq).1
              have fq := (hTr q hq).2
              have hT3 := hTr.set hq
              have hfr3 : But (fun k => k = w9.heap.size) Ws (wr.setCell ⟨w9.heap.size, q, none⟩ (.bool true)) := hfr.setCell (p := ⟨w9.heap.size, q, none⟩) rfl _
              have hDA2 : Hid (DA (updB T2 q) h.rs i) := fun j r2 hj hr2 x hx h0 => updB_up _ _ _ (hDA.out j r2 hj hr2 x hx h0)
              have hDB2 : Hid (DB (updB T2 q) r.right (k + 1)) := by have := DB.mark hDB.out hx; rwa [Int.toNat_natCast] at this
              clear hDB hx hDA hTr hfr
              go_wp2
              go_roundw
              case rel => exact ⟨k + 1, by omega, by go_num, hfr3, updB T2 q, hT3, hDA2, hDB2⟩
              case measure => simp [intOf]; omega
          · have hkn : ¬ (k : Int) < (r.right.length : Int) := by omega
            have hDA2 : Hid (DA T2 h.rs (i + 1)) := DA.next hDA.out Hr.out (by have := hDB.out; rwa [show k = r.right.length by omega] at this)
            clear hDB hDA
            go_wp2
            go_roundw
            case rel => exact ⟨i + 1, by omega, by go_num, hfr, T2, hTr, hDA2⟩
            case measure => simp [intOf]; omega
      · have hin2 : ¬ (i : Int) < (h.rs.length : Int) := by omega
        have hall : Hid (∀ j, j < h.ts.length → T j = true) := fun j hj => DA.all (by have := hDA.out; rwa [show i = h.rs.length by omega] at this) (hterm.out j hj)
        obtain ⟨Wd, hWd⟩ : ∃ Wd, Wd = wr := ⟨_, rfl⟩
        subst hWd
        clear hDA
        go_wp2
        go_loop [14] (fun s14 => ∃ i : Nat, i ≤ h.ts.length ∧ s14 = .int .i64 (i : Int)) (fun s14 => h.ts.length - (intOf s14).toNat)
        case atStart => exact ⟨0, by omega, rfl⟩
        case round =>
          obtain ⟨j, hj, rfl⟩ := hrel
          by_cases hjl : j < h.ts.length
          · have hjl2 : (j : Int) < (h.ts.length : Int) := by omega
            have cj := (hTr j hjl).1
            rw [hall.out j hjl] at cj
            go_wp2
            go_round
            case rel => exact ⟨j + 1, by omega, by go_num⟩
            case measure => simp [intOf]; omega
          · have hjn : ¬ (j : Int) < (h.ts.length : Int) := by omega
            have hBD : Below w.heap.size w Wd := hB9.trans (hBt.mono hB9.size)
            have hzD : w9.heap.size ≤ Wd.heap.size := hBt.size
            have hzw : w.heap.size < w9.heap.size := hbx9.lt
            obtain ⟨U, hU⟩ : ∃ U, useS (usefulS g) g.rs = U := ⟨_, rfl⟩
            rw [hU] at hts'
            have HU : Hid (useS (usefulS g) g.rs = U) := hU
            have hnamed := hgood.nt
            have hln : Hid (h.ts.length = cntB U g.ts.length) := by show _ = _; rw [hts'.out, sel_len]
            have hg60 := hgood.few
            clear hU
            go_wp2
            clear x3 hTr
            go_loopw [15, 16, 17] (fun s15 s16 s17 wr => ∃ (i : Nat) (ov : Value), i ≤ ts.length ∧ s15 = ov ∧ s17 = .int .i64 (i : Int) ∧ s16 = .bool ((ts.take i).all (okT U g.ts.length)) ∧ Below Wd.heap.size Wd wr ∧ wr.ownsRow Wd.heap.size 3 1 ov i (UsefulWord.intsL ((ts.take i).map (atF U g.ts.length)))) (fun _ _ s17 _ => ts.length - (intOf s17).toNat)
            case atStart => exact ⟨0, _, by omega, rfl, rfl, rfl, Below.refl _ _, ⟨by simp [UsefulWord.intsL], .inl ⟨rfl, rfl⟩⟩⟩
            case round =>
              obtain ⟨i, ov, hi, hov, rfl, rfl, hBr, hown⟩ := hrel
              replace hov := hov.symm
              subst hov
              have hBw : Below w.heap.size w wr := hBD.trans (hBr.mono hBD.size)
              have hB9r : Below w9.heap.size w9 wr := hBt.trans (hBr.mono hzD)
              by_cases hil : i < ts.length
              · have hil2 : (i : Int) < (ts.length : Int) := by omega
                obtain ⟨x, hx⟩ : ∃ x, ts[i]? = some x := ⟨ts[i], List.getElem?_eq_getElem hil⟩
                obtain ⟨kb, ko, hka, hcx⟩ := hI i x hx
                obtain ⟨W1, hW1⟩ : ∃ W1, W1 = wr := ⟨_, rfl⟩
                subst hW1
                have Hx : Hid (ts[i]? = some x) := hx
                subst hka
                clear hx
                obtain ⟨i0, hi0, hz0, hz1, hz2⟩ := info_parts infoInt2
                go_wp2
                go_loopw [18, 19] (fun s18 s19 wr => ∃ k : Nat, k ≤ h.ts.length ∧ s19 = .int .i64 (k : Int) ∧ s18 = .int .i64 (atK U g.ts.length x k) ∧ Below W1.heap.size W1 wr) (fun _ s19 _ => h.ts.length - (intOf s19).toNat)
                case atStart => exact ⟨0, by omega, rfl, by rw [atK_zero], Below.refl _ _⟩
                case round =>
                  obtain ⟨k, hk, rfl, rfl, hBk⟩ := hrel
                  have hBwk : Below w.heap.size w wr := hBw.trans (hBk.mono hBw.size)
                  have hB9k : Below w9.heap.size w9 wr := hB9r.trans (hBk.mono hB9r.size)
                  have x0 := (ht9.below hB9k htb9).cell (q := 0) rfl
                  have a0 := (hbx9.below hB9k hbx9.lt).cell (q := 0) rfl
                  have cx := (hBwk.cell (p := ⟨kb, ko + i, none⟩) (cell_lt hcx)).trans hcx
                  have hBd : Below W1.heap.size W1 wr.drew := hBk.trans ⟨rfl, rfl, rfl, Nat.le_refl _, fun _ _ => rfl⟩
                  have hBdd : Below W1.heap.size W1 wr.drew.drew := hBd.trans ⟨rfl, rfl, rfl, Nat.le_refl _, fun _ _ => rfl⟩
                  by_cases hkl : k < h.ts.length
                  · have hkl2 : (k : Int) < (h.ts.length : Int) := by omega
                    have hkd : decide (k < h.ts.length) = true := by simpa using hkl
                    by_cases hx0 : 0 ≤ x
                    · obtain ⟨q, rfl⟩ : ∃ q : Nat, x = (q : Int) := ⟨x.toNat, by omega⟩
                      by_cases hql : q < g.ts.length
                      · have hql2 : (q : Int) < (g.ts.length : Int) := by omega
                        have hqd : decide ((q : Int) < (g.ts.length : Int)) = true := by simpa using hql
                        have hq0 : decide (0 ≤ (q : Int)) = true := by simp
                        obtain ⟨hb1, hbo, hbe, n1w⟩ := hc9.row.1 k _ (nmN_get hkl)
                        cases hbe
                        obtain ⟨nb, no, hnta, n2w⟩ := hG.1 q _ (nmN_get hql)
                        obtain ⟨k', hk1, hk2, hk3, hk4⟩ : ∃ k', k' < g.ts.length ∧ U k' = true ∧ k = cntB U k' ∧ nmN h.ts k = nmN g.ts k' := by
                          have := nmN_get hkl
                          rw [hts'.out] at this
                          obtain ⟨k', z1, z2, z3, z4⟩ := sel_of this
                          rw [hts'.out]
                          exact ⟨k', z1, z2, z3, z4⟩
                        have n1 : wr.drew.cell? ⟨b1, k, none⟩ = some (.string (nmN h.ts k)) := by
                          have := (hB9k.cell (p := ⟨b1, 0 + k, none⟩) (cell_lt n1w)).trans n1w
                          rwa [Nat.zero_add] at this
                        have n2 : wr.drew.cell? ⟨nb, no + q, none⟩ = some (.string (nmN g.ts q)) := (hBwk.cell (p := ⟨nb, no + q, none⟩) (cell_lt n2w)).trans n2w
                        have x0d : wr.drew.cell? ⟨tb, 0, none⟩ = some (.slice (some ⟨b1, 0, none⟩) h.ts.length h.ts.length) := x0
                        have a0d : wr.drew.cell? ⟨w.heap.size, 0, none⟩ = some (.slice ta g.ts.length tc) := a0
                        have cxd : wr.drew.cell? ⟨kb, ko + i, none⟩ = some (.int .i64 (q : Int)) := cx
                        have hBd2 : ∀ W, W = wr.drew → Below W1.heap.size W1 W.drew := fun W hW => by rw [hW]; exact hBdd
                        subst hnta
                        by_cases hqk : q = k'
                        · have E : Hid (atK U g.ts.length (q : Int) (k + 1) = (k : Int)) := atK_hit hql (by rw [hqk]; exact hk2) (by rw [hqk]; exact hk3)
                          rw [hk4, ← hqk] at n1
                          have hse := str_eq (nmN g.ts q)
                          clear hk1 hk2 hk3 hk4 hqk n1w n2w
                          generalize nmN g.ts q = nm at *
                          go_wp2_with fail
                          go_region
                          have HBd : Hid (_) := hBd2 _ rfl
                          clear hBd2 hBdd hBd hBk hBwk hB9k x0 a0 cx
                          generalize wr.drew = We at *
                          go_wp2_with fail
                          go_region
                          have hBf := HBd.out
                          clear n1 n2 x0d a0d cxd
                          generalize We.drew = Wf at *
                          go_wp2
                          go_roundw
                          case rel => exact ⟨k + 1, by omega, by go_num, by rw [E.out], hBf⟩
                          case measure => simp [intOf]; omega
                        · have E : Hid (atK U g.ts.length (q : Int) (k + 1) = atK U g.ts.length (q : Int) k) := atK_miss (fun hh => hqk (cnt_inj hh.1 hk2 (by rw [← hh.2, hk3])))
                          have hse := str_ne (a := nmN h.ts k) (b := nmN g.ts q) (fun e => hqk (nmN_inj hnamed hql hk1 (by rw [← e, hk4])))
                          clear hk1 hk2 hk3 hk4 hqk n1w n2w
                          generalize nmN g.ts q = nm at *
                          generalize nmN h.ts k = nh at *
                          generalize atK U g.ts.length (q : Int) k = ak at *
                          go_wp2_with fail
                          go_region
                          have HBd : Hid (_) := hBd2 _ rfl
                          clear hBd2 hBdd hBd hBk hBwk hB9k x0 a0 cx
                          generalize wr.drew = We at *
                          go_wp2_with fail
                          go_region
                          have hBf := HBd.out
                          clear n1 n2 x0d a0d cxd
                          generalize We.drew = Wf at *
                          go_wp2
                          go_roundw
                          case rel => exact ⟨k + 1, by omega, by go_num, by rw [E.out], hBf⟩
                          case measure => simp [intOf]; omega
                      · have hqn : ¬ (q : Int) < (g.ts.length : Int) := by omega
                        have hq0 : decide (0 ≤ (q : Int)) = true := by simp
                        have Ey : Hid (atK U g.ts.length (q : Int) k = atF U g.ts.length (q : Int)) := atK_out (.inr (by omega)) k
                        obtain ⟨y, hy⟩ : ∃ y, atF U g.ts.length (q : Int) = y := ⟨_, rfl⟩
                        rw [Ey.out, hy]
                        have Emap : Hid ((ts.take (i + 1)).map (atF U g.ts.length) = (ts.take i).map (atF U g.ts.length) ++ [y]) := by
                          show _ = _
                          rw [List.take_add_one, Hx.out, List.map_append, ← hy]
                          rfl
                        have Eall : Hid ((ts.take (i + 1)).all (okT U g.ts.length) = ((ts.take i).all (okT U g.ts.length) && decide (0 ≤ y))) := by
                          show _ = _
                          rw [List.take_add_one, Hx.out, List.all_append, ← hy]
                          simp [okT]
                        have hownE : World.ownsRow wr.drew Wd.heap.size 3 1 ov i (UsefulWord.intsL ((ts.take i).map (atF U g.ts.length))) := GramApart.own_below hown hBd
                        have hBE : Below Wd.heap.size Wd wr.drew := hBr.trans (hBd.mono hBr.size)
                        have hzE := hBE.size
                        clear hy Ey hown hBk hBwk hB9k hBdd hBr
                        go_wp2_with fail
                        go_region
                        generalize wr.drew = We at *
                        clear x0 a0 cx hBd
                        obtain ⟨bw, hbw⟩ : ∃ bw, (ts.take i).all (okT U g.ts.length) = bw := ⟨_, rfl⟩
                        rw [hbw] at Eall ⊢
                        clear hbw
                        by_cases hy0 : 0 ≤ y
                        · have hdy : decide (0 ≤ y) = true := by simpa using hy0
                          rw [hdy] at Eall
                          cases bw with
                          | true =>
                            go_wp2_with (at_builtin; refine wpList_append_own _ rfl _ _ 36 rfl Wd.heap.size 3 i0 (.int .i64 0) 1 8 Tryd.underlying36 hi0 hz0 hz1 hz2 rfl (by decide) _ _ _ rfl (hownE.alloc _) ⟨We.heap.size, 0, none⟩ 1 1 [.int .i64 y] rfl rfl (cell_one_new _ _ _) (by simp [Value.oneCell']) (by unfold maxLen; omega) (by omega) (by simp; omega) ?_; intro v5 w5 hown5 hgrow5 _)
                            have hB5 : Below Wd.heap.size Wd w5 := (hBE.alloc hBE.size _).grown hgrow5 (by simp; omega) (fun k hk => (hownE.lt k hk).1)
                            have hown6 : w5.ownsRow Wd.heap.size 3 1 v5 (i + 1) (UsefulWord.intsL ((ts.take (i + 1)).map (atF U g.ts.length))) := by
                              rw [Emap.out, UsefulWord.intsL_app]
                              exact hown5
                            clear hown5 hgrow5 hownE hBE
                            go_roundw
                            case rel => exact ⟨i + 1, _, by omega, rfl, by go_num, by rw [Eall.out]; rfl, hB5, hown6⟩
                            case measure => simp [intOf]; omega
                          | false =>
                            go_wp2_with (at_builtin; refine wpList_append_own _ rfl _ _ 36 rfl Wd.heap.size 3 i0 (.int .i64 0) 1 8 Tryd.underlying36 hi0 hz0 hz1 hz2 rfl (by decide) _ _ _ rfl (hownE.alloc _) ⟨We.heap.size, 0, none⟩ 1 1 [.int .i64 y] rfl rfl (cell_one_new _ _ _) (by simp [Value.oneCell']) (by unfold maxLen; omega) (by omega) (by simp; omega) ?_; intro v5 w5 hown5 hgrow5 _)
                            have hB5 : Below Wd.heap.size Wd w5 := (hBE.alloc hBE.size _).grown hgrow5 (by simp; omega) (fun k hk => (hownE.lt k hk).1)
                            have hown6 : w5.ownsRow Wd.heap.size 3 1 v5 (i + 1) (UsefulWord.intsL ((ts.take (i + 1)).map (atF U g.ts.length))) := by
                              rw [Emap.out, UsefulWord.intsL_app]
                              exact hown5
                            clear hown5 hgrow5 hownE hBE
                            go_roundw
                            case rel => exact ⟨i + 1, _, by omega, rfl, by go_num, by rw [Eall.out]; rfl, hB5, hown6⟩
                            case measure => simp [intOf]; omega
                        · have hdy : decide (0 ≤ y) = false := by simpa using hy0
                          rw [hdy] at Eall
                          cases bw with
                          | true =>
                            go_wp2_with (at_builtin; refine wpList_append_own _ rfl _ _ 36 rfl Wd.heap.size 3 i0 (.int .i64 0) 1 8 Tryd.underlying36 hi0 hz0 hz1 hz2 rfl (by decide) _ _ _ rfl (hownE.alloc _) ⟨We.heap.size, 0, none⟩ 1 1 [.int .i64 y] rfl rfl (cell_one_new _ _ _) (by simp [Value.oneCell']) (by unfold maxLen; omega) (by omega) (by simp; omega) ?_; intro v5 w5 hown5 hgrow5 _)
                            have hB5 : Below Wd.heap.size Wd w5 := (hBE.alloc hBE.size _).grown hgrow5 (by simp; omega) (fun k hk => (hownE.lt k hk).1)
                            have hown6 : w5.ownsRow Wd.heap.size 3 1 v5 (i + 1) (UsefulWord.intsL ((ts.take (i + 1)).map (atF U g.ts.length))) := by
                              rw [Emap.out, UsefulWord.intsL_app]
                              exact hown5
                            clear hown5 hgrow5 hownE hBE
                            go_roundw
                            case rel => exact ⟨i + 1, _, by omega, rfl, by go_num, by rw [Eall.out]; rfl, hB5, hown6⟩
                            case measure => simp [intOf]; omega
                          | false =>
                            go_wp2_with (at_builtin; refine wpList_append_own _ rfl _ _ 36 rfl Wd.heap.size 3 i0 (.int .i64 0) 1 8 Tryd.underlying36 hi0 hz0 hz1 hz2 rfl (by decide) _ _ _ rfl (hownE.alloc _) ⟨We.heap.size, 0, none⟩ 1 1 [.int .i64 y] rfl rfl (cell_one_new _ _ _) (by simp [Value.oneCell']) (by unfold maxLen; omega) (by omega) (by simp; omega) ?_; intro v5 w5 hown5 hgrow5 _)
                            have hB5 : Below Wd.heap.size Wd w5 := (hBE.alloc hBE.size _).grown hgrow5 (by simp; omega) (fun k hk => (hownE.lt k hk).1)
                            have hown6 : w5.ownsRow Wd.heap.size 3 1 v5 (i + 1) (UsefulWord.intsL ((ts.take (i + 1)).map (atF U g.ts.length))) := by
                              rw [Emap.out, UsefulWord.intsL_app]
                              exact hown5
                            clear hown5 hgrow5 hownE hBE
                            go_roundw
                            case rel => exact ⟨i + 1, _, by omega, rfl, by go_num, by rw [Eall.out]; rfl, hB5, hown6⟩
                            case measure => simp [intOf]; omega
                    · have hxn : x < 0 := by omega
                      have hxd : decide (0 ≤ x) = false := decide_eq_false (by omega)
                      have Ey : Hid (atK U g.ts.length x k = atF U g.ts.length x) := atK_out (.inl hxn) k
                      obtain ⟨y, hy⟩ : ∃ y, atF U g.ts.length x = y := ⟨_, rfl⟩
                      rw [Ey.out, hy]
                      have Emap : Hid ((ts.take (i + 1)).map (atF U g.ts.length) = (ts.take i).map (atF U g.ts.length) ++ [y]) := by
                        show _ = _
                        rw [List.take_add_one, Hx.out, List.map_append, ← hy]
                        rfl
                      have Eall : Hid ((ts.take (i + 1)).all (okT U g.ts.length) = ((ts.take i).all (okT U g.ts.length) && decide (0 ≤ y))) := by
                        show _ = _
                        rw [List.take_add_one, Hx.out, List.all_append, ← hy]
                        simp [okT]
                      have hownE : World.ownsRow wr.drew Wd.heap.size 3 1 ov i (UsefulWord.intsL ((ts.take i).map (atF U g.ts.length))) := GramApart.own_below hown hBd
                      have hBE : Below Wd.heap.size Wd wr.drew := hBr.trans (hBd.mono hBr.size)
                      have hzE := hBE.size
                      clear hy Ey hown hBk hBwk hB9k hBdd hBr
                      go_wp2_with fail
                      go_region
                      generalize wr.drew = We at *
                      clear x0 a0 cx hBd
                      obtain ⟨bw, hbw⟩ : ∃ bw, (ts.take i).all (okT U g.ts.length) = bw := ⟨_, rfl⟩
                      rw [hbw] at Eall ⊢
                      clear hbw
                      by_cases hy0 : 0 ≤ y
                      · have hdy : decide (0 ≤ y) = true := by simpa using hy0
                        rw [hdy] at Eall
                        cases bw with
                        | true =>
                          go_wp2_with (at_builtin; refine wpList_append_own _ rfl _ _ 36 rfl Wd.heap.size 3 i0 (.int .i64 0) 1 8 Tryd.underlying36 hi0 hz0 hz1 hz2 rfl (by decide) _ _ _ rfl (hownE.alloc _) ⟨We.heap.size, 0, none⟩ 1 1 [.int .i64 y] rfl rfl (cell_one_new _ _ _) (by simp [Value.oneCell']) (by unfold maxLen; omega) (by omega) (by simp; omega) ?_; intro v5 w5 hown5 hgrow5 _)
                          have hB5 : Below Wd.heap.size Wd w5 := (hBE.alloc hBE.size _).grown hgrow5 (by simp; omega) (fun k hk => (hownE.lt k hk).1)
                          have hown6 : w5.ownsRow Wd.heap.size 3 1 v5 (i + 1) (UsefulWord.intsL ((ts.take (i + 1)).map (atF U g.ts.length))) := by
                            rw [Emap.out, UsefulWord.intsL_app]
                            exact hown5
                          clear hown5 hgrow5 hownE hBE
                          go_roundw
                          case rel => exact ⟨i + 1, _, by omega, rfl, by go_num, by rw [Eall.out]; rfl, hB5, hown6⟩
                          case measure => simp [intOf]; omega
                        | false =>
                          go_wp2_with (at_builtin; refine wpList_append_own _ rfl _ _ 36 rfl Wd.heap.size 3 i0 (.int .i64 0) 1 8 Tryd.underlying36 hi0 hz0 hz1 hz2 rfl (by decide) _ _ _ rfl (hownE.alloc _) ⟨We.heap.size, 0, none⟩ 1 1 [.int .i64 y] rfl rfl (cell_one_new _ _ _) (by simp [Value.oneCell']) (by unfold maxLen; omega) (by omega) (by simp; omega) ?_; intro v5 w5 hown5 hgrow5 _)
                          have hB5 : Below Wd.heap.size Wd w5 := (hBE.alloc hBE.size _).grown hgrow5 (by simp; omega) (fun k hk => (hownE.lt k hk).1)
                          have hown6 : w5.ownsRow Wd.heap.size 3 1 v5 (i + 1) (UsefulWord.intsL ((ts.take (i + 1)).map (atF U g.ts.length))) := by
                            rw [Emap.out, UsefulWord.intsL_app]
                            exact hown5
                          clear hown5 hgrow5 hownE hBE
                          go_roundw
                          case rel => exact ⟨i + 1, _, by omega, rfl, by go_num, by rw [Eall.out]; rfl, hB5, hown6⟩
                          case measure => simp [intOf]; omega
                      · have hdy : decide (0 ≤ y) = false := by simpa using hy0
                        rw [hdy] at Eall
                        cases bw with
                        | true =>
                          go_wp2_with (at_builtin; refine wpList_append_own _ rfl _ _ 36 rfl Wd.heap.size 3 i0 (.int .i64 0) 1 8 Tryd.underlying36 hi0 hz0 hz1 hz2 rfl (by decide) _ _ _ rfl (hownE.alloc _) ⟨We.heap.size, 0, none⟩ 1 1 [.int .i64 y] rfl rfl (cell_one_new _ _ _) (by simp [Value.oneCell']) (by unfold maxLen; omega) (by omega) (by simp; omega) ?_; intro v5 w5 hown5 hgrow5 _)
                          have hB5 : Below Wd.heap.size Wd w5 := (hBE.alloc hBE.size _).grown hgrow5 (by simp; omega) (fun k hk => (hownE.lt k hk).1)
                          have hown6 : w5.ownsRow Wd.heap.size 3 1 v5 (i + 1) (UsefulWord.intsL ((ts.take (i + 1)).map (atF U g.ts.length))) := by
                            rw [Emap.out, UsefulWord.intsL_app]
                            exact hown5
                          clear hown5 hgrow5 hownE hBE
                          go_roundw
                          case rel => exact ⟨i + 1, _, by omega, rfl, by go_num, by rw [Eall.out]; rfl, hB5, hown6⟩
                          case measure => simp [intOf]; omega
                        | false =>
                          go_wp2_with (at_builtin; refine wpList_append_own _ rfl _ _ 36 rfl Wd.heap.size 3 i0 (.int .i64 0) 1 8 Tryd.underlying36 hi0 hz0 hz1 hz2 rfl (by decide) _ _ _ rfl (hownE.alloc _) ⟨We.heap.size, 0, none⟩ 1 1 [.int .i64 y] rfl rfl (cell_one_new _ _ _) (by simp [Value.oneCell']) (by unfold maxLen; omega) (by omega) (by simp; omega) ?_; intro v5 w5 hown5 hgrow5 _)
                          have hB5 : Below Wd.heap.size Wd w5 := (hBE.alloc hBE.size _).grown hgrow5 (by simp; omega) (fun k hk => (hownE.lt k hk).1)
                          have hown6 : w5.ownsRow Wd.heap.size 3 1 v5 (i + 1) (UsefulWord.intsL ((ts.take (i + 1)).map (atF U g.ts.length))) := by
                            rw [Emap.out, UsefulWord.intsL_app]
                            exact hown5
                          clear hown5 hgrow5 hownE hBE
                          go_roundw
                          case rel => exact ⟨i + 1, _, by omega, rfl, by go_num, by rw [Eall.out]; rfl, hB5, hown6⟩
                          case measure => simp [intOf]; omega
                  · have hkn : ¬ (k : Int) < (h.ts.length : Int) := by omega
                    have Ey : Hid (atK U g.ts.length x k = atF U g.ts.length x) := atK_end (by rw [← hln.out]; omega)
                    obtain ⟨y, hy⟩ : ∃ y, atF U g.ts.length x = y := ⟨_, rfl⟩
                    rw [Ey.out, hy]
                    have Emap : Hid ((ts.take (i + 1)).map (atF U g.ts.length) = (ts.take i).map (atF U g.ts.length) ++ [y]) := by
                      show _ = _
                      rw [List.take_add_one, Hx.out, List.map_append, ← hy]
                      rfl
                    have Eall : Hid ((ts.take (i + 1)).all (okT U g.ts.length) = ((ts.take i).all (okT U g.ts.length) && decide (0 ≤ y))) := by
                      show _ = _
                      rw [List.take_add_one, Hx.out, List.all_append, ← hy]
                      simp [okT]
                    have hownE : World.ownsRow wr.drew Wd.heap.size 3 1 ov i (UsefulWord.intsL ((ts.take i).map (atF U g.ts.length))) := GramApart.own_below hown hBd
                    have hBE : Below Wd.heap.size Wd wr.drew := hBr.trans (hBd.mono hBr.size)
                    have hzE := hBE.size
                    clear hy Ey hown hBk hBwk hB9k hBdd hBr
                    go_wp2_with fail
                    go_region
                    generalize wr.drew = We at *
                    clear x0 a0 cx hBd
                    obtain ⟨bw, hbw⟩ : ∃ bw, (ts.take i).all (okT U g.ts.length) = bw := ⟨_, rfl⟩
                    rw [hbw] at Eall ⊢
                    clear hbw
                    by_cases hy0 : 0 ≤ y
                    · have hdy : decide (0 ≤ y) = true := by simpa using hy0
                      rw [hdy] at Eall
                      cases bw with
                      | true =>
                        go_wp2_with (at_builtin; refine wpList_append_own _ rfl _ _ 36 rfl Wd.heap.size 3 i0 (.int .i64 0) 1 8 Tryd.underlying36 hi0 hz0 hz1 hz2 rfl (by decide) _ _ _ rfl (hownE.alloc _) ⟨We.heap.size, 0, none⟩ 1 1 [.int .i64 y] rfl rfl (cell_one_new _ _ _) (by simp [Value.oneCell']) (by unfold maxLen; omega) (by omega) (by simp; omega) ?_; intro v5 w5 hown5 hgrow5 _)
                        have hB5 : Below Wd.heap.size Wd w5 := (hBE.alloc hBE.size _).grown hgrow5 (by simp; omega) (fun k hk => (hownE.lt k hk).1)
                        have hown6 : w5.ownsRow Wd.heap.size 3 1 v5 (i + 1) (UsefulWord.intsL ((ts.take (i + 1)).map (atF U g.ts.length))) := by
                          rw [Emap.out, UsefulWord.intsL_app]
                          exact hown5
                        clear hown5 hgrow5 hownE hBE
                        go_roundw
                        case rel => exact ⟨i + 1, _, by omega, rfl, by go_num, by rw [Eall.out]; rfl, hB5, hown6⟩
                        case measure => simp [intOf]; omega
                      | false =>
                        go_wp2_with (at_builtin; refine wpList_append_own _ rfl _ _ 36 rfl Wd.heap.size 3 i0 (.int .i64 0) 1 8 Tryd.underlying36 hi0 hz0 hz1 hz2 rfl (by decide) _ _ _ rfl (hownE.alloc _) ⟨We.heap.size, 0, none⟩ 1 1 [.int .i64 y] rfl rfl (cell_one_new _ _ _) (by simp [Value.oneCell']) (by unfold maxLen; omega) (by omega) (by simp; omega) ?_; intro v5 w5 hown5 hgrow5 _)
                        have hB5 : Below Wd.heap.size Wd w5 := (hBE.alloc hBE.size _).grown hgrow5 (by simp; omega) (fun k hk => (hownE.lt k hk).1)
                        have hown6 : w5.ownsRow Wd.heap.size 3 1 v5 (i + 1) (UsefulWord.intsL ((ts.take (i + 1)).map (atF U g.ts.length))) := by
                          rw [Emap.out, UsefulWord.intsL_app]
                          exact hown5
                        clear hown5 hgrow5 hownE hBE
                        go_roundw
                        case rel => exact ⟨i + 1, _, by omega, rfl, by go_num, by rw [Eall.out]; rfl, hB5, hown6⟩
                        case measure => simp [intOf]; omega
                    · have hdy : decide (0 ≤ y) = false := by simpa using hy0
                      rw [hdy] at Eall
                      cases bw with
                      | true =>
                        go_wp2_with (at_builtin; refine wpList_append_own _ rfl _ _ 36 rfl Wd.heap.size 3 i0 (.int .i64 0) 1 8 Tryd.underlying36 hi0 hz0 hz1 hz2 rfl (by decide) _ _ _ rfl (hownE.alloc _) ⟨We.heap.size, 0, none⟩ 1 1 [.int .i64 y] rfl rfl (cell_one_new _ _ _) (by simp [Value.oneCell']) (by unfold maxLen; omega) (by omega) (by simp; omega) ?_; intro v5 w5 hown5 hgrow5 _)
                        have hB5 : Below Wd.heap.size Wd w5 := (hBE.alloc hBE.size _).grown hgrow5 (by simp; omega) (fun k hk => (hownE.lt k hk).1)
                        have hown6 : w5.ownsRow Wd.heap.size 3 1 v5 (i + 1) (UsefulWord.intsL ((ts.take (i + 1)).map (atF U g.ts.length))) := by
                          rw [Emap.out, UsefulWord.intsL_app]
                          exact hown5
                        clear hown5 hgrow5 hownE hBE
                        go_roundw
                        case rel => exact ⟨i + 1, _, by omega, rfl, by go_num, by rw [Eall.out]; rfl, hB5, hown6⟩
                        case measure => simp [intOf]; omega
                      | false =>
                        go_wp2_with (at_builtin; refine wpList_append_own _ rfl _ _ 36 rfl Wd.heap.size 3 i0 (.int .i64 0) 1 8 Tryd.underlying36 hi0 hz0 hz1 hz2 rfl (by decide) _ _ _ rfl (hownE.alloc _) ⟨We.heap.size, 0, none⟩ 1 1 [.int .i64 y] rfl rfl (cell_one_new _ _ _) (by simp [Value.oneCell']) (by unfold maxLen; omega) (by omega) (by simp; omega) ?_; intro v5 w5 hown5 hgrow5 _)
                        have hB5 : Below Wd.heap.size Wd w5 := (hBE.alloc hBE.size _).grown hgrow5 (by simp; omega) (fun k hk => (hownE.lt k hk).1)
                        have hown6 : w5.ownsRow Wd.heap.size 3 1 v5 (i + 1) (UsefulWord.intsL ((ts.take (i + 1)).map (atF U g.ts.length))) := by
                          rw [Emap.out, UsefulWord.intsL_app]
                          exact hown5
                        clear hown5 hgrow5 hownE hBE
                        go_roundw
                        case rel => exact ⟨i + 1, _, by omega, rfl, by go_num, by rw [Eall.out]; rfl, hB5, hown6⟩
                        case measure => simp [intOf]; omega
              · have hin3 : ¬ (i : Int) < (ts.length : Int) := by omega
                have hie : i = ts.length := by omega
                rw [hie, List.take_length] at hown
                have Ebw : Hid ((ts.take i).all (okT U g.ts.length) = ts.all (okT U g.ts.length)) := by show _ = _; rw [hie, List.take_length]
                rw [Ebw.out]
                obtain ⟨bw, hbw⟩ : ∃ bw, ts.all (okT U g.ts.length) = bw := ⟨_, rfl⟩
                have Hbw : Hid (ts.all (okT U g.ts.length) = bw) := hbw
                rw [hbw]
                clear hbw
                have hown2 : wr.ownsRow Wd.heap.size 3 1 ov (ts.map (atF U g.ts.length)).length (UsefulWord.intsL (ts.map (atF U g.ts.length))) := by rw [List.length_map]; exact hown
                obtain ⟨oa, oc, rfl, hIo, _⟩ := UsefulWord.own_irow hown2
                rw [List.length_map]
                obtain ⟨W1, hW1⟩ : ∃ W1, W1 = wr := ⟨_, rfl⟩
                subst hW1
                obtain ⟨m, hm⟩ : ∃ m : Nat, g.ax = (m : Int) := ⟨g.ax.toNat, by have := hgood.ax0; omega⟩
                obtain ⟨m2, hm2⟩ : ∃ m2 : Nat, h.ax = (m2 : Int) := ⟨h.ax.toNat, by omega⟩
                have hml : m < g.ns.length := by have := hgood.ax1; omega
                have hml2 : m2 < h.ns.length := by omega
                have Hm : Hid (g.ax = (m : Int)) := hm
                have Hm2 : Hid (h.ax = (m2 : Int)) := hm2
                clear hm hm2 hie hown hown2
                have hgb := hbx9.below hB9r hbx9.lt
                have a0 := hgb.cell (q := 0) rfl
                have a1 := hgb.cell (q := 1) rfl
                have a2 := hgb.cell (q := 2) rfl
                have a3 := hgb.cell (q := 3) rfl
                have hfew := UsefulCuts.few_any ta na ra ka tc nc rc kc g ts W1 (hG.2.2.below hBw (Nat.le_refl _)) hg (by omega)
                go_wp2_with fail
                refine hfew.mono ?_
                rintro e w11 ⟨rfl, hb⟩
                have hBw11 := hBw.trans (hb.mono hBw.size)
                have hB911 := hB9r.trans (hb.mono hB9r.size)
                have hIo11 := hIo.below hb (Nat.le_refl _)
                clear hfew a0 a1 a2 a3 hgb hIo hb
                cases hfb : UsefulCuts.fewB g ts with
                | false =>
                  go_wp2
                  go_ret
                  exact ⟨rfl, hBw11⟩
                | true =>
                  have h8 : ts.length ≤ 8 := (UsefulCuts.fewB_iff.1 hfb).1
                  have hgb := hbx9.below hB911 hbx9.lt
                  have a0 := hgb.cell (q := 0) rfl
                  have a1 := hgb.cell (q := 1) rfl
                  have a2 := hgb.cell (q := 2) rfl
                  have a3 := hgb.cell (q := 3) rfl
                  have hder := UsefulCuts.derives_any ta na ra ka tc nc rc kc g m ts w11 (hG.2.2.below hBw11 (Nat.le_refl _)) (caps_below hG.2.2 rfl hcap hBw11 (Nat.le_refl _)) hg hgood hml (hI.below hBw11 (Nat.le_refl _)) (by omega)
                  rw [← Hm.out] at hder
                  clear hfb
                  go_wp2_with fail
                  refine hder.mono ?_
                  rintro e w12 ⟨⟨z, rfl, hz⟩, hb⟩
                  have hBw12 := hBw11.trans (hb.mono hBw11.size)
                  have hB912 := hB911.trans (hb.mono hB911.size)
                  have hIo12 := hIo11.below hb (Nat.le_refl _)
                  clear hder a0 a1 a2 a3 hgb hIo11 hb
                  cases bw with
                  | false =>
                    have hzf : z = false := by
                      cases z with
                      | false => rfl
                      | true =>
                        have hw := hdw.out (hz.1 rfl)
                        have : ts.all (okT U g.ts.length) = true := by
                          rw [List.all_eq_true]
                          intro x hx
                          have h1 := hw x hx
                          rw [HU.out] at h1
                          unfold okT atF
                          rw [if_pos h1]
                          simp
                        rw [Hbw.out] at this
                        cases this
                    subst hzf
                    clear hz
                    go_wp2
                    go_ret
                    exact ⟨rfl, hBw12⟩
                  | true =>
                    have hwh : WholeT g ts := fun x hx => by
                      have h1 := List.all_eq_true.1 Hbw.out x hx
                      unfold okT atF at h1
                      by_cases hc : 0 ≤ x ∧ x < g.ts.length ∧ U x.toNat = true
                      · rw [← HU.out] at hc
                        exact hc
                      · rw [if_neg hc] at h1
                        simp at h1
                    have hmap : ts.map (atF U g.ts.length) = ts.map (renX (usefulS g) (useS (usefulS g) g.rs)) := List.map_congr_left (fun x hx => by
                      have h1 := hwh x hx
                      rw [renX_pos h1.1, HU.out]
                      rw [HU.out] at h1
                      unfold atF
                      rw [if_pos h1])
                    have htx := ht9.below hB912 htb9
                    have x0 := htx.cell (q := 0) rfl
                    have x1 := htx.cell (q := 1) rfl
                    have x2 := htx.cell (q := 2) rfl
                    have x3 := htx.cell (q := 3) rfl
                    have hc12 := hc9.below hB912 (Nat.le_refl _)
                    have hcaph : GramOpen.Caps w12 (some ⟨b3, 0, none⟩) h.rs.length := fun i hi b off he qa n qc hcc => by
                      cases he
                      obtain ⟨r, hr⟩ : ∃ r, h.rs[i]? = some r := ⟨h.rs[i], List.getElem?_eq_getElem hi⟩
                      obtain ⟨x, hx⟩ : ∃ x, bs[i]? = some x := ⟨bs[i]'(by rw [hc12.rs.len]; exact hi), List.getElem?_eq_getElem _⟩
                      have := (hc12.rs.each i r x hr hx).2.1
                      rw [Nat.zero_add, this] at hcc
                      cases hcc
                      exact Nat.le_refl _
                    have hder2 := UsefulCuts.derives_any (some ⟨b1, 0, none⟩) (some ⟨b2, 0, none⟩) (some ⟨b3, 0, none⟩) oa h.ts.length h.ns.length h.rs.length oc h m2 (ts.map (atF U g.ts.length)) w12 hc12.row.2.2 hcaph oh Hh.out hml2 hIo12 (by rw [List.length_map]; omega)
                    rw [← Hm2.out, List.length_map] at hder2
                    have hsame : Hid (∀ y : Bool, (y = true ↔ D h.rs [-1 - h.ax] (ts.map (atF U g.ts.length))) → (y == z) = true) := fun y hy => by
                      rw [hmap, hds.out hwh, ← hz] at hy
                      cases y <;> cases z <;> simp_all
                    clear hz hmap hwh hcaph
                    go_wp2_with fail
                    refine hder2.mono ?_
                    rintro e w13 ⟨⟨y, rfl, hy⟩, hb⟩
                    have hfin := hsame.out y hy
                    have hBw13 := hBw12.trans (hb.mono hBw12.size)
                    clear hder2 hy hb
                    go_wp2
                    go_ret
                    exact ⟨by first | rfl | rw [hfin], hBw13⟩
  · obtain ⟨t9, u9, rfl⟩ := ck_iface hv h0
    have hBn : Below w3.heap.size w3 (w3.alloc (.cells #[.slice none 0 0, .slice none 0 0, .int .i64 0, .slice none 0 0] 25)) := (Below.refl _ _).alloc (Nat.le_refl _) _
    have hB5 := hB4.trans (hBn.mono hB4.size)
    clear hv h0
    go_wp2
    go_ret
    exact ⟨rfl, hB5⟩

end Go.Proofs.YtnlaffhhbabjaaaDoor.UsefulTrimmedW
