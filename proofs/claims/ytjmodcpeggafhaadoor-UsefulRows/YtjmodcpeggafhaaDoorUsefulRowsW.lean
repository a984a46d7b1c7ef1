/-
  The walk of UsefulRows: it answers true for every grammar, and writes nothing that was there.
-/
import Derived.Test.YtjmodcpeggafhaaDoorUsefulDerives
import Derived.Test.YtjmodcpeggafhaaDoorUsefulKnown
import Derived.Test.YtjmodcpeggafhaaDoorGramLentG
import Derived.Test.YtjmodcpeggafhaaDoorGramOpenL
import Derived.Test.YtjmodcpeggafhaaDoorSetsMath2
namespace Go.Proofs.YtjmodcpeggafhaaDoor.UsefulRowsW
open Go.RowKit Go.Proofs.YtjmodcpeggafhaaDoor.GramMath Go.Proofs.YtjmodcpeggafhaaDoor.GramRow Go.Proofs.YtjmodcpeggafhaaDoor.SetsMath Go.Proofs.YtjmodcpeggafhaaDoor.SetsAlg Go.Proofs.YtjmodcpeggafhaaDoor.UsefulMath Go.Proofs.YtjmodcpeggafhaaDoor.UsefulTop Go.Proofs.YtjmodcpeggafhaaDoor.UsefulShort Go.Proofs.YtjmodcpeggafhaaDoor.UsefulWord Go.Proofs.YtjmodcpeggafhaaDoor.UsefulCuts Go.Proofs.YtjmodcpeggafhaaDoor.GramLent Go.Proofs.YtjmodcpeggafhaaDoor.GramErrs Go.Proofs.YtjmodcpeggafhaaDoor.UsefulKnown Go.Proofs.YtjmodcpeggafhaaDoor.OpRow Go.Proofs.YtjmodcpeggafhaaDoor.GramApart
set_option linter.unusedVariables false
set_option linter.unusedSimpArgs false

theorem lend_below {w w' : World} {ta na ra : Option Addr} {tc nc : Nat} {g : G} {B : Nat} (h : Lendable w ta na ra tc nc g) (hb : Below B w w') (hB : w.heap.size ≤ B) : Lendable w' ta na ra tc nc g := ⟨h.ts.below hb hB, h.ns.below hb hB, h.rs.below hb hB, h.tn, h.nn, h.tm, h.nm, h.rm, h.each⟩
theorem caps_below {w w' : World} {ra : Option Addr} {m : Nat} {rs : List R} (hR : RRow w ra rs) (hm : m = rs.length) (h : GramOpen.Caps w ra m) {B : Nat} (hb : Below B w w') (hB : w.heap.size ≤ B) : GramOpen.Caps w' ra m := fun i hi b off he qa n qc hc => by
  obtain ⟨r, hr⟩ : ∃ r, rs[i]? = some r := ⟨rs[i]'(by omega), List.getElem?_eq_getElem _⟩
  obtain ⟨b', off', qa', qc', he', _, h2, _⟩ := hR i r hr
  rw [he] at he'
  obtain ⟨rfl, rfl⟩ : b = b' ∧ off = off' := by simpa using he'
  rw [hb.cell (Nat.lt_of_lt_of_le (cell_lt h2) hB)] at hc
  exact h i hi b off he qa n qc hc

theorem shift_bit {s : Int} {k : Nat} (hs : IsSet s) (b : (k : Int) < 64) : (bits .and .u64 (s / 2 ^ k) 1 == 1) = hasB s k := by
  have hd := div_isSet hs k
  have h1 := hasB_div hs (show (0 : Int) ≤ (k : Int) by omega) b
  rw [Int.toNat_natCast] at h1
  rw [bits_and2 hd ⟨by decide, by decide⟩, ← h1]
  have h0 := hd.1
  generalize s / 2 ^ k = x at *
  have e : meetI x 1 = x % 2 := by
    unfold meetI
    rw [show (1 : Int).toNat = 1 from rfl, Nat.and_one_is_mod]
    omega
  rw [e]

/-- The statement's own sum: terminals are counted on beyond the bound. -/
def stepU (ls : List Int) (s x : Int) : Int := if s < 0 then s else if 0 ≤ x then s + 1 else if ls.getD (-1 - x).toNat 0 < 0 then -1 else min (s + ls.getD (-1 - x).toNat 0) 65537
def foldU (ls : List Int) (s : Int) (l : List Int) : Int := l.foldl (stepU ls) s
theorem foldU_take (ls : List Int) {l : List Int} {k : Nat} {x : Int} (h : l[k]? = some x) : foldU ls 0 (l.take (k + 1)) = stepU ls (foldU ls 0 (l.take k)) x := by
  rw [List.take_add_one, h]
  simp [foldU]
theorem foldU_neg (ls : List Int) {s : Int} (h : s < 0) : ∀ l, foldU ls s l = s
  | [] => rfl
  | x :: l => by
    show foldU ls (stepU ls s x) l = s
    rw [show stepU ls s x = s from if_pos h]
    exact foldU_neg ls h l
theorem foldU_end (ls : List Int) {l : List Int} {k : Nat} (h : foldU ls 0 (l.take k) < 0) : foldU ls 0 l < 0 := by
  have e : foldU ls 0 l = foldU ls (foldU ls 0 (l.take k)) (l.drop k) := by
    unfold foldU
    rw [← List.foldl_append, List.take_append_drop]
  rw [e, foldU_neg ls h]
  exact h
theorem foldU_pos {ls : List Int} : ∀ {l : List Int} {s : Int}, 0 ≤ foldU ls s l → (∀ x ∈ l, x < 0 → 0 ≤ ls.getD (-1 - x).toNat 0) ∧ 0 ≤ s
  | [], s, h => ⟨fun x hx => (by cases hx), h⟩
  | x :: l, s, h => by
    obtain ⟨h1, h2⟩ := foldU_pos (l := l) (s := stepU ls s x) h
    have hs : 0 ≤ s := by
      apply Classical.byContradiction
      intro hc
      have : stepU ls s x = s := if_pos (by omega)
      omega
    refine ⟨fun y hy h0 => ?_, hs⟩
    rcases List.mem_cons.1 hy with rfl | hy
    · apply Classical.byContradiction
      intro hc
      have : stepU ls s y = -1 := by
        unfold stepU
        rw [if_neg (by omega), if_neg (by omega), if_pos (by omega)]
      omega
    · exact h1 y hy h0
theorem foldU_ge {ls : List Int} : ∀ {l : List Int} {s p : Int}, 0 ≤ s → min p 65537 ≤ s → (∀ x ∈ l, x < 0 → 0 ≤ ls.getD (-1 - x).toNat 0) → min (p + sumL ls l) 65537 ≤ foldU ls s l
  | [], s, p, h0, h1, _ => by simpa [foldU, sumL] using h1
  | x :: l, s, p, h0, h1, hk => by
    show _ ≤ foldU ls (stepU ls s x) l
    simp only [sumL]
    by_cases hx : x < 0
    · have h2 := hk x (by simp) hx
      have e : stepU ls s x = min (s + ls.getD (-1 - x).toNat 0) 65537 := by
        unfold stepU
        rw [if_neg (by omega), if_neg (by omega), if_neg (by omega)]
      rw [e, if_pos hx, ← Int.add_assoc]
      exact foldU_ge (by omega) (by omega) (fun y hy => hk y (by simp [hy]))
    · have e : stepU ls s x = s + 1 := by
        unfold stepU
        rw [if_neg (by omega), if_pos (by omega)]
      rw [e, if_neg hx, ← Int.add_assoc]
      exact foldU_ge (by omega) (by omega) (fun y hy => hk y (by simp [hy]))
theorem foldU_le (ls : List Int) : ∀ {l : List Int} {s : Int}, -1 ≤ s → s ≤ 65537 + 1000 → -1 ≤ foldU ls s l ∧ foldU ls s l ≤ 65537 + 1000 + l.length
  | [], s, h0, h => ⟨h0, by simpa [foldU] using h⟩
  | x :: l, s, h0, h => by
    have h1 : foldU ls s (x :: l) = foldU ls (stepU ls s x) l := rfl
    have hb : ∀ {l : List Int} {s : Int} {c : Nat}, -1 ≤ s → s ≤ 65537 + 1000 + c → -1 ≤ foldU ls s l ∧ foldU ls s l ≤ 65537 + 1000 + c + l.length := by
      intro l
      induction l with
      | nil => intro s c a b; exact ⟨a, by simpa [foldU] using b⟩
      | cons y l ih =>
        intro s c a b
        have hst : -1 ≤ stepU ls s y ∧ stepU ls s y ≤ 65537 + 1000 + ((c + 1 : Nat) : Int) := by
          unfold stepU
          split
          · omega
          · split
            · omega
            · split
              · omega
              · omega
        have := ih (s := stepU ls s y) (c := c + 1) hst.1 hst.2
        show -1 ≤ foldU ls (stepU ls s y) l ∧ foldU ls (stepU ls s y) l ≤ _
        rw [List.length_cons]
        omega
    have := hb (l := x :: l) (s := s) (c := 0) h0 (by simpa using h)
    simpa using this

theorem sum_end {t n : Nat} {rs : List R} (ho : OkRs t n rs) {ls : List Int} (hS : Short rs n ls) {r : R} (hr : r ∈ rs) (h : 0 ≤ foldU ls 0 r.right) : 0 ≤ ls.getD r.left.toNat 0 ∧ ls.getD r.left.toNat 0 ≤ foldU ls 0 r.right := by
  obtain ⟨hk, _⟩ := foldU_pos h
  have hl := ho.left hr
  have hp : ∀ x ∈ r.right, x < 0 → Prod rs (-1 - x) := fun x hx h0 => by
    have h1 := (ho.sym hr hx).1
    have h2 := hk x hx h0
    have e : (((-1 - x).toNat : Nat) : Int) = -1 - x := Int.toNat_of_nonneg (by omega)
    apply Classical.byContradiction
    intro hn
    have := (hS.1.2 (-1 - x).toNat (by omega)).1 (by rw [e]; exact hn)
    omega
  have hpl : Prod rs ((r.left.toNat : Nat) : Int) := by
    rw [Int.toNat_of_nonneg hl.1]
    exact .mk r hr hp
  obtain ⟨h3, h4, _⟩ := (hS.1.2 r.left.toNat (by omega)).2 hpl
  have h5 := short_end ho hS hr hp
  have h6 := foldU_ge (ls := ls) (l := r.right) (s := 0) (p := 0) (by omega) (by omega) hk
  exact ⟨h3, by omega⟩

theorem word_len {t n : Nat} {rs : List R} (ho : OkRs t n rs) (ht : t ≤ 60) {ls : List Int} (hS : Short rs n ls) {k : Nat} (hk : k < n) {row : List Int} (hw : IsWord rs k row) (hy : ls.getD k 0 ≤ 65536) (hp : Prod rs k) : (row.length : Int) = ls.getD k 0 := by
  have h1 := hS.2 k hk row hw.1
  obtain ⟨_, _, h3⟩ := (hS.1.2 k hk).2 hp
  rcases h3 with h3 | ⟨u, hu, hul⟩
  · omega
  · have h4 := rk_le_len (Dij.toks ho (by omega) (k := (k : Int)) (by omega) hw.1) (Dij.toks ho (by omega) (k := (k : Int)) (by omega) hu) (hw.2 u hu)
    omega

theorem wordZ_of {g : G} (h0 : (checkG g).1 = 0) {ls : List Int} (hS : Short g.rs g.ns.length ls) {k : Nat} (hk : k < g.ns.length) : (ls.getD k 0 < 0 → wordZ g k = (15, none)) ∧ (ls.getD k 0 = 65537 → wordZ g k = (12, none)) ∧ (0 ≤ ls.getD k 0 → ls.getD k 0 ≤ 65536 → wordZ g k = (0, none)) := by
  have ho := (good_of h0).okRs
  have hlk := hS.1.2 k hk
  have hr0 : 0 ≤ (k : Int) ∧ (k : Int) < g.ns.length := by omega
  have hpp : ¬ ls.getD k 0 < 0 → Prod g.rs k := fun h => Classical.byContradiction fun hn => by have := hlk.1 hn; omega
  refine ⟨fun h => ?_, fun h => ?_, fun h h' => ?_⟩
  · unfold wordZ
    rw [if_neg (by rw [h0]; simp), if_neg (fun h => h hr0), if_pos (fun hp => by have := (hlk.2 hp).1; omega)]
  · have hp := hpp (by omega)
    unfold wordZ
    rw [if_neg (by rw [h0]; simp), if_neg (fun h => h hr0), if_neg (fun h => h hp), if_pos ((short_long ho hS hk hp).2 h)]
  · have hp := hpp (by omega)
    unfold wordZ
    rw [if_neg (by rw [h0]; simp), if_neg (fun h => h hr0), if_neg (fun h => h hp), if_neg (fun hh => by have := (short_long ho hS hk hp).1 hh; omega)]

set_option maxRecDepth 100000 in
set_option maxHeartbeats 8000000 in
theorem walk (ta na ra : Option Addr) (tc nc rc : Nat) (g : G) (p : Nat → Addr) (w : World) (hL : Lendable w ta na ra tc nc g) (hcap : GramOpen.Caps w ra g.rs.length) (hg : okG g) (hE : Errs w p) (hT : Tab w) (hGl : 15 < w.heap.size) :
    Calls Tryd.prog 6 #[.agg #[.slice ta g.ts.length tc, .slice na g.ns.length nc, .int .i64 g.ax, .slice ra g.rs.length rc]] w fun e w' => e = .returned (.bool true) ∧ Below w.heap.size w w' := by
  have hneq := neq_nil
  have heql := eql_nil
  have hG := GramOpen.lendable_row hL
  have hB0 : Below w.heap.size w (w.alloc (.cells #[.slice ta g.ts.length tc, .slice na g.ns.length nc, .int .i64 g.ax, .slice ra g.rs.length rc] 25)) := (Below.refl _ _).alloc (Nat.le_refl _) _
  have hbx0 := rowNew w #[.slice ta g.ts.length tc, .slice na g.ns.length nc, .int .i64 g.ax, .slice ra g.rs.length rc] 25
  have hkn := known_any p (w.alloc (.cells #[.slice ta g.ts.length tc, .slice na g.ns.length nc, .int .i64 g.ax, .slice ra g.rs.length rc] 25)) (hE.below hB0 (Nat.le_refl _)) (SetsEach.Tab.from hT hB0 hGl) (by have := hB0.size; omega)
  go_enter Tryd.func6, Tryd.ntmps6
  go_wp2_with fail
  generalize (w.alloc (.cells #[.slice ta g.ts.length tc, .slice na g.ns.length nc, .int .i64 g.ax, .slice ra g.rs.length rc] 25)) = W0 at *
  refine hkn.mono ?_
  rintro e w1 ⟨rfl, hb⟩
  have hB1 := hB0.trans (hb.mono hB0.size)
  have hbx1 := hbx0.below hb hbx0.lt
  clear hkn hb hbx0 hB0
  have a0 := hbx1.cell (q := 0) rfl
  have a1 := hbx1.cell (q := 1) rfl
  have a2 := hbx1.cell (q := 2) rfl
  have a3 := hbx1.cell (q := 3) rfl
  have hlend := lentG ta na ra tc nc rc g _ (lend_below hL hB1 (Nat.le_refl _))
  go_wp2_with fail
  refine hlend.mono ?_
  rintro e w2 ⟨⟨g1, c1, g2, c2, g3, c3, lq, rfl, hlg⟩, hb⟩
  have hB2 := hB1.trans (hb.mono hB1.size)
  have hbx2 := hbx1.below hb hbx1.lt
  clear hlend hb hbx1 hB1 a0 a1 a2 a3
  have hck := shortest_top (some ⟨g1, 0, none⟩) (some ⟨g2, 0, none⟩) (some ⟨g3, 0, none⟩) c1 c2 c3 g p _ hlg.row hg (Nat.le_of_lt hlg.tc) (Nat.le_of_lt hlg.nc) (fun h => by cases h) (hE.sents.below hB2 (Nat.le_refl _))
  go_wp2_with fail
  refine hck.mono ?_
  rintro e w3 ⟨⟨v0, hv0, hor⟩, hb⟩
  have hB3 := hB2.trans (hb.mono hB2.size)
  have hbx3 := hbx2.below hb hbx2.lt
  have hlend := lentG ta na ra tc nc rc g _ (lend_below hL hB3 (Nat.le_refl _))
  clear hck hb hbx2 hB2 hlg
  have a0 := hbx3.cell (q := 0) rfl
  have a1 := hbx3.cell (q := 1) rfl
  have a2 := hbx3.cell (q := 2) rfl
  have a3 := hbx3.cell (q := 3) rfl
  rcases hor with ⟨h0, rfl⟩ | ⟨h0, d, ls, rfl, hd, hrow, hS⟩
  · obtain ⟨t0, u0, rfl⟩ := ck_iface hv0 h0
    go_wp2_with fail
    refine hlend.mono ?_
    rintro e w4 ⟨⟨g1, c1, g2, c2, g3, c3, lq, rfl, hlg⟩, hb⟩
    have hB4 := hB3.trans (hb.mono hB3.size)
    clear hlend hb hbx3 hB3 a0 a1 a2 a3
    have hck := Productive_top (some ⟨g1, 0, none⟩) (some ⟨g2, 0, none⟩) (some ⟨g3, 0, none⟩) c1 c2 c3 g p _ hlg.row hg (Nat.le_of_lt hlg.tc) (Nat.le_of_lt hlg.nc) (hE.sents.below hB4 (Nat.le_refl _))
    go_wp2_with fail
    refine hck.mono ?_
    rintro e w5 ⟨⟨v1, rfl, hv1⟩, hb⟩
    have hB5 := hB4.trans (hb.mono hB4.size)
    obtain ⟨t1, u1, rfl⟩ := ck_iface hv1 h0
    simp only [okI_no h0]
    go_wp2
    go_ret
    exact ⟨rfl, hB5⟩
  have hgd := good_of h0
  have ho := hgd.okRs
  have n60 := ho.1
  have h120 := hgd.rules
  have t60 : g.ts.length ≤ 60 := by have := hgd.few; omega
  have HC : Hid ((checkG g).1 = 0) := h0
  have hln : ls.length = g.ns.length := hS.1.1
  obtain rfl := ck_nil hv0 h0
  go_wp2_with fail
  refine hlend.mono ?_
  rintro e w4 ⟨⟨g1, c1, g2, c2, g3, c3, lq, rfl, hlg⟩, hb⟩
  have hB4 := hB3.trans (hb.mono hB3.size)
  have hbx4 := hbx3.below hb hbx3.lt
  have hrow4 := hrow.below hb hrow.lt
  clear hlend hb hbx3 hB3 a0 a1 a2 a3 hv0
  have hck := Productive_top (some ⟨g1, 0, none⟩) (some ⟨g2, 0, none⟩) (some ⟨g3, 0, none⟩) c1 c2 c3 g p _ hlg.row hg (Nat.le_of_lt hlg.tc) (Nat.le_of_lt hlg.nc) (hE.sents.below hB4 (Nat.le_refl _))
  rw [okI_yes h0] at hck
  go_wp2_with fail
  refine hck.mono ?_
  rintro e w5 ⟨⟨v1, rfl, hv1⟩, hb⟩
  obtain rfl := ck_nil hv1 h0
  have hB5 := hB4.trans (hb.mono hB4.size)
  have hbx5 := hbx4.below hb hbx4.lt
  have hrow5 := hrow4.below hb hrow4.lt
  have a1 := hbx5.cell (q := 1) rfl
  clear hck hb hbx4 hB4 hrow hrow4 hv1 h0 hlg
  have hlt0 := hbx5.lt
  have hdl := hrow5.lt
  have HLN : Hid (ls.length = g.ns.length) := hln
  clear hln
  go_wp2
  go_loopw [7] (fun i wr => ∃ k : Nat, k ≤ g.ns.length ∧ i = .int .i64 k ∧ Below w5.heap.size w5 wr) (fun i _ => g.ns.length - (intOf i).toNat)
  case atStart => exact ⟨0, by omega, rfl, Below.refl _ _⟩
  case round =>
    obtain ⟨k, hk, rfl, hB⟩ := hrel
    have hBw := hB5.trans (hB.mono hB5.size)
    have hbxr := hbx5.below hB hlt0
    have hrowr := hrow5.below hB hdl
    clear a1
    have a0 := hbxr.cell (q := 0) rfl
    have a1 := hbxr.cell (q := 1) rfl
    have a2 := hbxr.cell (q := 2) rfl
    have a3 := hbxr.cell (q := 3) rfl
    by_cases hkl : k < g.ns.length
    · have hkl2 : (k : Int) < (g.ns.length : Int) := by omega
      have hk64 : (k : Int) < 64 := by omega
      have hlend := lentG ta na ra tc nc rc g _ (lend_below hL hBw (Nat.le_refl _))
      go_wp2_with fail
      refine hlend.mono ?_
      rintro e w6 ⟨⟨g1, c1, g2, c2, g3, c3, lq, rfl, hlg⟩, hb⟩
      have hB6 := hBw.trans (hb.mono hBw.size)
      have hB6' := hB.trans (hb.mono hB.size)
      clear hlend hb a0 a1 a2 a3 hbxr hrowr hBw hB
      have hck := word_top (some ⟨g1, 0, none⟩) (some ⟨g2, 0, none⟩) (some ⟨g3, 0, none⟩) c1 c2 c3 g (k : Int) p _ hlg.row hg (Nat.le_of_lt hlg.tc) (Nat.le_of_lt hlg.nc) (fun h => by cases h) (hE.below hB6 (Nat.le_refl _)) (SetsEach.Tab.from hT hB6 hGl) (by have := hB6.size; omega) ⟨by omega, by omega⟩
      go_wp2_with fail
      refine hck.mono ?_
      rintro e w7 ⟨⟨v, hv, hor⟩, hb⟩
      have hB7 := hB6.trans (hb.mono hB6.size)
      have hB7' := hB6'.trans (hb.mono hB6'.size)
      have hbx7 := hbx5.below hB7' hlt0
      have hrow7 := hrow5.below hB7' hdl
      clear hck hb hlg
      obtain ⟨y, hy⟩ : ∃ y, ls[k]? = some y := ⟨ls[k]'(by rw [HLN.out]; exact hkl), List.getElem?_eq_getElem _⟩
      have hcy := hrow7.cell (intsA_get hy)
      have hyd := getD_of hy
      have hz := wordZ_of HC.out hS hkl
      rw [hyd] at hz
      have hlk := hS.1.2 k hkl
      rw [hyd] at hlk
      have hwk : IntKind.u64.wrap (k : Int) = (k : Int) := by rw [IntKind.wrap_u64]; omega
      have hbit : (bits .and .u64 (prodI g / 2 ^ k) 1 == 1) = hasB (prodI g) k := shift_bit (prodI_isSet g) hk64
      have hpk : hasB (prodI g) (k : Int) = true ↔ Prod g.rs k := hasB_prodI hgd k
      have b0 := hbx7.cell (q := 0) rfl
      have b1 := hbx7.cell (q := 1) rfl
      have b2 := hbx7.cell (q := 2) rfl
      have b3 := hbx7.cell (q := 3) rfl
      by_cases hy0 : y < 0
      · have hnp : ¬ Prod g.rs k := fun hp => by have := (hlk.2 hp).1; omega
        have hym : y = -1 := hlk.1 hnp
        have hbf : (bits .and .u64 (prodI g / 2 ^ k) 1 == 1) = false := by
          rw [hbit]
          cases h : hasB (prodI g) (k : Int) with
          | false => rfl
          | true => exact absurd (hpk.1 h) hnp
        have hz1 := hz.1 hy0
        obtain ⟨_, rfl⟩ := hor.resolve_right (fun h => absurd h.1 (by rw [hz1]; decide))
        rw [hz1] at hv
        obtain ⟨t3, u3, hvi⟩ := ck_iface hv (by decide)
        subst hvi
        subst hym
        have hkk := kind_ck _ p (15, none) w7 _ (hE.below hB7 (Nat.le_refl _)) (by decide) hv
        clear hz hlk hyd hy hbit hpk hnp
        go_wp2_with fail
        refine hkk.mono ?_
        rintro e w8 ⟨rfl, hb⟩
        have hB8 := hB7'.trans (hb.mono hB7'.size)
        have hcy8 := (hrow5.below hB8 hdl).cell (q := k) (v := .int .i64 (-1)) (by rw [← rowat_cell hrow7]; exact hcy)
        go_wp2
        go_roundw
        case rel => exact ⟨k + 1, by omega, by go_num, hB8⟩
        case measure => simp [intOf]; omega
      · have hp : Prod g.rs k := Classical.byContradiction fun h => by have := hlk.1 h; omega
        have hbf : (bits .and .u64 (prodI g / 2 ^ k) 1 == 1) = true := by rw [hbit]; exact hpk.2 hp
        obtain ⟨hya, hyb, _⟩ := hlk.2 hp
        by_cases hyl : y = 65537
        · have hz1 := hz.2.1 hyl
          obtain ⟨_, rfl⟩ := hor.resolve_right (fun h => absurd h.1 (by rw [hz1]; decide))
          rw [hz1] at hv
          obtain ⟨t3, u3, hvi⟩ := ck_iface hv (by decide)
          subst hvi
          subst hyl
          have hkk := kind_ck _ p (12, none) w7 _ (hE.below hB7 (Nat.le_refl _)) (by decide) hv
          clear hz hlk hyd hy hbit hpk
          go_wp2_with fail
          refine hkk.mono ?_
          rintro e w8 ⟨rfl, hb⟩
          have hB8 := hB7'.trans (hb.mono hB7'.size)
          have hcy8 := (hrow5.below hB8 hdl).cell (q := k) (v := .int .i64 65537) (by rw [← rowat_cell hrow7]; exact hcy)
          go_wp2
          go_roundw
          case rel => exact ⟨k + 1, by omega, by go_num, hB8⟩
          case measure => simp [intOf]; omega
        · have hy6 : y ≤ 65536 := by omega
          have hz1 := hz.2.2 hya hy6
          obtain ⟨_, a, c, row, rfl, hrw, _, hrl, hwd⟩ := hor.resolve_left (fun h => absurd h.1 (by rw [hz1]; decide))
          rw [hz1] at hv
          obtain rfl := ck_nil hv rfl
          have hwl := word_len ho t60 hS hkl hwd (by rw [hyd]; exact hy6) hp
          rw [hyd] at hwl
          have hye : ((row.length : Int) != y) = false := by simpa using hwl
          have hyne : (y == 65537) = false := by simpa using hyl
          have hfew := few_any ta na ra a tc nc rc c g row w7 (hG.2.2.below hB7 (Nat.le_refl _)) hg (by omega)
          have HD : Hid (D g.rs [-1 - (k : Int)] row) := hwd.1
          have HW : Hid ((row.length : Int) = y) := hwl
          clear hz hlk hyd hy hbit hpk hwd hwl hyl
          go_wp2_with fail
          refine hfew.mono ?_
          rintro e w8 ⟨rfl, hb⟩
          have hB8 := hB7.trans (hb.mono hB7.size)
          have hB8' := hB7'.trans (hb.mono hB7'.size)
          have hbx8 := hbx5.below hB8' hlt0
          have b08 := hbx8.cell (q := 0) rfl
          have b18 := hbx8.cell (q := 1) rfl
          have b28 := hbx8.cell (q := 2) rfl
          have b38 := hbx8.cell (q := 3) rfl
          have hder := derives_any ta na ra a tc nc rc c g k row w8 (hG.2.2.below hB8 (Nat.le_refl _)) (caps_below hG.2.2 rfl hcap hB8 (Nat.le_refl _)) hg hgd hkl (hrw.below hb (Nat.le_refl _))
          cases hfb : fewB g row with
          | false =>
            clear hder
            go_wp2
            go_roundw
            case rel => exact ⟨k + 1, by omega, by go_num, hB8'⟩
            case measure => simp [intOf]; omega
          | true =>
            have hr8 := (fewB_iff.1 hfb).1
            go_wp2_with fail
            refine (hder (by omega)).mono ?_
            rintro e w9 ⟨⟨x, rfl, hx⟩, hb9⟩
            obtain rfl : x = true := hx.2 HD.out
            have hB9 := hB8'.trans (hb9.mono hB8'.size)
            go_wp2
            go_roundw
            case rel => exact ⟨k + 1, by omega, by go_num, hB9⟩
            case measure => simp [intOf]; omega
    · obtain rfl : k = g.ns.length := by omega
      have hkl2 : ¬ (g.ns.length : Int) < (g.ns.length : Int) := by omega
      have hRw := hG.2.2.below hBw (Nat.le_refl _)
      clear hkl a0 a1 a2 hbxr hbx5 hrow5
      go_wp2
      generalize hW6 : wr = W6 at *
      go_loopw [10] (fun i wx => ∃ q : Nat, q ≤ g.rs.length ∧ i = .int .i64 q ∧ wx = W6) (fun i _ => g.rs.length - (intOf i).toNat)
      case atStart => exact ⟨0, by omega, rfl, rfl⟩
      case round =>
        obtain ⟨q, hq, rfl, hwr⟩ := hrel
        subst hwr
        by_cases hql : q < g.rs.length
        · obtain ⟨r, hr⟩ : ∃ r, g.rs[q]? = some r := ⟨g.rs[q], List.getElem?_eq_getElem hql⟩
          obtain ⟨b4, off, qa, qc, hra, e0, e1, hI⟩ := hRw q r hr
          subst hra
          have hql2 : (q : Int) < (g.rs.length : Int) := by omega
          have hrm := List.mem_of_getElem? hr
          have hokr := hg.2.2.2.2.1 r hrm
          have hleft := ho.left hrm
          have hrl := hokr.2.2
          have h32 := (ruleK_ok (ho.2 r hrm)).1
          obtain ⟨l, hl⟩ : ∃ l : Nat, r.left = (l : Int) := ⟨r.left.toNat, by omega⟩
          have hln : l < g.ns.length := by omega
          have hln2 : (l : Int) < (g.ns.length : Int) := by omega
          have hlt' : r.left.toNat = l := by omega
          rw [hl] at e0
          have HL : Hid (r.left = (l : Int) ∧ r.left.toNat = l) := ⟨hl, hlt'⟩
          have hsym : ∀ x ∈ r.right, -1 - x < g.ns.length := fun x hx => (ho.sym hrm hx).1
          obtain ⟨y, hy⟩ : ∃ y, ls[l]? = some y := ⟨ls[l]'(by rw [HLN.out]; exact hln), List.getElem?_eq_getElem _⟩
          have HY : Hid (ls.getD l 0 = y) := getD_of hy
          have hcy := hrowr.cell (intsA_get hy)
          clear hr hl hlt' hleft hy
          go_wp2
          go_loopw [11, 12] (fun s i wx => ∃ z : Nat, z ≤ r.right.length ∧ s = .int .i64 (foldU ls 0 (r.right.take z)) ∧ i = .int .i64 z ∧ wx = wr) (fun _ i _ => r.right.length - (intOf i).toNat)
          case atStart => exact ⟨0, by omega, rfl, rfl, rfl⟩
          case round =>
            obtain ⟨z, hz, rfl, rfl, hwr⟩ := hrel
            subst hwr
            have HS : Hid (-1 ≤ foldU ls 0 (r.right.take z) ∧ foldU ls 0 (r.right.take z) ≤ 70000) := by
              have := foldU_le ls (l := r.right.take z) (s := 0) (by omega) (by omega)
              have hl2 : (r.right.take z).length ≤ 32 := by rw [List.length_take]; omega
              exact ⟨this.1, by omega⟩
            have HE : Hid ((foldU ls 0 (r.right.take z) < 0 → foldU ls 0 r.right < 0) ∧ (z = r.right.length → foldU ls 0 (r.right.take z) = foldU ls 0 r.right)) := ⟨fun h => foldU_end ls h, fun h => by rw [h, List.take_length]⟩
            have HF : Hid (∀ x, r.right[z]? = some x → foldU ls 0 (r.right.take (z + 1)) = stepU ls (foldU ls 0 (r.right.take z)) x) := fun x hx => foldU_take ls hx
            generalize foldU ls 0 (r.right.take z) = s at *
            have hsb := HS.out
            by_cases hzl : z < r.right.length
            · have hzl2 : (z : Int) < (r.right.length : Int) := by omega
              by_cases hs0 : s < 0
              · have hs1 : ¬ 0 ≤ s := by omega
                clear HF HE
                go_wp2
                go_roundw
                case rel => exact ⟨q + 1, by omega, by go_num, by first | rfl | trivial⟩
                case measure => simp [intOf]; omega
              · have hs1 : 0 ≤ s := by omega
                obtain ⟨x, hx⟩ : ∃ x, r.right[z]? = some x := ⟨r.right[z], List.getElem?_eq_getElem hzl⟩
                obtain ⟨b5, off5, rfl, hc5⟩ := hI z x hx
                have hxm := List.mem_of_getElem? hx
                obtain ⟨x1, x2⟩ := hokr.2.1 x hxm
                have hsy := hsym x hxm
                have HF2 : Hid (_) := HF.out x hx
                clear hx hxm HF HE
                by_cases h0 : x < 0
                · obtain ⟨v, hv⟩ : ∃ v : Nat, -1 - x = (v : Int) := ⟨(-1 - x).toNat, by omega⟩
                  have hvn : v < g.ns.length := by omega
                  have hvn2 : (v : Int) < (g.ns.length : Int) := by omega
                  have hvt : (-1 - x).toNat = v := by omega
                  obtain ⟨yy, hz2⟩ : ∃ yy, ls[v]? = some yy := ⟨ls[v]'(by rw [HLN.out]; exact hvn), List.getElem?_eq_getElem _⟩
                  have hzd := getD_of hz2
                  have hcz := hrowr.cell (intsA_get hz2)
                  have hx0 : ¬ 0 ≤ x := by omega
                  have hzb : -1 ≤ yy ∧ yy ≤ 65537 := by
                    have := hS.1.2 v hvn
                    rw [hzd] at this
                    by_cases hp : Prod g.rs v
                    · have := this.2 hp; omega
                    · have := this.1 hp; omega
                  by_cases hz0 : yy < 0
                  · have hst : Hid (foldU ls 0 (r.right.take (z + 1)) = -1) := by
                      show _ = _
                      rw [HF2.out]
                      unfold stepU
                      rw [if_neg (by omega), if_neg (by omega), hvt, hzd, if_pos hz0]
                    clear HF2 hzd hz2 hvt hsy
                    go_wp2
                    go_roundw
                    case rel => exact ⟨z + 1, by omega, by rw [hst.out], by go_num, by first | rfl | trivial⟩
                    case measure => simp [intOf]; omega
                  · have hst : Hid (foldU ls 0 (r.right.take (z + 1)) = min (s + yy) 65537) := by
                      show _ = _
                      rw [HF2.out]
                      unfold stepU
                      rw [if_neg (by omega), if_neg (by omega), hvt, hzd, if_neg hz0]
                    clear HF2 hzd hz2 hvt hsy
                    go_wp2
                    go_roundw
                    case rel => exact ⟨z + 1, by omega, by rw [hst.out]; congr 1; split <;> omega, by go_num, by first | rfl | trivial⟩
                    case measure => simp [intOf]; omega
                · have hx0 : 0 ≤ x := by omega
                  have hst : Hid (foldU ls 0 (r.right.take (z + 1)) = s + 1) := by
                    show _ = _
                    rw [HF2.out]
                    unfold stepU
                    rw [if_neg (by omega), if_pos hx0]
                  have hwr1 : IntKind.i64.wrap (s + 1) = s + 1 := by rw [IntKind.wrap_i64]; omega
                  clear HF2 hsy
                  go_wp2
                  go_roundw
                  case rel => exact ⟨z + 1, by omega, by rw [hst.out], by go_num, by first | rfl | trivial⟩
                  case measure => simp [intOf]; omega
            · have hzl2 : ¬ (z : Int) < (r.right.length : Int) := by omega
              have he : s = foldU ls 0 r.right := HE.out.2 (by omega)
              by_cases hs0 : s < 0
              · have hs1 : ¬ 0 ≤ s := by omega
                clear HF HE he
                go_wp2
                go_roundw
                case rel => exact ⟨q + 1, by omega, by go_num, by first | rfl | trivial⟩
                case measure => simp [intOf]; omega
              · have hs1 : 0 ≤ s := by omega
                have hse := sum_end ho hS hrm (by rw [← he]; exact hs1)
                rw [HL.out.2, HY.out, ← he] at hse
                obtain ⟨hse1, hse2⟩ := hse
                have hy0 : ¬ y < 0 := by omega
                have hys : ¬ s < y := by omega
                clear HF HE he
                go_wp2
                go_roundw
                case rel => exact ⟨q + 1, by omega, by go_num, by first | rfl | trivial⟩
                case measure => simp [intOf]; omega
        · have hql2 : ¬ (q : Int) < (g.rs.length : Int) := by omega
          go_wp2
          go_ret
          exact ⟨rfl, hBw⟩

end Go.Proofs.YtjmodcpeggafhaaDoor.UsefulRowsW
