/-
  Word of every grammar and number: the shortest row, or the error.
-/
import Derived.Test.YtjmodcpeggafhaaDoorUsefulWordRules
import Derived.Test.YtjmodcpeggafhaaDoorGramErrs
namespace Go.Proofs.YtjmodcpeggafhaaDoor.UsefulWord
open Go.RowKit Go.Proofs.YtjmodcpeggafhaaDoor.GramMath Go.Proofs.YtjmodcpeggafhaaDoor.GramRow Go.Proofs.YtjmodcpeggafhaaDoor.SetsMath Go.Proofs.YtjmodcpeggafhaaDoor.UsefulMath Go.Proofs.YtjmodcpeggafhaaDoor.UsefulFn Go.Proofs.YtjmodcpeggafhaaDoor.UsefulTop Go.Proofs.YtjmodcpeggafhaaDoor.UsefulShort Go.Proofs.YtjmodcpeggafhaaDoor.OpRow Go.Proofs.YtjmodcpeggafhaaDoor.GramApart Go.Proofs.YtjmodcpeggafhaaDoor.GramLess Go.Proofs.YtjmodcpeggafhaaDoor.GramErrs Go.Proofs.YtjmodcpeggafhaaDoor.SetsAlg
set_option linter.unusedVariables false

open Classical in
/-- What is wrong with a word, if anything. -/
noncomputable def wordZ (g : G) (k : Int) : Nat × Option Nat :=
  if (checkG g).1 ≠ 0 then checkG g
  else if ¬ (0 ≤ k ∧ k < g.ns.length) then (1, none)
  else if ¬ Prod g.rs k then (15, none)
  else if ∀ v, D g.rs [-1 - k] v → 65536 < v.length then (12, none)
  else (0, none)

/-- What Word answers. -/
def WordV (w0 w' : World) (p : Nat → Addr) (g : G) (k : Int) (e : Ending) : Prop :=
  ∃ v, CkV w0.heap.size p (wordZ g k) w' v ∧ (((wordZ g k).1 ≠ 0 ∧ e = .returned (.tuple #[.slice none 0 0, v])) ∨ ((wordZ g k).1 = 0 ∧ ∃ a c row, e = .returned (.tuple #[.slice a row.length c, v]) ∧ IRow w' a row ∧ (a = none → row.length = 0 ∧ c = 0) ∧ row.length ≤ 65536 ∧ IsWord g.rs k row))

theorem short_long {t n : Nat} {rs : List R} (ho : OkRs t n rs) {ls : List Int} (hs : Short rs n ls) {k : Nat} (hk : k < n) (hp : Prod rs k) : (∀ v, D rs [-1 - (k : Int)] v → 65536 < v.length) ↔ ls.getD k 0 = 65537 := by
  obtain ⟨h4, h5, h6⟩ := (hs.1.2 k hk).2 hp
  constructor
  · intro h
    rcases h6 with h6 | ⟨v, hv, hvl⟩
    · exact h6
    · have := h v hv
      omega
  · intro h v hv
    have := hs.2 k hk v hv
    omega

theorem getD_of {ls : List Int} {k : Nat} {y : Int} (h : ls[k]? = some y) : ls.getD k 0 = y := by rw [List.getD_eq_getElem?_getD, h]; rfl

set_option maxRecDepth 100000 in
set_option maxHeartbeats 2000000 in
theorem word_top (ta na ra : Option Addr) (tc nc rc : Nat) (g : G) (k : Int) (p : Nat → Addr) (w : World) (hG : GRow w ta na ra g) (hg : okG g) (htc : g.ts.length ≤ tc) (hnc : g.ns.length ≤ nc) (hnil : ra = none → g.rs.length = 0 ∧ rc = 0) (hE : Errs w p) (hT : Tab w) (hGl : 15 < w.heap.size) (hk64 : I64 k) :
    Calls Tryd.prog 21 #[.agg #[.slice ta g.ts.length tc, .slice na g.ns.length nc, .int .i64 g.ax, .slice ra g.rs.length rc], .int .i64 k] w fun e w' => WordV w w' p g k e ∧ Below w.heap.size w w' := by
  have hneq := neq_nil
  have hB1 : Below w.heap.size w (w.alloc (.cells #[.slice ta g.ts.length tc, .slice na g.ns.length nc, .int .i64 g.ax, .slice ra g.rs.length rc] 25)) := (Below.refl _ _).alloc (Nat.le_refl _) _
  have b3 : (w.alloc (.cells #[.slice ta g.ts.length tc, .slice na g.ns.length nc, .int .i64 g.ax, .slice ra g.rs.length rc] 25)).cell? ⟨w.heap.size, 3, none⟩ = some (.slice ra g.rs.length rc) := by simp [go_sem]
  have hz : (w.alloc (.cells #[.slice ta g.ts.length tc, .slice na g.ns.length nc, .int .i64 g.ax, .slice ra g.rs.length rc] 25)).heap.size = w.heap.size + 1 := by simp
  have hck := shortest_top ta na ra tc nc rc g p _ (hG.below hB1 (Nat.le_refl _)) hg htc hnc hnil (hE.sents.below hB1 (Nat.le_refl _))
  go_enter Tryd.func21, Tryd.ntmps21
  go_wp2_with fail
  generalize w.alloc (.cells #[.slice ta g.ts.length tc, .slice na g.ns.length nc, .int .i64 g.ax, .slice ra g.rs.length rc] 25) = W1 at *
  refine hck.mono ?_
  rintro e w1 ⟨⟨v, hv, ⟨h0, rfl⟩ | ⟨h0, d, ls, rfl, hd, hrow, hsh⟩⟩, hb1⟩
  · have hB2 := hB1.trans (hb1.mono (by omega))
    obtain ⟨t, u, rfl⟩ := ck_iface hv h0
    have hz0 : wordZ g k = checkG g := by unfold wordZ; rw [if_pos h0]
    have hv2 : Hid (CkV w.heap.size p (wordZ g k) w1 (.iface t u)) := by rw [hz0]; exact hv.mono (base' := w.heap.size) (by omega)
    have H0 : Hid ((wordZ g k).1 ≠ 0) := by rw [hz0]; exact h0
    clear h0 hv hck hz0
    go_wp2
    go_ret2
    exact ⟨⟨_, hv2.out, .inl ⟨H0.out, rfl⟩⟩, hB2⟩
  · have hB2 := hB1.trans (hb1.mono (by omega))
    have hgood := good_of h0
    have ho := hgood.okRs
    have n60 := ho.1
    have h120 := hgood.rules
    have hfew := hgood.few
    obtain rfl := ck_nil hv h0
    have hE1 := hE.below hB2 (Nat.le_refl _)
    have hlen : ls.length = g.ns.length := hsh.1.1
    have s1 : w1.cell? ⟨0, 0, none⟩ = some (.iface 157 (.pointer (some (p 1)))) := (hE1.1 0 (by omega)).1
    have s12 : w1.cell? ⟨11, 0, none⟩ = some (.iface 157 (.pointer (some (p 12)))) := (hE1.1 11 (by omega)).1
    have s15 : w1.cell? ⟨14, 0, none⟩ = some (.iface 157 (.pointer (some (p 15)))) := (hE1.1 14 (by omega)).1
    have c3 := (hb1.cell (p := ⟨w.heap.size, 3, none⟩) (by rw [hz]; simp)).trans b3
    have hWz : w.heap.size < w1.heap.size := by have := hb1.size; omega
    have hdw : w.heap.size ≤ d := by omega
    clear hck hv b3 hb1 hB1
    by_cases hkr : 0 ≤ k ∧ k < g.ns.length
    · obtain ⟨j, rfl⟩ : ∃ j : Nat, k = (j : Int) := ⟨k.toNat, by omega⟩
      have hjn : j < g.ns.length := by omega
      have hjn2 : (j : Int) < (g.ns.length : Int) := by omega
      have hnge : ¬ (g.ns.length : Int) ≤ (j : Int) := by omega
      obtain ⟨y, hy⟩ : ∃ y, ls[j]? = some y := ⟨ls[j], List.getElem?_eq_getElem (by omega)⟩
      have hyd := getD_of hy
      have q0 := hrow.cell (intsA_get hy)
      obtain ⟨pn, pp⟩ := hsh.1.2 j hjn
      rw [hyd] at pn pp
      by_cases hp : Prod g.rs j
      · obtain ⟨y0, y1, _⟩ := pp hp
        have hyn : (y == -1) = false := by simp; omega
        have hlong := short_long ho hsh hjn hp
        rw [hyd] at hlong
        by_cases hyl : y = 65537
        · have hz0 : wordZ g j = (12, none) := by unfold wordZ; rw [if_neg (by simpa using h0), if_neg (by simpa using hkr), if_neg (by simpa using hp), if_pos (hlong.2 hyl)]
          have HZ : Hid (wordZ g j = (12, none)) := hz0
          subst hyl
          clear hz0 pn pp hlong hrow hy
          go_wp2
          go_quiet (fail)
          go_wp2
          go_ret2
          exact ⟨⟨_, by rw [HZ.out]; rfl, .inl ⟨by rw [HZ.out]; simp, rfl⟩⟩, bdrew hB2 _⟩
        · have hz0 : wordZ g j = (0, none) := by unfold wordZ; rw [if_neg (by simpa using h0), if_neg (by simpa using hkr), if_neg (by simpa using hp), if_neg (fun h => hyl (hlong.1 h))]
          have HZ : Hid (wordZ g j = (0, none)) := hz0
          have hyl2 : (y == 65537) = false := by simpa using hyl
          obtain ⟨lq, hlq, hQ, hI⟩ := rrow_list hG.2.2
          have hll : lq.length = g.rs.length := by rw [← hlq, List.length_map]
          have hmem : ∀ x ∈ lq, x.r ∈ g.rs := fun x hx => by rw [← hlq]; exact List.mem_map.2 ⟨x, hx, rfl⟩
          have hokq : ∀ x ∈ lq, okR x.r := fun x hx => hg.2.2.2.2.1 x.r (hmem x hx)
          have hrq := rules_q (some ⟨d, 0, none⟩) g.ns.length ls ra rc lq w1 (intsA_row hrow) (by omega) (LenOk.inn hsh.1) (fun x hx => by
            obtain ⟨a1, a2, a3, _⟩ := ruleK_ok (ho.2 x.r (hmem x hx))
            rw [hlen]
            exact ⟨a1, a2, a3, fun z hz => (ho.sym (hmem x hx) hz).1⟩) (hQ.below hB2 (Nat.le_refl _)) (fun x hx => (hI x hx).below hB2 (Nat.le_refl _)) (by rw [hll]; exact hnil) hokq (by omega)
          rw [hll, hlen] at hrq
          clear hz0 pn pp hlong s1 s12 s15
          go_wp2_with fail
          refine hrq.mono ?_
          rintro e w2 ⟨⟨a2, c2, rfl, hQ2, hn2, hf2⟩, hb2⟩
          have hB3 := hB2.trans (hb2.mono hB2.size)
          have hI3 : ∀ x ∈ lq.filter (fun x => fitL ls x.r), IRow w x.a x.r.right ∧ okR x.r := fun x hx => ⟨hI x (List.mem_filter.1 hx).1, hokq x (List.mem_filter.1 hx).1⟩
          have hm3 : ∀ x ∈ lq.filter (fun x => fitL ls x.r), x.r ∈ g.rs ∧ fitL ls x.r = true := fun x hx => ⟨hmem x (List.mem_filter.1 hx).1, (List.mem_filter.1 hx).2⟩
          have hback : Hid (∀ r ∈ g.rs, fitL ls r = true → ∃ x ∈ lq.filter (fun x => fitL ls x.r), x.r = r) := fun r hr hf => by
            rw [← hlq] at hr
            obtain ⟨x, hx, rfl⟩ := List.mem_map.1 hr
            exact ⟨x, List.mem_filter.2 ⟨hx, hf⟩, rfl⟩
          have hl3 : (lq.filter (fun x => fitL ls x.r)).length ≤ 120 := Nat.le_trans (List.length_filter_le _ _) (by omega)
          clear hrq hQ
          generalize lq.filter (fun x => fitL ls x.r) = lq2 at *
          have hof := SetsMany.of_any (some ⟨w2.heap.size, 0, none⟩) 1 1 [(j : Int)] _ (row_one w2 (j : Int) 3) (by simp) (by omega)
          have hBo : Below w2.heap.size w2 (w2.alloc (.cells #[.int .i64 (j : Int)] 3)) := (Below.refl _ _).alloc (Nat.le_refl _) _
          have hB4 := hB3.trans (hBo.mono hB3.size)
          have hQ4 := hQ2.below hBo (Nat.le_refl _)
          have hre := reached_any (ofI [(j : Int)]) a2 c2 (lq2.map (fun x : Q => x.r)) _ (ofI_isSet _ zero_isSet) (rrow_of hQ4 (fun x hx => (hI3 x hx).1.below hB4 (Nat.le_refl _))) (fun r hr => by obtain ⟨x, hx, rfl⟩ := List.mem_map.1 hr; exact (hI3 x hx).2) (by rw [List.length_map]; omega)
          rw [List.length_map] at hre
          go_wp2_with fail
          refine hof.mono ?_
          rintro e w3 ⟨rfl, hw3⟩
          obtain rfl := hw3.symm
          clear hof
          go_wp2_with fail
          refine hre.mono ?_
          rintro e w3 ⟨⟨S, rfl, hSg⟩, hb3⟩
          have hB5 := hB4.trans (hb3.mono hB4.size)
          have hQ5 := hQ4.below hb3 (Nat.le_refl _)
          have hwq := within_q S a2 c2 lq2 w3 hSg.isSet hQ5 (fun x hx => (hI3 x hx).1.below hB5 (Nat.le_refl _)) hn2 (fun x hx => (hI3 x hx).2) (by omega)
          clear hre hBo hb3
          go_wp2_with fail
          refine hwq.mono ?_
          rintro e w4 ⟨⟨a4, c4, rfl, hQ6, _, _⟩, hb4⟩
          have hB6 := hB5.trans (hb4.mono hB5.size)
          have ho2 : OkRs g.ts.length g.ns.length (lq2.map (fun x : Q => x.r)) := ⟨n60, fun r hr => by obtain ⟨x, hx, rfl⟩ := List.mem_map.1 hr; exact ho.2 x.r (hm3 x hx).1⟩
          have hSr := hSg.reach ho2
          have hmem6 : ∀ r ∈ (lq2.filter (fun x => rin S x.r)).map (fun x : Q => x.r), r ∈ g.rs ∧ fitL ls r = true := fun r hr => by
            obtain ⟨x, hx, rfl⟩ := List.mem_map.1 hr
            exact hm3 x (List.mem_filter.1 hx).1
          have ho6 : OkRs g.ts.length g.ns.length ((lq2.filter (fun x => rin S x.r)).map (fun x : Q => x.r)) := ⟨n60, fun r hr => ho.2 r (hmem6 r hr).1⟩
          have hsr := shortestRows_any a4 c4 (lq2.filter (fun x => rin S x.r)) ls w4 hQ6 (fun x hx => ⟨(hI3 x (List.mem_filter.1 hx).1).1.below hB6 (Nat.le_refl _), (hI3 x (List.mem_filter.1 hx).1).2⟩) (Nat.le_trans (List.length_filter_le _ _) (by omega)) ho6 (by omega) (fun r hr => by have := (hmem6 r hr).2; unfold fitL at this; simpa using this) (LenOk.inn hsh.1) hlen (SetsEach.Tab.from hT hB6 hGl) (by have := hB6.size; omega)
          have h3 : ∀ r ∈ g.rs, fitL ls r = true → hasB S r.left = true → (∀ x ∈ r.right, x < 0 → hasB S (-1 - x) = true) ∧ r ∈ (lq2.filter (fun x => rin S x.r)).map (fun x : Q => x.r) := fun r hr hf hS => by
            obtain ⟨x, hx, rfl⟩ := hback.out r hr hf
            have hxm : x.r ∈ lq2.map (fun x : Q => x.r) := List.mem_map.2 ⟨x, hx, rfl⟩
            have hnt : ∀ z ∈ x.r.right, z < 0 → hasB S (-1 - z) = true := fun z hz hz0 => (hSr _).2 (.step x.r hxm ((hSr _).1 hS) z hz hz0)
            exact ⟨hnt, List.mem_map.2 ⟨x, List.mem_filter.2 ⟨hx, (rin_iff ho2 hxm hSg.isSet).2 ⟨hS, hnt⟩⟩, rfl⟩⟩
          have hjS : hasB S (j : Int) = true := (hSr _).2 (.base ((ofI_one (by omega) (by omega) _).2 rfl))
          have hfin : Hid (∀ f : Nat → List Int, (∀ k : Int, 0 ≤ k → ∀ v, D ((lq2.filter (fun x => rin S x.r)).map (fun x : Q => x.r)) [-1 - k] v → IsWord ((lq2.filter (fun x => rin S x.r)).map (fun x : Q => x.r)) k (f k.toNat)) → IsWord g.rs j (f j) ∧ ((f j).length : Int) = y) := fun f hf => by
            have h1 := word_short ho (by omega) hsh h3 hmem6 hjn hjS hp (by rw [hyd]; omega) (row := f j) (fun v hv => by have := hf j (by omega) v hv; rwa [Int.toNat_natCast] at this)
            rw [hyd] at h1
            exact h1
          clear hwq h3 hjS hSr hmem6 ho6 ho2 hback
          go_wp2_with fail
          refine hsr.mono ?_
          rintro e w5 ⟨⟨f, rfl, hrows, hfl, hwd⟩, hb5⟩
          obtain ⟨hw1, hw2⟩ := hfin.out f hwd
          have hB7 := hB6.trans (hb5.mono hB6.size)
          obtain ⟨aj, cj, z0, _, hIj, hnj⟩ := hrows.cell hjn
          have HZ2 : Hid (∀ W, CkV w.heap.size p (wordZ g j) W .nilIface) := fun W => ck_of_nil (by rw [HZ.out])
          clear hsr hfin hrows hwd
          go_wp2
          go_ret2
          exact ⟨⟨_, HZ2.out _, .inr ⟨by rw [HZ.out], aj, cj, f j, rfl, hIj, hnj, by omega, hw1⟩⟩, hB7⟩
      · have hz0 : wordZ g j = (15, none) := by unfold wordZ; rw [if_neg (by simpa using h0), if_neg (by simpa using hkr), if_pos hp]
        have HZ : Hid (wordZ g j = (15, none)) := hz0
        obtain rfl := pn hp
        clear hz0 pn pp hrow hy
        go_wp2
        go_quiet (fail)
        go_wp2
        go_ret2
        exact ⟨⟨_, by rw [HZ.out]; rfl, .inl ⟨by rw [HZ.out]; simp, rfl⟩⟩, bdrew hB2 _⟩
    · have hz0 : wordZ g k = (1, none) := by unfold wordZ; rw [if_neg (by simpa using h0), if_pos hkr]
      have HZ : Hid (wordZ g k = (1, none)) := hz0
      clear hz0 hrow
      by_cases hk0 : k < 0
      · have hd1 : decide (k < 0) = true := by simpa using hk0
        go_wp2
        go_quiet (fail)
        go_wp2
        go_ret2
        exact ⟨⟨_, by rw [HZ.out]; rfl, .inl ⟨by rw [HZ.out]; simp, rfl⟩⟩, bdrew hB2 _⟩
      · have hd1 : decide (k < 0) = false := by simpa using hk0
        have hge : (g.ns.length : Int) ≤ k := by omega
        go_wp2
        go_quiet (fail)
        go_wp2
        go_ret2
        exact ⟨⟨_, by rw [HZ.out]; rfl, .inl ⟨by rw [HZ.out]; simp, rfl⟩⟩, bdrew hB2 _⟩

end Go.Proofs.YtjmodcpeggafhaaDoor.UsefulWord
