/-
  Texts that stand together: PrecFn7.
-/
import Derived.Test.YtcoepmpgclndiaaGreatDoorBPrecMath2
namespace Go.Proofs.YtcoepmpgclndiaaGreatDoor.PrecFn
open Go.RowKit Go.Sort Go.Proofs.YtcoepmpgclndiaaGreatDoor.GraphFn Go.Proofs.YtcoepmpgclndiaaGreatDoor.GraphSort Go.Proofs.YtcoepmpgclndiaaGreatDoor.GramMath Go.Proofs.YtcoepmpgclndiaaGreatDoor.GramRow Go.Proofs.YtcoepmpgclndiaaGreatDoor.GramApart Go.Proofs.YtcoepmpgclndiaaGreatDoor.GraphMath Go.Proofs.YtcoepmpgclndiaaGreatDoor.GraphNet Go.Proofs.YtcoepmpgclndiaaGreatDoor.OpRow Go.Proofs.YtcoepmpgclndiaaGreatDoor.GramErrs Go.Proofs.YtcoepmpgclndiaaGreatDoor.MatrixClash Go.Proofs.YtcoepmpgclndiaaGreatDoor.GraphLent Go.Proofs.YtcoepmpgclndiaaGreatDoor.GramLent
set_option linter.unusedVariables false
set_option linter.unusedSimpArgs false

/-- Classes, edges, levels, cycle of a matrix. -/
abbrev edS (t : Nat) (S : Nat → Nat → Int) : List (Int × Int) := edgeL (rY t S) (rQ t S) (rK t S) t
abbrev clS (t : Nat) (S : Nat → Nat → Int) : List Nat := classL (rQ t S) t
def fnL (t : Nat) (S : Nat → Nat → Int) (cs : List Nat) : List Int := cs.map (fun c => (lvL ((2 * t : Nat) : Int) (edS t S)).getD c 0)

/-- What Of answers. -/
def OfF (base : Nat) (p : Nat → Addr) (po : Option Addr) (t : Nat) (S : Nat → Nat → Int) (w : World) (v : Value) : Prop :=
  (po = none ∧ v = .tuple #[.agg #[.slice none 0 0, .slice none 0 0, .slice none 0 0, .slice none 0 0], .iface 206 (.pointer (some (p 1)))]) ∨
  (po ≠ none ∧ ∃ x l ev, clL t S = x :: l ∧ v = .tuple #[.agg #[.slice none 0 0, .slice none 0 0, .slice none 0 0, .slice none 0 0], ev] ∧ PairE base p x w ev) ∨
  (po ≠ none ∧ clL t S = [] ∧ ∃ g ca cc, rdL ((2 * t : Nat) : Int) (edS t S) ≠ [] ∧ v = .tuple #[.agg #[.slice none 0 0, .slice none 0 0, .slice (some ⟨g, 0, none⟩) (2 * t) (2 * t), .slice ca (rdL ((2 * t : Nat) : Int) (edS t S)).length cc], .nilIface] ∧ base ≤ g ∧ RowAt w g 3 (intsA (ints (clS t S))) ∧ w.ownsRow (g + 1) 3 1 (.slice ca (rdL ((2 * t : Nat) : Int) (edS t S)).length cc) (rdL ((2 * t : Nat) : Int) (edS t S)).length (iV (rdL ((2 * t : Nat) : Int) (edS t S)))) ∨
  (po ≠ none ∧ clL t S = [] ∧ ∃ g gf gg, rdL ((2 * t : Nat) : Int) (edS t S) = [] ∧ v = .tuple #[.agg #[.slice (some ⟨gf, 0, none⟩) t t, .slice (some ⟨gg, 0, none⟩) t t, .slice (some ⟨g, 0, none⟩) (2 * t) (2 * t), .slice none 0 0], .nilIface] ∧ base ≤ g ∧ g < gf ∧ gf < gg ∧ RowAt w g 3 (intsA (ints (clS t S))) ∧ RowAt w gf 3 (intsA (fnL t S ((clS t S).take t))) ∧ RowAt w gg 3 (intsA (fnL t S ((clS t S).drop t))))

theorem own_eformP {w : World} {base : Nat} {v : Value} {es : List (Int × Int)} (h : w.ownsRow base 39 2 v es.length (flatE es)) : ∃ a c, v = .slice a es.length c ∧ ERow w a es := by
  obtain ⟨hl, ⟨rfl, h0⟩ | ⟨g, cap, cur, rfl, hb, hg, h1, h2, h3, h4⟩⟩ := id h
  · obtain rfl : es = [] := List.length_eq_zero_iff.1 h0
    exact ⟨none, 0, rfl, fun i x hx => by simp at hx⟩
  · exact ⟨_, cap, rfl, own_erow h⟩
theorem row4 {w : World} {b : Nat} {T : TypeId} {x0 x1 x2 x3 : Value} (h : RowAt w b T #[x0, x1, x2, x3]) (a0 a1 a2 a3 : Value) : RowAt ((((w.setCell ⟨b, 0, none⟩ a0).setCell ⟨b, 1, none⟩ a1).setCell ⟨b, 2, none⟩ a2).setCell ⟨b, 3, none⟩ a3) b T #[a0, a1, a2, a3] := by
  have := (((h.set 0 a0).set 1 a1).set 2 a2).set 3 a3
  simpa using this
theorem below4 {w w1 : World} {B b : Nat} (h : Below B w w1) (hb : B ≤ b) (a0 a1 a2 a3 : Value) : Below B w ((((w1.setCell ⟨b, 0, none⟩ a0).setCell ⟨b, 1, none⟩ a1).setCell ⟨b, 2, none⟩ a2).setCell ⟨b, 3, none⟩ a3) :=
  (((h.setCell (p := ⟨b, 0, none⟩) hb _).setCell (p := ⟨b, 1, none⟩) hb _).setCell (p := ⟨b, 2, none⟩) hb _).setCell (p := ⟨b, 3, none⟩) hb _
theorem heap4 (w : World) {b q : Nat} (hne : q ≠ b) (a0 a1 a2 a3 : Value) : ((((w.setCell ⟨b, 0, none⟩ a0).setCell ⟨b, 1, none⟩ a1).setCell ⟨b, 2, none⟩ a2).setCell ⟨b, 3, none⟩ a3).heap[q]? = w.heap[q]? := by
  rw [Below.heap_setCell _ _ _ _ hne, Below.heap_setCell _ _ _ _ hne, Below.heap_setCell _ _ _ _ hne, Below.heap_setCell _ _ _ _ hne]
theorem own4 {w : World} {b base e n : Nat} {v : Value} {xs : List Value} (h : w.ownsRow base e 1 v n xs) (hb : b < base) (a0 a1 a2 a3 : Value) : ((((w.setCell ⟨b, 0, none⟩ a0).setCell ⟨b, 1, none⟩ a1).setCell ⟨b, 2, none⟩ a2).setCell ⟨b, 3, none⟩ a3).ownsRow base e 1 v n xs :=
  ownsRow_setCell_below (ownsRow_setCell_below (ownsRow_setCell_below (ownsRow_setCell_below h hb _) hb _) hb _) hb _

/-- Levels are there where there is no round. -/
theorem lv_full {m : Nat} {es : List (Int × Int)} (h0 : mayE (m : Int) es = 0) (hr : rdL (m : Int) es = []) : ∃ L, ordG (m : Int) es = some L ∧ Ord m (toE es) L ∧ lvL (m : Int) es = rowOf m (levL (adj m (toE es)) L) := by
  obtain ⟨m', hm', _, _, _, hE⟩ := mayE_zero h0
  obtain rfl : m = m' := by omega
  have EO : ordG (m : Int) es = ordR m (adj m (toE es)) m [] := by unfold ordG; rw [Int.toNat_natCast]
  cases ho : ordR m (adj m (toE es)) m [] with
  | none =>
    obtain ⟨s, L, h1, h2⟩ := rd_of hE ho
    unfold rdL at hr
    rw [if_pos h0, EO, ho] at hr
    dsimp only at hr
    rw [Int.toNat_natCast, h1] at hr
    have h3 := (h2.nth hE).1
    have h4 : L = [] := ints_inj (l := L) (m := []) hr
    rw [h4] at h3
    simp at h3
  | some L =>
    refine ⟨L, by rw [EO, ho], ord_of ho, ?_⟩
    unfold lvL
    rw [if_pos h0, EO, ho]
    dsimp only
    rw [Int.toNat_natCast]
set_option maxRecDepth 100000 in
set_option maxHeartbeats 8000000 in
theorem of_any (po : Option Addr) (t : Nat) (S : Nat → Nat → Int) (p : Nat → Addr) (w : World) (hm : MatV w po t S) (ht : t ≤ 60) (hT : Tame t S) (hE : Errs w p) :
    Calls Tryz.prog 13 #[.pointer po] w fun e w' => ∃ v, e = .returned v ∧ OfF w.heap.size p po t S w' v ∧ Below w.heap.size w w' := by
  have hneq := neq_nil
  obtain ⟨W0, hW0⟩ : ∃ W0, W0 = w.alloc (.cells #[.slice none 0 0, .slice none 0 0, .slice none 0 0, .slice none 0 0] 42) := ⟨_, rfl⟩
  have hB0 : Below w.heap.size w W0 := by rw [hW0]; exact (Below.refl _ _).alloc (Nat.le_refl _) _
  have hz0 : W0.heap.size = w.heap.size + 1 := by rw [hW0]; simp
  have hr0 : RowAt W0 w.heap.size 42 #[.slice none 0 0, .slice none 0 0, .slice none 0 0, .slice none 0 0] := by rw [hW0]; exact heap_new _ _
  have hgr := graph_any po t S p W0 (hm.below hB0 (Nat.le_refl _)) ht ((hE.1 0 (by omega)).1.below hB0 (Nat.le_refl _)) ((hE.1 4 (by omega)).1.below hB0 (Nat.le_refl _))
  have HM : Hid (MatV w po t S) := hm
  have HE : Hid (Errs w p) := hE
  have HT : Hid (Tame t S) := hT
  have HB0 : Hid (Below w.heap.size w W0 ∧ W0.heap.size = w.heap.size + 1) := ⟨hB0, hz0⟩
  have HR0 : Hid (RowAt W0 w.heap.size 42 #[.slice none 0 0, .slice none 0 0, .slice none 0 0, .slice none 0 0]) := hr0
  rw [hW0] at hgr
  have HW0 : Hid (W0 = w.alloc (.cells #[.slice none 0 0, .slice none 0 0, .slice none 0 0, .slice none 0 0] 42)) := hW0
  clear hm hE hT hB0 hz0 hr0 hW0
  go_enter Tryz.func13, Tryz.ntmps13
  go_wp2_with fail
  refine hgr.mono ?_
  rintro e w1 ⟨v, rfl, hv, hb1⟩
  rw [← HW0.out] at hv hb1
  have HB1 : Hid (Below w.heap.size w w1 ∧ Below W0.heap.size W0 w1) := ⟨HB0.out.1.trans (hb1.mono HB0.out.1.size), hb1⟩
  have r1 : RowAt w1 w.heap.size 42 #[.slice none 0 0, .slice none 0 0, .slice none 0 0, .slice none 0 0] := HR0.out.below hb1 (by have := HB0.out.2; omega)
  clear hgr hb1 HW0
  rcases hv with ⟨rfl, rfl⟩ | ⟨hpo, x, l, ev, hc, rfl, hpe⟩ | ⟨hpo, hc, g, ev, rfl, hg, hrow, hev⟩
  · have o0 := r1.cell (q := 0) (v := .slice none 0 0) rfl
    have o1 := r1.cell (q := 1) (v := .slice none 0 0) rfl
    have o2 := r1.cell (q := 2) (v := .slice none 0 0) rfl
    have o3 := r1.cell (q := 3) (v := .slice none 0 0) rfl
    have f0 := r1.frozen 0
    have f1 := r1.frozen 1
    have f2 := r1.frozen 2
    have f3 := r1.frozen 3
    have HR1 : Hid (RowAt w1 w.heap.size 42 #[.slice none 0 0, .slice none 0 0, .slice none 0 0, .slice none 0 0]) := r1
    clear r1
    go_wp2
    clear o0 o1 o2 o3 f0 f1 f2 f3
    have r2 := row4 HR1.out (.slice none 0 0) (.slice none 0 0) (.slice none 0 0) (.slice none 0 0)
    have k0 := r2.cell (q := 0) (v := .slice none 0 0) rfl
    have k1 := r2.cell (q := 1) (v := .slice none 0 0) rfl
    have k2 := r2.cell (q := 2) (v := .slice none 0 0) rfl
    have k3 := r2.cell (q := 3) (v := .slice none 0 0) rfl
    refine bodyPost_ret (v := .tuple #[.agg #[.slice none 0 0, .slice none 0 0, .slice none 0 0, .slice none 0 0], .iface 206 (.pointer (some (p 1)))]) (by simp [results, Tryz.results13, go_sem, k0, k1, k2, k3]; try rfl) rfl ?_
    exact ⟨_, rfl, .inl ⟨rfl, rfl⟩, below4 HB1.out.1 (Nat.le_refl _) _ _ _ _⟩
  · obtain ⟨b, hbb, rfl, hblk⟩ := hpe
    have o0 := r1.cell (q := 0) (v := .slice none 0 0) rfl
    have o1 := r1.cell (q := 1) (v := .slice none 0 0) rfl
    have o2 := r1.cell (q := 2) (v := .slice none 0 0) rfl
    have o3 := r1.cell (q := 3) (v := .slice none 0 0) rfl
    have f0 := r1.frozen 0
    have f1 := r1.frozen 1
    have f2 := r1.frozen 2
    have f3 := r1.frozen 3
    have HR1 : Hid (RowAt w1 w.heap.size 42 #[.slice none 0 0, .slice none 0 0, .slice none 0 0, .slice none 0 0]) := r1
    have HBK : Hid (w.heap.size < b ∧ w1.heap[b]? = some (.cells #[.int .i64 x.a, .int .i64 x.b, .int .i64 x.f, .int .i64 x.s, .iface 206 (.pointer (some (p 5)))] 68 (0, 0))) := ⟨by have := HB0.out.2; omega, hblk⟩
    have HC : Hid (clL t S = x :: l) := hc
    have HPO : Hid (po ≠ none) := hpo
    clear r1 hblk hbb hc hpo
    go_wp2
    clear o0 o1 o2 o3 f0 f1 f2 f3
    have r2 := row4 HR1.out (.slice none 0 0) (.slice none 0 0) (.slice none 0 0) (.slice none 0 0)
    have k0 := r2.cell (q := 0) (v := .slice none 0 0) rfl
    have k1 := r2.cell (q := 1) (v := .slice none 0 0) rfl
    have k2 := r2.cell (q := 2) (v := .slice none 0 0) rfl
    have k3 := r2.cell (q := 3) (v := .slice none 0 0) rfl
    refine bodyPost_ret (v := .tuple #[.agg #[.slice none 0 0, .slice none 0 0, .slice none 0 0, .slice none 0 0], .iface 66 (.pointer (some ⟨b, 0, none⟩))]) (by simp [results, Tryz.results13, go_sem, k0, k1, k2, k3]; try rfl) rfl ?_
    refine ⟨_, rfl, .inr (.inl ⟨HPO.out, x, l, _, HC.out, rfl, b, by have := HBK.out.1; omega, rfl, ?_⟩), below4 HB1.out.1 (Nat.le_refl _) _ _ _ _⟩
    rw [heap4 _ (by have := HBK.out.1; omega)]
    exact HBK.out.2
  · have h0 := edgeL_may ht HT.out hc
    obtain ⟨ea, ec, rfl, hER⟩ := own_eformP hev
    have hsz1 := HB1.out.2.size
    have hel : (edS t S).length ≤ t * t := edgeL_few HT.out hc
    have ht2 : t * t ≤ 60 * 60 := Nat.mul_le_mul ht ht
    have hlong := Longest_top p ((2 * t : Nat) : Int) ea ec (edS t S) w1 ⟨by unfold I64; omega, hER, HE.out.sentG.below HB1.out.1 (Nat.le_refl _), by omega, edgeL_i64 ht⟩
    have HR1 : Hid (RowAt w1 w.heap.size 42 #[.slice none 0 0, .slice none 0 0, .slice none 0 0, .slice none 0 0]) := r1
    have HG : Hid (w.heap.size < g ∧ RowAt w1 g 3 (intsA (ints (clS t S))) ∧ g < w1.heap.size) := ⟨by have := HB0.out.2; omega, hrow, hrow.lt⟩
    have HC : Hid (clL t S = []) := hc
    have HPO : Hid (po ≠ none) := hpo
    have H0 : Hid (mayE ((2 * t : Nat) : Int) (edS t S) = 0) := h0
    have EM : ckK p (mayE ((2 * t : Nat) : Int) (edS t S)) = .nilIface := by rw [h0]; rfl
    have hcast : ((2 * t : Nat) : Int) = 2 * (t : Int) := by omega
    have hlong2 : Calls Tryz.prog 27 #[.int .i64 (2 * (t : Int)), .slice ea (edS t S).length ec] w1 fun e w' => ∃ v, e = .returned v ∧ LongV w1 p ((2 * t : Nat) : Int) (edS t S) w' v ∧ Below w1.heap.size w1 w' := by rw [← hcast]; exact hlong
    have HEM : Hid (ckK p (mayE ((2 * t : Nat) : Int) (edS t S)) = .nilIface) := EM
    clear r1 hev hrow hg hc hpo hER hel h0 hlong EM ht2 hcast
    go_wp2_with fail
    refine hlong2.mono ?_
    rintro e w2 ⟨v, rfl, ⟨lv, rv, rfl, o1, o2⟩, hb2⟩
    rw [HEM.out]
    obtain ⟨la, lc, rfl, il⟩ := own_form o1
    obtain ⟨ra, rc, rfl, ir⟩ := own_form o2
    have HB2 : Hid (Below w.heap.size w w2 ∧ Below w1.heap.size w1 w2) := ⟨HB1.out.1.trans (hb2.mono HB1.out.1.size), hb2⟩
    have r3 : RowAt w2 w.heap.size 42 #[.slice none 0 0, .slice none 0 0, .slice none 0 0, .slice none 0 0] := HR1.out.below hb2 (by have := HG.out; omega)
    have HG2 : Hid (RowAt w2 g 3 (intsA (ints (clS t S)))) := HG.out.2.1.below hb2 HG.out.2.2
    have HO2 : Hid (w2.ownsRow w1.heap.size 3 1 (.slice ra (rdL ((2 * t : Nat) : Int) (edS t S)).length rc) (rdL ((2 * t : Nat) : Int) (edS t S)).length (iV (rdL ((2 * t : Nat) : Int) (edS t S)))) := o2
    have HIL : Hid (IRow w2 la (lvL ((2 * t : Nat) : Int) (edS t S))) := il
    have HR3 : Hid (RowAt w2 w.heap.size 42 #[.slice none 0 0, .slice none 0 0, .slice none 0 0, .slice none 0 0]) := r3
    clear hlong2 o1 o2 il ir hb2
    by_cases hrd : rdL ((2 * t : Nat) : Int) (edS t S) = []
    · obtain ⟨L, hL1, hL2, hL3⟩ := lv_full H0.out hrd
      have hll : (lvL ((2 * t : Nat) : Int) (edS t S)).length = 2 * t := by rw [hL3, rowOf_length]
      have hclt : ∀ c ∈ clS t S, c < (lvL ((2 * t : Nat) : Int) (edS t S)).length := fun c hc => by rw [hll]; have h1 := classL_lt (rQ t S) t c hc; have h2 := cntC_le (rQ t S) t; omega
      have htk : ((clS t S).take t).length = t := by rw [List.length_take, classL_len]; omega
      have hdr : ((clS t S).drop t).length = t := by rw [List.length_drop, classL_len]; omega
      have hlvl := HIL.out
      have hz : ((rdL ((2 * t : Nat) : Int) (edS t S)).length : Int) = 0 := by rw [hrd]; rfl
      have HRD : Hid (rdL ((2 * t : Nat) : Int) (edS t S) = []) := hrd
      have htm := terms_v po t S w2 (HM.out.below HB2.out.1 (Nat.le_refl _))
      have hIc : ∀ w9, Below w2.heap.size w2 w9 → IRow w9 (some ⟨g, 0, none⟩) (ints ((clS t S).take t)) ∧ IRow w9 (some ⟨g, t, none⟩) (ints ((clS t S).drop t)) := fun w9 h9 => by
        have hr := HG2.out.below h9 HG2.out.lt
        refine ⟨fun i x hx => ⟨g, 0, rfl, ?_⟩, fun i x hx => ⟨g, t, rfl, ?_⟩⟩
        · rw [Nat.zero_add]
          refine hr.cell (intsA_get ?_)
          rw [ints_get] at hx ⊢
          rw [List.getElem?_take] at hx
          split at hx
          · exact hx
          · cases hx
        · refine hr.cell (intsA_get ?_)
          rw [ints_get] at hx ⊢
          rw [List.getElem?_drop] at hx
          exact hx
      have HIC : Hid (_) := hIc
      have HCL : Hid (∀ c ∈ clS t S, c < (lvL ((2 * t : Nat) : Int) (edS t S)).length) := hclt
      have hla1 := levelsAt_any la (some ⟨g, 0, none⟩) lc (2 * t) (lvL ((2 * t : Nat) : Int) (edS t S)) ((clS t S).take t) w2.drew (IRow.below HIL.out (drew_below w2 1) (Nat.le_refl _)) (HIC.out _ (drew_below w2 1)).1 (fun c hc => HCL.out c (List.mem_of_mem_take hc)) (by rw [htk]; omega) (by rw [hll]; omega)
      rw [htk] at hla1
      have HA2 : Hid (∀ w9, Below w2.heap.size w2 w9 → Calls Tryz.prog 28 #[.slice la (lvL ((2 * t : Nat) : Int) (edS t S)).length lc, .slice (some ⟨g, t, none⟩) t t] w9 fun e w' => e = .returned (.slice (some ⟨w9.heap.size, 0, none⟩) t t) ∧ RowAt w' w9.heap.size 3 (intsA (((clS t S).drop t).map (fun c => (lvL ((2 * t : Nat) : Int) (edS t S)).getD c 0))) ∧ Below w9.heap.size w9 w') := fun w9 h9 => by
        have h := levelsAt_any la (some ⟨g, t, none⟩) lc t (lvL ((2 * t : Nat) : Int) (edS t S)) ((clS t S).drop t) w9 (IRow.below HIL.out h9 (Nat.le_refl _)) (HIC.out _ h9).2 (fun c hc => HCL.out c (List.mem_of_mem_drop hc)) (by rw [hdr]; omega) (by rw [hll]; omega)
        rw [hdr] at h
        exact h
      have HLL : Hid ((lvL ((2 * t : Nat) : Int) (edS t S)).length = 2 * t) := hll
      clear hL3 hclt htk hdr hlvl hIc hrd hll hL1 hL2
      generalize (lvL ((2 * t : Nat) : Int) (edS t S)).length = ll at *
      generalize (rdL ((2 * t : Nat) : Int) (edS t S)).length = rl at *
      have hz2 : ¬ (0 : Int) < (rl : Int) := by omega
      have ht5 : (t : Int) ≤ 2 * (t : Int) := by omega
      clear hz r3
      go_wp2_with fail
      refine htm.mono ?_
      rintro e w3 ⟨rfl, hw3⟩
      obtain rfl := hw3.symm
      clear htm
      have hla1' : Calls Tryz.prog 28 #[.slice la ll lc, .slice (some ⟨g, 0, none⟩) t (2 * t)] w2.drew fun e w' => e = .returned (.slice (some ⟨w2.heap.size, 0, none⟩) t t) ∧ RowAt w' w2.heap.size 3 (intsA (fnL t S ((clS t S).take t))) ∧ Below w2.heap.size w2.drew w' := hla1
      clear hla1
      go_wp2_with fail
      refine wp_region_noPanic ?_
      refine wp_region_held_drew (S := (fun _ => True)) (by kernel_rfl) trivial (fun hHeld => ?_)
      refine wpAnyH_take (i := 0) (v := .slice la ll lc) rfl (by kernel_rfl) (by kernel_rfl) (by kernel_rfl) (fun _ _ _ h => h) (Or.inl ⟨by rfl, fun w9 hSw => ?_⟩) hHeld ?_
      · obtain _ := hSw
        go_simp
      simp only [List.getElem_toArray, List.getElem_cons_zero, List.getElem_cons_succ, Act.put, List.setIfInBounds_toArray, List.set_cons_zero, List.set_cons_succ]
      refine wpAnyH_take (i := 1) (v := .slice (some ⟨g, 0, none⟩) (2 * t) (2 * t)) rfl (by kernel_rfl) (by kernel_rfl) (by kernel_rfl) (fun _ _ _ h => h) (Or.inl ⟨by rfl, fun w9 hSw => ?_⟩) hHeld ?_
      · obtain _ := hSw
        go_simp
      simp only [List.getElem_toArray, List.getElem_cons_zero, List.getElem_cons_succ, Act.put, List.setIfInBounds_toArray, List.set_cons_zero, List.set_cons_succ]
      refine wpAnyH_take (i := 2) (v := .int .i64 (t : Int)) rfl (by kernel_rfl) (by kernel_rfl) (by kernel_rfl) (fun _ _ _ h => h) (Or.inl ⟨by rfl, fun w9 hSw => ?_⟩) hHeld ?_
      · obtain _ := hSw
        go_simp
      simp only [List.getElem_toArray, List.getElem_cons_zero, List.getElem_cons_succ, Act.put, List.setIfInBounds_toArray, List.set_cons_zero, List.set_cons_succ]
      refine wpAnyH_take (i := 3) (v := .slice (some ⟨g, 0, none⟩) t (2 * t)) rfl (by kernel_rfl) (by kernel_rfl) (by kernel_rfl) (fun _ _ _ h => h) (Or.inl ⟨by rfl, fun w9 hSw => ?_⟩) hHeld ?_
      · obtain _ := hSw
        go_simp
      simp only [List.getElem_toArray, List.getElem_cons_zero, List.getElem_cons_succ, Act.put, List.setIfInBounds_toArray, List.set_cons_zero, List.set_cons_succ]
      refine wpAnyH_take (i := 5) (v := .slice la ll lc) rfl (by kernel_rfl) (by kernel_rfl) (by kernel_rfl) (fun _ _ _ h => h) (Or.inl ⟨by rfl, fun w9 hSw => ?_⟩) hHeld ?_
      · obtain _ := hSw
        go_simp
      simp only [List.getElem_toArray, List.getElem_cons_zero, List.getElem_cons_succ, Act.put, List.setIfInBounds_toArray, List.set_cons_zero, List.set_cons_succ]
      refine wpAnyH_take (i := 6) (v := .slice (some ⟨g, 0, none⟩) (2 * t) (2 * t)) rfl (by kernel_rfl) (by kernel_rfl) (by kernel_rfl) (fun _ _ _ h => h) (Or.inl ⟨by rfl, fun w9 hSw => ?_⟩) hHeld ?_
      · obtain _ := hSw
        go_simp
      simp only [List.getElem_toArray, List.getElem_cons_zero, List.getElem_cons_succ, Act.put, List.setIfInBounds_toArray, List.set_cons_zero, List.set_cons_succ]
      refine wpAnyH_take (i := 7) (v := .int .i64 (t : Int)) rfl (by kernel_rfl) (by kernel_rfl) (by kernel_rfl) (fun _ _ _ h => h) (Or.inl ⟨by rfl, fun w9 hSw => ?_⟩) hHeld ?_
      · obtain _ := hSw
        go_simp
      simp only [List.getElem_toArray, List.getElem_cons_zero, List.getElem_cons_succ, Act.put, List.setIfInBounds_toArray, List.set_cons_zero, List.set_cons_succ]
      refine wpAnyH_take (i := 8) (v := .slice (some ⟨g, t, none⟩) t t) rfl (by kernel_rfl) (by kernel_rfl) (by kernel_rfl) (fun _ _ _ h => h) (Or.inl ⟨by rfl, fun w9 hSw => ?_⟩) hHeld ?_
      · obtain _ := hSw
        go_simp
        all_goals (first | omega | (simp; omega))
      simp only [List.getElem_toArray, List.getElem_cons_zero, List.getElem_cons_succ, Act.put, List.setIfInBounds_toArray, List.set_cons_zero, List.set_cons_succ]
      refine wpAnyH_take (i := 10) (v := .slice (some ⟨g, 0, none⟩) (2 * t) (2 * t)) rfl (by kernel_rfl) (by kernel_rfl) (by kernel_rfl) (fun _ _ _ h => h) (Or.inl ⟨by rfl, fun w9 hSw => ?_⟩) hHeld ?_
      · obtain _ := hSw
        go_simp
      simp only [List.getElem_toArray, List.getElem_cons_zero, List.getElem_cons_succ, Act.put, List.setIfInBounds_toArray, List.set_cons_zero, List.set_cons_succ]
      refine wpAnyH_ready (rs := [4]) (by kernel_rfl) (by simp) ?_
      refine AllReadyH.cons rfl (fun K hK => ?_) AllReadyH.nil
      go_simp
      refine hla1'.mono ?_
      rintro e w3 ⟨rfl, hr3, hb3⟩
      have hb23 : Below w2.heap.size w2 w3 := (drew_below w2 1).trans hb3
      have hla2 := HA2.out w3 hb23
      refine hK.out _ _ trivial (fun _ => ?_)
      clear hK K hla1'
      refine wpAnyH_ready (rs := [9]) (by kernel_rfl) (by simp) ?_
      refine AllReadyH.cons rfl (fun K hK => ?_) AllReadyH.nil
      go_simp
      refine hla2.mono ?_
      rintro e w4 ⟨rfl, hr4, hb4⟩
      have hb24 : Below w2.heap.size w2 w4 := hb23.trans (hb4.mono hb23.size)
      have r4 := HR3.out.below hb24 HR3.out.lt
      have HR4 : Hid (RowAt w4 w.heap.size 42 #[.slice none 0 0, .slice none 0 0, .slice none 0 0, .slice none 0 0]) := r4
      have o0 := r4.cell (q := 0) (v := .slice none 0 0) rfl
      have o1 := r4.cell (q := 1) (v := .slice none 0 0) rfl
      have o2 := r4.cell (q := 2) (v := .slice none 0 0) rfl
      have o3 := r4.cell (q := 3) (v := .slice none 0 0) rfl
      have f0 := r4.frozen 0
      have f1 := r4.frozen 1
      have f2 := r4.frozen 2
      have f3 := r4.frozen 3
      have h23 : w2.heap.size < w3.heap.size := hr3.lt
      have HR34 : Hid (RowAt w4 w2.heap.size 3 (intsA (fnL t S ((clS t S).take t))) ∧ RowAt w4 w3.heap.size 3 (intsA (fnL t S ((clS t S).drop t))) ∧ w2.heap.size < w3.heap.size ∧ Below w.heap.size w w4 ∧ RowAt w4 g 3 (intsA (ints (clS t S))) ∧ g < w2.heap.size) := ⟨hr3.below hb4 h23, hr4, h23, HB2.out.1.trans (hb24.mono HB2.out.1.size), HG2.out.below hb24 HG2.out.lt, HG2.out.lt⟩
      refine hK.out _ _ trivial (fun _ => ?_)
      clear hK K hla2 r4 hr3 hr4 hb3 hb4 hb23 hb24 h23
      refine wpAnyH_take (i := 11) (v := .agg #[.slice (some ⟨w2.heap.size, 0, none⟩) t t, .slice (some ⟨w3.heap.size, 0, none⟩) t t, .slice (some ⟨g, 0, none⟩) (2 * t) (2 * t), .slice none 0 0]) rfl (by kernel_rfl) (by kernel_rfl) (by kernel_rfl) (fun _ _ _ h => h) (Or.inl ⟨by rfl, fun w9 hSw => ?_⟩) hHeld ?_
      · obtain _ := hSw
        go_simp
      simp only [List.getElem_toArray, List.getElem_cons_zero, List.getElem_cons_succ, Act.put, List.setIfInBounds_toArray, List.set_cons_zero, List.set_cons_succ]
      refine wpAnyH_ready (rs := [12]) (by kernel_rfl) (by simp) ?_
      refine AllReadyH.cons rfl (fun K hK => ?_) AllReadyH.nil
      go_simp
      refine hK.out _ _ trivial (fun _ => ?_)
      clear hK K o0 o1 o2 o3 f0 f1 f2 f3
      refine wpAnyH_take (i := 13) (v := .nilIface) rfl (by kernel_rfl) (by kernel_rfl) (by kernel_rfl) (fun _ _ _ h => h) (Or.inl ⟨by rfl, fun w9 hSw => ?_⟩) hHeld ?_
      · obtain _ := hSw
        go_simp
      simp only [List.getElem_toArray, List.getElem_cons_zero, List.getElem_cons_succ, Act.put, List.setIfInBounds_toArray, List.set_cons_zero, List.set_cons_succ]
      refine wpAnyH_done (by kernel_rfl) (NoPanic.normal ?_) _
      go_wp2
      have r2 := row4 HR4.out (.slice (some ⟨w2.heap.size, 0, none⟩) t t) (.slice (some ⟨w3.heap.size, 0, none⟩) t t) (.slice (some ⟨g, 0, none⟩) (2 * t) (2 * t)) (.slice none 0 0)
      have k0 := r2.cell (q := 0) (v := .slice (some ⟨w2.heap.size, 0, none⟩) t t) rfl
      have k1 := r2.cell (q := 1) (v := .slice (some ⟨w3.heap.size, 0, none⟩) t t) rfl
      have k2 := r2.cell (q := 2) (v := .slice (some ⟨g, 0, none⟩) (2 * t) (2 * t)) rfl
      have k3 := r2.cell (q := 3) (v := .slice none 0 0) rfl
      refine bodyPost_ret (v := .tuple #[.agg #[.slice (some ⟨w2.heap.size, 0, none⟩) t t, .slice (some ⟨w3.heap.size, 0, none⟩) t t, .slice (some ⟨g, 0, none⟩) (2 * t) (2 * t), .slice none 0 0], .nilIface]) (by simp [results, Tryz.results13, go_sem, k0, k1, k2, k3]; try rfl) rfl ?_
      obtain ⟨z1, z2, z3, z4, z5, z6⟩ := HR34.out
      have hgw := HG.out.1
      refine ⟨_, rfl, .inr (.inr (.inr ⟨HPO.out, HC.out, g, w2.heap.size, w3.heap.size, HRD.out, rfl, by omega, z6, z3, ?_, ?_, ?_⟩)), below4 z4 (Nat.le_refl _) _ _ _ _⟩
      · exact (heap4 _ (by omega) _ _ _ _).trans z5
      · exact (heap4 _ (by omega) _ _ _ _).trans z1
      · exact (heap4 _ (by omega) _ _ _ _).trans z2
    · have hz : (0 : Int) < ((rdL ((2 * t : Nat) : Int) (edS t S)).length : Int) := by
        have := List.length_pos_iff.2 hrd
        omega
      have HRD : Hid (rdL ((2 * t : Nat) : Int) (edS t S) ≠ []) := hrd
      have o0 := r3.cell (q := 0) (v := .slice none 0 0) rfl
      have o1 := r3.cell (q := 1) (v := .slice none 0 0) rfl
      have o2 := r3.cell (q := 2) (v := .slice none 0 0) rfl
      have o3 := r3.cell (q := 3) (v := .slice none 0 0) rfl
      have f0 := r3.frozen 0
      have f1 := r3.frozen 1
      have f2 := r3.frozen 2
      have f3 := r3.frozen 3
      clear r3 hrd
      generalize hrl : (rdL ((2 * t : Nat) : Int) (edS t S)).length = rl at *
      have HRL : Hid (rl = (rdL ((2 * t : Nat) : Int) (edS t S)).length) := hrl.symm
      clear hrl
      go_wp2
      clear o0 o1 o2 o3 f0 f1 f2 f3
      have r2 := row4 HR3.out (.slice none 0 0) (.slice none 0 0) (.slice (some ⟨g, 0, none⟩) (2 * t) (2 * t)) (.slice ra rl rc)
      have k0 := r2.cell (q := 0) (v := .slice none 0 0) rfl
      have k1 := r2.cell (q := 1) (v := .slice none 0 0) rfl
      have k2 := r2.cell (q := 2) (v := .slice (some ⟨g, 0, none⟩) (2 * t) (2 * t)) rfl
      have k3 := r2.cell (q := 3) (v := .slice ra rl rc) rfl
      refine bodyPost_ret (v := .tuple #[.agg #[.slice none 0 0, .slice none 0 0, .slice (some ⟨g, 0, none⟩) (2 * t) (2 * t), .slice ra rl rc], .nilIface]) (by simp [results, Tryz.results13, go_sem, k0, k1, k2, k3]; try rfl) rfl ?_
      refine ⟨_, rfl, .inr (.inr (.inl ⟨HPO.out, HC.out, g, ra, rc, HRD.out, by rw [← HRL.out], by have := HG.out; omega, ?_, ?_⟩)), below4 HB2.out.1 (Nat.le_refl _) _ _ _ _⟩
      · exact (heap4 _ (by have := HG.out; omega) _ _ _ _).trans HG2.out
      · rw [← HRL.out]
        exact own4 (own_base HO2.out (by have := HG.out; omega)) (by have := HG.out; omega) _ _ _ _

end Go.Proofs.YtcoepmpgclndiaaGreatDoor.PrecFn
