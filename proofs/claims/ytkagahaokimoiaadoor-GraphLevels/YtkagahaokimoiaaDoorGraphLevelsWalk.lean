/-
  The walk of GraphLevels: it answers true for every graph, and writes nothing that was there.
-/
import Derived.Test.YtkagahaokimoiaaDoorGraphLevM
import Derived.Test.YtkagahaokimoiaaDoorGraphMixSt
namespace Go.Proofs.YtkagahaokimoiaaDoor.GraphLevelsW
open Go.RowKit Go.Proofs.YtkagahaokimoiaaDoor.GramMath Go.Proofs.YtkagahaokimoiaaDoor.GramRow Go.Proofs.YtkagahaokimoiaaDoor.GramApart Go.Proofs.YtkagahaokimoiaaDoor.GramLent Go.Proofs.YtkagahaokimoiaaDoor.OpRow Go.Proofs.YtkagahaokimoiaaDoor.GraphNet Go.Proofs.YtkagahaokimoiaaDoor.GraphMath Go.Proofs.YtkagahaokimoiaaDoor.GraphFn Go.Proofs.YtkagahaokimoiaaDoor.GraphSort Go.Proofs.YtkagahaokimoiaaDoor.GraphRef Go.Proofs.YtkagahaokimoiaaDoor.GraphLent Go.Proofs.YtkagahaokimoiaaDoor.GramErrs Go.Proofs.YtkagahaokimoiaaDoor.GramSame Go.Proofs.YtkagahaokimoiaaDoor.GraphReachW Go.Proofs.YtkagahaokimoiaaDoor.GraphMixedW Go.Proofs.YtkagahaokimoiaaDoor.UsefulRef
set_option linter.unusedVariables false
set_option linter.unusedSimpArgs false

set_option maxRecDepth 100000 in
set_option maxHeartbeats 2000000 in
theorem leads_any (ea : Option Addr) (ec : Nat) (es : List (Int × Int)) (a b : Int) (w : World) (hE : ERow w ea es) (hl : es.length ≤ 1125899906842624) :
    Calls Tryd.prog 17 #[.slice ea es.length ec, .int .i64 a, .int .i64 b] w fun e w' => e = .returned (.bool (decide ((a, b) ∈ es))) ∧ w' = w := by
  have heq := eqE
  have HE : Hid (ERow w ea es) := hE
  clear hE
  go_enter Tryd.func17, Tryd.ntmps17
  go_wp2
  go_loopw [7] (fun s wr => ∃ k : Nat, k ≤ es.length ∧ s = .int .i64 (k : Int) ∧ wr = w ∧ Hid ((a, b) ∉ es.take k)) (fun s _ => es.length - (intOf s).toNat)
  case atStart => exact ⟨0, by omega, rfl, rfl, by show _ ∉ _; simp⟩
  case round =>
    obtain ⟨k, hk, rfl, hwr, hno⟩ := hrel
    obtain rfl := hwr.symm
    by_cases hlt : k < es.length
    · obtain ⟨⟨x, y⟩, hxy⟩ : ∃ e, es[k]? = some e := ⟨es[k], List.getElem?_eq_getElem hlt⟩
      obtain ⟨b2, o2, rfl, q0, q1⟩ := HE.out k _ hxy
      dsimp only at q0 q1
      have hlt2 : (k : Int) < (es.length : Int) := by omega
      have Hxy : Hid (es[k]? = some (x, y)) := hxy
      clear hxy
      by_cases hc : x = a ∧ y = b
      · have hin : Hid (decide ((a, b) ∈ es) = true) := by
          show _ = _
          have h9 := List.mem_of_getElem? Hxy.out
          rw [hc.1, hc.2] at h9
          simpa using h9
        have hd : decide (x = a ∧ y = b) = true := decide_eq_true hc
        clear hc
        go_wp2
        go_ret
        exact ⟨by rw [hin.out]; rfl, rfl⟩
      · have hd : decide (x = a ∧ y = b) = false := decide_eq_false hc
        have hno2 : Hid ((a, b) ∉ es.take (k + 1)) := by
          show _ ∉ _
          rw [List.take_add_one, Hxy.out]
          intro h9
          rcases List.mem_append.1 h9 with h8 | h8
          · exact hno.out h8
          · have h7 : (a, b) = (x, y) := by simpa using h8
            cases h7
            exact hc ⟨rfl, rfl⟩
        clear hc hno
        go_wp2
        go_roundw
        case rel => exact ⟨k + 1, by omega, by go_num, by trivial, hno2⟩
        case measure => simp [intOf]; omega
    · have hlt2 : ¬ ((k : Int) < (es.length : Int)) := by omega
      have hin : Hid (decide ((a, b) ∈ es) = false) := by
        show _ = _
        have h9 := hno.out
        rw [List.take_of_length_le (by omega)] at h9
        simpa using h9
      clear hno
      go_wp2
      go_ret
      exact ⟨by rw [hin.out]; rfl, rfl⟩

/-- Marks by a node's levels. -/
def fallB (f : Nat → Int) (E : List (Nat × Nat)) (i y : Nat) : Bool := (E.take i).any (fun e => decide (e.1 = y) && decide (f y = f e.2 + 1))
theorem fallB_zero (f : Nat → Int) (E : List (Nat × Nat)) (y : Nat) : fallB f E 0 y = false := by simp [fallB]
theorem fallB_succ {f : Nat → Int} {E : List (Nat × Nat)} {i a b : Nat} (h : E[i]? = some (a, b)) (y : Nat) : fallB f E (i + 1) y = if y = a then (fallB f E i y || decide (f a = f b + 1)) else fallB f E i y := by
  unfold fallB
  rw [List.take_add_one, h, List.any_append]
  by_cases e : y = a
  · subst e; simp
  · have e2 : ¬ a = y := fun h => e h.symm
    simp [e, e2]
theorem fallB_all {m : Nat} {E : List (Nat × Nat)} {L : List Nat} (h : Ord m E L) {y : Nat} (hy : y < m) (hp : 0 < levL (adj m E) L y) : fallB (levL (adj m E) L) E E.length y = true := by
  unfold fallB
  rw [List.take_length, List.any_eq_true]
  rcases h.lev.one y hy with h1 | ⟨z, hz, h1⟩
  · omega
  · exact ⟨(y, z), (mem_adj.1 hz).2, by simp [h1]⟩
def placeI (L : List Nat) (i y : Nat) : Int := if y ∈ L.take i then (L.idxOf y : Int) + 1 else 0
theorem placeI_zero (L : List Nat) (y : Nat) : placeI L 0 y = 0 := by simp [placeI]
theorem idx_get {L : List Nat} {x : Nat} (h : x ∈ L) : L[L.idxOf x]? = some x := by
  rw [List.getElem?_eq_getElem (List.idxOf_lt_length_of_mem h), List.getElem_idxOf]
theorem idxOf_at {L : List Nat} (hn : L.Nodup) {i x : Nat} (hx : L[i]? = some x) : L.idxOf x = i := by
  have hin := List.mem_of_getElem? hx
  exact nodup_idx hn (idx_get hin) hx
theorem placeI_free {L : List Nat} (hn : L.Nodup) {i x : Nat} (hx : L[i]? = some x) : placeI L i x = 0 := by
  unfold placeI
  rw [if_neg]
  intro h
  obtain ⟨q, hq, eq⟩ := List.mem_iff_getElem.1 h
  rw [List.length_take] at hq
  rw [List.getElem_take] at eq
  have := nodup_idx hn (i := q) (x := x) (by rw [List.getElem?_eq_getElem (by omega), eq]) hx
  omega
theorem placeI_succ {L : List Nat} (hn : L.Nodup) {i x : Nat} (hx : L[i]? = some x) (y : Nat) : placeI L (i + 1) y = updA (placeI L i) x ((i : Int) + 1) y := by
  unfold placeI
  rw [List.take_add_one, hx]
  by_cases e : y = x
  · subst e
    rw [updA_at, if_pos (by simp), idxOf_at hn hx]
  · rw [updA_ne _ _ e]
    simp [e]
theorem placeI_done {m : Nat} {E : List (Nat × Nat)} {L : List Nat} (h : Ord m E L) {y : Nat} (hy : y < m) : placeI L L.length y = (L.idxOf y : Int) + 1 := by
  unfold placeI
  rw [List.take_length, if_pos (h.all y hy)]
theorem place_lt {m : Nat} {E : List (Nat × Nat)} {L : List Nat} (h : Ord m E L) (hE : ∀ e ∈ E, e.1 < m ∧ e.2 < m) {a b : Nat} (he : (a, b) ∈ E) : placeI L L.length a < placeI L L.length b := by
  rw [placeI_done h (hE _ he).1, placeI_done h (hE _ he).2]
  have h1 := h.place hE he (idx_get (h.all a (hE _ he).1)) (idx_get (h.all b (hE _ he).2))
  show (L.idxOf a : Int) + 1 < (L.idxOf b : Int) + 1
  omega

theorem toE_at {es : List (Int × Int)} {i : Nat} {a b : Int} (h : es[i]? = some (a, b)) : (toE es)[i]? = some (a.toNat, b.toNat) := by
  unfold toE
  rw [List.getElem?_map, h]
  rfl
theorem mem_of_toE {es : List (Int × Int)} (h0 : ∀ e ∈ es, 0 ≤ e.1 ∧ 0 ≤ e.2) {a b : Nat} (h : (a, b) ∈ toE es) : ((a : Int), (b : Int)) ∈ es := by
  obtain ⟨⟨x, y⟩, h1, h2⟩ := List.mem_map.1 h
  have := h0 _ h1
  simp only [Prod.mk.injEq] at h2
  obtain ⟨rfl, rfl⟩ := h2
  have e1 : ((x.toNat : Nat) : Int) = x := Int.toNat_of_nonneg this.1
  have e2 : ((y.toNat : Nat) : Int) = y := Int.toNat_of_nonneg this.2
  rw [e1, e2]
  exact h1

structure Got (W w : World) (p : Nat → Addr) (ea : Option Addr) (es : List (Int × Int)) (n : Int) (la ra oa : Option Addr) : Prop where
  below : Below W.heap.size W w
  lev : IRow w la (lvL n es)
  rnd : IRow w ra (rdL n es)
  ord : IRow w oa (odL n es)

theorem Got.on {W w w' : World} {p : Nat → Addr} {ea : Option Addr} {es : List (Int × Int)} {n : Int} {la ra oa : Option Addr} (h : Got W w p ea es n la ra oa) (hb : Below w.heap.size w w') : Got W w' p ea es n la ra oa :=
  ⟨h.below.trans (hb.mono h.below.size), IRow.below h.lev hb (Nat.le_refl _), IRow.below h.rnd hb (Nat.le_refl _), IRow.below h.ord hb (Nat.le_refl _)⟩

theorem drewB1 {w : World} {b n : Nat} {f : Nat → Bool} (h : BRow w b n f) : BRow w.drew b n f := fun i hi => h i hi
theorem drewI {w : World} {a : Option Addr} {zs : List Int} (h : IRow w a zs) (q : Nat) : IRow (w.drewN q) a zs := IRow.below h (drew_below w q) (Nat.le_refl _)

set_option maxRecDepth 100000 in
set_option maxHeartbeats 16000000 in
theorem walk (n : Int) (ea : Option Addr) (ec : Nat) (es : List (Int × Int)) (p : Nat → Addr) (W : World) (hn : I64 n) (hE : ERow W ea es) (hl : es.length * 16 ≤ 140737488351232) (hx : ∀ e ∈ es, I64 e.1 ∧ I64 e.2) (hEn : ea = none → es.length = 0 ∧ ec = 0) (hErr : Errs W p) :
    Calls Tryd.prog 4 #[.int .i64 n, .slice ea es.length ec] W fun e w' => e = .returned (.bool true) ∧ Below W.heap.size W w' := by
  have h0 := known_any p W hErr.sentG
  have hneq := neq_nil
  go_enter Tryd.func4, Tryd.ntmps4
  go_wp2_with fail
  refine h0.mono ?_
  rintro e w0 ⟨rfl, hb0⟩
  have h1 := lentE ea ec es w0 (hE.below hb0 (Nat.le_refl _)) hl hEn
  clear h0
  go_wp2_with fail
  refine h1.mono ?_
  rintro e w1 ⟨g, c, rfl, hL1, hb1⟩
  have hB1 : Below W.heap.size W w1 := hb0.trans (hb1.mono hb0.size)
  have h2 := Longest_top p n (some ⟨g, 0, none⟩) c es w1 ⟨hn, ERow.front hL1.row, hErr.sentG.below hB1 (Nat.le_refl _), by omega, hx⟩
  clear h1
  go_wp2_with fail
  refine h2.mono ?_
  rintro e w2 ⟨v, rfl, ⟨lv, rv, rfl, o1, o2⟩, hb2⟩
  have hB2 : Below W.heap.size W w2 := hB1.trans (hb2.mono hB1.size)
  have hH2 : Hold w2 [(lv, lvL n es), (rv, rdL n es)] := ((Hold.nil w2).cons o2).cons o1
  have h3 := lentE ea ec es w2 (hE.below hB2 (Nat.le_refl _)) hl hEn
  clear h2 o1 o2 hb2 hL1 hb1 hb0
  go_wp2_with fail
  refine h3.mono ?_
  rintro e w3 ⟨g3, c3, rfl, hL3, hb3⟩
  have hB3 : Below W.heap.size W w3 := hB2.trans (hb3.mono hB2.size)
  have hH3 := hH2.below hb3
  have h4 := Order_top p n (some ⟨g3, 0, none⟩) c3 es w3 ⟨hn, ERow.front hL3.row, hErr.sentG.below hB3 (Nat.le_refl _), by omega, hx⟩ ((hErr.1 14 (by omega)).1.below hB3 (Nat.le_refl _))
  clear h3 hb3 hH2 hB2
  go_wp2_with fail
  refine h4.mono ?_
  rintro e w4 ⟨v, rfl, ⟨ov, rfl, o3⟩, hb4⟩
  have hB4 : Below W.heap.size W w4 := hB3.trans (hb4.mono hB3.size)
  have hH4 := (hH3.below hb4).cons o3
  have h5 := lentE ea ec es w4 (hE.below hB4 (Nat.le_refl _)) hl hEn
  clear h4 o3 hb4 hL3 hH3 hB3 hB1
  go_wp2_with fail
  refine h5.mono ?_
  rintro e w5 ⟨g5, c5, rfl, hL5, hb5⟩
  have hB5 : Below W.heap.size W w5 := hB4.trans (hb5.mono hB4.size)
  have hH5 := hH4.below hb5
  have h6 := Parts_top p n (some ⟨g5, 0, none⟩) c5 es w5 ⟨hn, ERow.front hL5.row, hErr.sentG.below hB5 (Nat.le_refl _), by omega, hx⟩
  clear h5 hb5 hH4 hB4
  go_wp2_with fail
  refine h6.mono ?_
  rintro e w6 ⟨v, rfl, ⟨pv, Vs, rfl, hP6⟩, hb6⟩
  have hH6 := hH5.below hb6
  have hB6 : Below W.heap.size W w6 := hB5.trans (hb6.mono hB5.size)
  obtain ⟨oa, oc, rfl, io⟩ := hH6.at (v := ov) (L := odL n es) (by simp)
  obtain ⟨la, lc, rfl, il⟩ := hH6.at (v := lv) (L := lvL n es) (by simp)
  obtain ⟨ra, rc, rfl, ir⟩ := hH6.at (v := rv) (L := rdL n es) (by simp)
  obtain ⟨pa, pc, rfl, hcl⟩ := own_formG hP6.outer
  have HG : Hid (Got W w6 p ea es n la ra oa) := ⟨hB6, il, ir, io⟩
  have HE : Hid (ERow W ea es) := hE
  have HX : Hid (∀ e ∈ es, I64 e.1 ∧ I64 e.2) := hx
  have HErr : Hid (Errs W p) := hErr
  clear h6 hb6 hB5 hH5 hL5 hP6 hH6 hB6 il ir io hcl hE hx hErr hEn
  by_cases hm0 : mayE n es = 0
  · obtain ⟨m, rfl, hm, hel, hes, hEr⟩ := mayE_zero hm0
    have EM : ckK p (mayE (m : Int) es) = .nilIface := by rw [hm0]; rfl
    rw [EM]
    clear EM
    have EO : ordG (m : Int) es = ordR m (adj m (toE es)) m [] := by unfold ordG; rw [Int.toNat_natCast]
    have EP : ptL (m : Int) es = (heads (sameT m (toE es)) m).map (cls (sameT m (toE es)) m) := by unfold ptL; rw [if_pos hm0, Int.toNat_natCast]; exact partsK_form (sameT_eqv hEr) m (Nat.le_refl _)
    have ePl : (ptL (m : Int) es).length = (heads (sameT m (toE es)) m).length := by rw [EP, List.length_map]
    have HES : Hid (∀ e ∈ es, 0 ≤ e.1 ∧ e.1 < m ∧ 0 ≤ e.2 ∧ e.2 < m) := hes
    have HER : Hid (∀ e ∈ toE es, e.1 < m ∧ e.2 < m) := hEr
    clear hes EP
    cases ho : ordR m (adj m (toE es)) m [] with
    | none =>
      obtain ⟨s, R, hR, hRd⟩ := rd_of hEr ho
      have e1 : lvL (m : Int) es = [] := by unfold lvL; rw [if_pos hm0, EO, ho]
      have e2 : rdL (m : Int) es = ints R := by unfold rdL; rw [if_pos hm0, EO, ho, Int.toNat_natCast, hR]; rfl
      have e3 : odL (m : Int) es = [] := by unfold odL; rw [if_pos hm0, EO, ho]
      have e4 : odC (m : Int) es = 15 := by unfold odC; rw [if_pos hm0, EO, ho]
      obtain ⟨r1, r2, r3, r4, r5⟩ := hRd.nth hEr
      have HND : Hid (R.Nodup) := hRd.nodup
      have HR0 : Hid (R[0]? = some s) := r3
      have HR4 : Hid (∀ (i x : Nat), R[i]? = some x → x < m ∧ s ≤ x) := r4
      have HR5 : Hid (∀ (i x y : Nat), R[i]? = some x → R[(i + 1) % R.length]? = some y → (x, y) ∈ toE es) := r5
      have HPL : Hid (R.length ≠ 1 → (ptL (m : Int) es).length < m) := fun h => by rw [ePl]; exact parts_lt hEr hRd h
      have HGR : Hid (IRow w6 ra (ints R)) := by have := HG.out.rnd; rw [e2] at this; exact this
      have HB6 : Hid (Below W.heap.size W w6) := HG.out.below
      obtain ⟨T, hT⟩ : ∃ T, T = (ptL (m : Int) es).length := ⟨_, rfl⟩
      rw [← hT] at HPL ⊢
      rw [e1, e2, e3, e4, ints_length]
      have hr0 : (0 : Int) < (R.length : Int) := by omega
      have hmk := made_bools m hm w6
      have hk15 : ckK p 15 = .iface 124 (.pointer (some (p 15))) := rfl
      rw [hk15]
      clear e1 e2 e3 e4 ho EO hm0 hEr HG ePl hR hRd r1 r3 r4 r5 hT
      have HI0 : Hid (BRow (w6.alloc (.cells (madeCells #[.bool false] m) 4)) w6.heap.size m (fun y => decide (y ∈ R.take 0)) ∧ Below w6.heap.size w6 (w6.alloc (.cells (madeCells #[.bool false] m) 4))) := ⟨(madeB_row m w6).congr (fun y _ => by simp), (Below.refl _ _).alloc (Nat.le_refl _) _⟩
      go_wp2
      clear hmk
      go_loopw [13] (fun s wr => ∃ i : Nat, i ≤ R.length ∧ s = .int .i64 (i : Int) ∧ Hid (BRow wr w6.heap.size m (fun y => decide (y ∈ R.take i)) ∧ Below w6.heap.size w6 wr)) (fun s _ => R.length - (intOf s).toNat)
      case atStart => exact ⟨0, by omega, rfl, HI0⟩
      case round =>
        clear HI0
        obtain ⟨i, hi, rfl, hI⟩ := hrel
        by_cases hli : i < R.length
        · have hli2 : (i : Int) < (R.length : Int) := by omega
          obtain ⟨x, hx1⟩ : ∃ x, R[i]? = some x := ⟨R[i], List.getElem?_eq_getElem hli⟩
          obtain ⟨k, hk⟩ : ∃ k, k = (i + 1) % R.length := ⟨_, rfl⟩
          have hkl : k < R.length := by rw [hk]; exact Nat.mod_lt _ (by omega)
          obtain ⟨y, hy1⟩ : ∃ y, R[k]? = some y := ⟨R[k], List.getElem?_eq_getElem hkl⟩
          have hxy := HR5.out i x y hx1 (by rw [← hk]; exact hy1)
          have hxm := (HR4.out i x hx1).1
          have hsx := (HR4.out i x hx1).2
          have hwr : IRow wr ra (ints R) := IRow.below HGR.out hI.out.2 (Nat.le_refl _)
          obtain ⟨rb, ro, rfl, c0⟩ := hwr i (x : Int) (by rw [ints_get, hx1]; rfl)
          obtain ⟨rb2, ro2, eq2, c1⟩ := hwr k (y : Int) (by rw [ints_get, hy1]; rfl)
          cases eq2
          obtain ⟨rb3, ro3, eq3, c2⟩ := hwr 0 (s : Int) (by rw [ints_get, HR0.out]; rfl)
          cases eq3
          obtain ⟨y0, y1⟩ := hI.out.1 x hxm
          have hno : decide (x ∈ R.take i) = false := by
            simp only [decide_eq_false_iff_not]
            intro h
            obtain ⟨q, hq, eq⟩ := List.mem_iff_getElem.1 h
            rw [List.length_take] at hq
            rw [List.getElem_take] at eq
            have := nodup_idx HND.out (i := q) (x := x) (by rw [List.getElem?_eq_getElem (by omega), eq]) hx1
            omega
          have y0 : wr.cell? ⟨w6.heap.size, x, none⟩ = some (.bool (decide (x ∈ R.take i))) := y0
          rw [hno] at y0
          have hBW : Below W.heap.size W wr.drew := (HB6.out.trans (hI.out.2.mono HB6.out.size)).trans (drew_below wr 1)
          have hEd : ERow wr.drew ea es := HE.out.below hBW (Nat.le_refl _)
          have hlead := leads_any ea ec es (x : Int) (y : Int) wr.drew hEd (by omega)
          rw [show decide (((x : Int), (y : Int)) ∈ es) = true from decide_eq_true (mem_of_toE (fun e he => ⟨(HES.out e he).1, (HES.out e he).2.2.1⟩) hxy)] at hlead
          have Hrem : Hid (Int.tmod ((i : Int) + 1) (R.length : Int) = (k : Int)) := by
            show _ = _
            rw [Int.tmod_eq_emod_of_nonneg (by omega), hk]
            simp
          have hI2 : Hid (BRow (wr.drew.setCell ⟨w6.heap.size, x, none⟩ (.bool true)) w6.heap.size m (fun y => decide (y ∈ R.take (i + 1))) ∧ Below w6.heap.size w6 (wr.drew.setCell ⟨w6.heap.size, x, none⟩ (.bool true))) := ⟨((drewB1 hI.out.1).set hxm).congr (fun z hz => by
              rw [List.take_add_one, hx1]
              unfold updB
              by_cases e : z = x
              · simp [e]
              · simp [e]), (hI.out.2.trans (drew_below wr 1)).setCell (p := ⟨w6.heap.size, x, none⟩) (Nat.le_refl _) _⟩
          have d0 : wr.drew.cell? ⟨rb, ro + i, none⟩ = some (.int .i64 (x : Int)) := c0
          have d1 : wr.drew.cell? ⟨rb, ro + k, none⟩ = some (.int .i64 (y : Int)) := c1
          have d2 : wr.drew.cell? ⟨rb, ro, none⟩ = some (.int .i64 (s : Int)) := c2
          have d3 : wr.drew.cell? ⟨w6.heap.size, x, none⟩ = some (.bool false) := y0
          have d4 : wr.drew.frozen? ⟨w6.heap.size, x, none⟩ = false := y1
          have f1 : ¬ (x : Int) < 0 := by omega
          have f2 : ¬ (m : Int) ≤ (x : Int) := by omega
          have f3 : ¬ (x : Int) < (s : Int) := by omega
          have f4 : (x : Int) < (m : Int) := by omega
          have f5 : (k : Int) < (R.length : Int) := by omega
          have f6 : ((R.length : Int) == 0) = false := by rw [beq_eq_false_iff_ne]; omega
          have Hk : Hid (k = (i + 1) % R.length) := hk
          have HRne : Hid (¬ R = []) := fun h => by rw [h] at hli; simp at hli
          clear hI hx1 hy1 hxy hwr c0 c1 c2 y0 y1 hno hBW hEd hk
          go_wp2_with fail
          refine wp_region_noPanic ?_
          refine wp_region_held_drew (S := (fun w9 => w9.cell? ⟨rb, ro + i, none⟩ = some (.int .i64 (x : Int)) ∧ w9.cell? ⟨rb, ro + k, none⟩ = some (.int .i64 (y : Int)) ∧ w9.cell? ⟨rb, ro, none⟩ = some (.int .i64 (s : Int)) ∧ w9.cell? ⟨w6.heap.size, x, none⟩ = some (.bool false))) (by kernel_rfl) ⟨d0, d1, d2, d3⟩ (fun hHeld => ?_)
          generalize wr.drew = Wd at *
          refine wpAnyH_take (i := 0) (v := .slice (some ⟨rb, ro, none⟩) R.length rc) rfl (by kernel_rfl) (by kernel_rfl) (by kernel_rfl) (fun _ _ _ h => h) (Or.inl ⟨by rfl, fun w9 hSw => ?_⟩) hHeld ?_
          · obtain ⟨s0, s1, s2, s3⟩ := hSw
            go_simp
          simp only [List.getElem_toArray, List.getElem_cons_zero, List.getElem_cons_succ, Act.put, List.setIfInBounds_toArray, List.set_cons_zero, List.set_cons_succ]
          refine wpAnyH_take (i := 1) (v := .int .i64 (i : Int)) rfl (by kernel_rfl) (by kernel_rfl) (by kernel_rfl) (fun _ _ _ h => h) (Or.inl ⟨by rfl, fun w9 hSw => ?_⟩) hHeld ?_
          · obtain ⟨s0, s1, s2, s3⟩ := hSw
            go_simp
          simp only [List.getElem_toArray, List.getElem_cons_zero, List.getElem_cons_succ, Act.put, List.setIfInBounds_toArray, List.set_cons_zero, List.set_cons_succ]
          refine wpAnyH_take (i := 2) (v := .pointer (some ⟨rb, ro + i, none⟩)) rfl (by kernel_rfl) (by kernel_rfl) (by kernel_rfl) (fun _ _ _ h => h) (Or.inl ⟨by rfl, fun w9 hSw => ?_⟩) hHeld ?_
          · obtain ⟨s0, s1, s2, s3⟩ := hSw
            go_simp
            all_goals (first | rfl | omega | (rw [IntKind.wrap_i64]; omega) | (rw [if_neg HRne.out, Hrem.out]) | (simp; done) | (simp; omega))
          simp only [List.getElem_toArray, List.getElem_cons_zero, List.getElem_cons_succ, Act.put, List.setIfInBounds_toArray, List.set_cons_zero, List.set_cons_succ]
          refine wpAnyH_take (i := 3) (v := .int .i64 (x : Int)) rfl (by kernel_rfl) (by kernel_rfl) (by kernel_rfl) (fun _ _ _ h => h) (Or.inl ⟨by rfl, fun w9 hSw => ?_⟩) hHeld ?_
          · obtain ⟨s0, s1, s2, s3⟩ := hSw
            go_simp
          simp only [List.getElem_toArray, List.getElem_cons_zero, List.getElem_cons_succ, Act.put, List.setIfInBounds_toArray, List.set_cons_zero, List.set_cons_succ]
          refine wpAnyH_take (i := 4) (v := .bool false) rfl (by kernel_rfl) (by kernel_rfl) (by kernel_rfl) (fun _ _ _ h => h) (Or.inl ⟨by rfl, fun w9 hSw => ?_⟩) hHeld ?_
          · obtain ⟨s0, s1, s2, s3⟩ := hSw
            go_simp
            all_goals (first | rfl | omega | (rw [IntKind.wrap_i64]; omega) | (rw [if_neg HRne.out, Hrem.out]) | (simp; done) | (simp; omega))
          simp only [List.getElem_toArray, List.getElem_cons_zero, List.getElem_cons_succ, Act.put, List.setIfInBounds_toArray, List.set_cons_zero, List.set_cons_succ]
          refine wpAnyH_take (i := 5) (v := .bool false) rfl (by kernel_rfl) (by kernel_rfl) (by kernel_rfl) (fun _ _ _ h => h) (Or.inl ⟨by rfl, fun w9 hSw => ?_⟩) hHeld ?_
          · obtain ⟨s0, s1, s2, s3⟩ := hSw
            go_simp
          simp only [List.getElem_toArray, List.getElem_cons_zero, List.getElem_cons_succ, Act.put, List.setIfInBounds_toArray, List.set_cons_zero, List.set_cons_succ]
          refine wpAnyH_take (i := 6) (v := .slice (some ⟨rb, ro, none⟩) R.length rc) rfl (by kernel_rfl) (by kernel_rfl) (by kernel_rfl) (fun _ _ _ h => h) (Or.inl ⟨by rfl, fun w9 hSw => ?_⟩) hHeld ?_
          · obtain ⟨s0, s1, s2, s3⟩ := hSw
            go_simp
          simp only [List.getElem_toArray, List.getElem_cons_zero, List.getElem_cons_succ, Act.put, List.setIfInBounds_toArray, List.set_cons_zero, List.set_cons_succ]
          refine wpAnyH_take (i := 7) (v := .int .i64 (i : Int)) rfl (by kernel_rfl) (by kernel_rfl) (by kernel_rfl) (fun _ _ _ h => h) (Or.inl ⟨by rfl, fun w9 hSw => ?_⟩) hHeld ?_
          · obtain ⟨s0, s1, s2, s3⟩ := hSw
            go_simp
          simp only [List.getElem_toArray, List.getElem_cons_zero, List.getElem_cons_succ, Act.put, List.setIfInBounds_toArray, List.set_cons_zero, List.set_cons_succ]
          refine wpAnyH_take (i := 8) (v := .pointer (some ⟨rb, ro + i, none⟩)) rfl (by kernel_rfl) (by kernel_rfl) (by kernel_rfl) (fun _ _ _ h => h) (Or.inl ⟨by rfl, fun w9 hSw => ?_⟩) hHeld ?_
          · obtain ⟨s0, s1, s2, s3⟩ := hSw
            go_simp
            all_goals (first | rfl | omega | (rw [IntKind.wrap_i64]; omega) | (rw [if_neg HRne.out, Hrem.out]) | (simp; done) | (simp; omega))
          simp only [List.getElem_toArray, List.getElem_cons_zero, List.getElem_cons_succ, Act.put, List.setIfInBounds_toArray, List.set_cons_zero, List.set_cons_succ]
          refine wpAnyH_take (i := 9) (v := .int .i64 (x : Int)) rfl (by kernel_rfl) (by kernel_rfl) (by kernel_rfl) (fun _ _ _ h => h) (Or.inl ⟨by rfl, fun w9 hSw => ?_⟩) hHeld ?_
          · obtain ⟨s0, s1, s2, s3⟩ := hSw
            go_simp
          simp only [List.getElem_toArray, List.getElem_cons_zero, List.getElem_cons_succ, Act.put, List.setIfInBounds_toArray, List.set_cons_zero, List.set_cons_succ]
          refine wpAnyH_take (i := 10) (v := .int .i64 (m : Int)) rfl (by kernel_rfl) (by kernel_rfl) (by kernel_rfl) (fun _ _ _ h => h) (Or.inl ⟨by rfl, fun w9 hSw => ?_⟩) hHeld ?_
          · obtain ⟨s0, s1, s2, s3⟩ := hSw
            go_simp
          simp only [List.getElem_toArray, List.getElem_cons_zero, List.getElem_cons_succ, Act.put, List.setIfInBounds_toArray, List.set_cons_zero, List.set_cons_succ]
          refine wpAnyH_take (i := 11) (v := .bool false) rfl (by kernel_rfl) (by kernel_rfl) (by kernel_rfl) (fun _ _ _ h => h) (Or.inl ⟨by rfl, fun w9 hSw => ?_⟩) hHeld ?_
          · obtain ⟨s0, s1, s2, s3⟩ := hSw
            go_simp
            all_goals (first | rfl | omega | (rw [IntKind.wrap_i64]; omega) | (rw [if_neg HRne.out, Hrem.out]) | (simp; done) | (simp; omega))
          simp only [List.getElem_toArray, List.getElem_cons_zero, List.getElem_cons_succ, Act.put, List.setIfInBounds_toArray, List.set_cons_zero, List.set_cons_succ]
          refine wpAnyH_take (i := 12) (v := .bool false) rfl (by kernel_rfl) (by kernel_rfl) (by kernel_rfl) (fun _ _ _ h => h) (Or.inl ⟨by rfl, fun w9 hSw => ?_⟩) hHeld ?_
          · obtain ⟨s0, s1, s2, s3⟩ := hSw
            go_simp
          simp only [List.getElem_toArray, List.getElem_cons_zero, List.getElem_cons_succ, Act.put, List.setIfInBounds_toArray, List.set_cons_zero, List.set_cons_succ]
          refine wpAnyH_take (i := 13) (v := .bool false) rfl (by kernel_rfl) (by kernel_rfl) (by kernel_rfl) (fun _ _ _ h => h) (Or.inl ⟨by rfl, fun w9 hSw => ?_⟩) hHeld ?_
          · obtain ⟨s0, s1, s2, s3⟩ := hSw
            go_simp
          simp only [List.getElem_toArray, List.getElem_cons_zero, List.getElem_cons_succ, Act.put, List.setIfInBounds_toArray, List.set_cons_zero, List.set_cons_succ]
          refine wpAnyH_take (i := 14) (v := .slice (some ⟨w6.heap.size, 0, none⟩) m m) rfl (by kernel_rfl) (by kernel_rfl) (by kernel_rfl) (fun _ _ _ h => h) (Or.inl ⟨by rfl, fun w9 hSw => ?_⟩) hHeld ?_
          · obtain ⟨s0, s1, s2, s3⟩ := hSw
            go_simp
          simp only [List.getElem_toArray, List.getElem_cons_zero, List.getElem_cons_succ, Act.put, List.setIfInBounds_toArray, List.set_cons_zero, List.set_cons_succ]
          refine wpAnyH_take (i := 15) (v := .slice (some ⟨rb, ro, none⟩) R.length rc) rfl (by kernel_rfl) (by kernel_rfl) (by kernel_rfl) (fun _ _ _ h => h) (Or.inl ⟨by rfl, fun w9 hSw => ?_⟩) hHeld ?_
          · obtain ⟨s0, s1, s2, s3⟩ := hSw
            go_simp
          simp only [List.getElem_toArray, List.getElem_cons_zero, List.getElem_cons_succ, Act.put, List.setIfInBounds_toArray, List.set_cons_zero, List.set_cons_succ]
          refine wpAnyH_take (i := 16) (v := .int .i64 (i : Int)) rfl (by kernel_rfl) (by kernel_rfl) (by kernel_rfl) (fun _ _ _ h => h) (Or.inl ⟨by rfl, fun w9 hSw => ?_⟩) hHeld ?_
          · obtain ⟨s0, s1, s2, s3⟩ := hSw
            go_simp
          simp only [List.getElem_toArray, List.getElem_cons_zero, List.getElem_cons_succ, Act.put, List.setIfInBounds_toArray, List.set_cons_zero, List.set_cons_succ]
          refine wpAnyH_take (i := 17) (v := .pointer (some ⟨rb, ro + i, none⟩)) rfl (by kernel_rfl) (by kernel_rfl) (by kernel_rfl) (fun _ _ _ h => h) (Or.inl ⟨by rfl, fun w9 hSw => ?_⟩) hHeld ?_
          · obtain ⟨s0, s1, s2, s3⟩ := hSw
            go_simp
            all_goals (first | rfl | omega | (rw [IntKind.wrap_i64]; omega) | (rw [if_neg HRne.out, Hrem.out]) | (simp; done) | (simp; omega))
          simp only [List.getElem_toArray, List.getElem_cons_zero, List.getElem_cons_succ, Act.put, List.setIfInBounds_toArray, List.set_cons_zero, List.set_cons_succ]
          refine wpAnyH_take (i := 18) (v := .int .i64 (x : Int)) rfl (by kernel_rfl) (by kernel_rfl) (by kernel_rfl) (fun _ _ _ h => h) (Or.inl ⟨by rfl, fun w9 hSw => ?_⟩) hHeld ?_
          · obtain ⟨s0, s1, s2, s3⟩ := hSw
            go_simp
          simp only [List.getElem_toArray, List.getElem_cons_zero, List.getElem_cons_succ, Act.put, List.setIfInBounds_toArray, List.set_cons_zero, List.set_cons_succ]
          refine wpAnyH_take (i := 19) (v := .pointer (some ⟨w6.heap.size, x, none⟩)) rfl (by kernel_rfl) (by kernel_rfl) (by kernel_rfl) (fun _ _ _ h => h) (Or.inl ⟨by rfl, fun w9 hSw => ?_⟩) hHeld ?_
          · obtain ⟨s0, s1, s2, s3⟩ := hSw
            go_simp
            all_goals (first | rfl | omega | (rw [IntKind.wrap_i64]; omega) | (rw [if_neg HRne.out, Hrem.out]) | (simp; done) | (simp; omega))
          simp only [List.getElem_toArray, List.getElem_cons_zero, List.getElem_cons_succ, Act.put, List.setIfInBounds_toArray, List.set_cons_zero, List.set_cons_succ]
          refine wpAnyH_take (i := 20) (v := .bool false) rfl (by kernel_rfl) (by kernel_rfl) (by kernel_rfl) (fun _ _ _ h => h) (Or.inl ⟨by rfl, fun w9 hSw => ?_⟩) hHeld ?_
          · obtain ⟨s0, s1, s2, s3⟩ := hSw
            go_simp
          simp only [List.getElem_toArray, List.getElem_cons_zero, List.getElem_cons_succ, Act.put, List.setIfInBounds_toArray, List.set_cons_zero, List.set_cons_succ]
          refine wpAnyH_take (i := 21) (v := .bool false) rfl (by kernel_rfl) (by kernel_rfl) (by kernel_rfl) (fun _ _ _ h => h) (Or.inl ⟨by rfl, fun w9 hSw => ?_⟩) hHeld ?_
          · obtain ⟨s0, s1, s2, s3⟩ := hSw
            go_simp
          simp only [List.getElem_toArray, List.getElem_cons_zero, List.getElem_cons_succ, Act.put, List.setIfInBounds_toArray, List.set_cons_zero, List.set_cons_succ]
          refine wpAnyH_take (i := 22) (v := .bool false) rfl (by kernel_rfl) (by kernel_rfl) (by kernel_rfl) (fun _ _ _ h => h) (Or.inl ⟨by rfl, fun w9 hSw => ?_⟩) hHeld ?_
          · obtain ⟨s0, s1, s2, s3⟩ := hSw
            go_simp
          simp only [List.getElem_toArray, List.getElem_cons_zero, List.getElem_cons_succ, Act.put, List.setIfInBounds_toArray, List.set_cons_zero, List.set_cons_succ]
          refine wpAnyH_take (i := 23) (v := .slice ea es.length ec) rfl (by kernel_rfl) (by kernel_rfl) (by kernel_rfl) (fun _ _ _ h => h) (Or.inl ⟨by rfl, fun w9 hSw => ?_⟩) hHeld ?_
          · obtain ⟨s0, s1, s2, s3⟩ := hSw
            go_simp
          simp only [List.getElem_toArray, List.getElem_cons_zero, List.getElem_cons_succ, Act.put, List.setIfInBounds_toArray, List.set_cons_zero, List.set_cons_succ]
          refine wpAnyH_take (i := 24) (v := .slice (some ⟨rb, ro, none⟩) R.length rc) rfl (by kernel_rfl) (by kernel_rfl) (by kernel_rfl) (fun _ _ _ h => h) (Or.inl ⟨by rfl, fun w9 hSw => ?_⟩) hHeld ?_
          · obtain ⟨s0, s1, s2, s3⟩ := hSw
            go_simp
          simp only [List.getElem_toArray, List.getElem_cons_zero, List.getElem_cons_succ, Act.put, List.setIfInBounds_toArray, List.set_cons_zero, List.set_cons_succ]
          refine wpAnyH_take (i := 25) (v := .int .i64 (i : Int)) rfl (by kernel_rfl) (by kernel_rfl) (by kernel_rfl) (fun _ _ _ h => h) (Or.inl ⟨by rfl, fun w9 hSw => ?_⟩) hHeld ?_
          · obtain ⟨s0, s1, s2, s3⟩ := hSw
            go_simp
          simp only [List.getElem_toArray, List.getElem_cons_zero, List.getElem_cons_succ, Act.put, List.setIfInBounds_toArray, List.set_cons_zero, List.set_cons_succ]
          refine wpAnyH_take (i := 26) (v := .pointer (some ⟨rb, ro + i, none⟩)) rfl (by kernel_rfl) (by kernel_rfl) (by kernel_rfl) (fun _ _ _ h => h) (Or.inl ⟨by rfl, fun w9 hSw => ?_⟩) hHeld ?_
          · obtain ⟨s0, s1, s2, s3⟩ := hSw
            go_simp
            all_goals (first | rfl | omega | (rw [IntKind.wrap_i64]; omega) | (rw [if_neg HRne.out, Hrem.out]) | (simp; done) | (simp; omega))
          simp only [List.getElem_toArray, List.getElem_cons_zero, List.getElem_cons_succ, Act.put, List.setIfInBounds_toArray, List.set_cons_zero, List.set_cons_succ]
          refine wpAnyH_take (i := 27) (v := .int .i64 (x : Int)) rfl (by kernel_rfl) (by kernel_rfl) (by kernel_rfl) (fun _ _ _ h => h) (Or.inl ⟨by rfl, fun w9 hSw => ?_⟩) hHeld ?_
          · obtain ⟨s0, s1, s2, s3⟩ := hSw
            go_simp
          simp only [List.getElem_toArray, List.getElem_cons_zero, List.getElem_cons_succ, Act.put, List.setIfInBounds_toArray, List.set_cons_zero, List.set_cons_succ]
          refine wpAnyH_take (i := 28) (v := .slice (some ⟨rb, ro, none⟩) R.length rc) rfl (by kernel_rfl) (by kernel_rfl) (by kernel_rfl) (fun _ _ _ h => h) (Or.inl ⟨by rfl, fun w9 hSw => ?_⟩) hHeld ?_
          · obtain ⟨s0, s1, s2, s3⟩ := hSw
            go_simp
          simp only [List.getElem_toArray, List.getElem_cons_zero, List.getElem_cons_succ, Act.put, List.setIfInBounds_toArray, List.set_cons_zero, List.set_cons_succ]
          refine wpAnyH_take (i := 29) (v := .int .i64 (i : Int)) rfl (by kernel_rfl) (by kernel_rfl) (by kernel_rfl) (fun _ _ _ h => h) (Or.inl ⟨by rfl, fun w9 hSw => ?_⟩) hHeld ?_
          · obtain ⟨s0, s1, s2, s3⟩ := hSw
            go_simp
          simp only [List.getElem_toArray, List.getElem_cons_zero, List.getElem_cons_succ, Act.put, List.setIfInBounds_toArray, List.set_cons_zero, List.set_cons_succ]
          refine wpAnyH_take (i := 30) (v := .int .i64 ((i : Int) + 1)) rfl (by kernel_rfl) (by kernel_rfl) (by kernel_rfl) (fun _ _ _ h => h) (Or.inl ⟨by rfl, fun w9 hSw => ?_⟩) hHeld ?_
          · obtain ⟨s0, s1, s2, s3⟩ := hSw
            go_simp
            all_goals (first | rfl | omega | (rw [IntKind.wrap_i64]; omega) | (rw [if_neg HRne.out, Hrem.out]) | (simp; done) | (simp; omega))
          simp only [List.getElem_toArray, List.getElem_cons_zero, List.getElem_cons_succ, Act.put, List.setIfInBounds_toArray, List.set_cons_zero, List.set_cons_succ]
          refine wpAnyH_take (i := 31) (v := .slice (some ⟨rb, ro, none⟩) R.length rc) rfl (by kernel_rfl) (by kernel_rfl) (by kernel_rfl) (fun _ _ _ h => h) (Or.inl ⟨by rfl, fun w9 hSw => ?_⟩) hHeld ?_
          · obtain ⟨s0, s1, s2, s3⟩ := hSw
            go_simp
          simp only [List.getElem_toArray, List.getElem_cons_zero, List.getElem_cons_succ, Act.put, List.setIfInBounds_toArray, List.set_cons_zero, List.set_cons_succ]
          refine wpAnyH_take (i := 32) (v := .int .i64 (R.length : Int)) rfl (by kernel_rfl) (by kernel_rfl) (by kernel_rfl) (fun _ _ _ h => h) (Or.inl ⟨by rfl, fun w9 hSw => ?_⟩) hHeld ?_
          · obtain ⟨s0, s1, s2, s3⟩ := hSw
            go_simp
          simp only [List.getElem_toArray, List.getElem_cons_zero, List.getElem_cons_succ, Act.put, List.setIfInBounds_toArray, List.set_cons_zero, List.set_cons_succ]
          refine wpAnyH_take (i := 33) (v := .int .i64 (k : Int)) rfl (by kernel_rfl) (by kernel_rfl) (by kernel_rfl) (fun _ _ _ h => h) (Or.inl ⟨by rfl, fun w9 hSw => ?_⟩) hHeld ?_
          · obtain ⟨s0, s1, s2, s3⟩ := hSw
            go_simp
            all_goals (first | rfl | omega | (rw [IntKind.wrap_i64]; omega) | (rw [if_neg HRne.out, Hrem.out]) | (simp; done) | (simp; omega))
          simp only [List.getElem_toArray, List.getElem_cons_zero, List.getElem_cons_succ, Act.put, List.setIfInBounds_toArray, List.set_cons_zero, List.set_cons_succ]
          refine wpAnyH_take (i := 34) (v := .pointer (some ⟨rb, ro + k, none⟩)) rfl (by kernel_rfl) (by kernel_rfl) (by kernel_rfl) (fun _ _ _ h => h) (Or.inl ⟨by rfl, fun w9 hSw => ?_⟩) hHeld ?_
          · obtain ⟨s0, s1, s2, s3⟩ := hSw
            go_simp
            all_goals (first | rfl | omega | (rw [IntKind.wrap_i64]; omega) | (rw [if_neg HRne.out, Hrem.out]) | (simp; done) | (simp; omega))
          simp only [List.getElem_toArray, List.getElem_cons_zero, List.getElem_cons_succ, Act.put, List.setIfInBounds_toArray, List.set_cons_zero, List.set_cons_succ]
          refine wpAnyH_take (i := 35) (v := .int .i64 (y : Int)) rfl (by kernel_rfl) (by kernel_rfl) (by kernel_rfl) (fun _ _ _ h => h) (Or.inl ⟨by rfl, fun w9 hSw => ?_⟩) hHeld ?_
          · obtain ⟨s0, s1, s2, s3⟩ := hSw
            go_simp
          simp only [List.getElem_toArray, List.getElem_cons_zero, List.getElem_cons_succ, Act.put, List.setIfInBounds_toArray, List.set_cons_zero, List.set_cons_succ]
          refine wpAnyH_ready (rs := [36]) (by kernel_rfl) (by simp) ?_
          refine AllReadyH.cons rfl (fun K hK => ?_) AllReadyH.nil
          go_simp
          refine hlead.mono ?_
          rintro e wz ⟨rfl, hwz⟩
          obtain rfl := hwz.symm
          refine hK.out _ _ hHeld (fun hHeld => ?_)
          clear hK K
          try simp only [List.getElem_toArray, List.getElem_cons_zero, List.getElem_cons_succ, Act.put, List.setIfInBounds_toArray, List.set_cons_zero, List.set_cons_succ]
          refine wpAnyH_take (i := 37) (v := .bool false) rfl (by kernel_rfl) (by kernel_rfl) (by kernel_rfl) (fun _ _ _ h => h) (Or.inl ⟨by rfl, fun w9 hSw => ?_⟩) hHeld ?_
          · obtain ⟨s0, s1, s2, s3⟩ := hSw
            go_simp
          simp only [List.getElem_toArray, List.getElem_cons_zero, List.getElem_cons_succ, Act.put, List.setIfInBounds_toArray, List.set_cons_zero, List.set_cons_succ]
          refine wpAnyH_take (i := 38) (v := .bool false) rfl (by kernel_rfl) (by kernel_rfl) (by kernel_rfl) (fun _ _ _ h => h) (Or.inl ⟨by rfl, fun w9 hSw => ?_⟩) hHeld ?_
          · obtain ⟨s0, s1, s2, s3⟩ := hSw
            go_simp
          simp only [List.getElem_toArray, List.getElem_cons_zero, List.getElem_cons_succ, Act.put, List.setIfInBounds_toArray, List.set_cons_zero, List.set_cons_succ]
          refine wpAnyH_take (i := 39) (v := .bool false) rfl (by kernel_rfl) (by kernel_rfl) (by kernel_rfl) (fun _ _ _ h => h) (Or.inl ⟨by rfl, fun w9 hSw => ?_⟩) hHeld ?_
          · obtain ⟨s0, s1, s2, s3⟩ := hSw
            go_simp
          simp only [List.getElem_toArray, List.getElem_cons_zero, List.getElem_cons_succ, Act.put, List.setIfInBounds_toArray, List.set_cons_zero, List.set_cons_succ]
          refine wpAnyH_take (i := 40) (v := .slice (some ⟨rb, ro, none⟩) R.length rc) rfl (by kernel_rfl) (by kernel_rfl) (by kernel_rfl) (fun _ _ _ h => h) (Or.inl ⟨by rfl, fun w9 hSw => ?_⟩) hHeld ?_
          · obtain ⟨s0, s1, s2, s3⟩ := hSw
            go_simp
          simp only [List.getElem_toArray, List.getElem_cons_zero, List.getElem_cons_succ, Act.put, List.setIfInBounds_toArray, List.set_cons_zero, List.set_cons_succ]
          refine wpAnyH_take (i := 41) (v := .int .i64 (i : Int)) rfl (by kernel_rfl) (by kernel_rfl) (by kernel_rfl) (fun _ _ _ h => h) (Or.inl ⟨by rfl, fun w9 hSw => ?_⟩) hHeld ?_
          · obtain ⟨s0, s1, s2, s3⟩ := hSw
            go_simp
          simp only [List.getElem_toArray, List.getElem_cons_zero, List.getElem_cons_succ, Act.put, List.setIfInBounds_toArray, List.set_cons_zero, List.set_cons_succ]
          refine wpAnyH_take (i := 42) (v := .pointer (some ⟨rb, ro + i, none⟩)) rfl (by kernel_rfl) (by kernel_rfl) (by kernel_rfl) (fun _ _ _ h => h) (Or.inl ⟨by rfl, fun w9 hSw => ?_⟩) hHeld ?_
          · obtain ⟨s0, s1, s2, s3⟩ := hSw
            go_simp
            all_goals (first | rfl | omega | (rw [IntKind.wrap_i64]; omega) | (simp; done) | (simp; omega))
          simp only [List.getElem_toArray, List.getElem_cons_zero, List.getElem_cons_succ, Act.put, List.setIfInBounds_toArray, List.set_cons_zero, List.set_cons_succ]
          refine wpAnyH_take (i := 43) (v := .int .i64 (x : Int)) rfl (by kernel_rfl) (by kernel_rfl) (by kernel_rfl) (fun _ _ _ h => h) (Or.inl ⟨by rfl, fun w9 hSw => ?_⟩) hHeld ?_
          · obtain ⟨s0, s1, s2, s3⟩ := hSw
            go_simp
          simp only [List.getElem_toArray, List.getElem_cons_zero, List.getElem_cons_succ, Act.put, List.setIfInBounds_toArray, List.set_cons_zero, List.set_cons_succ]
          refine wpAnyH_take (i := 44) (v := .slice (some ⟨rb, ro, none⟩) R.length rc) rfl (by kernel_rfl) (by kernel_rfl) (by kernel_rfl) (fun _ _ _ h => h) (Or.inl ⟨by rfl, fun w9 hSw => ?_⟩) hHeld ?_
          · obtain ⟨s0, s1, s2, s3⟩ := hSw
            go_simp
          simp only [List.getElem_toArray, List.getElem_cons_zero, List.getElem_cons_succ, Act.put, List.setIfInBounds_toArray, List.set_cons_zero, List.set_cons_succ]
          refine wpAnyH_take (i := 45) (v := .pointer (some ⟨rb, ro, none⟩)) rfl (by kernel_rfl) (by kernel_rfl) (by kernel_rfl) (fun _ _ _ h => h) (Or.inl ⟨by rfl, fun w9 hSw => ?_⟩) hHeld ?_
          · obtain ⟨s0, s1, s2, s3⟩ := hSw
            go_simp
            all_goals (first | rfl | omega | (rw [IntKind.wrap_i64]; omega) | (simp; done) | (simp; omega))
          simp only [List.getElem_toArray, List.getElem_cons_zero, List.getElem_cons_succ, Act.put, List.setIfInBounds_toArray, List.set_cons_zero, List.set_cons_succ]
          refine wpAnyH_take (i := 46) (v := .int .i64 (s : Int)) rfl (by kernel_rfl) (by kernel_rfl) (by kernel_rfl) (fun _ _ _ h => h) (Or.inl ⟨by rfl, fun w9 hSw => ?_⟩) hHeld ?_
          · obtain ⟨s0, s1, s2, s3⟩ := hSw
            go_simp
          simp only [List.getElem_toArray, List.getElem_cons_zero, List.getElem_cons_succ, Act.put, List.setIfInBounds_toArray, List.set_cons_zero, List.set_cons_succ]
          refine wpAnyH_take (i := 47) (v := .bool false) rfl (by kernel_rfl) (by kernel_rfl) (by kernel_rfl) (fun _ _ _ h => h) (Or.inl ⟨by rfl, fun w9 hSw => ?_⟩) hHeld ?_
          · obtain ⟨s0, s1, s2, s3⟩ := hSw
            go_simp
            all_goals (first | rfl | omega | (rw [IntKind.wrap_i64]; omega) | (simp; done) | (simp; omega))
          simp only [List.getElem_toArray, List.getElem_cons_zero, List.getElem_cons_succ, Act.put, List.setIfInBounds_toArray, List.set_cons_zero, List.set_cons_succ]
          refine wpAnyH_take (i := 48) (v := .bool false) rfl (by kernel_rfl) (by kernel_rfl) (by kernel_rfl) (fun _ _ _ h => h) (Or.inl ⟨by rfl, fun w9 hSw => ?_⟩) hHeld ?_
          · obtain ⟨s0, s1, s2, s3⟩ := hSw
            go_simp
          simp only [List.getElem_toArray, List.getElem_cons_zero, List.getElem_cons_succ, Act.put, List.setIfInBounds_toArray, List.set_cons_zero, List.set_cons_succ]
          refine wpAnyH_done (by kernel_rfl) (NoPanic.normal ?_) _
          clear hHeld hlead
          go_wp2
          go_roundw
          case rel => exact ⟨i + 1, by omega, by go_num, hI2⟩
          case measure => simp [intOf]; omega
        · have hli2 : ¬ (i : Int) < (R.length : Int) := by omega
          have hBW : Below W.heap.size W wr := HB6.out.trans (hI.out.2.mono HB6.out.size)
          have hkind := kind_e p 15 wr (HErr.out.below hBW (Nat.le_refl _)) (Nat.le_refl _)
          rw [hk15] at hkind
          have HBW : Hid (Below W.heap.size W wr) := hBW
          clear hI hBW
          by_cases h1 : R.length = 1
          · have h1' : ((R.length : Int) == 1) = true := by rw [h1]; rfl
            have HPL2 : Hid (R.length = 1) := h1
            clear h1 HPL
            go_wp2_with fail
            refine hkind.mono ?_
            rintro e w7 ⟨rfl, hb7⟩
            clear hkind
            go_wp2
            go_ret
            exact ⟨rfl, HBW.out.trans (hb7.mono HBW.out.size)⟩
          · have h1' : ((R.length : Int) == 1) = false := by simp; omega
            have hT := HPL.out h1
            have hT2 : (T : Int) < (m : Int) := by omega
            have HPL2 : Hid (R.length ≠ 1) := h1
            clear h1 HPL
            go_wp2_with fail
            refine hkind.mono ?_
            rintro e w7 ⟨rfl, hb7⟩
            clear hkind
            go_wp2
            go_ret
            exact ⟨rfl, HBW.out.trans (hb7.mono HBW.out.size)⟩
    | some L =>
      have hOrd := ord_of ho
      obtain ⟨f, hf⟩ : ∃ f, f = levL (adj m (toE es)) L := ⟨_, rfl⟩
      have e1 : lvL (m : Int) es = rowOf m f := by unfold lvL; rw [if_pos hm0, EO, ho, Int.toNat_natCast, hf]
      have e2 : rdL (m : Int) es = [] := by unfold rdL; rw [if_pos hm0, EO, ho]
      have e3 : odL (m : Int) es = ints L := by unfold odL; rw [if_pos hm0, EO, ho]
      have e4 : odC (m : Int) es = 0 := by unfold odC; rw [if_pos hm0, EO, ho]
      have eP : (ptL (m : Int) es).length = m := by rw [ePl]; exact parts_all hEr hOrd
      have HF1 : Hid (∀ a b, (a, b) ∈ toE es → f b + 1 ≤ f a) := fun a b h => by rw [hf]; exact hOrd.edge hEr h
      have HF2 : Hid (∀ y, y < m → 0 < f y → fallB f (toE es) (toE es).length y = true) := fun y hy h => by rw [hf] at h ⊢; exact fallB_all hOrd hy h
      have HF0 : Hid (∀ y, 0 ≤ f y ∧ f y ≤ 65536) := fun y => by
        have h9 := levF_bnd (A := adj m (toE es)) (m := m) (fun a => (adj_ok m (toE es) a).2.2) L.reverse y
        rw [hf]
        unfold levL
        have h8 : m * L.reverse.length ≤ 65536 := by rw [List.length_reverse, hOrd.len]; exact Nat.le_trans (Nat.mul_le_mul hm hm) (by omega)
        omega
      have HPL : Hid (∀ a b, (a, b) ∈ toE es → placeI L L.length a < placeI L L.length b) := fun a b h => place_lt hOrd hEr h
      have HPB : Hid (∀ i y, 0 ≤ placeI L i y ∧ placeI L i y ≤ 257) := fun i y => by
        unfold placeI
        split
        · next h => have := List.idxOf_lt_length_of_mem (List.mem_of_mem_take h); have := hOrd.len; omega
        · omega
      have HLN : Hid (L.Nodup) := hOrd.nodup
      have HLT : Hid (∀ x ∈ L, x < m) := hOrd.lt
      have HLL : Hid (L.length = m) := hOrd.len
      have HGL : Hid (IRow w6 la (rowOf m f)) := by have := HG.out.lev; rw [e1] at this; exact this
      have HGO : Hid (IRow w6 oa (ints L)) := by have := HG.out.ord; rw [e3] at this; exact this
      have HB6 : Hid (Below W.heap.size W w6) := HG.out.below
      rw [e1, e2, e3, e4, rowOf_length, ints_length, hOrd.len, eP]
      have hk0 : ckK p 0 = .nilIface := rfl
      rw [hk0]
      have hmk := made_bools m hm w6
      have hne : ((m : Int) != (m : Int)) = false := by simp
      have HI0 : Hid (BRow (w6.alloc (.cells (madeCells #[.bool false] m) 4)) w6.heap.size m (fallB f (toE es) 0) ∧ Below w6.heap.size w6 (w6.alloc (.cells (madeCells #[.bool false] m) 4)) ∧ w6.heap.size < (w6.alloc (.cells (madeCells #[.bool false] m) 4)).heap.size) := ⟨(madeB_row m w6).congr (fun y _ => by rw [fallB_zero]), (Below.refl _ _).alloc (Nat.le_refl _) _, by simp⟩
      clear e1 e2 e3 e4 ho EO hm0 HG ePl eP hOrd hf hk0
      go_wp2
      clear hmk
      go_loopw [15] (fun s wr => ∃ i : Nat, i ≤ es.length ∧ s = .int .i64 (i : Int) ∧ Hid (BRow wr w6.heap.size m (fallB f (toE es) i) ∧ Below w6.heap.size w6 wr ∧ w6.heap.size < wr.heap.size)) (fun s _ => es.length - (intOf s).toNat)
      case atStart => exact ⟨0, by omega, rfl, HI0⟩
      case round =>
        clear HI0
        obtain ⟨i, hi, rfl, hI⟩ := hrel
        by_cases hli : i < es.length
        · have hli2 : (i : Int) < (es.length : Int) := by omega
          obtain ⟨⟨x, y⟩, hxy⟩ : ∃ e, es[i]? = some e := ⟨es[i], List.getElem?_eq_getElem hli⟩
          obtain ⟨hx0, hxm, hy0, hym⟩ := HES.out _ (List.mem_of_getElem? hxy)
          dsimp only at hx0 hxm hy0 hym
          obtain ⟨X, rfl⟩ := Int.eq_ofNat_of_zero_le hx0
          obtain ⟨Y, rfl⟩ := Int.eq_ofNat_of_zero_le hy0
          have hXm : X < m := by omega
          have hYm : Y < m := by omega
          have hTE : (toE es)[i]? = some (X, Y) := by have := toE_at hxy; simpa using this
          have hff := HF1.out X Y (List.mem_of_getElem? hTE)
          have hBW : Below W.heap.size W wr := HB6.out.trans (hI.out.2.1.mono HB6.out.size)
          obtain ⟨eb, eo, rfl, e0, e1⟩ := HE.out.below hBW (Nat.le_refl _) i _ hxy
          dsimp only at e0 e1
          have hwr : IRow wr la (rowOf m f) := IRow.below HGL.out hI.out.2.1 (Nat.le_refl _)
          obtain ⟨lb, lo, rfl, c0⟩ := hwr X (f X) (rowOf_get f hXm)
          obtain ⟨lb2, lo2, eq2, c1⟩ := hwr Y (f Y) (rowOf_get f hYm)
          cases eq2
          have b0 := HF0.out X
          have b1 := HF0.out Y
          obtain ⟨g0, g1⟩ := hI.out.1 X hXm
          have hst : ∀ v, v = (fallB f (toE es) i X || decide (f X = f Y + 1)) → Hid (BRow (wr.drew.drew.drew.setCell ⟨w6.heap.size, X, none⟩ (.bool v)) w6.heap.size m (fallB f (toE es) (i + 1)) ∧ Below w6.heap.size w6 (wr.drew.drew.drew.setCell ⟨w6.heap.size, X, none⟩ (.bool v)) ∧ w6.heap.size < (wr.drew.drew.drew.setCell ⟨w6.heap.size, X, none⟩ (.bool v)).heap.size) := fun v hv => ⟨(BRow.put (drewB1 (drewB1 (drewB1 hI.out.1))) hXm v).congr (fun z hz => by
            rw [fallB_succ hTE]
            by_cases e : z = X
            · subst e; rw [if_pos rfl, if_pos rfl, hv]
            · rw [if_neg e, if_neg e]), (hI.out.2.1.trans (drew_below wr 3)).setCell (p := ⟨w6.heap.size, X, none⟩) (Nat.le_refl _) _, by have := hI.out.2.2; simpa using this⟩
          have HL2 : Hid (wr.drew.drew.drew.cell? ⟨lb, lo + X, none⟩ = some (.int .i64 (f X)) ∧ wr.drew.drew.drew.cell? ⟨lb, lo + Y, none⟩ = some (.int .i64 (f Y)) ∧ wr.drew.drew.drew.frozen? ⟨w6.heap.size, X, none⟩ = false) := ⟨c0, c1, g1⟩
          have G0 : Hid (wr.drew.drew.drew.cell? ⟨w6.heap.size, X, none⟩ = some (.bool (fallB f (toE es) i X))) := g0
          have C01 : Hid (wr.drew.drew.cell? ⟨lb, lo + X, none⟩ = some (.int .i64 (f X)) ∧ wr.drew.drew.cell? ⟨lb, lo + Y, none⟩ = some (.int .i64 (f Y))) := ⟨c0, c1⟩
          generalize f X = fX at *
          generalize f Y = fY at *
          have k1 : ¬ fX ≤ fY := by omega
          have k2 : (X : Int) < (m : Int) := by omega
          have k3 : (Y : Int) < (m : Int) := by omega
          clear hI hxy hTE hff hBW hwr c0 c1 g0 g1 hx0 hxm hy0 hym
          go_wp2_with fail
          refine wp_region_noPanic ?_
          refine wp_region_held_drew (S := (fun w9 => w9.cell? ⟨eb, eo + i * 2, none⟩ = some (.int .i64 (X : Int)) ∧ w9.cell? ⟨eb, eo + i * 2 + 1, none⟩ = some (.int .i64 (Y : Int)))) (by kernel_rfl) ⟨e0, e1⟩ (fun hHeld => ?_)
          refine wpAnyH_take (i := 0) (v := .slice (some ⟨eb, eo, none⟩) es.length ec) rfl (by kernel_rfl) (by kernel_rfl) (by kernel_rfl) (fun _ _ _ h => h) (Or.inl ⟨by rfl, fun w9 hSw => ?_⟩) hHeld ?_
          · obtain ⟨s0, s1⟩ := hSw
            go_simp
          simp only [List.getElem_toArray, List.getElem_cons_zero, List.getElem_cons_succ, Act.put, List.setIfInBounds_toArray, List.set_cons_zero, List.set_cons_succ]
          refine wpAnyH_take (i := 1) (v := .int .i64 (i : Int)) rfl (by kernel_rfl) (by kernel_rfl) (by kernel_rfl) (fun _ _ _ h => h) (Or.inl ⟨by rfl, fun w9 hSw => ?_⟩) hHeld ?_
          · obtain ⟨s0, s1⟩ := hSw
            go_simp
          simp only [List.getElem_toArray, List.getElem_cons_zero, List.getElem_cons_succ, Act.put, List.setIfInBounds_toArray, List.set_cons_zero, List.set_cons_succ]
          refine wpAnyH_take (i := 2) (v := .pointer (some ⟨eb, eo + i * 2, none⟩)) rfl (by kernel_rfl) (by kernel_rfl) (by kernel_rfl) (fun _ _ _ h => h) (Or.inl ⟨by rfl, fun w9 hSw => ?_⟩) hHeld ?_
          · obtain ⟨s0, s1⟩ := hSw
            go_simp
            all_goals (first | rfl | omega | (rw [IntKind.wrap_i64]; omega) | (simp; done) | (simp; omega))
          simp only [List.getElem_toArray, List.getElem_cons_zero, List.getElem_cons_succ, Act.put, List.setIfInBounds_toArray, List.set_cons_zero, List.set_cons_succ]
          refine wpAnyH_take (i := 3) (v := .pointer (some ⟨eb, eo + i * 2, none⟩)) rfl (by kernel_rfl) (by kernel_rfl) (by kernel_rfl) (fun _ _ _ h => h) (Or.inl ⟨by rfl, fun w9 hSw => ?_⟩) hHeld ?_
          · obtain ⟨s0, s1⟩ := hSw
            go_simp
            all_goals (first | rfl | omega | (rw [IntKind.wrap_i64]; omega) | (simp; done) | (simp; omega))
          simp only [List.getElem_toArray, List.getElem_cons_zero, List.getElem_cons_succ, Act.put, List.setIfInBounds_toArray, List.set_cons_zero, List.set_cons_succ]
          refine wpAnyH_take (i := 4) (v := .int .i64 (X : Int)) rfl (by kernel_rfl) (by kernel_rfl) (by kernel_rfl) (fun _ _ _ h => h) (Or.inl ⟨by rfl, fun w9 hSw => ?_⟩) hHeld ?_
          · obtain ⟨s0, s1⟩ := hSw
            go_simp
          simp only [List.getElem_toArray, List.getElem_cons_zero, List.getElem_cons_succ, Act.put, List.setIfInBounds_toArray, List.set_cons_zero, List.set_cons_succ]
          refine wpAnyH_take (i := 5) (v := .slice (some ⟨eb, eo, none⟩) es.length ec) rfl (by kernel_rfl) (by kernel_rfl) (by kernel_rfl) (fun _ _ _ h => h) (Or.inl ⟨by rfl, fun w9 hSw => ?_⟩) hHeld ?_
          · obtain ⟨s0, s1⟩ := hSw
            go_simp
          simp only [List.getElem_toArray, List.getElem_cons_zero, List.getElem_cons_succ, Act.put, List.setIfInBounds_toArray, List.set_cons_zero, List.set_cons_succ]
          refine wpAnyH_take (i := 6) (v := .int .i64 (i : Int)) rfl (by kernel_rfl) (by kernel_rfl) (by kernel_rfl) (fun _ _ _ h => h) (Or.inl ⟨by rfl, fun w9 hSw => ?_⟩) hHeld ?_
          · obtain ⟨s0, s1⟩ := hSw
            go_simp
          simp only [List.getElem_toArray, List.getElem_cons_zero, List.getElem_cons_succ, Act.put, List.setIfInBounds_toArray, List.set_cons_zero, List.set_cons_succ]
          refine wpAnyH_take (i := 7) (v := .pointer (some ⟨eb, eo + i * 2, none⟩)) rfl (by kernel_rfl) (by kernel_rfl) (by kernel_rfl) (fun _ _ _ h => h) (Or.inl ⟨by rfl, fun w9 hSw => ?_⟩) hHeld ?_
          · obtain ⟨s0, s1⟩ := hSw
            go_simp
            all_goals (first | rfl | omega | (rw [IntKind.wrap_i64]; omega) | (simp; done) | (simp; omega))
          simp only [List.getElem_toArray, List.getElem_cons_zero, List.getElem_cons_succ, Act.put, List.setIfInBounds_toArray, List.set_cons_zero, List.set_cons_succ]
          refine wpAnyH_take (i := 8) (v := .pointer (some ⟨eb, eo + i * 2 + 1, none⟩)) rfl (by kernel_rfl) (by kernel_rfl) (by kernel_rfl) (fun _ _ _ h => h) (Or.inl ⟨by rfl, fun w9 hSw => ?_⟩) hHeld ?_
          · obtain ⟨s0, s1⟩ := hSw
            go_simp
            all_goals (first | rfl | omega | (rw [IntKind.wrap_i64]; omega) | (simp; done) | (simp; omega))
          simp only [List.getElem_toArray, List.getElem_cons_zero, List.getElem_cons_succ, Act.put, List.setIfInBounds_toArray, List.set_cons_zero, List.set_cons_succ]
          refine wpAnyH_take (i := 9) (v := .int .i64 (Y : Int)) rfl (by kernel_rfl) (by kernel_rfl) (by kernel_rfl) (fun _ _ _ h => h) (Or.inl ⟨by rfl, fun w9 hSw => ?_⟩) hHeld ?_
          · obtain ⟨s0, s1⟩ := hSw
            go_simp
          simp only [List.getElem_toArray, List.getElem_cons_zero, List.getElem_cons_succ, Act.put, List.setIfInBounds_toArray, List.set_cons_zero, List.set_cons_succ]
          refine wpAnyH_take (i := 10) (v := .int .i64 (X : Int)) rfl (by kernel_rfl) (by kernel_rfl) (by kernel_rfl) (fun _ _ _ h => h) (Or.inl ⟨by rfl, fun w9 hSw => ?_⟩) hHeld ?_
          · obtain ⟨s0, s1⟩ := hSw
            go_simp
          simp only [List.getElem_toArray, List.getElem_cons_zero, List.getElem_cons_succ, Act.put, List.setIfInBounds_toArray, List.set_cons_zero, List.set_cons_succ]
          refine wpAnyH_take (i := 11) (v := .int .i64 (Y : Int)) rfl (by kernel_rfl) (by kernel_rfl) (by kernel_rfl) (fun _ _ _ h => h) (Or.inl ⟨by rfl, fun w9 hSw => ?_⟩) hHeld ?_
          · obtain ⟨s0, s1⟩ := hSw
            go_simp
          simp only [List.getElem_toArray, List.getElem_cons_zero, List.getElem_cons_succ, Act.put, List.setIfInBounds_toArray, List.set_cons_zero, List.set_cons_succ]
          refine wpAnyH_done (by kernel_rfl) (NoPanic.normal ?_) _
          clear hHeld e0 e1
          go_wp2_with fail
          refine wp_region_noPanic ?_
          refine wp_region_held_drew (S := (fun w9 => w9.cell? ⟨lb, lo + X, none⟩ = some (.int .i64 fX) ∧ w9.cell? ⟨lb, lo + Y, none⟩ = some (.int .i64 fY))) (by kernel_rfl) C01.out (fun hHeld => ?_)
          refine wpAnyH_take (i := 0) (v := .slice (some ⟨lb, lo, none⟩) m lc) rfl (by kernel_rfl) (by kernel_rfl) (by kernel_rfl) (fun _ _ _ h => h) (Or.inl ⟨by rfl, fun w9 hSw => ?_⟩) hHeld ?_
          · obtain ⟨s0, s1⟩ := hSw
            go_simp
          simp only [List.getElem_toArray, List.getElem_cons_zero, List.getElem_cons_succ, Act.put, List.setIfInBounds_toArray, List.set_cons_zero, List.set_cons_succ]
          refine wpAnyH_take (i := 1) (v := .int .i64 (X : Int)) rfl (by kernel_rfl) (by kernel_rfl) (by kernel_rfl) (fun _ _ _ h => h) (Or.inl ⟨by rfl, fun w9 hSw => ?_⟩) hHeld ?_
          · obtain ⟨s0, s1⟩ := hSw
            go_simp
          simp only [List.getElem_toArray, List.getElem_cons_zero, List.getElem_cons_succ, Act.put, List.setIfInBounds_toArray, List.set_cons_zero, List.set_cons_succ]
          refine wpAnyH_take (i := 2) (v := .pointer (some ⟨lb, lo + X, none⟩)) rfl (by kernel_rfl) (by kernel_rfl) (by kernel_rfl) (fun _ _ _ h => h) (Or.inl ⟨by rfl, fun w9 hSw => ?_⟩) hHeld ?_
          · obtain ⟨s0, s1⟩ := hSw
            go_simp
            all_goals (first | rfl | omega | (rw [IntKind.wrap_i64]; omega) | (simp; done) | (simp; omega))
          simp only [List.getElem_toArray, List.getElem_cons_zero, List.getElem_cons_succ, Act.put, List.setIfInBounds_toArray, List.set_cons_zero, List.set_cons_succ]
          refine wpAnyH_take (i := 3) (v := .int .i64 fX) rfl (by kernel_rfl) (by kernel_rfl) (by kernel_rfl) (fun _ _ _ h => h) (Or.inl ⟨by rfl, fun w9 hSw => ?_⟩) hHeld ?_
          · obtain ⟨s0, s1⟩ := hSw
            go_simp
          simp only [List.getElem_toArray, List.getElem_cons_zero, List.getElem_cons_succ, Act.put, List.setIfInBounds_toArray, List.set_cons_zero, List.set_cons_succ]
          refine wpAnyH_take (i := 4) (v := .slice (some ⟨lb, lo, none⟩) m lc) rfl (by kernel_rfl) (by kernel_rfl) (by kernel_rfl) (fun _ _ _ h => h) (Or.inl ⟨by rfl, fun w9 hSw => ?_⟩) hHeld ?_
          · obtain ⟨s0, s1⟩ := hSw
            go_simp
          simp only [List.getElem_toArray, List.getElem_cons_zero, List.getElem_cons_succ, Act.put, List.setIfInBounds_toArray, List.set_cons_zero, List.set_cons_succ]
          refine wpAnyH_take (i := 5) (v := .int .i64 (Y : Int)) rfl (by kernel_rfl) (by kernel_rfl) (by kernel_rfl) (fun _ _ _ h => h) (Or.inl ⟨by rfl, fun w9 hSw => ?_⟩) hHeld ?_
          · obtain ⟨s0, s1⟩ := hSw
            go_simp
          simp only [List.getElem_toArray, List.getElem_cons_zero, List.getElem_cons_succ, Act.put, List.setIfInBounds_toArray, List.set_cons_zero, List.set_cons_succ]
          refine wpAnyH_take (i := 6) (v := .pointer (some ⟨lb, lo + Y, none⟩)) rfl (by kernel_rfl) (by kernel_rfl) (by kernel_rfl) (fun _ _ _ h => h) (Or.inl ⟨by rfl, fun w9 hSw => ?_⟩) hHeld ?_
          · obtain ⟨s0, s1⟩ := hSw
            go_simp
            all_goals (first | rfl | omega | (rw [IntKind.wrap_i64]; omega) | (simp; done) | (simp; omega))
          simp only [List.getElem_toArray, List.getElem_cons_zero, List.getElem_cons_succ, Act.put, List.setIfInBounds_toArray, List.set_cons_zero, List.set_cons_succ]
          refine wpAnyH_take (i := 7) (v := .int .i64 fY) rfl (by kernel_rfl) (by kernel_rfl) (by kernel_rfl) (fun _ _ _ h => h) (Or.inl ⟨by rfl, fun w9 hSw => ?_⟩) hHeld ?_
          · obtain ⟨s0, s1⟩ := hSw
            go_simp
          simp only [List.getElem_toArray, List.getElem_cons_zero, List.getElem_cons_succ, Act.put, List.setIfInBounds_toArray, List.set_cons_zero, List.set_cons_succ]
          refine wpAnyH_take (i := 8) (v := .bool false) rfl (by kernel_rfl) (by kernel_rfl) (by kernel_rfl) (fun _ _ _ h => h) (Or.inl ⟨by rfl, fun w9 hSw => ?_⟩) hHeld ?_
          · obtain ⟨s0, s1⟩ := hSw
            go_simp
            all_goals (first | rfl | omega | (rw [IntKind.wrap_i64]; omega) | (simp; done) | (simp; omega))
          simp only [List.getElem_toArray, List.getElem_cons_zero, List.getElem_cons_succ, Act.put, List.setIfInBounds_toArray, List.set_cons_zero, List.set_cons_succ]
          refine wpAnyH_done (by kernel_rfl) (NoPanic.normal ?_) _
          clear hHeld C01 k1
          go_wp2_with fail
          cases hfb : fallB f (toE es) i X with
          | true =>
            have g0 := G0.out
            rw [hfb] at g0
            have hI2 := hst true (by rw [hfb]; rfl)
            have Hfe : Hid (True) := trivial
            clear hst hfb G0
            refine wp_region_noPanic ?_
            refine OrdersZ.region_Z (S := (fun w9 => w9.cell? ⟨lb, lo + X, none⟩ = some (.int .i64 fX) ∧ w9.cell? ⟨lb, lo + Y, none⟩ = some (.int .i64 fY) ∧ w9.cell? ⟨w6.heap.size, X, none⟩ = some (.bool true))) 19 (by kernel_rfl) ⟨HL2.out.1, HL2.out.2.1, g0⟩ (fun hHeld => ?_)
            have g2 := HL2.out.2.2
            generalize wr.drew.drew.drew = Wd at *
            refine OrdersZ.takeZ (i := 0) (v := .slice (some ⟨w6.heap.size, 0, none⟩) m m) rfl (by kernel_rfl) (by kernel_rfl) (by kernel_rfl) (by kernel_rfl) (by kernel_rfl) (fun _ _ _ h => h) (Or.inl ⟨by rfl, fun w9 hSw => ?_⟩) hHeld ?_
            · obtain ⟨s0, s1, s2⟩ := hSw
              go_simp
            simp only [List.getElem_toArray, List.getElem_cons_zero, List.getElem_cons_succ, Act.put, List.setIfInBounds_toArray, List.set_cons_zero, List.set_cons_succ]
            refine OrdersZ.takeZ (i := 1) (v := .int .i64 (X : Int)) rfl (by kernel_rfl) (by kernel_rfl) (by kernel_rfl) (by kernel_rfl) (by kernel_rfl) (fun _ _ _ h => h) (Or.inl ⟨by rfl, fun w9 hSw => ?_⟩) hHeld ?_
            · obtain ⟨s0, s1, s2⟩ := hSw
              go_simp
            simp only [List.getElem_toArray, List.getElem_cons_zero, List.getElem_cons_succ, Act.put, List.setIfInBounds_toArray, List.set_cons_zero, List.set_cons_succ]
            refine OrdersZ.takeZ (i := 2) (v := .slice (some ⟨w6.heap.size, 0, none⟩) m m) rfl (by kernel_rfl) (by kernel_rfl) (by kernel_rfl) (by kernel_rfl) (by kernel_rfl) (fun _ _ _ h => h) (Or.inl ⟨by rfl, fun w9 hSw => ?_⟩) hHeld ?_
            · obtain ⟨s0, s1, s2⟩ := hSw
              go_simp
            simp only [List.getElem_toArray, List.getElem_cons_zero, List.getElem_cons_succ, Act.put, List.setIfInBounds_toArray, List.set_cons_zero, List.set_cons_succ]
            refine OrdersZ.takeZ (i := 3) (v := .int .i64 (X : Int)) rfl (by kernel_rfl) (by kernel_rfl) (by kernel_rfl) (by kernel_rfl) (by kernel_rfl) (fun _ _ _ h => h) (Or.inl ⟨by rfl, fun w9 hSw => ?_⟩) hHeld ?_
            · obtain ⟨s0, s1, s2⟩ := hSw
              go_simp
            simp only [List.getElem_toArray, List.getElem_cons_zero, List.getElem_cons_succ, Act.put, List.setIfInBounds_toArray, List.set_cons_zero, List.set_cons_succ]
            refine OrdersZ.takeZ (i := 4) (v := .pointer (some ⟨w6.heap.size, X, none⟩)) rfl (by kernel_rfl) (by kernel_rfl) (by kernel_rfl) (by kernel_rfl) (by kernel_rfl) (fun _ _ _ h => h) (Or.inl ⟨by rfl, fun w9 hSw => ?_⟩) hHeld ?_
            · obtain ⟨s0, s1, s2⟩ := hSw
              go_simp
              all_goals (first | rfl | omega | (exact Hfe.out) | (rw [IntKind.wrap_i64]; omega) | (simp [Hfe.out]; done) | (simp; done) | (simp; omega))
            simp only [List.getElem_toArray, List.getElem_cons_zero, List.getElem_cons_succ, Act.put, List.setIfInBounds_toArray, List.set_cons_zero, List.set_cons_succ]
            refine OrdersZ.takeZ (i := 5) (v := .bool true) rfl (by kernel_rfl) (by kernel_rfl) (by kernel_rfl) (by kernel_rfl) (by kernel_rfl) (fun _ _ _ h => h) (Or.inl ⟨by rfl, fun w9 hSw => ?_⟩) hHeld ?_
            · obtain ⟨s0, s1, s2⟩ := hSw
              go_simp
            simp only [List.getElem_toArray, List.getElem_cons_zero, List.getElem_cons_succ, Act.put, List.setIfInBounds_toArray, List.set_cons_zero, List.set_cons_succ]
            refine OrdersZ.takeZ (i := 6) (v := .bool true) rfl (by kernel_rfl) (by kernel_rfl) (by kernel_rfl) (by kernel_rfl) (by kernel_rfl) (fun _ _ _ h => h) (Or.inl ⟨by rfl, fun w9 hSw => ?_⟩) hHeld ?_
            · obtain ⟨s0, s1, s2⟩ := hSw
              go_simp
            simp only [List.getElem_toArray, List.getElem_cons_zero, List.getElem_cons_succ, Act.put, List.setIfInBounds_toArray, List.set_cons_zero, List.set_cons_succ]
            refine OrdersZ.takeZ (i := 7) (v := undef) rfl (by kernel_rfl) (by kernel_rfl) (by kernel_rfl) (by kernel_rfl) (by kernel_rfl) (fun _ _ _ h => h) (Or.inr ⟨by rfl, rfl⟩) hHeld ?_
            simp only [List.getElem_toArray, List.getElem_cons_zero, List.getElem_cons_succ, Act.put, List.setIfInBounds_toArray, List.set_cons_zero, List.set_cons_succ]
            refine OrdersZ.takeZ (i := 8) (v := undef) rfl (by kernel_rfl) (by kernel_rfl) (by kernel_rfl) (by kernel_rfl) (by kernel_rfl) (fun _ _ _ h => h) (Or.inr ⟨by rfl, rfl⟩) hHeld ?_
            simp only [List.getElem_toArray, List.getElem_cons_zero, List.getElem_cons_succ, Act.put, List.setIfInBounds_toArray, List.set_cons_zero, List.set_cons_succ]
            refine OrdersZ.takeZ (i := 9) (v := undef) rfl (by kernel_rfl) (by kernel_rfl) (by kernel_rfl) (by kernel_rfl) (by kernel_rfl) (fun _ _ _ h => h) (Or.inr ⟨by rfl, rfl⟩) hHeld ?_
            simp only [List.getElem_toArray, List.getElem_cons_zero, List.getElem_cons_succ, Act.put, List.setIfInBounds_toArray, List.set_cons_zero, List.set_cons_succ]
            refine OrdersZ.takeZ (i := 10) (v := undef) rfl (by kernel_rfl) (by kernel_rfl) (by kernel_rfl) (by kernel_rfl) (by kernel_rfl) (fun _ _ _ h => h) (Or.inr ⟨by rfl, rfl⟩) hHeld ?_
            simp only [List.getElem_toArray, List.getElem_cons_zero, List.getElem_cons_succ, Act.put, List.setIfInBounds_toArray, List.set_cons_zero, List.set_cons_succ]
            refine OrdersZ.takeZ (i := 11) (v := undef) rfl (by kernel_rfl) (by kernel_rfl) (by kernel_rfl) (by kernel_rfl) (by kernel_rfl) (fun _ _ _ h => h) (Or.inr ⟨by rfl, rfl⟩) hHeld ?_
            simp only [List.getElem_toArray, List.getElem_cons_zero, List.getElem_cons_succ, Act.put, List.setIfInBounds_toArray, List.set_cons_zero, List.set_cons_succ]
            refine OrdersZ.takeZ (i := 12) (v := undef) rfl (by kernel_rfl) (by kernel_rfl) (by kernel_rfl) (by kernel_rfl) (by kernel_rfl) (fun _ _ _ h => h) (Or.inr ⟨by rfl, rfl⟩) hHeld ?_
            simp only [List.getElem_toArray, List.getElem_cons_zero, List.getElem_cons_succ, Act.put, List.setIfInBounds_toArray, List.set_cons_zero, List.set_cons_succ]
            refine OrdersZ.takeZ (i := 13) (v := undef) rfl (by kernel_rfl) (by kernel_rfl) (by kernel_rfl) (by kernel_rfl) (by kernel_rfl) (fun _ _ _ h => h) (Or.inr ⟨by rfl, rfl⟩) hHeld ?_
            simp only [List.getElem_toArray, List.getElem_cons_zero, List.getElem_cons_succ, Act.put, List.setIfInBounds_toArray, List.set_cons_zero, List.set_cons_succ]
            refine OrdersZ.takeZ (i := 14) (v := undef) rfl (by kernel_rfl) (by kernel_rfl) (by kernel_rfl) (by kernel_rfl) (by kernel_rfl) (fun _ _ _ h => h) (Or.inr ⟨by rfl, rfl⟩) hHeld ?_
            simp only [List.getElem_toArray, List.getElem_cons_zero, List.getElem_cons_succ, Act.put, List.setIfInBounds_toArray, List.set_cons_zero, List.set_cons_succ]
            refine OrdersZ.takeZ (i := 15) (v := undef) rfl (by kernel_rfl) (by kernel_rfl) (by kernel_rfl) (by kernel_rfl) (by kernel_rfl) (fun _ _ _ h => h) (Or.inr ⟨by rfl, rfl⟩) hHeld ?_
            simp only [List.getElem_toArray, List.getElem_cons_zero, List.getElem_cons_succ, Act.put, List.setIfInBounds_toArray, List.set_cons_zero, List.set_cons_succ]
            refine OrdersZ.takeZ (i := 16) (v := undef) rfl (by kernel_rfl) (by kernel_rfl) (by kernel_rfl) (by kernel_rfl) (by kernel_rfl) (fun _ _ _ h => h) (Or.inr ⟨by rfl, rfl⟩) hHeld ?_
            simp only [List.getElem_toArray, List.getElem_cons_zero, List.getElem_cons_succ, Act.put, List.setIfInBounds_toArray, List.set_cons_zero, List.set_cons_succ]
            refine OrdersZ.takeZ (i := 17) (v := .bool true) rfl (by kernel_rfl) (by kernel_rfl) (by kernel_rfl) (by kernel_rfl) (by kernel_rfl) (fun _ _ _ h => h) (Or.inl ⟨by rfl, fun w9 hSw => ?_⟩) hHeld ?_
            · obtain ⟨s0, s1, s2⟩ := hSw
              go_simp
            simp only [List.getElem_toArray, List.getElem_cons_zero, List.getElem_cons_succ, Act.put, List.setIfInBounds_toArray, List.set_cons_zero, List.set_cons_succ]
            refine OrdersZ.takeZ (i := 18) (v := .pointer (some ⟨w6.heap.size, X, none⟩)) rfl (by kernel_rfl) (by kernel_rfl) (by kernel_rfl) (by kernel_rfl) (by kernel_rfl) (fun _ _ _ h => h) (Or.inl ⟨by rfl, fun w9 hSw => ?_⟩) hHeld ?_
            · obtain ⟨s0, s1, s2⟩ := hSw
              go_simp
              all_goals (first | rfl | omega | (exact Hfe.out) | (rw [IntKind.wrap_i64]; omega) | (simp [Hfe.out]; done) | (simp; done) | (simp; omega))
            simp only [List.getElem_toArray, List.getElem_cons_zero, List.getElem_cons_succ, Act.put, List.setIfInBounds_toArray, List.set_cons_zero, List.set_cons_succ]
            refine OrdersZ.lastZ (by kernel_rfl) rfl (fun K hK => ?_)
            go_simp
            refine hK.out _ _ ?_
            clear hK K
            refine OrdersZ.doneZ (by kernel_rfl) (NoPanic.normal ?_) _
            clear hHeld g0 g2 HL2
            go_wp2
            go_roundw
            case rel => exact ⟨i + 1, by omega, by go_num, hI2⟩
            case measure => simp [intOf]; omega
          | false =>
            have g0 := G0.out
            rw [hfb] at g0
            by_cases hd : fX = fY + 1
            · have hI2 := hst true (by rw [hfb, decide_eq_true hd]; rfl)
              have Hfe : Hid (fX = fY + 1) := hd
              clear hst hfb G0 hd
              refine wp_region_noPanic ?_
              refine OrdersZ.region_Z (S := (fun w9 => w9.cell? ⟨lb, lo + X, none⟩ = some (.int .i64 fX) ∧ w9.cell? ⟨lb, lo + Y, none⟩ = some (.int .i64 fY) ∧ w9.cell? ⟨w6.heap.size, X, none⟩ = some (.bool false))) 19 (by kernel_rfl) ⟨HL2.out.1, HL2.out.2.1, g0⟩ (fun hHeld => ?_)
              have g2 := HL2.out.2.2
              generalize wr.drew.drew.drew = Wd at *
              refine OrdersZ.takeZ (i := 0) (v := .slice (some ⟨w6.heap.size, 0, none⟩) m m) rfl (by kernel_rfl) (by kernel_rfl) (by kernel_rfl) (by kernel_rfl) (by kernel_rfl) (fun _ _ _ h => h) (Or.inl ⟨by rfl, fun w9 hSw => ?_⟩) hHeld ?_
              · obtain ⟨s0, s1, s2⟩ := hSw
                go_simp
              simp only [List.getElem_toArray, List.getElem_cons_zero, List.getElem_cons_succ, Act.put, List.setIfInBounds_toArray, List.set_cons_zero, List.set_cons_succ]
              refine OrdersZ.takeZ (i := 1) (v := .int .i64 (X : Int)) rfl (by kernel_rfl) (by kernel_rfl) (by kernel_rfl) (by kernel_rfl) (by kernel_rfl) (fun _ _ _ h => h) (Or.inl ⟨by rfl, fun w9 hSw => ?_⟩) hHeld ?_
              · obtain ⟨s0, s1, s2⟩ := hSw
                go_simp
              simp only [List.getElem_toArray, List.getElem_cons_zero, List.getElem_cons_succ, Act.put, List.setIfInBounds_toArray, List.set_cons_zero, List.set_cons_succ]
              refine OrdersZ.takeZ (i := 2) (v := .slice (some ⟨w6.heap.size, 0, none⟩) m m) rfl (by kernel_rfl) (by kernel_rfl) (by kernel_rfl) (by kernel_rfl) (by kernel_rfl) (fun _ _ _ h => h) (Or.inl ⟨by rfl, fun w9 hSw => ?_⟩) hHeld ?_
              · obtain ⟨s0, s1, s2⟩ := hSw
                go_simp
              simp only [List.getElem_toArray, List.getElem_cons_zero, List.getElem_cons_succ, Act.put, List.setIfInBounds_toArray, List.set_cons_zero, List.set_cons_succ]
              refine OrdersZ.takeZ (i := 3) (v := .int .i64 (X : Int)) rfl (by kernel_rfl) (by kernel_rfl) (by kernel_rfl) (by kernel_rfl) (by kernel_rfl) (fun _ _ _ h => h) (Or.inl ⟨by rfl, fun w9 hSw => ?_⟩) hHeld ?_
              · obtain ⟨s0, s1, s2⟩ := hSw
                go_simp
              simp only [List.getElem_toArray, List.getElem_cons_zero, List.getElem_cons_succ, Act.put, List.setIfInBounds_toArray, List.set_cons_zero, List.set_cons_succ]
              refine OrdersZ.takeZ (i := 4) (v := .pointer (some ⟨w6.heap.size, X, none⟩)) rfl (by kernel_rfl) (by kernel_rfl) (by kernel_rfl) (by kernel_rfl) (by kernel_rfl) (fun _ _ _ h => h) (Or.inl ⟨by rfl, fun w9 hSw => ?_⟩) hHeld ?_
              · obtain ⟨s0, s1, s2⟩ := hSw
                go_simp
                all_goals (first | rfl | omega | (exact Hfe.out) | (rw [IntKind.wrap_i64]; omega) | (simp [Hfe.out]; done) | (simp; done) | (simp; omega))
              simp only [List.getElem_toArray, List.getElem_cons_zero, List.getElem_cons_succ, Act.put, List.setIfInBounds_toArray, List.set_cons_zero, List.set_cons_succ]
              refine OrdersZ.takeZ (i := 5) (v := .bool false) rfl (by kernel_rfl) (by kernel_rfl) (by kernel_rfl) (by kernel_rfl) (by kernel_rfl) (fun _ _ _ h => h) (Or.inl ⟨by rfl, fun w9 hSw => ?_⟩) hHeld ?_
              · obtain ⟨s0, s1, s2⟩ := hSw
                go_simp
              simp only [List.getElem_toArray, List.getElem_cons_zero, List.getElem_cons_succ, Act.put, List.setIfInBounds_toArray, List.set_cons_zero, List.set_cons_succ]
              refine OrdersZ.takeZ (i := 6) (v := .bool false) rfl (by kernel_rfl) (by kernel_rfl) (by kernel_rfl) (by kernel_rfl) (by kernel_rfl) (fun _ _ _ h => h) (Or.inl ⟨by rfl, fun w9 hSw => ?_⟩) hHeld ?_
              · obtain ⟨s0, s1, s2⟩ := hSw
                go_simp
              simp only [List.getElem_toArray, List.getElem_cons_zero, List.getElem_cons_succ, Act.put, List.setIfInBounds_toArray, List.set_cons_zero, List.set_cons_succ]
              refine OrdersZ.takeZ (i := 7) (v := .slice (some ⟨lb, lo, none⟩) m lc) rfl (by kernel_rfl) (by kernel_rfl) (by kernel_rfl) (by kernel_rfl) (by kernel_rfl) (fun _ _ _ h => h) (Or.inl ⟨by rfl, fun w9 hSw => ?_⟩) hHeld ?_
              · obtain ⟨s0, s1, s2⟩ := hSw
                go_simp
              simp only [List.getElem_toArray, List.getElem_cons_zero, List.getElem_cons_succ, Act.put, List.setIfInBounds_toArray, List.set_cons_zero, List.set_cons_succ]
              refine OrdersZ.takeZ (i := 8) (v := .int .i64 (X : Int)) rfl (by kernel_rfl) (by kernel_rfl) (by kernel_rfl) (by kernel_rfl) (by kernel_rfl) (fun _ _ _ h => h) (Or.inl ⟨by rfl, fun w9 hSw => ?_⟩) hHeld ?_
              · obtain ⟨s0, s1, s2⟩ := hSw
                go_simp
              simp only [List.getElem_toArray, List.getElem_cons_zero, List.getElem_cons_succ, Act.put, List.setIfInBounds_toArray, List.set_cons_zero, List.set_cons_succ]
              refine OrdersZ.takeZ (i := 9) (v := .pointer (some ⟨lb, lo + X, none⟩)) rfl (by kernel_rfl) (by kernel_rfl) (by kernel_rfl) (by kernel_rfl) (by kernel_rfl) (fun _ _ _ h => h) (Or.inl ⟨by rfl, fun w9 hSw => ?_⟩) hHeld ?_
              · obtain ⟨s0, s1, s2⟩ := hSw
                go_simp
                all_goals (first | rfl | omega | (exact Hfe.out) | (rw [IntKind.wrap_i64]; omega) | (simp [Hfe.out]; done) | (simp; done) | (simp; omega))
              simp only [List.getElem_toArray, List.getElem_cons_zero, List.getElem_cons_succ, Act.put, List.setIfInBounds_toArray, List.set_cons_zero, List.set_cons_succ]
              refine OrdersZ.takeZ (i := 10) (v := .int .i64 fX) rfl (by kernel_rfl) (by kernel_rfl) (by kernel_rfl) (by kernel_rfl) (by kernel_rfl) (fun _ _ _ h => h) (Or.inl ⟨by rfl, fun w9 hSw => ?_⟩) hHeld ?_
              · obtain ⟨s0, s1, s2⟩ := hSw
                go_simp
              simp only [List.getElem_toArray, List.getElem_cons_zero, List.getElem_cons_succ, Act.put, List.setIfInBounds_toArray, List.set_cons_zero, List.set_cons_succ]
              refine OrdersZ.takeZ (i := 11) (v := .slice (some ⟨lb, lo, none⟩) m lc) rfl (by kernel_rfl) (by kernel_rfl) (by kernel_rfl) (by kernel_rfl) (by kernel_rfl) (fun _ _ _ h => h) (Or.inl ⟨by rfl, fun w9 hSw => ?_⟩) hHeld ?_
              · obtain ⟨s0, s1, s2⟩ := hSw
                go_simp
              simp only [List.getElem_toArray, List.getElem_cons_zero, List.getElem_cons_succ, Act.put, List.setIfInBounds_toArray, List.set_cons_zero, List.set_cons_succ]
              refine OrdersZ.takeZ (i := 12) (v := .int .i64 (Y : Int)) rfl (by kernel_rfl) (by kernel_rfl) (by kernel_rfl) (by kernel_rfl) (by kernel_rfl) (fun _ _ _ h => h) (Or.inl ⟨by rfl, fun w9 hSw => ?_⟩) hHeld ?_
              · obtain ⟨s0, s1, s2⟩ := hSw
                go_simp
              simp only [List.getElem_toArray, List.getElem_cons_zero, List.getElem_cons_succ, Act.put, List.setIfInBounds_toArray, List.set_cons_zero, List.set_cons_succ]
              refine OrdersZ.takeZ (i := 13) (v := .pointer (some ⟨lb, lo + Y, none⟩)) rfl (by kernel_rfl) (by kernel_rfl) (by kernel_rfl) (by kernel_rfl) (by kernel_rfl) (fun _ _ _ h => h) (Or.inl ⟨by rfl, fun w9 hSw => ?_⟩) hHeld ?_
              · obtain ⟨s0, s1, s2⟩ := hSw
                go_simp
                all_goals (first | rfl | omega | (exact Hfe.out) | (rw [IntKind.wrap_i64]; omega) | (simp [Hfe.out]; done) | (simp; done) | (simp; omega))
              simp only [List.getElem_toArray, List.getElem_cons_zero, List.getElem_cons_succ, Act.put, List.setIfInBounds_toArray, List.set_cons_zero, List.set_cons_succ]
              refine OrdersZ.takeZ (i := 14) (v := .int .i64 fY) rfl (by kernel_rfl) (by kernel_rfl) (by kernel_rfl) (by kernel_rfl) (by kernel_rfl) (fun _ _ _ h => h) (Or.inl ⟨by rfl, fun w9 hSw => ?_⟩) hHeld ?_
              · obtain ⟨s0, s1, s2⟩ := hSw
                go_simp
              simp only [List.getElem_toArray, List.getElem_cons_zero, List.getElem_cons_succ, Act.put, List.setIfInBounds_toArray, List.set_cons_zero, List.set_cons_succ]
              refine OrdersZ.takeZ (i := 15) (v := .int .i64 (fY + 1)) rfl (by kernel_rfl) (by kernel_rfl) (by kernel_rfl) (by kernel_rfl) (by kernel_rfl) (fun _ _ _ h => h) (Or.inl ⟨by rfl, fun w9 hSw => ?_⟩) hHeld ?_
              · obtain ⟨s0, s1, s2⟩ := hSw
                go_simp
                all_goals (first | rfl | omega | (exact Hfe.out) | (rw [IntKind.wrap_i64]; omega) | (simp [Hfe.out]; done) | (simp; done) | (simp; omega))
              simp only [List.getElem_toArray, List.getElem_cons_zero, List.getElem_cons_succ, Act.put, List.setIfInBounds_toArray, List.set_cons_zero, List.set_cons_succ]
              refine OrdersZ.takeZ (i := 16) (v := .bool true) rfl (by kernel_rfl) (by kernel_rfl) (by kernel_rfl) (by kernel_rfl) (by kernel_rfl) (fun _ _ _ h => h) (Or.inl ⟨by rfl, fun w9 hSw => ?_⟩) hHeld ?_
              · obtain ⟨s0, s1, s2⟩ := hSw
                go_simp
                all_goals (first | rfl | omega | (exact Hfe.out) | (rw [IntKind.wrap_i64]; omega) | (simp [Hfe.out]; done) | (simp; done) | (simp; omega))
              simp only [List.getElem_toArray, List.getElem_cons_zero, List.getElem_cons_succ, Act.put, List.setIfInBounds_toArray, List.set_cons_zero, List.set_cons_succ]
              refine OrdersZ.takeZ (i := 17) (v := .bool true) rfl (by kernel_rfl) (by kernel_rfl) (by kernel_rfl) (by kernel_rfl) (by kernel_rfl) (fun _ _ _ h => h) (Or.inl ⟨by rfl, fun w9 hSw => ?_⟩) hHeld ?_
              · obtain ⟨s0, s1, s2⟩ := hSw
                go_simp
              simp only [List.getElem_toArray, List.getElem_cons_zero, List.getElem_cons_succ, Act.put, List.setIfInBounds_toArray, List.set_cons_zero, List.set_cons_succ]
              refine OrdersZ.takeZ (i := 18) (v := .pointer (some ⟨w6.heap.size, X, none⟩)) rfl (by kernel_rfl) (by kernel_rfl) (by kernel_rfl) (by kernel_rfl) (by kernel_rfl) (fun _ _ _ h => h) (Or.inl ⟨by rfl, fun w9 hSw => ?_⟩) hHeld ?_
              · obtain ⟨s0, s1, s2⟩ := hSw
                go_simp
                all_goals (first | rfl | omega | (exact Hfe.out) | (rw [IntKind.wrap_i64]; omega) | (simp [Hfe.out]; done) | (simp; done) | (simp; omega))
              simp only [List.getElem_toArray, List.getElem_cons_zero, List.getElem_cons_succ, Act.put, List.setIfInBounds_toArray, List.set_cons_zero, List.set_cons_succ]
              refine OrdersZ.lastZ (by kernel_rfl) rfl (fun K hK => ?_)
              go_simp
              refine hK.out _ _ ?_
              clear hK K
              refine OrdersZ.doneZ (by kernel_rfl) (NoPanic.normal ?_) _
              clear hHeld g0 g2 HL2
              go_wp2
              go_roundw
              case rel => exact ⟨i + 1, by omega, by go_num, hI2⟩
              case measure => simp [intOf]; omega
            · have hI2 := hst false (by rw [hfb, decide_eq_false hd]; rfl)
              have Hfe : Hid (¬ fX = fY + 1) := hd
              clear hst hfb G0 hd
              refine wp_region_noPanic ?_
              refine OrdersZ.region_Z (S := (fun w9 => w9.cell? ⟨lb, lo + X, none⟩ = some (.int .i64 fX) ∧ w9.cell? ⟨lb, lo + Y, none⟩ = some (.int .i64 fY) ∧ w9.cell? ⟨w6.heap.size, X, none⟩ = some (.bool false))) 19 (by kernel_rfl) ⟨HL2.out.1, HL2.out.2.1, g0⟩ (fun hHeld => ?_)
              have g2 := HL2.out.2.2
              generalize wr.drew.drew.drew = Wd at *
              refine OrdersZ.takeZ (i := 0) (v := .slice (some ⟨w6.heap.size, 0, none⟩) m m) rfl (by kernel_rfl) (by kernel_rfl) (by kernel_rfl) (by kernel_rfl) (by kernel_rfl) (fun _ _ _ h => h) (Or.inl ⟨by rfl, fun w9 hSw => ?_⟩) hHeld ?_
              · obtain ⟨s0, s1, s2⟩ := hSw
                go_simp
              simp only [List.getElem_toArray, List.getElem_cons_zero, List.getElem_cons_succ, Act.put, List.setIfInBounds_toArray, List.set_cons_zero, List.set_cons_succ]
              refine OrdersZ.takeZ (i := 1) (v := .int .i64 (X : Int)) rfl (by kernel_rfl) (by kernel_rfl) (by kernel_rfl) (by kernel_rfl) (by kernel_rfl) (fun _ _ _ h => h) (Or.inl ⟨by rfl, fun w9 hSw => ?_⟩) hHeld ?_
              · obtain ⟨s0, s1, s2⟩ := hSw
                go_simp
              simp only [List.getElem_toArray, List.getElem_cons_zero, List.getElem_cons_succ, Act.put, List.setIfInBounds_toArray, List.set_cons_zero, List.set_cons_succ]
              refine OrdersZ.takeZ (i := 2) (v := .slice (some ⟨w6.heap.size, 0, none⟩) m m) rfl (by kernel_rfl) (by kernel_rfl) (by kernel_rfl) (by kernel_rfl) (by kernel_rfl) (fun _ _ _ h => h) (Or.inl ⟨by rfl, fun w9 hSw => ?_⟩) hHeld ?_
              · obtain ⟨s0, s1, s2⟩ := hSw
                go_simp
              simp only [List.getElem_toArray, List.getElem_cons_zero, List.getElem_cons_succ, Act.put, List.setIfInBounds_toArray, List.set_cons_zero, List.set_cons_succ]
              refine OrdersZ.takeZ (i := 3) (v := .int .i64 (X : Int)) rfl (by kernel_rfl) (by kernel_rfl) (by kernel_rfl) (by kernel_rfl) (by kernel_rfl) (fun _ _ _ h => h) (Or.inl ⟨by rfl, fun w9 hSw => ?_⟩) hHeld ?_
              · obtain ⟨s0, s1, s2⟩ := hSw
                go_simp
              simp only [List.getElem_toArray, List.getElem_cons_zero, List.getElem_cons_succ, Act.put, List.setIfInBounds_toArray, List.set_cons_zero, List.set_cons_succ]
              refine OrdersZ.takeZ (i := 4) (v := .pointer (some ⟨w6.heap.size, X, none⟩)) rfl (by kernel_rfl) (by kernel_rfl) (by kernel_rfl) (by kernel_rfl) (by kernel_rfl) (fun _ _ _ h => h) (Or.inl ⟨by rfl, fun w9 hSw => ?_⟩) hHeld ?_
              · obtain ⟨s0, s1, s2⟩ := hSw
                go_simp
                all_goals (first | rfl | omega | (exact Hfe.out) | (rw [IntKind.wrap_i64]; omega) | (simp [Hfe.out]; done) | (simp; done) | (simp; omega))
              simp only [List.getElem_toArray, List.getElem_cons_zero, List.getElem_cons_succ, Act.put, List.setIfInBounds_toArray, List.set_cons_zero, List.set_cons_succ]
              refine OrdersZ.takeZ (i := 5) (v := .bool false) rfl (by kernel_rfl) (by kernel_rfl) (by kernel_rfl) (by kernel_rfl) (by kernel_rfl) (fun _ _ _ h => h) (Or.inl ⟨by rfl, fun w9 hSw => ?_⟩) hHeld ?_
              · obtain ⟨s0, s1, s2⟩ := hSw
                go_simp
              simp only [List.getElem_toArray, List.getElem_cons_zero, List.getElem_cons_succ, Act.put, List.setIfInBounds_toArray, List.set_cons_zero, List.set_cons_succ]
              refine OrdersZ.takeZ (i := 6) (v := .bool false) rfl (by kernel_rfl) (by kernel_rfl) (by kernel_rfl) (by kernel_rfl) (by kernel_rfl) (fun _ _ _ h => h) (Or.inl ⟨by rfl, fun w9 hSw => ?_⟩) hHeld ?_
              · obtain ⟨s0, s1, s2⟩ := hSw
                go_simp
              simp only [List.getElem_toArray, List.getElem_cons_zero, List.getElem_cons_succ, Act.put, List.setIfInBounds_toArray, List.set_cons_zero, List.set_cons_succ]
              refine OrdersZ.takeZ (i := 7) (v := .slice (some ⟨lb, lo, none⟩) m lc) rfl (by kernel_rfl) (by kernel_rfl) (by kernel_rfl) (by kernel_rfl) (by kernel_rfl) (fun _ _ _ h => h) (Or.inl ⟨by rfl, fun w9 hSw => ?_⟩) hHeld ?_
              · obtain ⟨s0, s1, s2⟩ := hSw
                go_simp
              simp only [List.getElem_toArray, List.getElem_cons_zero, List.getElem_cons_succ, Act.put, List.setIfInBounds_toArray, List.set_cons_zero, List.set_cons_succ]
              refine OrdersZ.takeZ (i := 8) (v := .int .i64 (X : Int)) rfl (by kernel_rfl) (by kernel_rfl) (by kernel_rfl) (by kernel_rfl) (by kernel_rfl) (fun _ _ _ h => h) (Or.inl ⟨by rfl, fun w9 hSw => ?_⟩) hHeld ?_
              · obtain ⟨s0, s1, s2⟩ := hSw
                go_simp
              simp only [List.getElem_toArray, List.getElem_cons_zero, List.getElem_cons_succ, Act.put, List.setIfInBounds_toArray, List.set_cons_zero, List.set_cons_succ]
              refine OrdersZ.takeZ (i := 9) (v := .pointer (some ⟨lb, lo + X, none⟩)) rfl (by kernel_rfl) (by kernel_rfl) (by kernel_rfl) (by kernel_rfl) (by kernel_rfl) (fun _ _ _ h => h) (Or.inl ⟨by rfl, fun w9 hSw => ?_⟩) hHeld ?_
              · obtain ⟨s0, s1, s2⟩ := hSw
                go_simp
                all_goals (first | rfl | omega | (exact Hfe.out) | (rw [IntKind.wrap_i64]; omega) | (simp [Hfe.out]; done) | (simp; done) | (simp; omega))
              simp only [List.getElem_toArray, List.getElem_cons_zero, List.getElem_cons_succ, Act.put, List.setIfInBounds_toArray, List.set_cons_zero, List.set_cons_succ]
              refine OrdersZ.takeZ (i := 10) (v := .int .i64 fX) rfl (by kernel_rfl) (by kernel_rfl) (by kernel_rfl) (by kernel_rfl) (by kernel_rfl) (fun _ _ _ h => h) (Or.inl ⟨by rfl, fun w9 hSw => ?_⟩) hHeld ?_
              · obtain ⟨s0, s1, s2⟩ := hSw
                go_simp
              simp only [List.getElem_toArray, List.getElem_cons_zero, List.getElem_cons_succ, Act.put, List.setIfInBounds_toArray, List.set_cons_zero, List.set_cons_succ]
              refine OrdersZ.takeZ (i := 11) (v := .slice (some ⟨lb, lo, none⟩) m lc) rfl (by kernel_rfl) (by kernel_rfl) (by kernel_rfl) (by kernel_rfl) (by kernel_rfl) (fun _ _ _ h => h) (Or.inl ⟨by rfl, fun w9 hSw => ?_⟩) hHeld ?_
              · obtain ⟨s0, s1, s2⟩ := hSw
                go_simp
              simp only [List.getElem_toArray, List.getElem_cons_zero, List.getElem_cons_succ, Act.put, List.setIfInBounds_toArray, List.set_cons_zero, List.set_cons_succ]
              refine OrdersZ.takeZ (i := 12) (v := .int .i64 (Y : Int)) rfl (by kernel_rfl) (by kernel_rfl) (by kernel_rfl) (by kernel_rfl) (by kernel_rfl) (fun _ _ _ h => h) (Or.inl ⟨by rfl, fun w9 hSw => ?_⟩) hHeld ?_
              · obtain ⟨s0, s1, s2⟩ := hSw
                go_simp
              simp only [List.getElem_toArray, List.getElem_cons_zero, List.getElem_cons_succ, Act.put, List.setIfInBounds_toArray, List.set_cons_zero, List.set_cons_succ]
              refine OrdersZ.takeZ (i := 13) (v := .pointer (some ⟨lb, lo + Y, none⟩)) rfl (by kernel_rfl) (by kernel_rfl) (by kernel_rfl) (by kernel_rfl) (by kernel_rfl) (fun _ _ _ h => h) (Or.inl ⟨by rfl, fun w9 hSw => ?_⟩) hHeld ?_
              · obtain ⟨s0, s1, s2⟩ := hSw
                go_simp
                all_goals (first | rfl | omega | (exact Hfe.out) | (rw [IntKind.wrap_i64]; omega) | (simp [Hfe.out]; done) | (simp; done) | (simp; omega))
              simp only [List.getElem_toArray, List.getElem_cons_zero, List.getElem_cons_succ, Act.put, List.setIfInBounds_toArray, List.set_cons_zero, List.set_cons_succ]
              refine OrdersZ.takeZ (i := 14) (v := .int .i64 fY) rfl (by kernel_rfl) (by kernel_rfl) (by kernel_rfl) (by kernel_rfl) (by kernel_rfl) (fun _ _ _ h => h) (Or.inl ⟨by rfl, fun w9 hSw => ?_⟩) hHeld ?_
              · obtain ⟨s0, s1, s2⟩ := hSw
                go_simp
              simp only [List.getElem_toArray, List.getElem_cons_zero, List.getElem_cons_succ, Act.put, List.setIfInBounds_toArray, List.set_cons_zero, List.set_cons_succ]
              refine OrdersZ.takeZ (i := 15) (v := .int .i64 (fY + 1)) rfl (by kernel_rfl) (by kernel_rfl) (by kernel_rfl) (by kernel_rfl) (by kernel_rfl) (fun _ _ _ h => h) (Or.inl ⟨by rfl, fun w9 hSw => ?_⟩) hHeld ?_
              · obtain ⟨s0, s1, s2⟩ := hSw
                go_simp
                all_goals (first | rfl | omega | (exact Hfe.out) | (rw [IntKind.wrap_i64]; omega) | (simp [Hfe.out]; done) | (simp; done) | (simp; omega))
              simp only [List.getElem_toArray, List.getElem_cons_zero, List.getElem_cons_succ, Act.put, List.setIfInBounds_toArray, List.set_cons_zero, List.set_cons_succ]
              refine OrdersZ.takeZ (i := 16) (v := .bool false) rfl (by kernel_rfl) (by kernel_rfl) (by kernel_rfl) (by kernel_rfl) (by kernel_rfl) (fun _ _ _ h => h) (Or.inl ⟨by rfl, fun w9 hSw => ?_⟩) hHeld ?_
              · obtain ⟨s0, s1, s2⟩ := hSw
                go_simp
                all_goals (first | rfl | omega | (exact Hfe.out) | (rw [IntKind.wrap_i64]; omega) | (simp [Hfe.out]; done) | (simp; done) | (simp; omega))
              simp only [List.getElem_toArray, List.getElem_cons_zero, List.getElem_cons_succ, Act.put, List.setIfInBounds_toArray, List.set_cons_zero, List.set_cons_succ]
              refine OrdersZ.takeZ (i := 17) (v := .bool false) rfl (by kernel_rfl) (by kernel_rfl) (by kernel_rfl) (by kernel_rfl) (by kernel_rfl) (fun _ _ _ h => h) (Or.inl ⟨by rfl, fun w9 hSw => ?_⟩) hHeld ?_
              · obtain ⟨s0, s1, s2⟩ := hSw
                go_simp
              simp only [List.getElem_toArray, List.getElem_cons_zero, List.getElem_cons_succ, Act.put, List.setIfInBounds_toArray, List.set_cons_zero, List.set_cons_succ]
              refine OrdersZ.takeZ (i := 18) (v := .pointer (some ⟨w6.heap.size, X, none⟩)) rfl (by kernel_rfl) (by kernel_rfl) (by kernel_rfl) (by kernel_rfl) (by kernel_rfl) (fun _ _ _ h => h) (Or.inl ⟨by rfl, fun w9 hSw => ?_⟩) hHeld ?_
              · obtain ⟨s0, s1, s2⟩ := hSw
                go_simp
                all_goals (first | rfl | omega | (exact Hfe.out) | (rw [IntKind.wrap_i64]; omega) | (simp [Hfe.out]; done) | (simp; done) | (simp; omega))
              simp only [List.getElem_toArray, List.getElem_cons_zero, List.getElem_cons_succ, Act.put, List.setIfInBounds_toArray, List.set_cons_zero, List.set_cons_succ]
              refine OrdersZ.lastZ (by kernel_rfl) rfl (fun K hK => ?_)
              go_simp
              refine hK.out _ _ ?_
              clear hK K
              refine OrdersZ.doneZ (by kernel_rfl) (NoPanic.normal ?_) _
              clear hHeld g0 g2 HL2
              go_wp2
              go_roundw
              case rel => exact ⟨i + 1, by omega, by go_num, hI2⟩
              case measure => simp [intOf]; omega
        · have hli2 : ¬ (i : Int) < (es.length : Int) := by omega
          obtain ⟨wf, rfl⟩ : ∃ x, x = wr := ⟨wr, rfl⟩
          have hie : i = es.length := by omega
          have HFB : Hid (BRow wf w6.heap.size m (fallB f (toE es) (toE es).length)) := by have := hI.out.1; rw [hie, ← toE_length] at this; exact this
          have HBf : Hid (Below w6.heap.size w6 wf ∧ w6.heap.size < wf.heap.size) := hI.out.2
          have HGL2 : Hid (IRow wf la (rowOf m f)) := IRow.below HGL.out hI.out.2.1 (Nat.le_refl _)
          have HGO2 : Hid (IRow wf oa (ints L)) := IRow.below HGO.out hI.out.2.1 (Nat.le_refl _)
          have hmk := madeI_any m (by omega) wf
          have HI0 : Hid (NRow (wf.alloc (.cells (madeCells #[.int .i64 0] m) 3)) wf.heap.size m (placeI L 0) ∧ Below wf.heap.size wf (wf.alloc (.cells (madeCells #[.int .i64 0] m) 3))) := ⟨(NRow.made m wf).congr (fun y _ => by rw [placeI_zero]), (Below.refl _ _).alloc (Nat.le_refl _) _⟩
          clear hI hie
          go_wp2
          clear hmk
          go_loopw [19] (fun s wr => ∃ i : Nat, i ≤ m ∧ s = .int .i64 (i : Int) ∧ Hid (NRow wr wf.heap.size m (placeI L i) ∧ Below wf.heap.size wf wr)) (fun s _ => m - (intOf s).toNat)
          case atStart => exact ⟨0, by omega, rfl, HI0⟩
          case round =>
            clear HI0
            obtain ⟨j, hj, rfl, hI⟩ := hrel
            by_cases hlj : j < m
            · have hlj2 : (j : Int) < (m : Int) := by omega
              obtain ⟨x, hx1⟩ : ∃ x, L[j]? = some x := ⟨L[j]'(by rw [HLL.out]; exact hlj), List.getElem?_eq_getElem _⟩
              have hxm := HLT.out x (List.mem_of_getElem? hx1)
              obtain ⟨lb, lo, rfl, c0⟩ := (IRow.below HGL2.out hI.out.2 (Nat.le_refl _)) j (f j) (rowOf_get f hlj)
              obtain ⟨ob, oo, rfl, c1⟩ := (IRow.below HGO2.out hI.out.2 (Nat.le_refl _)) j (x : Int) (by rw [ints_get, hx1]; rfl)
              obtain ⟨g0, _⟩ := HFB.out.below hI.out.2 (by exact HBf.out.2) j hlj
              obtain ⟨n0, n1⟩ := hI.out.1 x hxm
              rw [placeI_free HLN.out hx1] at n0
              have hI2 : Hid (NRow (wr.setCell ⟨wf.heap.size, x, none⟩ (.int .i64 ((j : Int) + 1))) wf.heap.size m (placeI L (j + 1)) ∧ Below wf.heap.size wf (wr.setCell ⟨wf.heap.size, x, none⟩ (.int .i64 ((j : Int) + 1)))) := ⟨(hI.out.1.put hxm _).congr (fun z _ => (placeI_succ HLN.out hx1 z).symm), hI.out.2.setCell (p := ⟨wf.heap.size, x, none⟩) (Nat.le_refl _) _⟩
              have b0 := HF0.out j
              have hfa := HF2.out j hlj
              have k1 : ¬ (x : Int) < 0 := by omega
              have k2 : ¬ (m : Int) ≤ (x : Int) := by omega
              have k3 : (x : Int) < (m : Int) := by omega
              generalize f j = fj at *
              have k4 : ¬ fj < 0 := by omega
              by_cases hpos : 0 < fj
              · rw [hfa hpos] at g0
                clear hI hx1 hfa b0
                go_wp2
                go_roundw
                case rel => exact ⟨j + 1, by omega, by go_num, hI2⟩
                case measure => simp [intOf]; omega
              · clear hI hx1 hfa b0
                go_wp2
                go_roundw
                case rel => exact ⟨j + 1, by omega, by go_num, hI2⟩
                case measure => simp [intOf]; omega
            · have hlj2 : ¬ (j : Int) < (m : Int) := by omega
              obtain ⟨wp, rfl⟩ : ∃ x, x = wr := ⟨wr, rfl⟩
              have hje : j = m := by omega
              have HPN : Hid (NRow wp wf.heap.size m (placeI L L.length)) := by have := hI.out.1; rw [hje, ← HLL.out] at this; rw [HLL.out] at this; rw [HLL.out]; exact this
              have HBp : Hid (Below W.heap.size W wp) := (HB6.out.trans (HBf.out.1.mono HB6.out.size)).trans (hI.out.2.mono (HB6.out.trans (HBf.out.1.mono HB6.out.size)).size)
              clear hI hje
              go_wp2
              go_loopw [20] (fun s wr => ∃ i : Nat, i ≤ es.length ∧ s = .int .i64 (i : Int) ∧ ∃ q, wr = wp.drewN q) (fun s _ => es.length - (intOf s).toNat)
              case atStart => exact ⟨0, by omega, rfl, 0, rfl⟩
              case round =>
                obtain ⟨t, ht, rfl, q, rfl⟩ := hrel
                by_cases hlt : t < es.length
                · have hlt2 : (t : Int) < (es.length : Int) := by omega
                  obtain ⟨⟨x, y⟩, hxy⟩ : ∃ e, es[t]? = some e := ⟨es[t], List.getElem?_eq_getElem hlt⟩
                  obtain ⟨hx0, hxm, hy0, hym⟩ := HES.out _ (List.mem_of_getElem? hxy)
                  dsimp only at hx0 hxm hy0 hym
                  obtain ⟨X, rfl⟩ := Int.eq_ofNat_of_zero_le hx0
                  obtain ⟨Y, rfl⟩ := Int.eq_ofNat_of_zero_le hy0
                  have hXm : X < m := by omega
                  have hYm : Y < m := by omega
                  have hTE : (toE es)[t]? = some (X, Y) := by have := toE_at hxy; simpa using this
                  have hpp := HPL.out X Y (List.mem_of_getElem? hTE)
                  obtain ⟨eb, eo, rfl, e0, e1⟩ := HE.out.below HBp.out (Nat.le_refl _) t _ hxy
                  dsimp only at e0 e1
                  have c0 := (HPN.out X hXm).1
                  have c1 := (HPN.out Y hYm).1
                  generalize placeI L L.length X = pX at *
                  generalize placeI L L.length Y = pY at *
                  have k1 : ¬ pY ≤ pX := by omega
                  have k2 : (X : Int) < (m : Int) := by omega
                  have k3 : (Y : Int) < (m : Int) := by omega
                  clear hxy hTE hpp hx0 hxm hy0 hym
                  go_wp2_with fail
                  refine wp_region_noPanic ?_
                  refine wp_region_held_drew (S := (fun w9 => w9.cell? ⟨eb, eo + t * 2, none⟩ = some (.int .i64 (X : Int)) ∧ w9.cell? ⟨eb, eo + t * 2 + 1, none⟩ = some (.int .i64 (Y : Int)) ∧ w9.cell? ⟨wf.heap.size, X, none⟩ = some (.int .i64 pX) ∧ w9.cell? ⟨wf.heap.size, Y, none⟩ = some (.int .i64 pY))) (by kernel_rfl) ⟨e0, e1, c0, c1⟩ (fun hHeld => ?_)
                  refine wpAnyH_take (i := 0) (v := .slice (some ⟨wf.heap.size, 0, none⟩) m m) rfl (by kernel_rfl) (by kernel_rfl) (by kernel_rfl) (fun _ _ _ h => h) (Or.inl ⟨by rfl, fun w9 hSw => ?_⟩) hHeld ?_
                  · obtain ⟨s0, s1, s2, s3⟩ := hSw
                    go_simp
                  simp only [List.getElem_toArray, List.getElem_cons_zero, List.getElem_cons_succ, Act.put, List.setIfInBounds_toArray, List.set_cons_zero, List.set_cons_succ]
                  refine wpAnyH_take (i := 1) (v := .slice (some ⟨eb, eo, none⟩) es.length ec) rfl (by kernel_rfl) (by kernel_rfl) (by kernel_rfl) (fun _ _ _ h => h) (Or.inl ⟨by rfl, fun w9 hSw => ?_⟩) hHeld ?_
                  · obtain ⟨s0, s1, s2, s3⟩ := hSw
                    go_simp
                  simp only [List.getElem_toArray, List.getElem_cons_zero, List.getElem_cons_succ, Act.put, List.setIfInBounds_toArray, List.set_cons_zero, List.set_cons_succ]
                  refine wpAnyH_take (i := 2) (v := .int .i64 (t : Int)) rfl (by kernel_rfl) (by kernel_rfl) (by kernel_rfl) (fun _ _ _ h => h) (Or.inl ⟨by rfl, fun w9 hSw => ?_⟩) hHeld ?_
                  · obtain ⟨s0, s1, s2, s3⟩ := hSw
                    go_simp
                  simp only [List.getElem_toArray, List.getElem_cons_zero, List.getElem_cons_succ, Act.put, List.setIfInBounds_toArray, List.set_cons_zero, List.set_cons_succ]
                  refine wpAnyH_take (i := 3) (v := .pointer (some ⟨eb, eo + t * 2, none⟩)) rfl (by kernel_rfl) (by kernel_rfl) (by kernel_rfl) (fun _ _ _ h => h) (Or.inl ⟨by rfl, fun w9 hSw => ?_⟩) hHeld ?_
                  · obtain ⟨s0, s1, s2, s3⟩ := hSw
                    go_simp
                    all_goals (first | rfl | omega | (rw [IntKind.wrap_i64]; omega) | (simp; done) | (simp; omega))
                  simp only [List.getElem_toArray, List.getElem_cons_zero, List.getElem_cons_succ, Act.put, List.setIfInBounds_toArray, List.set_cons_zero, List.set_cons_succ]
                  refine wpAnyH_take (i := 4) (v := .pointer (some ⟨eb, eo + t * 2, none⟩)) rfl (by kernel_rfl) (by kernel_rfl) (by kernel_rfl) (fun _ _ _ h => h) (Or.inl ⟨by rfl, fun w9 hSw => ?_⟩) hHeld ?_
                  · obtain ⟨s0, s1, s2, s3⟩ := hSw
                    go_simp
                    all_goals (first | rfl | omega | (rw [IntKind.wrap_i64]; omega) | (simp; done) | (simp; omega))
                  simp only [List.getElem_toArray, List.getElem_cons_zero, List.getElem_cons_succ, Act.put, List.setIfInBounds_toArray, List.set_cons_zero, List.set_cons_succ]
                  refine wpAnyH_take (i := 5) (v := .int .i64 (X : Int)) rfl (by kernel_rfl) (by kernel_rfl) (by kernel_rfl) (fun _ _ _ h => h) (Or.inl ⟨by rfl, fun w9 hSw => ?_⟩) hHeld ?_
                  · obtain ⟨s0, s1, s2, s3⟩ := hSw
                    go_simp
                  simp only [List.getElem_toArray, List.getElem_cons_zero, List.getElem_cons_succ, Act.put, List.setIfInBounds_toArray, List.set_cons_zero, List.set_cons_succ]
                  refine wpAnyH_take (i := 6) (v := .pointer (some ⟨wf.heap.size, X, none⟩)) rfl (by kernel_rfl) (by kernel_rfl) (by kernel_rfl) (fun _ _ _ h => h) (Or.inl ⟨by rfl, fun w9 hSw => ?_⟩) hHeld ?_
                  · obtain ⟨s0, s1, s2, s3⟩ := hSw
                    go_simp
                    all_goals (first | rfl | omega | (rw [IntKind.wrap_i64]; omega) | (simp; done) | (simp; omega))
                  simp only [List.getElem_toArray, List.getElem_cons_zero, List.getElem_cons_succ, Act.put, List.setIfInBounds_toArray, List.set_cons_zero, List.set_cons_succ]
                  refine wpAnyH_take (i := 7) (v := .int .i64 pX) rfl (by kernel_rfl) (by kernel_rfl) (by kernel_rfl) (fun _ _ _ h => h) (Or.inl ⟨by rfl, fun w9 hSw => ?_⟩) hHeld ?_
                  · obtain ⟨s0, s1, s2, s3⟩ := hSw
                    go_simp
                  simp only [List.getElem_toArray, List.getElem_cons_zero, List.getElem_cons_succ, Act.put, List.setIfInBounds_toArray, List.set_cons_zero, List.set_cons_succ]
                  refine wpAnyH_take (i := 8) (v := .slice (some ⟨wf.heap.size, 0, none⟩) m m) rfl (by kernel_rfl) (by kernel_rfl) (by kernel_rfl) (fun _ _ _ h => h) (Or.inl ⟨by rfl, fun w9 hSw => ?_⟩) hHeld ?_
                  · obtain ⟨s0, s1, s2, s3⟩ := hSw
                    go_simp
                  simp only [List.getElem_toArray, List.getElem_cons_zero, List.getElem_cons_succ, Act.put, List.setIfInBounds_toArray, List.set_cons_zero, List.set_cons_succ]
                  refine wpAnyH_take (i := 9) (v := .slice (some ⟨eb, eo, none⟩) es.length ec) rfl (by kernel_rfl) (by kernel_rfl) (by kernel_rfl) (fun _ _ _ h => h) (Or.inl ⟨by rfl, fun w9 hSw => ?_⟩) hHeld ?_
                  · obtain ⟨s0, s1, s2, s3⟩ := hSw
                    go_simp
                  simp only [List.getElem_toArray, List.getElem_cons_zero, List.getElem_cons_succ, Act.put, List.setIfInBounds_toArray, List.set_cons_zero, List.set_cons_succ]
                  refine wpAnyH_take (i := 10) (v := .int .i64 (t : Int)) rfl (by kernel_rfl) (by kernel_rfl) (by kernel_rfl) (fun _ _ _ h => h) (Or.inl ⟨by rfl, fun w9 hSw => ?_⟩) hHeld ?_
                  · obtain ⟨s0, s1, s2, s3⟩ := hSw
                    go_simp
                  simp only [List.getElem_toArray, List.getElem_cons_zero, List.getElem_cons_succ, Act.put, List.setIfInBounds_toArray, List.set_cons_zero, List.set_cons_succ]
                  refine wpAnyH_take (i := 11) (v := .pointer (some ⟨eb, eo + t * 2, none⟩)) rfl (by kernel_rfl) (by kernel_rfl) (by kernel_rfl) (fun _ _ _ h => h) (Or.inl ⟨by rfl, fun w9 hSw => ?_⟩) hHeld ?_
                  · obtain ⟨s0, s1, s2, s3⟩ := hSw
                    go_simp
                    all_goals (first | rfl | omega | (rw [IntKind.wrap_i64]; omega) | (simp; done) | (simp; omega))
                  simp only [List.getElem_toArray, List.getElem_cons_zero, List.getElem_cons_succ, Act.put, List.setIfInBounds_toArray, List.set_cons_zero, List.set_cons_succ]
                  refine wpAnyH_take (i := 12) (v := .pointer (some ⟨eb, eo + t * 2 + 1, none⟩)) rfl (by kernel_rfl) (by kernel_rfl) (by kernel_rfl) (fun _ _ _ h => h) (Or.inl ⟨by rfl, fun w9 hSw => ?_⟩) hHeld ?_
                  · obtain ⟨s0, s1, s2, s3⟩ := hSw
                    go_simp
                    all_goals (first | rfl | omega | (rw [IntKind.wrap_i64]; omega) | (simp; done) | (simp; omega))
                  simp only [List.getElem_toArray, List.getElem_cons_zero, List.getElem_cons_succ, Act.put, List.setIfInBounds_toArray, List.set_cons_zero, List.set_cons_succ]
                  refine wpAnyH_take (i := 13) (v := .int .i64 (Y : Int)) rfl (by kernel_rfl) (by kernel_rfl) (by kernel_rfl) (fun _ _ _ h => h) (Or.inl ⟨by rfl, fun w9 hSw => ?_⟩) hHeld ?_
                  · obtain ⟨s0, s1, s2, s3⟩ := hSw
                    go_simp
                  simp only [List.getElem_toArray, List.getElem_cons_zero, List.getElem_cons_succ, Act.put, List.setIfInBounds_toArray, List.set_cons_zero, List.set_cons_succ]
                  refine wpAnyH_take (i := 14) (v := .pointer (some ⟨wf.heap.size, Y, none⟩)) rfl (by kernel_rfl) (by kernel_rfl) (by kernel_rfl) (fun _ _ _ h => h) (Or.inl ⟨by rfl, fun w9 hSw => ?_⟩) hHeld ?_
                  · obtain ⟨s0, s1, s2, s3⟩ := hSw
                    go_simp
                    all_goals (first | rfl | omega | (rw [IntKind.wrap_i64]; omega) | (simp; done) | (simp; omega))
                  simp only [List.getElem_toArray, List.getElem_cons_zero, List.getElem_cons_succ, Act.put, List.setIfInBounds_toArray, List.set_cons_zero, List.set_cons_succ]
                  refine wpAnyH_take (i := 15) (v := .int .i64 pY) rfl (by kernel_rfl) (by kernel_rfl) (by kernel_rfl) (fun _ _ _ h => h) (Or.inl ⟨by rfl, fun w9 hSw => ?_⟩) hHeld ?_
                  · obtain ⟨s0, s1, s2, s3⟩ := hSw
                    go_simp
                  simp only [List.getElem_toArray, List.getElem_cons_zero, List.getElem_cons_succ, Act.put, List.setIfInBounds_toArray, List.set_cons_zero, List.set_cons_succ]
                  refine wpAnyH_take (i := 16) (v := .bool false) rfl (by kernel_rfl) (by kernel_rfl) (by kernel_rfl) (fun _ _ _ h => h) (Or.inl ⟨by rfl, fun w9 hSw => ?_⟩) hHeld ?_
                  · obtain ⟨s0, s1, s2, s3⟩ := hSw
                    go_simp
                    all_goals (first | rfl | omega | (rw [IntKind.wrap_i64]; omega) | (simp; done) | (simp; omega))
                  simp only [List.getElem_toArray, List.getElem_cons_zero, List.getElem_cons_succ, Act.put, List.setIfInBounds_toArray, List.set_cons_zero, List.set_cons_succ]
                  refine wpAnyH_done (by kernel_rfl) (NoPanic.normal ?_) _
                  clear hHeld e0 e1 c0 c1
                  go_wp2
                  go_roundw
                  case rel => exact ⟨t + 1, by omega, by go_num, _, rfl⟩
                  case measure => simp [intOf]; omega
                · have hlt2 : ¬ (t : Int) < (es.length : Int) := by omega
                  go_wp2
                  go_ret
                  exact ⟨rfl, bdrew HBp.out _⟩
  · have e1 : lvL n es = [] := by unfold lvL; rw [if_neg hm0]
    have e2 : rdL n es = [] := by unfold rdL; rw [if_neg hm0]
    have e3 : odL n es = [] := by unfold odL; rw [if_neg hm0]
    have e4 : odC n es = mayE n es := by unfold odC; rw [if_neg hm0]
    have e5 : ptL n es = [] := by unfold ptL; rw [if_neg hm0]
    have EM : ckK p (mayE n es) = .iface 124 (.pointer (some (p (mayE n es)))) := by unfold ckK; rw [if_neg hm0]
    have HB : Hid (Below W.heap.size W w6) := HG.out.below
    rw [e1, e2, e3, e4, e5, EM]
    clear e1 e2 e3 e4 e5 EM HG hm0
    go_wp2
    go_ret
    exact ⟨rfl, HB.out⟩

end Go.Proofs.YtkagahaokimoiaaDoor.GraphLevelsW
