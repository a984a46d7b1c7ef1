/-
  The document's Parts.
-/
import Derived.Test.YtgehiohieehgpaaDoorGraphFar
import Derived.Test.YtgehiohieehgpaaDoorGraphPartsM
import Derived.Test.YtgehiohieehgpaaDoorGraphMixW
namespace Go.Proofs.YtgehiohieehgpaaDoor.GraphRef
open Go.RowKit Go.Proofs.YtgehiohieehgpaaDoor.GramMath Go.Proofs.YtgehiohieehgpaaDoor.GramRow Go.Proofs.YtgehiohieehgpaaDoor.GramApart Go.Proofs.YtgehiohieehgpaaDoor.GramLent Go.Proofs.YtgehiohieehgpaaDoor.OpRow Go.Proofs.YtgehiohieehgpaaDoor.GraphNet Go.Proofs.YtgehiohieehgpaaDoor.GraphMath Go.Proofs.YtgehiohieehgpaaDoor.GraphFn Go.Proofs.YtgehiohieehgpaaDoor.GraphSort Go.Proofs.YtgehiohieehgpaaDoor.UsefulRef Go.Proofs.YtgehiohieehgpaaDoor.EndsMath Go.Proofs.YtgehiohieehgpaaDoor.GraphLent Go.Proofs.YtgehiohieehgpaaDoor.GraphMixedW
set_option linter.unusedVariables false
set_option linter.unusedSimpArgs false

theorem wk_way {E : List (Nat × Nat)} {low t : Nat} : ∀ (d a : Nat), Wk E low t d a → GraphMath.Way E a t
  | 0, a, h => by obtain rfl : a = t := h; exact .none a
  | d + 1, a, ⟨b, he, _, _, hw⟩ => way_trans ((GraphMath.Way.none a).more he) (wk_way d b hw)
theorem wk_snoc {E : List (Nat × Nat)} {b c : Nat} (he : (b, c) ∈ E) : ∀ (d a : Nat), Wk E 0 b d a → Wk E 0 c (d + 1) a
  | 0, a, h => by obtain rfl : a = b := h; exact ⟨c, he, Nat.zero_le _, Nat.zero_le _, rfl⟩
  | d + 1, a, ⟨x, h1, _, _, h2⟩ => ⟨x, h1, Nat.zero_le _, Nat.zero_le _, wk_snoc he d x h2⟩
theorem way_wk {E : List (Nat × Nat)} {a t : Nat} (h : GraphMath.Way E a t) : ∃ d, Wk E 0 t d a := by
  induction h with
  | none => exact ⟨0, rfl⟩
  | more _ he ih => obtain ⟨d, hd⟩ := ih; exact ⟨d + 1, wk_snoc he d _ hd⟩
theorem FarA.way {m : Nat} {E : List (Nat × Nat)} {t : Nat} {f : Nat → Int} (h : FarA m E 0 t f) {a : Nat} (ha : a < m) : 0 ≤ f a ↔ GraphMath.Way E a t := by
  rcases h a ha with ⟨e, hn⟩ | ⟨d, e, hw, _⟩
  · rw [e]
    exact ⟨fun h => by omega, fun hw => by obtain ⟨d, hd⟩ := way_wk hw; exact absurd hd (hn d)⟩
  · rw [e]
    exact ⟨fun _ => wk_way d a hw, fun _ => by omega⟩

def trn (es : List (Int × Int)) : List (Int × Int) := es.map (fun e => (e.2, e.1))
theorem trn_mem {es : List (Int × Int)} {a b : Nat} : (a, b) ∈ toE (trn es) ↔ (b, a) ∈ toE es := by
  unfold toE trn
  rw [List.map_map, List.mem_map, List.mem_map]
  constructor
  · rintro ⟨e, h1, h2⟩
    simp at h2
    exact ⟨e, h1, by simp [h2]⟩
  · rintro ⟨e, h1, h2⟩
    simp at h2
    exact ⟨e, h1, by simp [h2]⟩
theorem trn_way {es : List (Int × Int)} {a b : Nat} (h : GraphMath.Way (toE (trn es)) a b) : GraphMath.Way (toE es) b a := by
  induction h with
  | none => exact .none _
  | more _ he ih => exact way_trans ((GraphMath.Way.none _).more (trn_mem.1 he)) ih
theorem way_trn {es : List (Int × Int)} {a b : Nat} (h : GraphMath.Way (toE es) a b) : GraphMath.Way (toE (trn es)) b a := by
  induction h with
  | none => exact .none _
  | more _ he ih => exact way_trans ((GraphMath.Way.none _).more (trn_mem.2 he)) ih

/-- Lists of lists that are only read. -/
def RPts (w : World) (B : Nat) (pv : Value) (ps : List (List Nat)) : Prop := ∃ Vs : List Value, w.ownsRow B 34 1 pv ps.length Vs ∧ ∀ (i : Nat) p, ps[i]? = some p → ∃ v, Vs[i]? = some v ∧ w.ownsRow B 3 1 v p.length (iV (ints p))
theorem RPts.below {w w' : World} {B : Nat} {pv : Value} {ps : List (List Nat)} (h : RPts w B pv ps) (hb : Below w.heap.size w w') : RPts w' B pv ps := by
  obtain ⟨Vs, h1, h2⟩ := h
  exact ⟨Vs, own_up h1 hb, fun i p hp => by obtain ⟨v, h3, h4⟩ := h2 i p hp; exact ⟨v, h3, own_up h4 hb⟩⟩
theorem RPts.lower {w : World} {B B' : Nat} {pv : Value} {ps : List (List Nat)} (h : RPts w B pv ps) (hb : B' ≤ B) : RPts w B' pv ps := by
  obtain ⟨Vs, h1, h2⟩ := h
  exact ⟨Vs, own_lower h1 hb, fun i p hp => by obtain ⟨v, h3, h4⟩ := h2 i p hp; exact ⟨v, h3, own_lower h4 hb⟩⟩
theorem Pts.rpts {w : World} {B : Nat} {pv : Value} {ps : List (List Nat)} {Vs : List Value} (h : Pts w B pv ps Vs) : RPts w B pv ps := ⟨Vs, h.outer, h.row⟩

theorem form_zero (same : Nat → Nat → Bool) (m : Nat) : (heads same 0).map (cls same m) = [] := rfl

/-- What is known at the start of a node. -/
structure RPI (w wr : World) (m : Nat) (same : Nat → Nat → Bool) (k : Nat) (pv : Value) : Prop where
  marks : ∃ S, BRow wr w.heap.size m S ∧ ∀ i, i < m → (S i = true ↔ ∃ h, h < k ∧ (∀ j, j < h → same j h = false) ∧ same h i = true)
  parts : RPts wr (w.heap.size + 1) pv ((heads same k).map (cls same m))
  below : Below w.heap.size w wr
  size : w.heap.size < wr.heap.size

theorem own_but1 {w w' : World} {tb B e n : Nat} {v : Value} {xs : List Value} (h : w.ownsRow B e 1 v n xs) (hb : But (fun b => b = tb) w w') (ht : tb < B) : w'.ownsRow B e 1 v n xs := by
  obtain ⟨h1, h | ⟨g, cap, cur, hv, hbb, hg, rest⟩⟩ := h
  · exact ⟨h1, .inl h⟩
  · exact ⟨h1, .inr ⟨g, cap, cur, hv, hbb, (hb.block g (Array.getElem?_eq_some_iff.1 hg).1 (by omega)).trans hg, rest⟩⟩
theorem RPts.but {w w' : World} {tb B : Nat} {pv : Value} {ps : List (List Nat)} (h : RPts w B pv ps) (hb : But (fun b => b = tb) w w') (ht : tb < B) : RPts w' B pv ps := by
  obtain ⟨Vs, h1, h2⟩ := h
  exact ⟨Vs, own_but1 h1 hb ht, fun i p hp => by obtain ⟨v, h3, h4⟩ := h2 i p hp; exact ⟨v, h3, own_but1 h4 hb ht⟩⟩

/-- One more node: it is marked already. -/
theorem RPI.next {w wr : World} {m k : Nat} {same : Nat → Nat → Bool} {pv : Value} (e : Eqv m same) (h : RPI w wr m same k pv) (hk : k < m) {S : Nat → Bool} (hS : BRow wr w.heap.size m S) (hSi : ∀ i, i < m → (S i = true ↔ ∃ h, h < k ∧ (∀ j, j < h → same j h = false) ∧ same h i = true)) (hSk : S k = true) : RPI w wr m same (k + 1) pv := by
  obtain ⟨y, hy1, hy2, hy3⟩ := (hSi k hk).1 hSk
  have hnb : headB same k = false := by
    rw [Bool.eq_false_iff]
    intro hc
    rw [headB_iff.1 hc y hy1] at hy3
    cases hy3
  refine ⟨⟨S, hS, fun i hi => ?_⟩, ?_, h.below, h.size⟩
  · rw [hSi i hi]
    constructor
    · rintro ⟨x, h1, h2⟩; exact ⟨x, by omega, h2⟩
    · rintro ⟨x, h1, h2, h3⟩
      by_cases ex : x = k
      · subst ex
        rw [h2 y hy1] at hy3
        cases hy3
      · exact ⟨x, by omega, h2, h3⟩
  · rw [heads_succ, hnb]
    simpa using h.parts
theorem head_free {m k : Nat} {same : Nat → Nat → Bool} (e : Eqv m same) (hk : k < m) {S : Nat → Bool} (hSi : ∀ i, i < m → (S i = true ↔ ∃ h, h < k ∧ (∀ j, j < h → same j h = false) ∧ same h i = true)) (hSk : S k = false) : ∀ j, j < k → same j k = false := fun j hj => by
  rw [Bool.eq_false_iff]
  intro hc
  obtain ⟨y, h1, h2, h3⟩ := head_of e (j + 1) j (by omega) (by omega)
  have := (hSi k hk).2 ⟨y, by omega, h2, e.trans y j k (by omega) (by omega) hk h3 hc⟩
  rw [hSk] at this
  cases this

/-- What is known while a part is gathered. -/
structure RPJ (w w4 wr : World) (m k i : Nat) (same : Nat → Nat → Bool) (S0 : Nat → Bool) (gv : Value) : Prop where
  marks : BRow wr w.heap.size m (fun j => S0 j || (decide (j < i) && same k j))
  part : wr.ownsRow w4.heap.size 3 1 gv (cls same i k).length (iV (ints (cls same i k)))
  but : But (fun b => b = w.heap.size) w4 wr

theorem RPJ.skip {w w4 wr : World} {m k i : Nat} {same : Nat → Nat → Bool} {S0 : Nat → Bool} {gv : Value} (h : RPJ w w4 wr m k i same S0 gv) (hs : same k i = false) : RPJ w w4 wr m k (i + 1) same S0 gv :=
  ⟨h.marks.congr (fun j hj => by
    by_cases e : j = i
    · subst e; simp [hs]
    · congr 2
      rw [decide_eq_decide]; omega), by rw [cls_succ, hs]; simpa using h.part, h.but⟩

set_option maxRecDepth 100000 in
set_option maxHeartbeats 8000000 in
theorem rparts_any (n : Int) (ea : Option Addr) (ec : Nat) (es : List (Int × Int)) (w : World) (hn : I64 n) (hE : ERow w ea es) (hl : es.length ≤ 1125899906842624) (hx : ∀ e ∈ es, I64 e.1 ∧ I64 e.2) :
    Calls Tryd.prog 11 #[.int .i64 n, .slice ea es.length ec] w fun e w' => ∃ pv, e = .returned (.tuple #[pv, .int .i64 (mayE n es : Int)]) ∧ RPts w' w.heap.size pv (ptL n es) ∧ Below w.heap.size w w' := by
  have hmay := rmay_any n ea ec es w hn hE hl hx
  by_cases hm0 : mayE n es = 0
  · obtain ⟨m, rfl, hm, hel, hes, hEr⟩ := mayE_zero hm0
    rw [hm0] at hmay
    have hmk := made_bools m hm w
    have HE : Hid (ERow w ea es) := hE
    have HES : Hid (∀ e ∈ es, 0 ≤ e.1 ∧ e.1 < (m : Int) ∧ 0 ≤ e.2 ∧ e.2 < (m : Int)) := hes
    have HER : Hid (∀ e ∈ toE es, e.1 < m ∧ e.2 < m) := hEr
    have HEQ : Hid (Eqv m (sameT m (toE es))) := sameT_eqv hEr
    have EP : Hid (ptL (m : Int) es = (heads (sameT m (toE es)) m).map (cls (sameT m (toE es)) m)) := by show _ = _; unfold ptL; rw [if_pos hm0, Int.toNat_natCast]; exact partsK_form (sameT_eqv hEr) m (Nat.le_refl _)
    have HSW : Hid (∀ a b, a < m → b < m → (sameT m (toE es) a b = true ↔ GraphMath.Way (toE es) b a ∧ GraphMath.Way (toE (trn es)) b a)) := fun a b ha hb => by
      rw [sameT_iff hEr ha hb]
      exact ⟨fun h => ⟨h.2, way_trn h.1⟩, fun h => ⟨trn_way h.2, h.1⟩⟩
    have HI0 : Hid (RPI w (w.alloc (.cells (madeCells #[.bool false] m) 4)) m (sameT m (toE es)) 0 (.slice none 0 0)) := ⟨⟨_, madeB_row m w, fun i hi => ⟨fun h => (by cases h), fun ⟨h, h1, _⟩ => by omega⟩⟩, ⟨[], World.ownsRow_nil .., fun i p h => by simp [heads] at h⟩, (Below.refl _ _).alloc (Nat.le_refl _) _, by simp⟩
    generalize hsame : sameT m (toE es) = same at *
    clear hE hes hEr hx hsame
    go_enter Tryd.func11, Tryd.ntmps11
    go_wp2_with fail
    refine hmay.mono ?_
    rintro e w1 ⟨rfl, hw1⟩
    obtain rfl := hw1.symm
    clear hmay
    go_wp2
    clear hmk
    go_loopw [8, 9] (fun s8 s9 wr => ∃ (k : Nat) (pv : Value), s8 = pv ∧ k ≤ m ∧ s9 = .int .i64 (k : Int) ∧ Hid (RPI w wr m same k pv)) (fun _ s9 _ => m - (intOf s9).toNat)
    case atStart => exact ⟨0, _, rfl, by omega, rfl, HI0⟩
    case round =>
      clear HI0
      obtain ⟨k, pv, hpv, hk, rfl, hI⟩ := hrel
      obtain rfl := hpv.symm
      by_cases hlt : k < m
      · have hlt2 : (k : Int) < (m : Int) := by omega
        obtain ⟨S, hS, hSi⟩ := hI.out.marks
        have ck := (hS k hlt).1
        cases hSk : S k with
        | true =>
          rw [hSk] at ck
          have hI2 : Hid (RPI w wr m same (k + 1) pv) := hI.out.next HEQ.out hlt hS hSi hSk
          clear hI hS hSi hSk
          go_wp2
          go_roundw
          case rel => exact ⟨k + 1, _, by trivial, by omega, by go_num, hI2⟩
          case measure => simp [intOf]; omega
        | false =>
          rw [hSk] at ck
          have HHD : Hid (∀ j, j < k → same j k = false) := head_free HEQ.out hlt hSi hSk
          obtain ⟨wx, rfl⟩ : ∃ x, x = wr := ⟨wr, rfl⟩
          have hBx := hI.out.below
          have hszx := hI.out.size
          have hfar1 := far_any m ea ec es k 0 wx (HE.out.below hBx (Nat.le_refl _)) hm hel HES.out HER.out hlt (by omega)
          have HI : Hid (RPI w wx m same k pv) := hI.out
          have HS : Hid (BRow wx w.heap.size m S) := hS
          have HSi : Hid (∀ i, i < m → (S i = true ↔ ∃ h, h < k ∧ (∀ j, j < h → same j h = false) ∧ same h i = true)) := hSi
          clear hI hS hSi hSk
          go_wp2_with fail
          refine hfar1.mono ?_
          rintro e w2 ⟨rfl, ⟨f1, hf1, hA1⟩, hb2, hz2⟩
          have HA1 : Hid (FarA m (toE es) 0 k f1) := hA1
          have HF1 : Hid (NRow w2 wx.heap.size m f1) := hf1
          have HB2 : Hid (Below wx.heap.size wx w2) := hb2
          clear hfar1 hf1 hA1 hb2 ck
          go_wp2
          have hwx : w.heap.size < wx.heap.size := hszx
          go_loopw [11, 12] (fun s11 s12 wr => ∃ (i : Nat) (tv : Value), s11 = tv ∧ i ≤ es.length ∧ s12 = .int .i64 (i : Int) ∧ Hid (wr.ownsRow w2.heap.size 51 2 tv (trn (es.take i)).length (flatE (trn (es.take i))) ∧ Below w2.heap.size w2 wr)) (fun _ s12 _ => es.length - (intOf s12).toNat)
          case atStart => exact ⟨0, _, rfl, by omega, rfl, World.ownsRow_nil .., Below.refl _ _⟩
          case round =>
            obtain ⟨i, tv, htv, hi, rfl, hJ⟩ := hrel
            obtain rfl := htv.symm
            by_cases hli : i < es.length
            · obtain ⟨hO, hB⟩ := hJ.out
              obtain ⟨⟨x, y⟩, hxy⟩ : ∃ e, es[i]? = some e := ⟨es[i], List.getElem?_eq_getElem hli⟩
              have hBd : Below w.heap.size w wr.drew := hBx.trans ((HB2.out.mono (by omega)).trans ((hB.mono (by have := HB2.out.size; omega)).drew))
              obtain ⟨eb, eo, rfl, ce0, ce1⟩ := (ERow.below HE.out hBd (Nat.le_refl _)) i _ hxy
              obtain ⟨eb', eo', e', ce0', _⟩ := HE.out i _ hxy
              cases e'
              have hebw := cell_lt ce0'
              dsimp only at ce0 ce1 hebw
              have hli2 : (i : Int) < (es.length : Int) := by omega
              have hOd : wr.drew.ownsRow w2.heap.size 51 2 tv (trn (es.take i)).length (flatE (trn (es.take i))) := GramLent.own_below hO (drew_below wr 1)
              have hBA : Below wr.drew.heap.size wr.drew (wr.drew.alloc (.cells #[.int .i64 y, .int .i64 x] 51)) := (Below.refl _ _).alloc (Nat.le_refl _) _
              have hrA : ERow (wr.drew.alloc (.cells #[.int .i64 y, .int .i64 x] 51)) (some ⟨wr.drew.heap.size, 0, none⟩) [(y, x)] := erow_at (heap_new _ _ : RowAt _ _ 51 (flatE [(y, x)]).toArray)
              have hBw2 : Below w2.heap.size w2 wr.drew := hB.drew
              have lA : (wr.drew.alloc (.cells #[.int .i64 y, .int .i64 x] 51)).cell? ⟨eb, eo + i * 2, none⟩ = some (.int .i64 x) ∧ (wr.drew.alloc (.cells #[.int .i64 y, .int .i64 x] 51)).cell? ⟨eb, eo + i * 2 + 1, none⟩ = some (.int .i64 y) := ⟨(hBA.cell (cell_lt ce0)).trans ce0, (hBA.cell (cell_lt ce1)).trans ce1⟩
              have Etr : Hid (trn (es.take (i + 1)) = trn (es.take i) ++ [(y, x)]) := by show _ = _; rw [List.take_add_one, hxy]; simp [trn]
              have htl : (trn (es.take i)).length ≤ 4096 := by simp [trn]; omega
              have hF : Hid (∀ v2 w3, World.ownsRow w3 w2.heap.size 51 2 v2 (trn (es.take i) ++ [(y, x)]).length (flatE (trn (es.take i) ++ [(y, x)])) → (wr.drew.alloc (.cells #[.int .i64 y, .int .i64 x] 51)).grownBy w3 tv.ownBlock → (w3.cell? ⟨eb, eo + i * 2, none⟩ = some (.int .i64 x) ∧ w3.cell? ⟨eb, eo + i * 2 + 1, none⟩ = some (.int .i64 y)) ∧ Hid (w3.ownsRow w2.heap.size 51 2 v2 (trn (es.take (i + 1))).length (flatE (trn (es.take (i + 1)))) ∧ Below w2.heap.size w2 w3)) := fun v2 w3 h1 h2 => by
                have hb3 : Below w2.heap.size w2 w3 := (hBw2.trans (hBA.mono hBw2.size)).grown h2 (by have h9 : w2.heap.size ≤ wr.heap.size := hBw2.size; simp; omega) (fun j hj => (hOd.lt j hj).1)
                refine ⟨⟨?_, ?_⟩, by rw [Etr.out]; exact h1, hb3⟩
                · exact h2.cell lA.1 (fun e => by have := (hOd.lt eb e.symm).1; have := HB2.out.size; omega)
                · exact h2.cell lA.2 (fun e => by have := (hOd.lt eb e.symm).1; have := HB2.out.size; omega)
              have hszr : w2.heap.size ≤ wr.drew.heap.size := hBw2.size
              clear hJ hO hB hxy ce0' hBd hBw2 hBA
              go_wp2_with fail
              refine wp_region_noPanic ?_
              refine wp_region_held_drew (S := (fun w9 => w9.cell? ⟨eb, eo + i * 2, none⟩ = some (.int .i64 x) ∧ w9.cell? ⟨eb, eo + i * 2 + 1, none⟩ = some (.int .i64 y))) (by kernel_rfl) ⟨ce0, ce1⟩ (fun hHeld => ?_)
              generalize wr.drew = Wd at *
              refine wpAnyH_take (i := 0) (v := tv) rfl (by kernel_rfl) (by kernel_rfl) (by kernel_rfl) (fun _ _ _ h => h) (Or.inl ⟨by rfl, fun w9 hSw => ?_⟩) hHeld ?_
              · obtain ⟨s0, s1⟩ := hSw
                go_simp
              simp only [List.getElem_toArray, List.getElem_cons_zero, List.getElem_cons_succ, Act.put, List.setIfInBounds_toArray, List.set_cons_zero, List.set_cons_succ]
              refine wpAnyH_take (i := 1) (v := .slice (some ⟨eb, eo, none⟩) es.length ec) rfl (by kernel_rfl) (by kernel_rfl) (by kernel_rfl) (fun _ _ _ h => h) (Or.inl ⟨by rfl, fun w9 hSw => ?_⟩) hHeld ?_
              · obtain ⟨s0, s1⟩ := hSw
                go_simp
              simp only [List.getElem_toArray, List.getElem_cons_zero, List.getElem_cons_succ, Act.put, List.setIfInBounds_toArray, List.set_cons_zero, List.set_cons_succ]
              refine wpAnyH_take (i := 2) (v := .int .i64 (i : Int)) rfl (by kernel_rfl) (by kernel_rfl) (by kernel_rfl) (fun _ _ _ h => h) (Or.inl ⟨by rfl, fun w9 hSw => ?_⟩) hHeld ?_
              · obtain ⟨s0, s1⟩ := hSw
                go_simp
              simp only [List.getElem_toArray, List.getElem_cons_zero, List.getElem_cons_succ, Act.put, List.setIfInBounds_toArray, List.set_cons_zero, List.set_cons_succ]
              refine wpAnyH_take (i := 3) (v := .pointer (some ⟨eb, eo + i * 2, none⟩)) rfl (by kernel_rfl) (by kernel_rfl) (by kernel_rfl) (fun _ _ _ h => h) (Or.inl ⟨by rfl, fun w9 hSw => ?_⟩) hHeld ?_
              · obtain ⟨s0, s1⟩ := hSw
                go_simp
              simp only [List.getElem_toArray, List.getElem_cons_zero, List.getElem_cons_succ, Act.put, List.setIfInBounds_toArray, List.set_cons_zero, List.set_cons_succ]
              refine wpAnyH_take (i := 4) (v := .pointer (some ⟨eb, eo + i * 2 + 1, none⟩)) rfl (by kernel_rfl) (by kernel_rfl) (by kernel_rfl) (fun _ _ _ h => h) (Or.inl ⟨by rfl, fun w9 hSw => ?_⟩) hHeld ?_
              · obtain ⟨s0, s1⟩ := hSw
                go_simp
              simp only [List.getElem_toArray, List.getElem_cons_zero, List.getElem_cons_succ, Act.put, List.setIfInBounds_toArray, List.set_cons_zero, List.set_cons_succ]
              refine wpAnyH_take (i := 5) (v := .int .i64 y) rfl (by kernel_rfl) (by kernel_rfl) (by kernel_rfl) (fun _ _ _ h => h) (Or.inl ⟨by rfl, fun w9 hSw => ?_⟩) hHeld ?_
              · obtain ⟨s0, s1⟩ := hSw
                go_simp
              simp only [List.getElem_toArray, List.getElem_cons_zero, List.getElem_cons_succ, Act.put, List.setIfInBounds_toArray, List.set_cons_zero, List.set_cons_succ]
              refine wpAnyH_take (i := 6) (v := .slice (some ⟨eb, eo, none⟩) es.length ec) rfl (by kernel_rfl) (by kernel_rfl) (by kernel_rfl) (fun _ _ _ h => h) (Or.inl ⟨by rfl, fun w9 hSw => ?_⟩) hHeld ?_
              · obtain ⟨s0, s1⟩ := hSw
                go_simp
              simp only [List.getElem_toArray, List.getElem_cons_zero, List.getElem_cons_succ, Act.put, List.setIfInBounds_toArray, List.set_cons_zero, List.set_cons_succ]
              refine wpAnyH_take (i := 7) (v := .int .i64 (i : Int)) rfl (by kernel_rfl) (by kernel_rfl) (by kernel_rfl) (fun _ _ _ h => h) (Or.inl ⟨by rfl, fun w9 hSw => ?_⟩) hHeld ?_
              · obtain ⟨s0, s1⟩ := hSw
                go_simp
              simp only [List.getElem_toArray, List.getElem_cons_zero, List.getElem_cons_succ, Act.put, List.setIfInBounds_toArray, List.set_cons_zero, List.set_cons_succ]
              refine wpAnyH_take (i := 8) (v := .pointer (some ⟨eb, eo + i * 2, none⟩)) rfl (by kernel_rfl) (by kernel_rfl) (by kernel_rfl) (fun _ _ _ h => h) (Or.inl ⟨by rfl, fun w9 hSw => ?_⟩) hHeld ?_
              · obtain ⟨s0, s1⟩ := hSw
                go_simp
              simp only [List.getElem_toArray, List.getElem_cons_zero, List.getElem_cons_succ, Act.put, List.setIfInBounds_toArray, List.set_cons_zero, List.set_cons_succ]
              refine wpAnyH_take (i := 9) (v := .pointer (some ⟨eb, eo + i * 2, none⟩)) rfl (by kernel_rfl) (by kernel_rfl) (by kernel_rfl) (fun _ _ _ h => h) (Or.inl ⟨by rfl, fun w9 hSw => ?_⟩) hHeld ?_
              · obtain ⟨s0, s1⟩ := hSw
                go_simp
              simp only [List.getElem_toArray, List.getElem_cons_zero, List.getElem_cons_succ, Act.put, List.setIfInBounds_toArray, List.set_cons_zero, List.set_cons_succ]
              refine wpAnyH_take (i := 10) (v := .int .i64 x) rfl (by kernel_rfl) (by kernel_rfl) (by kernel_rfl) (fun _ _ _ h => h) (Or.inl ⟨by rfl, fun w9 hSw => ?_⟩) hHeld ?_
              · obtain ⟨s0, s1⟩ := hSw
                go_simp
              simp only [List.getElem_toArray, List.getElem_cons_zero, List.getElem_cons_succ, Act.put, List.setIfInBounds_toArray, List.set_cons_zero, List.set_cons_succ]
              refine wpAnyH_take (i := 11) (v := .agg #[.int .i64 y, .int .i64 x]) rfl (by kernel_rfl) (by kernel_rfl) (by kernel_rfl) (fun _ _ _ h => h) (Or.inl ⟨by rfl, fun w9 hSw => ?_⟩) hHeld ?_
              · obtain ⟨s0, s1⟩ := hSw
                go_simp
              simp only [List.getElem_toArray, List.getElem_cons_zero, List.getElem_cons_succ, Act.put, List.setIfInBounds_toArray, List.set_cons_zero, List.set_cons_succ]
              refine wpAnyH_ready (rs := [12]) (by kernel_rfl) (by simp) ?_
              refine AllReadyH.cons rfl (fun K hK => ?_) AllReadyH.nil
              go_simp
              refine hK.out _ _ (lA) (fun hHeld => ?_)
              clear hK K
              refine wpAnyH_ready (rs := [13]) (by kernel_rfl) (by simp) ?_
              refine AllReadyH.cons rfl (fun K hK => ?_) AllReadyH.nil
              refine stepE rfl _ _ rfl w2.heap.size tv (trn (es.take i)) [(y, x)] (by rfl) (GramLent.own_below hOd ((Below.refl _ _).alloc (Nat.le_refl _) _)) (some ⟨Wd.heap.size, 0, none⟩) 1 (by rfl) hrA (fun h => by cases h) (by simp; omega) (by simp; omega) ?_
              intro v3 w3 hown3 hgrow3
              obtain ⟨y0, hJ2⟩ := hF.out v3 w3 hown3 hgrow3
              refine hK.out _ _ y0 (fun hHeld => ?_)
              clear hK K
              simp only [List.getElem_toArray, List.getElem_cons_zero, List.getElem_cons_succ, Act.put, List.setIfInBounds_toArray, List.set_cons_zero, List.set_cons_succ]
              obtain ⟨va, vc, rfl, _⟩ := own_eform hown3
              refine wpAnyH_take (i := 14) (v := .slice va (trn (es.take i) ++ [(y, x)]).length vc) rfl (by kernel_rfl) (by kernel_rfl) (by kernel_rfl) (fun _ _ _ h => h) (Or.inl ⟨by rfl, fun w9 hSw => ?_⟩) hHeld ?_
              · obtain ⟨s0, s1⟩ := hSw
                go_simp
              simp only [List.getElem_toArray, List.getElem_cons_zero, List.getElem_cons_succ, Act.put, List.setIfInBounds_toArray, List.set_cons_zero, List.set_cons_succ]
              refine wpAnyH_done (by kernel_rfl) (NoPanic.normal ?_) _
              clear y0 hown3 hgrow3 hF hOd hrA lA hHeld ce0 ce1
              go_wp2
              go_roundw
              case rel => exact ⟨i + 1, _, by trivial, by omega, by go_num, hJ2⟩
              case measure => simp [intOf]; omega
            · have hli2 : ¬ (i : Int) < (es.length : Int) := by omega
              obtain ⟨hO, hB⟩ := hJ.out
              rw [List.take_of_length_le (by omega)] at hO
              obtain ⟨ta, tc, rfl, hTr⟩ := own_eform hO
              have htl : Hid ((trn es).length = es.length) := by show _ = _; simp [trn]
              obtain ⟨w3, rfl⟩ : ∃ x, x = wr := ⟨wr, rfl⟩
              have hfar2 := far_any m ta tc (trn es) k 0 w3 hTr hm (by rw [htl.out]; exact hel) (fun e he => by
                obtain ⟨e0, h0, rfl⟩ := List.mem_map.1 he
                have := HES.out e0 h0
                dsimp only
                omega) (fun e he => by
                obtain ⟨a, b⟩ := e
                have := HER.out _ (trn_mem.1 he)
                dsimp only at this ⊢
                omega) hlt (by omega)
              have HB3 : Hid (Below w2.heap.size w2 w3) := hB
              clear hJ hO hB hTr
              go_wp2_with fail
              refine hfar2.mono ?_
              rintro e w4 ⟨rfl, ⟨f2, hf2, hA2⟩, hb4, hz4⟩
              have hz23 := HB3.out.size
              have hz12 := HB2.out.size
              have hB4 : Below wx.heap.size wx w4 := HB2.out.trans ((HB3.out.trans (hb4.mono hz23)).mono hz12)
              have HB4 : Hid (Below wx.heap.size wx w4) := hB4
              have HF1' : Hid (NRow w4 wx.heap.size m f1) := (HF1.out.below HB3.out hz2).below hb4 (by omega)
              have HF2 : Hid (NRow w4 w3.heap.size m f2) := hf2
              have HW : Hid (∀ i, i < m → (same k i = (decide (0 ≤ f1 i) && decide (0 ≤ f2 i)))) := fun i hi => by
                rw [Bool.eq_iff_iff, HSW.out k i hlt hi, Bool.and_eq_true, decide_eq_true_iff, decide_eq_true_iff, HA1.out.way hi, hA2.way hi]
              have HJ0 : Hid (RPJ w w4 w4 m k k same S (.slice none 0 0)) := by
                have hc : cls same k k = [] := by
                  unfold cls
                  rw [List.filter_eq_nil_iff]
                  intro i hi
                  have hi2 := List.mem_range.1 hi
                  intro hc
                  have := HEQ.out.symm k i hlt (by omega) (by simpa using hc)
                  rw [HHD.out i hi2] at this
                  cases this
                refine ⟨(HS.out.below HB4.out hszx).congr (fun j hj => ?_), by rw [hc]; exact World.ownsRow_nil .., But.refl _ _⟩
                by_cases hjk : j < k
                · have : same k j = false := by
                    rw [Bool.eq_false_iff]
                    intro h
                    have h2 := HEQ.out.symm k j hlt hj h
                    rw [HHD.out j hjk] at h2
                    cases h2
                  simp [this]
                · simp [hjk]
              have hz34 := hb4.size
              clear hfar2 hf2 hA2 hb4 hB4 HF1 HA1 HB2 HB3 HSW
              go_wp2
              go_loopw [14, 15] (fun s14 s15 wr => ∃ (i : Nat) (gv : Value), s14 = gv ∧ i ≤ m ∧ s15 = .int .i64 (i : Int) ∧ Hid (RPJ w w4 wr m k i same S gv)) (fun _ s15 _ => m - (intOf s15).toNat)
              case atStart => exact ⟨k, _, rfl, by omega, rfl, HJ0⟩
              case round =>
                clear HJ0
                obtain ⟨i, gv, hgv, hi, rfl, hJ⟩ := hrel
                obtain rfl := hgv.symm
                by_cases hli : i < m
                · have hli2 : (i : Int) < (m : Int) := by omega
                  have g1 : wr.cell? ⟨wx.heap.size, i, none⟩ = some (.int .i64 (f1 i)) := (hJ.out.but.cell (p := ⟨wx.heap.size, i, none⟩) (by show wx.heap.size < _; omega) (by show ¬ wx.heap.size = w.heap.size; omega)).trans (HF1'.out i hli).1
                  have g2 : wr.cell? ⟨w3.heap.size, i, none⟩ = some (.int .i64 (f2 i)) := (hJ.out.but.cell (p := ⟨w3.heap.size, i, none⟩) (by show w3.heap.size < _; omega) (by show ¬ w3.heap.size = w.heap.size; omega)).trans (HF2.out i hli).1
                  have hsm := HW.out i hli
                  by_cases h1 : 0 ≤ f1 i
                  · have h1' : decide (0 ≤ f1 i) = true := by simpa using h1
                    by_cases h2 : 0 ≤ f2 i
                    · have h2' : decide (0 ≤ f2 i) = true := by simpa using h2
                      have hs : same k i = true := by rw [hsm, h1', h2']; rfl
                      obtain ⟨cI, fI⟩ := hJ.out.marks i hli
                      have hown := hJ.out.part
                      have hcl : (cls same i k).length ≤ i := by unfold cls; exact Nat.le_trans (List.length_filter_le _ _) (by simp)
                      have hszw := hJ.out.but.size
                      have hF : Hid (∀ v2 w5, World.ownsRow w5 w4.heap.size 3 1 v2 ((cls same i k).length + 1) (iV (ints (cls same i k)) ++ [.int .i64 (i : Int)]) → (wr.alloc (.cells #[.int .i64 (i : Int)] 3)).grownBy w5 gv.ownBlock → (∃ u, w5.cell? ⟨w.heap.size, i, none⟩ = some u ∧ w5.frozen? ⟨w.heap.size, i, none⟩ = false) ∧ Hid (RPJ w w4 (w5.setCell ⟨w.heap.size, i, none⟩ (.bool true)) m k (i + 1) same S v2)) := fun v2 w5 ho hg => by
                        have hbl : w5.heap[w.heap.size]? = wr.heap[w.heap.size]? := by
                          rw [hg.block w.heap.size (by simp; omega) (fun e => by have := (hown.lt _ e.symm).1; omega)]
                          exact Below.heap_alloc wr _ _ (by omega)
                        have hM5 : BRow w5 w.heap.size m (fun j => S j || (decide (j < i) && same k j)) := fun j hj => ⟨(World.cell?_of_block (a := ⟨w.heap.size, j, none⟩) hbl).trans (hJ.out.marks j hj).1, (World.frozen?_of_block (a := ⟨w.heap.size, j, none⟩) hbl).trans (hJ.out.marks j hj).2⟩
                        have hbut5 : But (fun b => b = w.heap.size) w4 w5 := ⟨hg.os.trans hJ.out.but.os, hg.tape.trans hJ.out.but.tape, hg.output.trans hJ.out.but.output, by have := hg.size; simp at this; omega, fun q hq hs => by
                          rw [hg.block q (by simp; omega) (fun e => by have := (hown.lt _ e.symm).1; omega), Below.heap_alloc wr _ _ (by omega)]
                          exact hJ.out.but.block q hq hs⟩
                        refine ⟨⟨_, (hM5 i hli).1, (hM5 i hli).2⟩, (hM5.put hli true).congr (fun j hj => ?_), ?_, hbut5.setCell (p := ⟨w.heap.size, i, none⟩) rfl _⟩
                        · by_cases e : j = i
                          · subst e; simp [hs]
                          · rw [if_neg e]
                            congr 2
                            rw [decide_eq_decide]; omega
                        · refine ownsRow_setCell_below ?_ (by show w.heap.size < _; omega) _
                          rw [cls_succ, if_pos hs]
                          simpa [iV, ints] using ho
                      obtain ⟨i0, hi', hz0, hz1, hz2'⟩ := info_parts infoInt
                      have hszw4 : w4.heap.size ≤ wr.heap.size := hszw
                      clear hJ hsm hs cI fI
                      go_wp2_with (at_builtin; refine wpList_append_own _ rfl (.tmp 79) (.tmp 81) 34 rfl w4.heap.size 3 i0 (.int .i64 0) 1 8 Tryd.underlying34 hi' hz0 hz1 hz2' rfl (by decide) _ _ _ rfl (hown.alloc _) ⟨wr.heap.size, 0, none⟩ 1 1 [.int .i64 (i : Int)] rfl rfl (cell_one_new _ _ _) (by simp [Value.oneCell']) (by unfold maxLen; omega) (by omega) (by simp; omega) ?_; intro v2 w5 hown2 hgrow2 _; obtain ⟨⟨u, y0, y1⟩, hJ2⟩ := hF.out v2 w5 hown2 hgrow2; clear hF hown2 hgrow2 hown)
                      go_roundw
                      case rel => exact ⟨i + 1, _, by trivial, by omega, by go_num, hJ2⟩
                      case measure => simp [intOf]; omega
                    · have h2' : decide (0 ≤ f2 i) = false := by simpa using h2
                      have hJ2 : Hid (RPJ w w4 wr m k (i + 1) same S gv) := hJ.out.skip (by rw [hsm, h2', Bool.and_false])
                      clear hJ hsm
                      go_wp2
                      go_roundw
                      case rel => exact ⟨i + 1, _, by trivial, by omega, by go_num, hJ2⟩
                      case measure => simp [intOf]; omega
                  · have h1' : decide (0 ≤ f1 i) = false := by simpa using h1
                    have hJ2 : Hid (RPJ w w4 wr m k (i + 1) same S gv) := hJ.out.skip (by rw [hsm, h1', Bool.false_and])
                    clear hJ hsm
                    go_wp2
                    go_roundw
                    case rel => exact ⟨i + 1, _, by trivial, by omega, by go_num, hJ2⟩
                    case measure => simp [intOf]; omega
                · have hli2 : ¬ (i : Int) < (m : Int) := by omega
                  obtain rfl : i = m := by omega
                  obtain ⟨hM, hG, hBt⟩ := hJ.out
                  have hRP := (HI.out.parts.below HB4.out).but hBt (by omega)
                  obtain ⟨Vs, ho1, ho2⟩ := hRP
                  have hG' := hG
                  rw [← ints_length] at hG'
                  obtain ⟨pa, pc, rfl, _⟩ := own_form hG'
                  rw [ints_length] at *
                  obtain ⟨i0, hi', hz0, hz1, hz2'⟩ := info_parts netInfo
                  have hszw4 : w4.heap.size ≤ wr.heap.size := hBt.size
                  have hhd : headB same k = true := headB_iff.2 HHD.out
                  have hlenp : ((heads same k).map (cls same i)).length ≤ 256 := by rw [List.length_map]; unfold heads; exact Nat.le_trans (List.length_filter_le _ _) (by simp; omega)
                  have hVl : Vs.length = ((heads same k).map (cls same i)).length := by have := ho1.1; omega
                  have hF : Hid (∀ v2 w5, World.ownsRow w5 (w.heap.size + 1) 34 1 v2 (((heads same k).map (cls same i)).length + 1) (Vs ++ [.slice pa (cls same i k).length pc]) → (wr.alloc (.cells #[.slice pa (cls same i k).length pc] 34)).grownBy w5 pv.ownBlock → Hid (RPI w w5 i same (k + 1) v2)) := fun v2 w5 hw1 hw2 => by
                    have hBa : Below wr.heap.size wr (wr.alloc (.cells #[.slice pa (cls same i k).length pc] 34)) := (Below.refl _ _).alloc (Nat.le_refl _) _
                    have ho1a := own_up ho1 hBa
                    have hM5 := hM.below hBa (show w.heap.size < wr.heap.size by omega)
                    have hbl : w5.heap[w.heap.size]? = (wr.alloc (.cells #[.slice pa (cls same i k).length pc] 34)).heap[w.heap.size]? := hw2.block w.heap.size (by simp; omega) (fun e => by have := (ho1.lt _ e.symm).1; omega)
                    refine ⟨⟨_, fun j hj => ⟨(World.cell?_of_block (a := ⟨w.heap.size, j, none⟩) hbl).trans (hM5 j hj).1, (World.frozen?_of_block (a := ⟨w.heap.size, j, none⟩) hbl).trans (hM5 j hj).2⟩, fun j hj => ?_⟩, ⟨Vs ++ [.slice pa (cls same i k).length pc], ?_, fun q p hp => ?_⟩, ?_, by have := hw2.size; simp at this; omega⟩
                    · rw [Bool.or_eq_true, HSi.out j hj]
                      simp only [hj, decide_true, Bool.true_and]
                      constructor
                      · rintro (⟨h, q1, q2⟩ | q1)
                        · exact ⟨h, by omega, q2⟩
                        · exact ⟨k, by omega, HHD.out, q1⟩
                      · rintro ⟨h, q1, q2, q3⟩
                        by_cases e : h = k
                        · subst e; exact .inr q3
                        · exact .inl ⟨h, by omega, q2, q3⟩
                    · rw [heads_succ, hhd]
                      simpa using hw1
                    · rw [heads_succ, hhd] at hp
                      simp only [if_true, List.map_append, List.map_cons, List.map_nil] at hp
                      by_cases hq : q < ((heads same k).map (cls same i)).length
                      · rw [List.getElem?_append_left hq] at hp
                        obtain ⟨v, p1, p2⟩ := ho2 q p hp
                        exact ⟨v, by rw [List.getElem?_append_left (by omega)]; exact p1, kept_other (own_up p2 hBa) ho1a (by decide) hw2⟩
                      · have hq2 : q = ((heads same k).map (cls same i)).length := by
                          have := (List.getElem?_eq_some_iff.1 hp).1
                          simp at this hq ⊢
                          omega
                        subst hq2
                        obtain rfl : cls same i k = p := by simpa using hp
                        refine ⟨_, by rw [← hVl]; simp, kept_other (own_up (own_lower hG (by omega)) hBa) ho1a (by decide) hw2⟩
                    · have hb0 : Below w.heap.size w wr := hBx.trans ((HB4.out.mono (by omega)).trans (hBt.below (by omega) (fun q hq => by omega)))
                      exact (hb0.alloc (by omega) _).grown hw2 (by simp; omega) (fun j hj => by have := (ho1.lt j hj).1; omega)
                  have hcell1 : ∀ (j : Nat) u, [Value.slice pa (cls same i k).length pc][j]? = some u → (wr.alloc (.cells #[.slice pa (cls same i k).length pc] 34)).cell? ((⟨wr.heap.size, 0, none⟩ : Addr).add j) = some u := cell_one_new wr (.slice pa (cls same i k).length pc) 34
                  clear hJ hM hG hG' hBt ho2 hhd hVl
                  go_wp2_with (at_builtin; refine wpList_append_own _ rfl (.tmp 86) (.tmp 88) 24 rfl (w.heap.size + 1) 34 i0 (.slice none 0 0) 1 24 Tryd.underlying24 hi' hz0 hz1 hz2' rfl (by decide) _ _ _ rfl (ho1.alloc _) ⟨wr.heap.size, 0, none⟩ 1 1 [.slice pa (cls same i k).length pc] rfl rfl hcell1 (by simp [Value.oneCell']) (by unfold maxLen; omega) (by omega) (by simp; omega) ?_; intro v2 w5 hown2 hgrow2 _; have hI2 := hF.out v2 w5 hown2 hgrow2; clear hF hown2 hgrow2 ho1)
                  go_roundw
                  case rel => exact ⟨k + 1, _, by trivial, by omega, by go_num, hI2⟩
                  case measure => simp [intOf]; omega
      · have hlt2 : ¬ ((k : Int) < (m : Int)) := by omega
        have hfin : Hid (RPts wr w.heap.size pv (ptL (m : Int) es) ∧ Below w.heap.size w wr) := ⟨by
          rw [EP.out]
          have h := hI.out.parts
          rw [show k = m by omega] at h
          exact h.lower (by omega), hI.out.below⟩
        have EM : Hid (mayE (m : Int) es = 0) := hm0
        clear hI EP hm0
        go_wp2
        go_ret2
        exact ⟨pv, by rw [EM.out]; rfl, hfin.out⟩
  · have E2 : Hid (ptL n es = []) := by show _ = _; unfold ptL; rw [if_neg hm0]
    have hne : ((mayE n es : Int) != 0) = true := by simp; exact hm0
    generalize mayE n es = z at *
    clear hE hx hm0
    go_enter Tryd.func11, Tryd.ntmps11
    go_wp2_with fail
    refine hmay.mono ?_
    rintro e w1 ⟨rfl, hw1⟩
    obtain rfl := hw1.symm
    clear hmay
    go_wp2
    go_ret2
    exact ⟨.slice none 0 0, rfl, by rw [E2.out]; exact ⟨[], World.ownsRow_nil .., fun i p h => by simp at h⟩, Below.refl _ _⟩

end Go.Proofs.YtgehiohieehgpaaDoor.GraphRef
