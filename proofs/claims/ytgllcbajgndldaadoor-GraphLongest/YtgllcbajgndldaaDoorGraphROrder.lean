/-
  The document's Order.
-/
import Derived.Test.YtgllcbajgndldaaDoorGraphRLong
namespace Go.Proofs.YtgllcbajgndldaaDoor.GraphRef
open Go.RowKit Go.Proofs.YtgllcbajgndldaaDoor.GramMath Go.Proofs.YtgllcbajgndldaaDoor.GramRow Go.Proofs.YtgllcbajgndldaaDoor.GramApart Go.Proofs.YtgllcbajgndldaaDoor.GramLent Go.Proofs.YtgllcbajgndldaaDoor.OpRow Go.Proofs.YtgllcbajgndldaaDoor.GraphNet Go.Proofs.YtgllcbajgndldaaDoor.GraphMath Go.Proofs.YtgllcbajgndldaaDoor.GraphFn Go.Proofs.YtgllcbajgndldaaDoor.GraphSort Go.Proofs.YtgllcbajgndldaaDoor.UsefulRef Go.Proofs.YtgllcbajgndldaaDoor.EndsMath
set_option linter.unusedVariables false
set_option linter.unusedSimpArgs false

/-- Of the nodes from one on the least that may stand next, or none. -/
def LeastF (F : Nat → Bool) (m k : Nat) (z : Int) : Prop := (z = -1 ∧ ∀ x, k ≤ x → x < m → F x = false) ∨ ∃ c : Nat, z = (c : Int) ∧ k ≤ c ∧ c < m ∧ F c = true ∧ ∀ x, k ≤ x → x < c → F x = false
theorem LeastF.skip {F : Nat → Bool} {m x : Nat} {z : Int} (h : LeastF F m (x + 1) z) (hx : F x = false) : LeastF F m x z := by
  rcases h with ⟨h1, h2⟩ | ⟨c, h1, h2, h3, h4, h5⟩
  · refine .inl ⟨h1, fun y hy hym => ?_⟩
    by_cases e : y = x
    · rw [e]; exact hx
    · exact h2 y (by omega) hym
  · refine .inr ⟨c, h1, by omega, h3, h4, fun y hy hyc => ?_⟩
    by_cases e : y = x
    · rw [e]; exact hx
    · exact h5 y (by omega) hyc
theorem LeastF.put {F : Nat → Bool} {m x : Nat} (hxm : x < m) (hx : F x = true) : LeastF F m x (x : Int) := .inr ⟨x, rfl, Nat.le_refl _, hxm, hx, fun y h1 h2 => by omega⟩
theorem free_all {m : Nat} {E : List (Nat × Nat)} {P : List Nat} {x : Nat} (hE : ∀ e ∈ E, e.1 < m ∧ e.2 < m) (hx : x ∉ P) (h : ∀ (j a : Nat), j < E.length → E[j]? = some (a, x) → a ∈ P) : freeB m (adj m E) P x = true := freeB_iff.2 ⟨hx, fun a ha hxa => by
  obtain ⟨j, hj, e⟩ := List.mem_iff_getElem.1 (mem_adj.1 hxa).2
  exact h j a hj (by rw [List.getElem?_eq_getElem hj, e])⟩
theorem free_not {m : Nat} {E : List (Nat × Nat)} {P : List Nat} {x a : Nat} (hE : ∀ e ∈ E, e.1 < m ∧ e.2 < m) (h : (a, x) ∈ E) (ha : a ∉ P) : freeB m (adj m E) P x = false := by
  rw [Bool.eq_false_iff]
  intro hc
  exact ha ((freeB_iff.1 hc).2 a (hE _ h).1 (mem_adj.2 ⟨(hE _ h).2, h⟩))
theorem free_stood {m : Nat} {A : Nat → List Nat} {P : List Nat} {x : Nat} (h : x ∈ P) : freeB m A P x = false := by
  rw [Bool.eq_false_iff]
  intro hc
  exact (freeB_iff.1 hc).1 h

/-- What Order answers. -/
def ROrdV (w' : World) (n : Int) (es : List (Int × Int)) (e : Ending) : Prop := ∃ la lc, e = .returned (.tuple #[.slice la (odL n es).length lc, .int .i64 (odC n es : Int)]) ∧ IRow w' la (odL n es)

/-- What is known ahead of a node. -/
structure OrdI (w wr : World) (m : Nat) (es : List (Int × Int)) (P : List Nat) (oa : Option Addr) (oc : Nat) : Prop where
  stood : Stood m (adj m (toE es)) P
  rest : ordR m (adj m (toE es)) (m - P.length) P = ordG (m : Int) es
  marks : BRow wr w.heap.size m (fun i => decide (i ∈ P))
  own : wr.ownsRow (w.heap.size + 1) 3 1 (.slice oa P.length oc) P.length (iV (ints P))
  below : Below w.heap.size w wr
  size : w.heap.size < wr.heap.size

set_option maxRecDepth 100000 in
set_option maxHeartbeats 8000000 in
theorem rorder_any (n : Int) (ea : Option Addr) (ec : Nat) (es : List (Int × Int)) (w : World) (hn : I64 n) (hE : ERow w ea es) (hl : es.length ≤ 1125899906842624) (hx : ∀ e ∈ es, I64 e.1 ∧ I64 e.2) :
    Calls Tryd.prog 9 #[.int .i64 n, .slice ea es.length ec] w fun e w' => ROrdV w' n es e ∧ Below w.heap.size w w' := by
  have hmay := rmay_any n ea ec es w hn hE hl hx
  by_cases hm0 : mayE n es = 0
  · obtain ⟨m, rfl, hm, hel, hes, hEr⟩ := mayE_zero hm0
    rw [hm0] at hmay
    have hmk := made_bools m hm w
    have HE : Hid (ERow w ea es) := hE
    have HX : Hid (∀ e ∈ es, 0 ≤ e.1 ∧ e.1 < (m : Int) ∧ 0 ≤ e.2 ∧ e.2 < (m : Int)) := hes
    have HER : Hid (∀ e ∈ toE es, e.1 < m ∧ e.2 < m) := hEr
    have HM0 : Hid (mayE (m : Int) es = 0) := hm0
    have HI0 : Hid (OrdI w (w.alloc (.cells (madeCells #[.bool false] m) 4)) m es [] none 0) := ⟨Stood.nil m _, by simp [ordG], (madeB_row m w).congr (fun i _ => by simp), World.ownsRow_nil .., (Below.refl _ _).alloc (Nat.le_refl _) _, by simp⟩
    clear hE hes hEr hm0 hx
    go_enter Tryd.func9, Tryd.ntmps9
    go_wp2_with fail
    refine hmay.mono ?_
    rintro e w1 ⟨rfl, hw1⟩
    obtain rfl := hw1.symm
    clear hmay
    go_wp2
    clear hmk
    go_loopw [8] (fun s8 wr => ∃ (P : List Nat) (oa : Option Addr) (oc : Nat), s8 = .slice oa P.length oc ∧ Hid (OrdI w wr m es P oa oc)) (fun s8 _ => m - lenOf s8)
    case atStart => exact ⟨[], none, 0, rfl, HI0⟩
    case round =>
      clear HI0
      obtain ⟨P, oa, oc, rfl, hI⟩ := hrel
      have hPl : P.length ≤ m := nodup_le hI.out.stood.nodup hI.out.stood.lt
      by_cases hlt : P.length < m
      · have hlt2 : (P.length : Int) < (m : Int) := by omega
        have hmp : 0 < m := by omega
        obtain ⟨wx, rfl⟩ : ∃ x, x = wr := ⟨wr, rfl⟩
        obtain ⟨F, hF⟩ : ∃ F, F = freeB m (adj m (toE es)) P := ⟨_, rfl⟩
        have HF : Hid (F = freeB m (adj m (toE es)) P) := hF
        have HE1 : Hid (ERow wx ea es) := ERow.below HE.out hI.out.below (Nat.le_refl _)
        have HBR : Hid (BRow wx w.heap.size m (fun i => decide (i ∈ P))) := hI.out.marks
        clear hF
        go_wp2
        go_loopw [9, 10] (fun s9 s10 wr => ∃ (k : Nat) (zk z : Int), k ≤ m ∧ Hid (zk = (k : Int) - 1) ∧ s10 = .int .i64 zk ∧ s9 = .int .i64 z ∧ wr = wx ∧ Hid (LeastF F m k z)) (fun _ s10 _ => ((intOf s10) + 1).toNat)
        case atStart => exact ⟨m, _, -1, Nat.le_refl _, rfl, rfl, rfl, rfl, .inl ⟨rfl, fun x h1 h2 => by omega⟩⟩
        case round =>
          obtain ⟨k, zk, z, hk, hzk, rfl, rfl, hwr, hLF⟩ := hrel
          replace hwr := hwr.symm
          subst hwr
          by_cases hk0 : k = 0
          · subst hk0
            obtain rfl : zk = -1 := hzk.out
            rcases hLF.out with ⟨hz, hno⟩ | ⟨c, hz, _, hcm, hFc, hmin⟩
            · subst hz
              have hod : ordG (m : Int) es = none := by
                have h := hI.out.rest
                rw [show m - P.length = (m - P.length - 1) + 1 by omega] at h
                rw [← h]
                simp only [ordR]
                rw [nxt_no (fun y hy => by rw [← HF.out]; exact hno y (by omega) hy)]
              have hrv : Hid (ROrdV wx (m : Int) es (.returned (.tuple #[.slice none 0 0, .int .i64 15])) ∧ Below w.heap.size w wx) := by
                have e1 : odL (m : Int) es = [] := by unfold odL; rw [if_pos HM0.out, hod]
                have e2 : odC (m : Int) es = 15 := by unfold odC; rw [if_pos HM0.out, hod]
                exact ⟨⟨none, 0, by rw [e1, e2]; rfl, by rw [e1]; exact fun i x hx => by simp at hx⟩, hI.out.below⟩
              clear hI hLF hno hod
              go_wp2
              go_ret2
              exact hrv.out
            · subst hz
              have hc0 : decide ((c : Int) < 0) = false := by simp
              have hcm2 : (c : Int) < (m : Int) := by omega
              obtain ⟨hS, hrest, hM, hO, hB, hz⟩ := hI.out
              obtain ⟨m1, m2⟩ := hM c hcm
              have hfr : freeB m (adj m (toE es)) P c = true := by rw [← HF.out]; exact hFc
              have hS2 : Hid (Stood m (adj m (toE es)) (P ++ [c]) ∧ ordR m (adj m (toE es)) (m - (P.length + 1)) (P ++ [c]) = ordG (m : Int) es) := by
                refine ⟨hS.add hcm hfr, ?_⟩
                rw [← hrest, show m - P.length = (m - (P.length + 1)) + 1 by omega]
                simp only [ordR]
                rw [nxt_is hcm hfr (fun y hy => by rw [← HF.out]; exact hmin y (by omega) hy)]
              have hM2 : BRow (wx.setCell ⟨w.heap.size, c, none⟩ (.bool true)) w.heap.size m (fun i => decide (i ∈ P ++ [c])) := (hM.set hcm).congr (fun i hi => by
                by_cases e : i = c
                · subst e; rw [updB_at]; simp
                · rw [updB_ne _ e]; simp [e])
              have hO9 : (wx.setCell ⟨w.heap.size, c, none⟩ (.bool true)).ownsRow (w.heap.size + 1) 3 1 (.slice oa P.length oc) P.length (iV (ints P)) := by
                obtain ⟨h1, h | ⟨g, cap, cur, hv, hbb, hg, rest⟩⟩ := hO
                · exact ⟨h1, .inl h⟩
                · exact ⟨h1, .inr ⟨g, cap, cur, hv, hbb, (Below.heap_setCell _ _ _ _ (by show g ≠ w.heap.size; omega)).trans hg, rest⟩⟩
              have hB9 : Below w.heap.size w (wx.setCell ⟨w.heap.size, c, none⟩ (.bool true)) := hB.setCell (p := ⟨w.heap.size, c, none⟩) (Nat.le_refl _) _
              have hc9 : ∀ (j : Nat) u, [Value.int .i64 (c : Int)][j]? = some u → ((wx.setCell ⟨w.heap.size, c, none⟩ (.bool true)).alloc (.cells #[.int .i64 (c : Int)] 3)).cell? ((⟨wx.heap.size, 0, none⟩ : Addr).add j) = some u := fun j u hj => by
                have h := cell_one_new (wx.setCell ⟨w.heap.size, c, none⟩ (.bool true)) (.int .i64 (c : Int)) 3 j u hj
                rwa [World.size_setCell] at h
              have hFn : Hid (∀ v2 w3, World.ownsRow w3 (w.heap.size + 1) 3 1 v2 (P.length + 1) (iV (ints P) ++ [.int .i64 (c : Int)]) → ((wx.setCell ⟨w.heap.size, c, none⟩ (.bool true)).alloc (.cells #[.int .i64 (c : Int)] 3)).grownBy w3 (Value.slice oa P.length oc).ownBlock → ∃ oa' oc', v2 = .slice oa' (P ++ [c]).length oc' ∧ Hid (OrdI w w3 m es (P ++ [c]) oa' oc')) := fun v2 w3 h1 h2 => by
                have h3 : w3.ownsRow (w.heap.size + 1) 3 1 v2 (P ++ [c]).length (iV (ints (P ++ [c]))) := by
                  rw [List.length_append]
                  simpa [ints, iV] using h1
                have hb3 : Below w.heap.size w w3 := (hB9.alloc (by simp; omega) _).grown h2 (by simp; omega) (fun j hj => by have := (hO9.lt j hj).1; omega)
                have B5 := ((Below.refl (w.heap.size + 1) (wx.setCell ⟨w.heap.size, c, none⟩ (.bool true))).alloc (show w.heap.size + 1 ≤ _ from by rw [World.size_setCell]; exact hz) _).grown h2 (by simp; omega) (fun j hj => (hO9.lt j hj).1)
                have hm3 : BRow w3 w.heap.size m (fun i => decide (i ∈ P ++ [c])) := hM2.below B5 (by omega)
                obtain ⟨_, ⟨_, h4⟩ | ⟨g, cap, cur, rfl, _⟩⟩ := id h3
                · simp at h4
                · exact ⟨_, cap, rfl, ⟨hS2.out.1, by rw [List.length_append]; exact hS2.out.2, hm3, h3, hb3, by have := B5.size; simp at this; omega⟩⟩
              obtain ⟨i0, hi, hz0, hz1, hz2⟩ := info_parts infoInt
              clear hI hLF hmin hS hrest hM hO hB hM2 hB9 hS2 hfr hFc HBR HE1
              go_wp2_with (at_builtin; refine wpList_append_own _ rfl (.tmp 68) (.tmp 70) 24 rfl (w.heap.size + 1) 3 i0 (.int .i64 0) 1 8 Tryd.underlying24 hi hz0 hz1 hz2 rfl (by decide) _ _ _ rfl (hO9.alloc _) ⟨wx.heap.size, 0, none⟩ 1 1 [.int .i64 (c : Int)] rfl rfl hc9 (by simp [Value.oneCell']) (by unfold maxLen; omega) (by omega) (by simp; omega) ?_; intro v2 w3 hown2 hgrow2 _; obtain ⟨oa', oc', hv2, hI2⟩ := hFn.out v2 w3 hown2 hgrow2; subst hv2; clear hFn hown2 hgrow2 hO9 hc9)
              go_roundw
              case rel => exact ⟨P ++ [c], oa', oc', by simp, hI2⟩
              case measure => simp [lenOf]; omega
          · obtain ⟨x, rfl⟩ : ∃ x, k = x + 1 := ⟨k - 1, by omega⟩
            obtain rfl : zk = (x : Int) := by have := hzk.out; omega
            have hxm : x < m := by omega
            have hxm2 : (x : Int) < (m : Int) := by omega
            have hx0 : (0 : Int) ≤ (x : Int) := by omega
            have cX : wx.cell? ⟨w.heap.size, x, none⟩ = some (.bool (decide (x ∈ P))) := (HBR.out x hxm).1
            by_cases hxP : x ∈ P
            · rw [decide_eq_true hxP] at cX
              have hLF2 : Hid (LeastF F m x z) := hLF.out.skip (by rw [HF.out]; exact free_stood hxP)
              clear hLF hxP hzk hI
              go_wp2
              go_roundw
              case rel => exact ⟨x, _, z, by omega, rfl, rfl, rfl, trivial, hLF2⟩
              case measure => simp [intOf]
            · rw [decide_eq_false hxP] at cX
              have HXP : Hid (x ∉ P) := hxP
              clear hzk hxP
              go_wp2
              go_loopw [11, 12] (fun s11 s12 wr => ∃ (i : Nat) (b : Bool), i ≤ es.length ∧ s12 = .int .i64 (i : Int) ∧ s11 = .bool b ∧ wr = wx ∧ Hid ((b = true → ∀ (j a : Nat), j < i → (toE es)[j]? = some (a, x) → a ∈ P) ∧ (b = false → ∃ a, (a, x) ∈ toE es ∧ a ∉ P))) (fun _ s12 _ => es.length - (intOf s12).toNat)
              case atStart => exact ⟨0, true, by omega, rfl, rfl, rfl, fun _ j a hj => by omega, fun h => by cases h⟩
              case round =>
                obtain ⟨i, b, hi, rfl, rfl, hwr, hJ⟩ := hrel
                replace hwr := hwr.symm
                subst hwr
                cases b with
                | false =>
                  have hLF2 : Hid (LeastF F m x z) := by
                    obtain ⟨a, h1, h2⟩ := hJ.out.2 rfl
                    exact hLF.out.skip (by rw [HF.out]; exact free_not HER.out h1 h2)
                  clear hJ hLF cX
                  by_cases hil : (i : Int) < (es.length : Int)
                  · go_wp2
                    go_roundw
                    case rel => exact ⟨x, _, z, by omega, rfl, rfl, rfl, trivial, hLF2⟩
                    case measure => simp [intOf]
                  · go_wp2
                    go_roundw
                    case rel => exact ⟨x, _, z, by omega, rfl, rfl, rfl, trivial, hLF2⟩
                    case measure => simp [intOf]
                | true =>
                  by_cases hlti : i < es.length
                  · obtain ⟨⟨u, v⟩, hxy⟩ : ∃ e, es[i]? = some e := ⟨es[i], List.getElem?_eq_getElem hlti⟩
                    obtain ⟨eb, eo, rfl, ce0, ce1⟩ := HE1.out i _ hxy
                    dsimp only at ce0 ce1
                    obtain ⟨hx0, hxm, hy0, hym⟩ := HX.out _ (List.mem_of_getElem? hxy)
                    dsimp only at hx0 hxm hy0 hym
                    obtain ⟨u, rfl⟩ : ∃ X : Nat, u = (X : Int) := ⟨u.toNat, by omega⟩
                    obtain ⟨v, rfl⟩ : ∃ Y : Nat, v = (Y : Int) := ⟨v.toNat, by omega⟩
                    have hum : u < m := by omega
                    have hEk : (toE es)[i]? = some (u, v) := by simp [toE, hxy]
                    have hlt3 : (i : Int) < (es.length : Int) := by omega
                    have cU : wx.cell? ⟨w.heap.size, u, none⟩ = some (.bool (decide (u ∈ P))) := (HBR.out u hum).1
                    by_cases hvx : v = x
                    · subst hvx
                      have hne : ((v : Int) != (v : Int)) = false := by simp
                      by_cases huP : u ∈ P
                      · rw [decide_eq_true huP] at cU
                        have hJ2 : Hid ((true = true → ∀ (j a : Nat), j < i + 1 → (toE es)[j]? = some (a, v) → a ∈ P) ∧ (true = false → ∃ a, (a, v) ∈ toE es ∧ a ∉ P)) := ⟨fun _ j a hj ha => by
                          by_cases e : j = i
                          · subst e; rw [hEk] at ha; cases ha; exact huP
                          · exact hJ.out.1 rfl j a (by omega) ha, fun h => by cases h⟩
                        clear hJ huP hxy hEk cX
                        go_wp2
                        go_roundw
                        case rel => exact ⟨i + 1, true, by omega, by go_num, rfl, trivial, hJ2⟩
                        case measure => simp [intOf]; omega
                      · rw [decide_eq_false huP] at cU
                        have hJ2 : Hid ((false = true → ∀ (j a : Nat), j < i + 1 → (toE es)[j]? = some (a, v) → a ∈ P) ∧ (false = false → ∃ a, (a, v) ∈ toE es ∧ a ∉ P)) := ⟨fun h => (by cases h), fun _ => ⟨u, List.mem_of_getElem? hEk, huP⟩⟩
                        clear hJ huP hxy hEk cX
                        go_wp2
                        go_roundw
                        case rel => exact ⟨i + 1, false, by omega, by go_num, rfl, trivial, hJ2⟩
                        case measure => simp [intOf]; omega
                    · have hne : ((v : Int) != (x : Int)) = true := by simp; omega
                      have hJ2 : Hid ((true = true → ∀ (j a : Nat), j < i + 1 → (toE es)[j]? = some (a, x) → a ∈ P) ∧ (true = false → ∃ a, (a, x) ∈ toE es ∧ a ∉ P)) := ⟨fun _ j a hj ha => by
                        by_cases e : j = i
                        · subst e; rw [hEk] at ha; cases ha; exact absurd rfl hvx
                        · exact hJ.out.1 rfl j a (by omega) ha, fun h => by cases h⟩
                      clear hJ hvx hxy hEk cX cU
                      go_wp2
                      go_roundw
                      case rel => exact ⟨i + 1, true, by omega, by go_num, rfl, trivial, hJ2⟩
                      case measure => simp [intOf]; omega
                  · obtain rfl : i = es.length := by omega
                    have hLF2 : Hid (LeastF F m x (x : Int)) := LeastF.put hxm (by rw [HF.out]; exact free_all HER.out HXP.out (fun j a hj => hJ.out.1 rfl j a (by rw [toE_length] at hj; exact hj)))
                    clear hJ hLF cX hlti
                    go_wp2
                    go_roundw
                    case rel => exact ⟨x, _, x, by omega, rfl, rfl, rfl, trivial, hLF2⟩
                    case measure => simp [intOf]
      · have hlt2 : ¬ (P.length : Int) < (m : Int) := by omega
        have hod : ordG (m : Int) es = some P := by
          have h := hI.out.rest
          rw [show m - P.length = 0 by omega] at h
          rw [← h]; rfl
        have hrv : Hid (ROrdV wr (m : Int) es (.returned (.tuple #[.slice oa P.length oc, .int .i64 0])) ∧ Below w.heap.size w wr) := by
          have e1 : odL (m : Int) es = ints P := by unfold odL; rw [if_pos HM0.out, hod]
          have e2 : odC (m : Int) es = 0 := by unfold odC; rw [if_pos HM0.out, hod]
          have ho := hI.out.own
          rw [← ints_length] at ho
          obtain ⟨a1, c1, h1, h2⟩ := own_form ho
          cases h1
          exact ⟨⟨oa, oc, by rw [e1, e2, ints_length]; rfl, by rw [e1]; exact h2⟩, hI.out.below⟩
        clear hI hod
        go_wp2
        go_ret2
        exact hrv.out
  · have hrv : ROrdV w n es (.returned (.tuple #[.slice none 0 0, .int .i64 (mayE n es : Int)])) := by
      have e1 : odL n es = [] := by unfold odL; rw [if_neg hm0]
      have e2 : odC n es = mayE n es := by unfold odC; rw [if_neg hm0]
      exact ⟨none, 0, by rw [e1, e2]; rfl, by rw [e1]; exact fun i x hx => by simp at hx⟩
    have hne : ((mayE n es : Int) != 0) = true := by simp; exact hm0
    obtain ⟨z, hz⟩ : ∃ z, z = mayE n es := ⟨_, rfl⟩
    rw [← hz] at hmay hne hrv
    have HRV : Hid (ROrdV w n es (.returned (.tuple #[.slice none 0 0, .int .i64 (z : Int)]))) := hrv
    clear hE hx hm0 hrv hz
    go_enter Tryd.func9, Tryd.ntmps9
    go_wp2_with fail
    refine hmay.mono ?_
    rintro e w1 ⟨rfl, hw1⟩
    obtain rfl := hw1.symm
    clear hmay
    go_wp2
    go_ret2
    exact ⟨HRV.out, Below.refl _ _⟩

end Go.Proofs.YtgllcbajgndldaaDoor.GraphRef
