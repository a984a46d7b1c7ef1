/-
  The program's round of a net.
-/
import Derived.Test.YtgllcbajgndldaaDoorGraphWay
namespace Go.Proofs.YtgllcbajgndldaaDoor.GraphNet
open Go.RowKit Go.Sort Go.Proofs.YtgllcbajgndldaaDoor.GramMath Go.Proofs.YtgllcbajgndldaaDoor.GramRow Go.Proofs.YtgllcbajgndldaaDoor.GramApart Go.Proofs.YtgllcbajgndldaaDoor.GraphMath Go.Proofs.YtgllcbajgndldaaDoor.GraphFn Go.Proofs.YtgllcbajgndldaaDoor.GraphSort Go.Proofs.YtgllcbajgndldaaDoor.OpRow Go.Proofs.YtgllcbajgndldaaDoor.GramErrs Go.Proofs.YtgllcbajgndldaaDoor.EndsMath
set_option linter.unusedVariables false
set_option linter.unusedSimpArgs false

/-- The way back to a node, by the first node of its tour that leads to it. -/
def backWay (m : Nat) (E : List (Nat × Nat)) (s : Nat) : Option (List Nat) := ((GraphMath.tour m E [s]).nodes.find? (fun x => (adj m E x).contains s)).map (wayF (GraphMath.tour m E [s]).ahead m)
def better (best new : Option (List Nat)) : Option (List Nat) :=
  match new, best with
  | none, b => b
  | some W, none => some W
  | some W, some b => if W.length < b.length then some W else some b
def roundR (m : Nat) (E : List (Nat × Nat)) : Option (List Nat) := (List.range m).foldl (fun b s => better b (backWay m E s)) none
def roundK (m : Nat) (E : List (Nat × Nat)) (k : Nat) : Option (List Nat) := (List.range k).foldl (fun b s => better b (backWay m E s)) none
theorem roundK_succ (m : Nat) (E : List (Nat × Nat)) (k : Nat) : roundK m E (k + 1) = better (roundK m E k) (backWay m E k) := by unfold roundK; rw [List.range_succ, List.foldl_append]; rfl

/-- A list that may be none, in new memory. -/
def BestV (w0 w : World) (o : Option (List Nat)) (v : Value) : Prop :=
  match o with
  | none => v = .slice none 0 0
  | some L => ∃ g c, v = .slice (some ⟨g, 0, none⟩) L.length c ∧ w.ownsRow w0.heap.size 3 1 v L.length (iV (ints L)) ∧ L.length ≤ 256

theorem own_up {w w' : World} {base e : Nat} {v : Value} {n : Nat} {xs : List Value} (h : w.ownsRow base e 1 v n xs) (hb : Below w.heap.size w w') : w'.ownsRow base e 1 v n xs := by
  obtain ⟨h1, h | ⟨g, cap, cur, hv, hbb, hg, rest⟩⟩ := h
  · exact ⟨h1, .inl h⟩
  · exact ⟨h1, .inr ⟨g, cap, cur, hv, hbb, (hb.block g (Array.getElem?_eq_some_iff.1 hg).1).trans hg, rest⟩⟩
theorem own_lower {w : World} {base base' e : Nat} {v : Value} {n : Nat} {xs : List Value} (h : w.ownsRow base e 1 v n xs) (hb : base' ≤ base) : w.ownsRow base' e 1 v n xs := by
  obtain ⟨h1, h | ⟨g, cap, cur, hv, hbb, rest⟩⟩ := h
  · exact ⟨h1, .inl h⟩
  · exact ⟨h1, .inr ⟨g, cap, cur, hv, Nat.le_trans hb hbb, rest⟩⟩
theorem BestV.below {w0 w w' : World} {o : Option (List Nat)} {v : Value} (h : BestV w0 w o v) (hb : Below w.heap.size w w') : BestV w0 w' o v := by
  match o, h with
  | none, h => exact h
  | some L, ⟨g, c, h1, h2, h3⟩ => exact ⟨g, c, h1, own_up h2 hb, h3⟩

theorem eql_some (a : Addr) (n c : Nat) (w : World) : (binOp .eql 24 (.slice (some a) n c) (.slice none 0 0)).run Tryd.prog w = .ok (.bool false) w := by kernel_rfl
theorem eql_none (w : World) : (binOp .eql 24 (.slice none 0 0) (.slice none 0 0)).run Tryd.prog w = .ok (.bool true) w := by kernel_rfl

theorem backWay_facts {m : Nat} {E : List (Nat × Nat)} (hE : ∀ e ∈ E, e.1 < m ∧ e.2 < m) {s x i : Nat} (hs : s < m) (hi : (GraphMath.tour m E [s]).nodes[i]? = some x) :
    Chain (GraphMath.tour m E [s]).ahead x (wayF (GraphMath.tour m E [s]).ahead m x) ∧ (∀ y ∈ wayF (GraphMath.tour m E [s]).ahead m x, y < m) ∧ (wayF (GraphMath.tour m E [s]).ahead m x).length ≤ m := by
  obtain ⟨hok, _⟩ := tour_facts hE [s] (by simpa using hs)
  have hl := hok.len
  have hi2 := (List.getElem?_eq_some_iff.1 hi).1
  obtain ⟨h1, h2, h3⟩ := way_chain (tour_ranked (es := E) s hs) m i x (by omega) hi
  exact ⟨h1, fun y hy => hok.lt y (h2 y hy), by omega⟩

theorem find_hit {α : Type} {p : α → Bool} {l : List α} {j : Nat} {x : α} (hx : l[j]? = some x) (hp : p x = true) (hno : ∀ i y, i < j → l[i]? = some y → p y = false) : l.find? p = some x := by
  induction l generalizing j with
  | nil => simp at hx
  | cons a l ih =>
    cases j with
    | zero =>
      obtain rfl : a = x := by simpa using hx
      simp [List.find?, hp]
    | succ j =>
      have h0 := hno 0 a (by omega) rfl
      simp only [List.find?, h0]
      exact ih (by simpa using hx) (fun i y hi hy => hno (i + 1) y (by omega) (by simpa using hy))
theorem find_miss {α : Type} {p : α → Bool} {l : List α} (hno : ∀ i y, i < l.length → l[i]? = some y → p y = false) : l.find? p = none := by
  rw [List.find?_eq_none]
  intro x hx
  obtain ⟨i, hi, e⟩ := List.mem_iff_getElem.1 hx
  have := hno i x hi (by rw [List.getElem?_eq_getElem hi, e])
  simp [this]
theorem contains_ints (l : List Nat) (x : Nat) : (ints l).contains (x : Int) = l.contains x := by
  rw [Bool.eq_iff_iff]
  simp [mem_ints]

theorem contains_irow (a : Option Addr) (c : Nat) (zs : List Int) (x : Int) (w : World) (hr : IRow w a zs) (hl : zs.length ≤ 1000000) :
    Calls Tryd.prog 30 #[.slice a zs.length c, .int .i64 x] w fun e w' => e = .returned (.bool (zs.contains x)) ∧ w' = w := by
  cases zs with
  | nil => exact Tryd.slices_Contains_int_empty a c x w
  | cons z zs =>
    obtain ⟨b, off, rfl, _⟩ := hr 0 z rfl
    have h := Tryd.slices_Contains_int b off (z :: zs).length c (z :: zs) x w (Nat.le_refl _) (by omega) (fun j hj => by
      obtain ⟨b', off', e, hc⟩ := hr j _ (List.getElem?_eq_getElem hj)
      cases e
      rw [hc]
      simp [List.getD, List.getElem?_eq_getElem hj])
    rw [List.take_of_length_le (Nat.le_refl _)] at h
    exact h

set_option maxRecDepth 100000 in
set_option maxHeartbeats 4000000 in
theorem round_any (bg m gc : Nat) (E : List (Nat × Nat)) (w : World) (hN : NetR w bg m (fun a => ints (adj m E a))) (hm : m ≤ 256) (hE : ∀ e ∈ E, e.1 < m ∧ e.2 < m) :
    Calls Tryd.prog 19 #[.slice (some ⟨bg, 0, none⟩) m gc] w fun e w' => ∃ v, e = .returned v ∧ BestV w w' (roundR m E) v ∧ Below w.heap.size w w' := by
  have HN : Hid (NetR w bg m (fun a => ints (adj m E a))) := hN
  have HE : Hid (∀ e ∈ E, e.1 < m ∧ e.2 < m) := hE
  have hq0 := eql_none
  have hq1 := eql_some
  clear hN hE
  go_enter Tryd.func19, Tryd.ntmps19
  go_wp2
  go_step3
  go_wp2
  go_step3
  go_wp2
  go_loopw [3, 11] (fun s3 s11 wr => ∃ (k : Nat) (bv : Value), s3 = bv ∧ k ≤ m ∧ s11 = .int .i64 (k : Int) ∧ Hid (BestV w wr (roundK m E k) bv) ∧ Hid (Below w.heap.size w wr)) (fun _ s11 _ => m - (intOf s11).toNat)
  case atStart => exact ⟨0, _, rfl, by omega, rfl, rfl, Below.refl _ _⟩
  case round =>
    obtain ⟨k, bv, hbv, hk, rfl, hV, hB⟩ := hrel
    obtain rfl := hbv.symm
    by_cases hlt : k < m
    · have hlt2 : (k : Int) < (m : Int) := by omega
      have hBa : Below wr.heap.size wr (wr.alloc (.cells #[.int .i64 (k : Int)] 3)) := (Below.refl _ _).alloc (Nat.le_refl _) _
      have hBw : Below w.heap.size w (wr.alloc (.cells #[.int .i64 (k : Int)] 3)) := hB.out.alloc hB.out.size _
      have htour := tour_any bg m gc E (some ⟨wr.heap.size, 0, none⟩) 1 [k] (wr.alloc (.cells #[.int .i64 (k : Int)] 3)) (NetR.below HN.out hBw (Nat.le_refl _)) (fun i x hx => ⟨_, 0, rfl, by
        match i, hx with
        | 0, hx => obtain rfl := Option.some.inj hx; simp [go_sem]⟩) (by simpa using hlt) hm (by simp) HE.out
      obtain ⟨wz, rfl⟩ : ∃ x, x = wr := ⟨wr, rfl⟩
      go_wp2_with fail
      refine htour.mono ?_
      rintro e w2 ⟨nv, ba, rfl, hTV, hb2⟩
      have hB2 : Below w.heap.size w w2 := hBw.trans (hb2.mono hBw.size)
      have hV2 := (hV.out.below hBa).below hb2
      have hnl := (tour_facts HE.out [k] (by simpa using hlt)).1.len
      have hnd := hTV.nodes
      rw [← ints_length] at hnd
      obtain ⟨na, nc, rfl, hnr⟩ := own_form hnd
      rw [ints_length] at *
      obtain ⟨wx, hwx⟩ : ∃ wx, wx = w2.alloc (.cells #[.slice na (GraphMath.tour m E [k]).nodes.length nc, .slice (some ⟨ba, 0, none⟩) m m] 61) := ⟨_, rfl⟩
      have hBx : Below w2.heap.size w2 wx := by rw [hwx]; exact (Below.refl _ _).alloc (Nat.le_refl _) _
      have hbx : RowAt wx w2.heap.size 61 #[.slice na (GraphMath.tour m E [k]).nodes.length nc, .slice (some ⟨ba, 0, none⟩) m m] := by rw [hwx]; exact heap_new _ _
      have hBwx : Below w.heap.size w wx := hB2.trans (hBx.mono hB2.size)
      have hVx := hV2.below hBx
      have hnx := IRow.below hnr hBx (Nat.le_refl _)
      have hax : ∀ i, i < m → wx.cell? ⟨ba, i, none⟩ = some (.int .i64 ((GraphMath.tour m E [k]).ahead i)) := fun i hi => (hBx.cell (p := ⟨ba, i, none⟩) (cell_lt (hTV.ahead i hi))).trans (hTV.ahead i hi)
      have HV : Hid (BestV w wx (roundK m E k) bv) := hVx
      have HB : Hid (Below w.heap.size w wx) := hBwx
      have HX : Hid (IRow wx na (ints (GraphMath.tour m E [k]).nodes)) := hnx
      have HA : Hid (∀ i, i < m → wx.cell? ⟨ba, i, none⟩ = some (.int .i64 ((GraphMath.tour m E [k]).ahead i))) := hax
      have c0 : wx.cell? ⟨w2.heap.size, 0, none⟩ = some (.slice na (GraphMath.tour m E [k]).nodes.length nc) := hbx.cell rfl
      have c1 : wx.cell? ⟨w2.heap.size, 1, none⟩ = some (.slice (some ⟨ba, 0, none⟩) m m) := hbx.cell rfl
      have HT : Hid (∀ i x, (GraphMath.tour m E [k]).nodes[i]? = some x → x < m) := fun i x hx => (tour_facts HE.out [k] (by simpa using hlt)).1.lt x (List.mem_of_getElem? hx)
      have HBK : Hid (∀ j x, (GraphMath.tour m E [k]).nodes[j]? = some x → (adj m E x).contains k = true → (∀ i y, i < j → (GraphMath.tour m E [k]).nodes[i]? = some y → (adj m E y).contains k = false) → backWay m E k = some (wayF (GraphMath.tour m E [k]).ahead m x) ∧ Chain (GraphMath.tour m E [k]).ahead x (wayF (GraphMath.tour m E [k]).ahead m x) ∧ (∀ y ∈ wayF (GraphMath.tour m E [k]).ahead m x, y < m) ∧ (wayF (GraphMath.tour m E [k]).ahead m x).length ≤ m) := fun j x hx hc hno => ⟨by
        unfold backWay
        rw [find_hit (p := fun x => (adj m E x).contains k) hx hc hno]
        rfl, backWay_facts HE.out hlt hx⟩
      have HBN : Hid ((∀ i y, i < (GraphMath.tour m E [k]).nodes.length → (GraphMath.tour m E [k]).nodes[i]? = some y → (adj m E y).contains k = false) → backWay m E k = none) := fun hno => by
        unfold backWay
        rw [find_miss (p := fun x => (adj m E x).contains k) hno]
        rfl
      generalize GraphMath.tour m E [k] = t at *
      clear htour hTV hb2 hBa hBw hnd hnr hBx hbx hBwx hVx hnx hax hB2 hV2 hV hB
      go_wp2
      rw [← hwx]
      clear hwx
      go_loopw [3, 21] (fun s3 s21 wr => ∃ j : Nat, s3 = bv ∧ j ≤ t.nodes.length ∧ s21 = .int .i64 (j : Int) ∧ wr = wx ∧ Hid (∀ i y, i < j → t.nodes[i]? = some y → (adj m E y).contains k = false)) (fun _ s21 _ => t.nodes.length - (intOf s21).toNat)
      case atStart => exact ⟨0, rfl, by omega, rfl, rfl, fun i y hi => by omega⟩
      case round =>
        obtain ⟨j, hs3, hj, rfl, hwr, hno⟩ := hrel
        obtain rfl := hs3.symm
        obtain rfl := hwr.symm
        by_cases hlj : j < t.nodes.length
        · obtain ⟨x, hx1⟩ : ∃ x, t.nodes[j]? = some x := ⟨t.nodes[j], List.getElem?_eq_getElem hlj⟩
          have hxm := HT.out j x hx1
          obtain ⟨nb, no, rfl, hcx⟩ := HX.out j (x : Int) (by rw [ints_get, hx1]; rfl)
          obtain ⟨ra, rc, hrc, hrr⟩ := NetR.below HN.out HB.out (Nat.le_refl _) x hxm
          have hlj2 : (j : Int) < (t.nodes.length : Int) := by omega
          have hxm2 : (x : Int) < (m : Int) := by omega
          have hal := adj_le m E x
          have hcon := contains_irow ra rc (ints (adj m E x)) (k : Int) wx hrr (by omega)
          rw [contains_ints] at hcon
          cases hcc : (adj m E x).contains k with
          | false =>
            rw [hcc] at hcon
            have hno2 : Hid (∀ i y, i < j + 1 → t.nodes[i]? = some y → (adj m E y).contains k = false) := fun i y hi hy => by
              by_cases e : i = j
              · subst e; rw [hx1] at hy; cases hy; exact hcc
              · exact hno.out i y (by omega) hy
            clear hcc hno hx1 hrr
            go_wp2_with fail
            refine hcon.mono ?_
            rintro e w4 ⟨rfl, hw4⟩
            obtain rfl := hw4.symm
            clear hcon
            go_wp2
            go_roundw
            case rel => exact ⟨j + 1, by trivial, by omega, by go_num, by trivial, hno2⟩
            case measure => simp [intOf]; omega
          | true =>
            rw [hcc] at hcon
            obtain ⟨hbw, hch, hlt3, hwl⟩ := HBK.out j x hx1 hcc hno.out
            have hway := way_any (.slice (some ⟨nb, no, none⟩) t.nodes.length nc) ba m x t.ahead _ wx HA.out hch hlt3 (by omega) hm
            have EBW : Hid (backWay m E k = some (wayF t.ahead m x)) := hbw
            generalize wayF t.ahead m x = L at *
            clear hcc hno hx1 hrr hbw hch hlt3 HBK HBN HT HX HA
            go_wp2_with fail
            refine hcon.mono ?_
            rintro e w4 ⟨rfl, hw4⟩
            obtain rfl := hw4.symm
            clear hcon hrc hcx
            go_wp2_with fail
            refine hway.mono ?_
            rintro e w5 ⟨g5, c5, rfl, hown5, hb5⟩
            have hB5 : Hid (Below w.heap.size w w5) := HB.out.trans (hb5.mono HB.out.size)
            have hnew : BestV w w5 (some L) (.slice (some ⟨g5, 0, none⟩) L.length c5) := ⟨g5, c5, rfl, own_lower hown5 HB.out.size, by omega⟩
            have hold := HV.out.below hb5
            cases hbest : roundK m E k with
            | none =>
              rw [hbest] at hold
              obtain rfl : bv = .slice none 0 0 := hold
              have hV5 : Hid (BestV w w5 (roundK m E (k + 1)) (.slice (some ⟨g5, 0, none⟩) L.length c5)) := by
                show BestV w w5 _ _
                rw [roundK_succ, hbest, EBW.out]
                exact hnew
              clear hway hown5 hb5 HB hnew hbest EBW HV c0 c1
              go_wp2
              go_roundw
              case rel => exact ⟨k + 1, _, by trivial, by omega, by go_num, hV5, hB5⟩
              case measure => simp [intOf]; omega
            | some b =>
              rw [hbest] at hold
              obtain ⟨g6, c6, rfl, hown6, hbl⟩ := hold
              by_cases hcmp : L.length < b.length
              · have hcmp2 : (L.length : Int) < (b.length : Int) := by omega
                have hV5 : Hid (BestV w w5 (roundK m E (k + 1)) (.slice (some ⟨g5, 0, none⟩) L.length c5)) := by
                  show BestV w w5 _ _
                  rw [roundK_succ, hbest, EBW.out]
                  simp only [better, if_pos hcmp]
                  exact hnew
                clear hway hown5 hb5 HB hnew hbest EBW HV c0 c1 hown6
                go_wp2
                go_roundw
                case rel => exact ⟨k + 1, _, by trivial, by omega, by go_num, hV5, hB5⟩
                case measure => simp [intOf]; omega
              · have hcmp2 : ¬ (L.length : Int) < (b.length : Int) := by omega
                have hV5 : Hid (BestV w w5 (roundK m E (k + 1)) (.slice (some ⟨g6, 0, none⟩) b.length c6)) := by
                  show BestV w w5 _ _
                  rw [roundK_succ, hbest, EBW.out]
                  simp only [better, if_neg hcmp]
                  exact ⟨g6, c6, rfl, hown6, hbl⟩
                clear hway hown5 hb5 HB hnew hbest EBW HV c0 c1 hown6
                go_wp2
                go_roundw
                case rel => exact ⟨k + 1, _, by trivial, by omega, by go_num, hV5, hB5⟩
                case measure => simp [intOf]; omega
        · have hlj2 : ¬ ((j : Int) < (t.nodes.length : Int)) := by omega
          have hV5 : Hid (BestV w wx (roundK m E (k + 1)) bv) := by
            show BestV w wx _ _
            rw [roundK_succ, HBN.out (fun i y hi hy => hno.out i y (by omega) hy)]
            exact HV.out
          clear hno HBK HBN HT HX HA HV c0 c1
          go_wp2
          go_roundw
          case rel => exact ⟨k + 1, _, by trivial, by omega, by go_num, hV5, HB⟩
          case measure => simp [intOf]; omega
    · have hlt2 : ¬ ((k : Int) < (m : Int)) := by omega
      have hfin : Hid (BestV w wr (roundR m E) bv ∧ Below w.heap.size w wr) := ⟨by
        have h := hV.out
        rw [show k = m by omega] at h
        exact h, hB.out⟩
      clear hV hB
      go_wp2
      go_ret
      exact ⟨_, rfl, hfin.out⟩

end Go.Proofs.YtgllcbajgndldaaDoor.GraphNet
