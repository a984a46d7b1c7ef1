/-
  The walk of GraphOwn: it answers true for every graph, and writes nothing that was there.
-/
import Derived.Test.YtgllcbajgndldaaDoorGraphOwnM
import Derived.Test.YtgllcbajgndldaaDoorGraphLent
import Derived.Deep.AppendLies
namespace Go.Proofs.YtgllcbajgndldaaDoor.GraphOwnW
open Go.RowKit Go.Proofs.YtgllcbajgndldaaDoor.GramMath Go.Proofs.YtgllcbajgndldaaDoor.GramRow Go.Proofs.YtgllcbajgndldaaDoor.GramApart Go.Proofs.YtgllcbajgndldaaDoor.GramLent Go.Proofs.YtgllcbajgndldaaDoor.OpRow Go.Proofs.YtgllcbajgndldaaDoor.GraphNet Go.Proofs.YtgllcbajgndldaaDoor.GraphMath Go.Proofs.YtgllcbajgndldaaDoor.GraphFn Go.Proofs.YtgllcbajgndldaaDoor.GraphSort Go.Proofs.YtgllcbajgndldaaDoor.GraphLent Go.Proofs.YtgllcbajgndldaaDoor.GramErrs Go.Proofs.YtgllcbajgndldaaDoor.GramSame Go.Proofs.YtgllcbajgndldaaDoor.ApartRoom
set_option linter.unusedVariables false
set_option linter.unusedSimpArgs false

theorem lvL_len (n : Int) (es : List (Int × Int)) : (lvL n es).length ≤ 256 := by
  unfold lvL
  split
  · next h =>
    obtain ⟨m, rfl, hm, _⟩ := mayE_zero h
    split
    · rw [rowOf_length]; exact hm
    · simp
  · simp
theorem rdL_len (n : Int) (es : List (Int × Int)) : (rdL n es).length ≤ 256 := by
  unfold rdL
  split
  · next h =>
    obtain ⟨m, rfl, hm, _, _, hE⟩ := mayE_zero h
    split
    · simp
    · rw [ints_length]
      cases hr : roundR ((m : Int)).toNat (toE es) with
      | none => simp
      | some L =>
        obtain ⟨s, hR⟩ := roundR_some (m := m) hE hr
        have := (hR.nth hE).2.1
        simp
        omega
  · simp
theorem odL_len (n : Int) (es : List (Int × Int)) : (odL n es).length ≤ 256 := by
  unfold odL
  split
  · next h =>
    obtain ⟨m, rfl, hm, _⟩ := mayE_zero h
    split
    · next L hL =>
      rw [ints_length]
      have := (ord_of (m := m) (E := toE es) hL).len
      omega
    · simp
  · simp
theorem reachL_len (n : Int) (es : List (Int × Int)) (fr : List Int) : (reachL n es fr).length ≤ 256 := by
  unfold reachL
  split
  · next h =>
    have h0 : mayE n es = 0 := by
      unfold reachC at h
      split at h
      · next h2 => exact absurd h h2
      · next h2 => simpa using h2
    obtain ⟨m, rfl, hm, _⟩ := mayE_zero h0
    rw [ints_length, Int.toNat_natCast]
    have := reach_len m (toE es) (fr.map Int.toNat)
    omega
  · simp
theorem infoInts : (Tryd.prog.info? 24).map (fun i => (i.zero, i.size, i.bytes)) = some (some (.slice none 0 0), 1, 24) := by kernel_rfl

/-- A row of lists of which the last ones have so many numbers each. -/
structure TailV (w : World) (base : Nat) (k K i : Nat) (Vs : List Value) (a : Option Addr) (c : Nat) : Prop where
  own : ∃ Us : List Value, Us.length = i ∧ (∀ u ∈ Us, ∃ a c, u = .slice a k c) ∧ w.ownsRow base 24 1 (.slice a (K + i) c) (K + i) (Vs ++ Us)
theorem TailV.at {w : World} {base k K i : Nat} {Vs : List Value} {a : Option Addr} {c : Nat} (h : TailV w base k K i Vs a c) (hV : Vs.length = K) {j : Nat} (h1 : K ≤ j) (h2 : j < K + i) : ∃ g b d, a = some ⟨g, 0, none⟩ ∧ w.cell? ⟨g, j, none⟩ = some (.slice b k d) := by
  obtain ⟨Us, e1, e2, e3⟩ := h.own
  obtain ⟨_, ⟨e, _⟩ | ⟨g, cap, cur, e, _⟩⟩ := id e3
  · have h9 : K + i = 0 := congrArg lnV e
    omega
  · have h9 : a = some ⟨g, 0, none⟩ := congrArg adV e
    have h8 : c = cap := congrArg cpV e
    subst h9 h8
    have hj : j - K < Us.length := by omega
    obtain ⟨b, d, hu⟩ := e2 Us[j - K] (List.getElem_mem hj)
    refine ⟨g, b, d, rfl, ?_⟩
    rw [e3.cellAt j (by omega), List.getElem?_append_right (by omega), hV, List.getElem?_eq_getElem hj, hu]

/-- What is held while a row of lists is gone on with, another one beside it. -/
structure LoopI (W w : World) (base k K i : Nat) (Vs : List Value) (a : Option Addr) (c so : Nat) (ov : Value) (on : Nat) (oxs : List Value) : Prop where
  tail : TailV w base k K i Vs a c
  oth : w.ownsRow so 24 1 ov on oxs
  apt : ∀ b, (Value.slice a (K + i) c).ownBlock = some b → ov.ownBlock ≠ some b
  bel : Below W.heap.size W w
  lo : W.heap.size ≤ base
  sz : base ≤ w.heap.size
  sz2 : so ≤ w.heap.size
theorem LoopI.next {W w w' : World} {base k K i c so on g' cap' : Nat} {Vs oxs Us : List Value} {a : Option Addr} {ov u : Value} {o1 o2 : Obj} (h : LoopI W w base k K i Vs a c so ov on oxs) (hU : Us.length = i) (hUs : ∀ u ∈ Us, ∃ a c, u = .slice a k c) (hO : w.ownsRow base 24 1 (.slice a (K + i) c) (K + i) (Vs ++ Us)) (hu : ∃ a c, u = .slice a k c)
    (hown : w'.ownsRow base 24 1 (.slice (some ⟨g', 0, none⟩) (K + i + 1) cap') (K + i + 1) (Vs ++ Us ++ [u])) (hg : ((w.alloc o1).alloc o2).grownBy w' (Value.slice a (K + i) c).ownBlock) (h4 : (Value.slice a (K + i) c).ownBlock = some g' ∨ g' = w.heap.size + 1 + 1) : LoopI W w' base k K (i + 1) Vs (some ⟨g', 0, none⟩) cap' so ov on oxs := by
  have hs := h.sz
  have hgs := hg.size
  simp at hgs
  refine ⟨⟨Us ++ [u], by simp [hU], fun x hx => ?_, by rw [← List.append_assoc]; exact hown⟩, ((h.oth.alloc o1).alloc o2).kept hg ?_, fun b hb => ?_, ?_, h.lo, by omega, by have := h.sz2; omega⟩
  · rcases List.mem_append.1 hx with hx | hx
    · exact hUs x hx
    · rw [List.mem_singleton.1 hx]; exact hu
  · cases hv : ov.ownBlock with
    | none => exact .inl rfl
    | some b => exact .inr (fun e => h.apt b e.symm hv)
  · have e : b = g' := by simpa [Value.ownBlock] using hb.symm
    subst e
    rcases h4 with h4 | h4
    · exact h.apt b h4
    · intro hc
      have := (h.oth.lt b hc).2
      omega
  · have hb2 := (h.bel.alloc h.bel.size o1).alloc (by have := h.bel.size; simp; omega) o2
    exact hb2.grown hg (by have := h.bel.size; simp; omega) (fun j hj => Nat.le_trans h.lo (hO.lt j hj).1)
theorem cell_one_new2 (w : World) (o1 : Obj) (x : Value) (t : TypeId) : ∀ j u, [x][j]? = some u → ((w.alloc o1).alloc (.cells #[x] t)).cell? ((⟨w.heap.size + 1, 0, none⟩ : Addr).add j) = some u := by
  have h := cell_one_new (w.alloc o1) x t
  rw [World.size_alloc] at h
  exact h
theorem unhid {p : Prop} (h : Hid p) : p := h.out
/-- What is held while the lists are put together. -/
structure OwnI (w1 w : World) (s5 s6 s10 K : Nat) (VA Vp Vq : List Value) (pv qv : Value) : Prop where
  good : ∀ v ∈ VA, GoodV w w1.heap.size s10 v
  p : w.ownsRow s5 24 1 pv K Vp
  q : w.ownsRow s6 24 1 qv K Vq
  pt : ∀ b, pv.ownBlock = some b → b < s6
  qt : ∀ b, qv.ownBlock = some b → b < s10
  bel : Below w1.heap.size w1 w
  lo : w1.heap.size ≤ s10
  p6 : s6 ≤ s10
theorem OwnI.next {w1 w w' : World} {s5 s6 s10 K n : Nat} {VA Vp Vq xs : List Value} {pv qv lv : Value} (h : OwnI w1 w s5 s6 s10 K VA Vp Vq pv qv) (hO : w.ownsRow s10 24 1 lv n xs) (hs : s10 ≤ w.heap.size) (hg : w.grownBy w' lv.ownBlock) : OwnI w1 w' s5 s6 s10 K VA Vp Vq pv qv := by
  have hr : ∀ b, lv.ownBlock = some b → s10 ≤ b := fun b hb => (hO.lt b hb).1
  have h6 := h.p6
  refine ⟨fun v hv => (h.good v hv).kept hg hr, h.p.kept hg ?_, h.q.kept hg ?_, h.pt, h.qt, h.bel.grown hg (Nat.le_trans h.lo hs) (fun k hk => Nat.le_trans h.lo (hr k hk)), h.lo, h.p6⟩
  · cases hv : pv.ownBlock with
    | none => exact .inl rfl
    | some b => exact .inr (fun e => by have := hr b e.symm; have := h.pt b hv; omega)
  · cases hv : qv.ownBlock with
    | none => exact .inl rfl
    | some b => exact .inr (fun e => by have := hr b e.symm; have := h.qt b hv; omega)
theorem OwnI.alloc {w1 w : World} {s5 s6 s10 K : Nat} {VA Vp Vq : List Value} {pv qv : Value} (h : OwnI w1 w s5 s6 s10 K VA Vp Vq pv qv) (o : Obj) : OwnI w1 (w.alloc o) s5 s6 s10 K VA Vp Vq pv qv :=
  ⟨fun v hv => (h.good v hv).below ((Below.refl _ _).alloc (Nat.le_refl _) _), h.p.alloc _, h.q.alloc _, h.pt, h.qt, h.bel.alloc h.bel.size _, h.lo, h.p6⟩

set_option maxRecDepth 100000 in
set_option maxHeartbeats 16000000 in
theorem walk (n : Int) (ea : Option Addr) (ec : Nat) (es : List (Int × Int)) (p : Nat → Addr) (W : World) (hn : I64 n) (hE : ERow W ea es) (hl : es.length * 16 ≤ 140737488351232) (hx : ∀ e ∈ es, I64 e.1 ∧ I64 e.2) (hEn : ea = none → es.length = 0 ∧ ec = 0) (hS : SentG W p) (hS15 : Sent W 0 (p 15)) :
    Calls Tryd.prog 4 #[.int .i64 n, .slice ea es.length ec] W fun e w' => e = .returned (.bool true) ∧ Below W.heap.size W w' := by
  have hneq := neq_nil
  have h0 := known_any p W hS
  have HN : Hid (I64 n ∧ ∀ e ∈ es, I64 e.1 ∧ I64 e.2) := ⟨hn, hx⟩
  have HE : Hid (ERow W ea es) := hE
  have HS : Hid (SentG W p ∧ Sent W 0 (p 15)) := ⟨hS, hS15⟩
  have HEn : Hid (ea = none → es.length = 0 ∧ ec = 0) := hEn
  clear hE hn hx hEn hS hS15
  go_enter Tryd.func4, Tryd.ntmps4
  go_wp2_with fail
  refine h0.mono ?_
  rintro e w0 ⟨rfl, hb0⟩
  have HW0 : Hid (Below W.heap.size W w0) := hb0
  have h1 := lentE ea ec es w0 (HE.out.below hb0 (Nat.le_refl _)) hl HEn.out
  clear h0 hb0
  go_wp2_with fail
  refine h1.mono ?_
  rintro e w1 ⟨g, c, rfl, hL1, hb1⟩
  have HL1 : Hid (LentE w0 w1 g c es) := hL1
  have HW1 : Hid (Below W.heap.size W w1) := HW0.out.trans (hb1.mono HW0.out.size)
  have H11 : Hid (Below w1.heap.size w1 w1) := Below.refl _ _
  clear h1 hL1 hb1
  have HG : Hid (∀ w', Below w1.heap.size w1 w' → GrIn w' p n (some ⟨g, 0, none⟩) es) := fun w' hb' => ⟨HN.out.1, ERow.front (HL1.out.below hb').row, HS.out.1.below (HW1.out.trans (hb'.mono HW1.out.size)) (Nat.le_refl _), by omega, HN.out.2⟩
  have hc1 := Longest_top2 p n (some ⟨g, 0, none⟩) c es w1 (HG.out w1 H11.out)
  go_wp2_with fail
  refine hc1.mono ?_
  rintro e w2 ⟨v, rfl, ⟨lv, rv, rfl, hO1, hO2, hor⟩, hb⟩
  obtain ⟨aA, aC, rfl, _⟩ := own_form hO1
  obtain ⟨rA, rC, rfl, _⟩ := own_form hO2
  have HVa : Hid (GoodV w2 w1.heap.size w2.heap.size (.slice aA (lvL n es).length aC) ∧ GoodV w2 w1.heap.size w2.heap.size (.slice rA (rdL n es).length rC) ∧ (Value.slice aA (lvL n es).length aC = .slice none 0 0 ∨ Value.slice rA (rdL n es).length rC = .slice none 0 0)) := ⟨.of hO1 (by have := lvL_len n es; omega), .of hO2 (by have := rdL_len n es; omega), hor⟩
  have HW2 : Hid (Below W.heap.size W w2) := HW1.out.trans (hb.mono HW1.out.size)
  have H12 : Hid (Below w1.heap.size w1 w2) := H11.out.trans (hb.mono H11.out.size)
  have HB1 : Hid (Below w1.heap.size w1 w2) := hb
  clear hc1 hb hO1 hO2 hor
  have hc2 := Longest_top2 p n (some ⟨g, 0, none⟩) c es w2 (HG.out w2 H12.out)
  go_wp2_with fail
  refine hc2.mono ?_
  rintro e w3 ⟨v, rfl, ⟨lv, rv, rfl, hO1, hO2, hor⟩, hb⟩
  obtain ⟨bA, bC, rfl, _⟩ := own_form hO1
  obtain ⟨sA, sC, rfl, _⟩ := own_form hO2
  have HVb : Hid (GoodV w3 w2.heap.size w3.heap.size (.slice bA (lvL n es).length bC) ∧ GoodV w3 w2.heap.size w3.heap.size (.slice sA (rdL n es).length sC) ∧ (Value.slice bA (lvL n es).length bC = .slice none 0 0 ∨ Value.slice sA (rdL n es).length sC = .slice none 0 0)) := ⟨.of hO1 (by have := lvL_len n es; omega), .of hO2 (by have := rdL_len n es; omega), hor⟩
  have HW3 : Hid (Below W.heap.size W w3) := HW2.out.trans (hb.mono HW2.out.size)
  have H13 : Hid (Below w1.heap.size w1 w3) := H12.out.trans (hb.mono H12.out.size)
  have HB2 : Hid (Below w2.heap.size w2 w3) := hb
  clear hc2 hb hO1 hO2 hor
  have hc3 := Order_top p n (some ⟨g, 0, none⟩) c es w3 (HG.out w3 H13.out) (HS.out.2.below HW3.out (Nat.le_refl _))
  go_wp2_with fail
  refine hc3.mono ?_
  rintro e w4 ⟨v, rfl, ⟨lv, rfl, hO1⟩, hb⟩
  obtain ⟨cA, cC, rfl, _⟩ := own_form hO1
  have HVc : Hid (GoodV w4 w3.heap.size w4.heap.size (.slice cA (odL n es).length cC)) := .of hO1 (by have := odL_len n es; omega)
  have HW4 : Hid (Below W.heap.size W w4) := HW3.out.trans (hb.mono HW3.out.size)
  have H14 : Hid (Below w1.heap.size w1 w4) := H13.out.trans (hb.mono H13.out.size)
  have HB3 : Hid (Below w3.heap.size w3 w4) := hb
  clear hc3 hb hO1
  have hc4 := Order_top p n (some ⟨g, 0, none⟩) c es w4 (HG.out w4 H14.out) (HS.out.2.below HW4.out (Nat.le_refl _))
  go_wp2_with fail
  refine hc4.mono ?_
  rintro e w5 ⟨v, rfl, ⟨lv, rfl, hO1⟩, hb⟩
  obtain ⟨dA, dC, rfl, _⟩ := own_form hO1
  have HVd : Hid (GoodV w5 w4.heap.size w5.heap.size (.slice dA (odL n es).length dC)) := .of hO1 (by have := odL_len n es; omega)
  have HW5 : Hid (Below W.heap.size W w5) := HW4.out.trans (hb.mono HW4.out.size)
  have H15 : Hid (Below w1.heap.size w1 w5) := H14.out.trans (hb.mono H14.out.size)
  have HB4 : Hid (Below w4.heap.size w4 w5) := hb
  clear hc4 hb hO1
  have hc5 := Parts_top p n (some ⟨g, 0, none⟩) c es w5 (HG.out w5 H15.out)
  go_wp2_with fail
  refine hc5.mono ?_
  rintro e w6 ⟨v, rfl, ⟨pv, Vp, rfl, hP⟩, hb⟩
  obtain ⟨pA, pC, rfl, _⟩ := own_formR hP.outer
  have HVp : Hid (Pts w6 w5.heap.size (.slice pA (ptL n es).length pC) (ptL n es) Vp) := hP
  have HW6 : Hid (Below W.heap.size W w6) := HW5.out.trans (hb.mono HW5.out.size)
  have H16 : Hid (Below w1.heap.size w1 w6) := H15.out.trans (hb.mono H15.out.size)
  have HB5 : Hid (Below w5.heap.size w5 w6) := hb
  clear hc5 hb hP
  have hc6 := Parts_top p n (some ⟨g, 0, none⟩) c es w6 (HG.out w6 H16.out)
  go_wp2_with fail
  refine hc6.mono ?_
  rintro e w7 ⟨v, rfl, ⟨pv, Vq, rfl, hP⟩, hb⟩
  obtain ⟨qA, qC, rfl, _⟩ := own_formR hP.outer
  have HVq : Hid (Pts w7 w6.heap.size (.slice qA (ptL n es).length qC) (ptL n es) Vq) := hP
  have HW7 : Hid (Below W.heap.size W w7) := HW6.out.trans (hb.mono HW6.out.size)
  have H17 : Hid (Below w1.heap.size w1 w7) := H16.out.trans (hb.mono H16.out.size)
  have HB6 : Hid (Below w6.heap.size w6 w7) := hb
  clear hc6 hb hP
  by_cases hm0 : mayE n es = 0
  rotate_left
  · have EM : ckK p (mayE n es) = .iface 122 (.pointer (some (p (mayE n es)))) := by unfold ckK; rw [if_neg hm0]
    rw [EM]
    clear hm0 EM HVa HVb HVc HVd HVp HVq HG
    go_wp2
    go_ret
    exact ⟨rfl, HW7.out⟩
  have EM : ckK p (mayE n es) = .nilIface := by rw [hm0]; rfl
  rw [EM]
  obtain ⟨m, hnm, hm, _⟩ := mayE_zero hm0
  subst hnm
  clear EM hm0
  go_wp2
  go_loopw [20, 21] (fun s20 s21 wr => ∃ (k : Nat) (fa : Option Addr) (fc : Nat), 3 * k ≤ m + 2 ∧ s20 = .slice fa k fc ∧ s21 = .int .i64 (3 * (k : Int)) ∧ Hid (Below w7.heap.size w7 wr ∧ wr.ownsRow w7.heap.size 3 1 (.slice fa k fc) k (iV (ints (thr k))))) (fun _ s21 _ => m + 3 - (intOf s21).toNat)
  case atStart => exact ⟨0, none, 0, by omega, rfl, by simp, Below.refl _ _, World.ownsRow_nil ..⟩
  case round =>
    obtain ⟨k, fa, fc, hk, rfl, rfl, hI⟩ := hrel
    by_cases hlt : 3 * k < m
    · have hlt2 : 3 * (k : Int) < (m : Int) := by omega
      have hO' := hI.out.2
      have hs7 := hI.out.1.size
      have hF : Hid (∀ v2 w3, World.ownsRow w3 w7.heap.size 3 1 v2 (k + 1) (iV (ints (thr k)) ++ [.int .i64 (3 * (k : Int))]) → (wr.alloc (.cells #[.int .i64 (3 * (k : Int))] 3)).grownBy w3 (Value.slice fa k fc).ownBlock → ∃ fa' fc', v2 = .slice fa' (k + 1) fc' ∧ Hid (Below w7.heap.size w7 w3 ∧ w3.ownsRow w7.heap.size 3 1 (.slice fa' (k + 1) fc') (k + 1) (iV (ints (thr (k + 1)))))) := fun v2 w3 h1 h2 => by
        have h3 : w3.ownsRow w7.heap.size 3 1 v2 (k + 1) (iV (ints (thr (k + 1)))) := by
          rw [thr_succ]
          simpa [ints, iV] using h1
        obtain ⟨_, ⟨_, h4⟩ | ⟨g, cap, cur, rfl, _⟩⟩ := id h3
        · omega
        · exact ⟨_, cap, rfl, (hI.out.1.alloc hs7 _).grown h2 (by simp; omega) (fun j hj => (hO'.lt j hj).1), h3⟩
      obtain ⟨i0, hi, hz0, hz1, hz2⟩ := info_parts infoInt
      clear hI
      go_wp2_with (at_builtin; refine wpList_append_own _ rfl (.tmp 79) (.tmp 81) 24 rfl w7.heap.size 3 i0 (.int .i64 0) 1 8 Tryd.underlying24 hi hz0 hz1 hz2 rfl (by decide) _ _ _ rfl (hO'.alloc _) ⟨wr.heap.size, 0, none⟩ 1 1 [.int .i64 (3 * (k : Int))] rfl rfl (cell_one_new _ _ _) (by simp [Value.oneCell']) (by unfold maxLen; omega) (by omega) (by simp; omega) ?_; intro v2 w3 hown2 hgrow2 _; obtain ⟨fa', fc', hv2, hI2⟩ := hF.out v2 w3 hown2 hgrow2; subst hv2; clear hF hown2 hgrow2 hO')
      go_roundw
      case rel => exact ⟨k + 1, fa', fc', by omega, rfl, by first | (congr 1; done) | (congr 1; omega), hI2⟩
      case measure => simp [intOf]; omega
    · have hlt2 : ¬ 3 * (k : Int) < (m : Int) := by omega
      obtain ⟨w8, rfl⟩ : ∃ x, x = wr := ⟨wr, rfl⟩
      have HB7 : Hid (Below w7.heap.size w7 w8) := hI.out.1
      have HW8 : Hid (Below W.heap.size W w8) := HW7.out.trans (HB7.out.mono HW7.out.size)
      have H18 : Hid (Below w1.heap.size w1 w8) := H17.out.trans (HB7.out.mono H17.out.size)
      have HF8 : Hid (IRow w8 fa (ints (thr k))) := by
        have h := hI.out.2
        obtain ⟨a1, c1, e1, i1⟩ := own_form (zs := ints (thr k)) (by rw [thr_len]; exact h)
        have e2 : fa = a1 := congrArg adV e1
        rw [e2]
        exact i1
      clear hI
      have HR8 : Hid (Below w8.heap.size w8 w8) := Below.refl _ _
      have hc8 := Reach_top p (m : Int) (some ⟨g, 0, none⟩) c es fa fc (ints (thr k)) w8 (HG.out w8 H18.out) (IRow.below HF8.out HR8.out (Nat.le_refl _)) (by rw [thr_len]; omega) (thr_i64 (by omega))
      rw [thr_len] at hc8
      go_wp2_with fail
      refine hc8.mono ?_
      rintro e w9 ⟨v, rfl, ⟨lv, rfl, hO1⟩, hb⟩
      obtain ⟨xA, xC, rfl, _⟩ := own_form hO1
      have HVx : Hid (GoodV w9 w8.heap.size w9.heap.size (.slice xA (reachL (m : Int) es (ints (thr k))).length xC)) := .of hO1 (by have := reachL_len (m : Int) es (ints (thr k)); omega)
      have HR9 : Hid (Below w8.heap.size w8 w9) := HR8.out.trans (hb.mono HR8.out.size)
      have HW9 : Hid (Below W.heap.size W w9) := HW8.out.trans (hb.mono HW8.out.size)
      have H19 : Hid (Below w1.heap.size w1 w9) := H18.out.trans (hb.mono H18.out.size)
      have HB8 : Hid (Below w8.heap.size w8 w9) := hb
      clear hc8 hb hO1
      have hc9 := Reach_top p (m : Int) (some ⟨g, 0, none⟩) c es fa fc (ints (thr k)) w9 (HG.out w9 H19.out) (IRow.below HF8.out HR9.out (Nat.le_refl _)) (by rw [thr_len]; omega) (thr_i64 (by omega))
      rw [thr_len] at hc9
      go_wp2_with fail
      refine hc9.mono ?_
      rintro e w10 ⟨v, rfl, ⟨lv, rfl, hO1⟩, hb⟩
      obtain ⟨yA, yC, rfl, _⟩ := own_form hO1
      have HVy : Hid (GoodV w10 w9.heap.size w10.heap.size (.slice yA (reachL (m : Int) es (ints (thr k))).length yC)) := .of hO1 (by have := reachL_len (m : Int) es (ints (thr k)); omega)
      have HR10 : Hid (Below w8.heap.size w8 w10) := HR9.out.trans (hb.mono HR9.out.size)
      have HW10 : Hid (Below W.heap.size W w10) := HW9.out.trans (hb.mono HW9.out.size)
      have H110 : Hid (Below w1.heap.size w1 w10) := H19.out.trans (hb.mono H19.out.size)
      have HB9 : Hid (Below w9.heap.size w9 w10) := hb
      clear hc9 hb hO1
      have K2 : Hid (Below w2.heap.size w2 w10 ∧ Below w3.heap.size w3 w10 ∧ Below w4.heap.size w4 w10 ∧ Below w5.heap.size w5 w10 ∧ Below w6.heap.size w6 w10 ∧ Below w7.heap.size w7 w10 ∧ Below w8.heap.size w8 w10 ∧ Below w9.heap.size w9 w10) := by
        have b9 := HB9.out
        have b8 := HB8.out.trans (b9.mono HB8.out.size)
        have b7 := HB7.out.trans (b8.mono HB7.out.size)
        have b6 := HB6.out.trans (b7.mono HB6.out.size)
        have b5 := HB5.out.trans (b6.mono HB5.out.size)
        have b4 := HB4.out.trans (b5.mono HB4.out.size)
        have b3 := HB3.out.trans (b4.mono HB3.out.size)
        have b2 := HB2.out.trans (b3.mono HB2.out.size)
        exact ⟨b2, b3, b4, b5, b6, b7, b8, b9⟩
      have z12 := HB1.out.size
      have z23 := HB2.out.size
      have z34 := HB3.out.size
      have z45 := HB4.out.size
      have z56 := HB5.out.size
      have z67 := HB6.out.size
      have z78 := HB7.out.size
      have z89 := HB8.out.size
      have z90 := HB9.out.size
      have hptl := (ptL_len (m : Int) es).1
      obtain ⟨VL, hVL⟩ : ∃ VL : List Value, VL = [.slice aA (lvL (m : Int) es).length aC, .slice bA (lvL (m : Int) es).length bC, .slice rA (rdL (m : Int) es).length rC, .slice sA (rdL (m : Int) es).length sC, .slice cA (odL (m : Int) es).length cC, .slice dA (odL (m : Int) es).length dC, .slice xA (reachL (m : Int) es (ints (thr k))).length xC, .slice yA (reachL (m : Int) es (ints (thr k))).length yC] := ⟨_, rfl⟩
      have HAll : Hid ((VL ++ Vp ++ Vq).Pairwise AptV ∧ ∀ v ∈ VL ++ Vp ++ Vq, GoodV w10 w1.heap.size w10.heap.size v) := by
        rw [hVL]
        obtain ⟨k2, k3, k4, k5, k6, k7, k8, k9⟩ := K2.out
        obtain ⟨p1, p2⟩ := pts_good (HVp.out.below k6)
        obtain ⟨q1, q2⟩ := pts_good HVq.out
        obtain ⟨p1', _⟩ := pts_good HVp.out
        exact pw_all (HVa.out.1.below k2) (HVa.out.2.1.below k2) HVa.out.2.2 (HVb.out.1.below k3) (HVb.out.2.1.below k3) HVb.out.2.2 (HVc.out.below k4) (HVd.out.below k5) (HVx.out.below k9) HVy.out (fun v hv => (p1' v hv).below k6) p2 (fun v hv => (q1 v hv).below k7) q2 z12 z23 z34 z45 z56 z67 z78 z89 z90
      have HP10 : Hid (w10.ownsRow w5.heap.size 24 1 (.slice pA (ptL (m : Int) es).length pC) (ptL (m : Int) es).length Vp) := own_up HVp.out.outer K2.out.2.2.2.2.1
      have HQ10 : Hid (w10.ownsRow w6.heap.size 24 1 (.slice qA (ptL (m : Int) es).length qC) (ptL (m : Int) es).length Vq) := own_up HVq.out.outer K2.out.2.2.2.2.2.1
      have HPt : Hid (∀ b, (Value.slice pA (ptL (m : Int) es).length pC).ownBlock = some b → b < w6.heap.size) := fun b hb => (HVp.out.outer.lt b hb).2
      have HLp : Hid (Vp.length = (ptL (m : Int) es).length) := HVp.out.len
      have HLq : Hid (Vq.length = (ptL (m : Int) es).length) := HVq.out.len
      have HVl : Hid (VL = [.slice aA (lvL (m : Int) es).length aC, .slice bA (lvL (m : Int) es).length bC, .slice rA (rdL (m : Int) es).length rC, .slice sA (rdL (m : Int) es).length sC, .slice cA (odL (m : Int) es).length cC, .slice dA (odL (m : Int) es).length dC, .slice xA (reachL (m : Int) es (ints (thr k))).length xC, .slice yA (reachL (m : Int) es (ints (thr k))).length yC]) := hVL
      obtain ⟨K, hK⟩ : ∃ K, K = (ptL (m : Int) es).length := ⟨_, rfl⟩
      rw [← hK] at HP10 HQ10 HLp HLq hptl HPt
      rw [← hK]
      clear HVp HVq HVa HVb HVc HVd HVx HVy K2 HF8 HR8 HR9 HR10 HB1 HB2 HB3 HB4 HB5 HB6 HB7 HB8 HB9 HG hK hVL
      have HM10 : Hid (OwnI w1 w10 w5.heap.size w6.heap.size w10.heap.size K (VL ++ Vp ++ Vq) Vp Vq (.slice pA K pC) (.slice qA K qC)) := ⟨HAll.out.2, HP10.out, HQ10.out, HPt.out, fun b hb => (HQ10.out.lt b hb).2, H110.out, by omega, by omega⟩
      obtain ⟨O10, hO10⟩ : ∃ O, O = Obj.cells VL.toArray 24 := ⟨_, rfl⟩
      have h10 : (w10.alloc O10).ownsRow w10.heap.size 24 1 (.slice (some ⟨w10.heap.size, 0, none⟩) 8 8) 8 VL := by
        rw [hO10, HVl.out]
        exact ⟨rfl, .inr ⟨w10.heap.size, 8, _, rfl, Nat.le_refl _, heap_new _ _, Nat.le_refl _, by unfold maxLen; omega, by simp, by simp⟩⟩
      have HMa : Hid (OwnI w1 (w10.alloc O10) w5.heap.size w6.heap.size w10.heap.size K (VL ++ Vp ++ Vq) Vp Vq (.slice pA K pC) (.slice qA K qC)) := HM10.out.alloc O10
      obtain ⟨pA', pC', ep, hpn, hpc⟩ := own_formR HMa.out.p
      obtain ⟨rfl, rfl⟩ : pA = pA' ∧ pC = pC' := by simpa using ep
      have hone : ∀ u ∈ Vp, u.oneCell' = true := fun u hu => list_one (HAll.out.2 u (by simp [hu]))
      have honq : ∀ u ∈ Vq, u.oneCell' = true := fun u hu => list_one (HAll.out.2 u (by simp [hu]))
      have HH : Hid (h10 = h10) := rfl
      obtain ⟨i1, hi1, hz3, hz4, hz5⟩ := info_parts infoInts
      have HNX : Hid (∀ v11 w11, World.ownsRow w11 w10.heap.size 24 1 v11 (8 + K) (VL ++ Vp) → (w10.alloc O10).grownBy w11 (Value.slice (some ⟨w10.heap.size, 0, none⟩) 8 8).ownBlock → Hid (OwnI w1 w11 w5.heap.size w6.heap.size w10.heap.size K (VL ++ Vp ++ Vq) Vp Vq (.slice pA K pC) (.slice qA K qC)) ∧ w10.heap.size ≤ w11.heap.size) := fun v11 w11 h1 h2 => ⟨HMa.out.next h10 (by simp) h2, by have := h2.size; simp at this; omega⟩
      clear HMa HM10 ep HH
      rw [hO10] at h10 hpc HNX
      clear hO10
      rw [HVl.out] at h10 hpc HNX
      go_wp2_with (at_builtin; first | (refine append_src _ rfl (.tmp 106) (.tmp 107) 40 rfl w10.heap.size 24 i1 (.slice none 0 0) 1 24 Tryd.underlying40 hi1 hz3 hz4 hz5 rfl (by decide) _ _ _ rfl h10 pA K pC Vp rfl hpn (by rw [HLp.out]; omega) hpc hone (by unfold maxLen; omega) (by omega) (by simp) ?_; intro v11 w11 hown11 hgr11; obtain ⟨HM11, hz11⟩ := HNX.out v11 w11 hown11 hgr11; obtain ⟨lA, lC, el, _, _⟩ := own_formR hown11; subst el; obtain ⟨qA', qC', eq, hqn, hqc⟩ := own_formR HM11.out.q; obtain ⟨rfl, rfl⟩ : qA = qA' ∧ qC = qC' := (by simpa using eq); clear eq HNX hgr11 h10 hpc hpn) | (refine unhid ?_))
      show wpList _ _ _ _ _ _
      refine append_src _ rfl (.tmp 109) (.tmp 110) 40 rfl w10.heap.size 24 i1 (.slice none 0 0) 1 24 Tryd.underlying40 hi1 hz3 hz4 hz5 rfl (by decide) _ _ _ rfl hown11 qA K qC Vq rfl hqn (by rw [HLq.out]; omega) hqc honq (by unfold maxLen; omega) (by omega) hz11 ?_; intro v12 w12 hown12 hgr12; have HM12 : Hid (OwnI w1 w12 w5.heap.size w6.heap.size w10.heap.size K (VL ++ Vp ++ Vq) Vp Vq (.slice pA K pC) (.slice qA K qC)) := (by have h9 := HM11.out.next hown11 hz11 hgr12; show OwnI _ _ _ _ _ _ _ _ _ _ _; rw [HVl.out]; exact h9); have HO12 : Hid (w12.ownsRow w10.heap.size 24 1 v12 (8 + K + K) (VL ++ Vp ++ Vq)) := (by show World.ownsRow _ _ _ _ _ _ _; rw [HVl.out]; exact hown12); have H12s : Hid (w10.heap.size ≤ w12.heap.size) := (by have h9 := hgr12.size; show _ ≤ _; omega); clear HM11 hgr12 hown11 hqn hqc hown12
      obtain ⟨_, ⟨_, h4⟩ | ⟨A, lC2, cur, ev12, hAb, hAg, hA1, hA2, hA3, hA4⟩⟩ := id HO12.out
      · exact absurd h4 (by omega)
      subst ev12
      have hlen : (VL ++ Vp ++ Vq).length = 8 + K + K := by rw [List.length_append, List.length_append, HLp.out, HLq.out, HVl.out]; rfl
      have hap := apart_vals w1.heap.size A lC2 (VL ++ Vp ++ Vq) cur w12 (by omega) (by omega) hAg (fun j v hj => by
        rw [← hA4, List.getElem?_take] at hj
        split at hj
        · rw [Array.getElem?_toList] at hj; exact hj
        · cases hj) (fun v hv => (HM12.out.good v hv).list (Nat.le_refl _)) HAll.out.1 (fun v hv e => by have := (HM12.out.good v hv).top A e; omega) HM12.out.bel.size
      rw [hlen] at hap
      clear hlen hA1 hA2 hA3 hA4 hAg hAb HO12
      go_wp2_with fail
      refine hap.mono ?_
      rintro e w13 ⟨rfl, hb13, hbut⟩
      have HP13 : Hid (w13.ownsRow w5.heap.size 24 1 (.slice pA K pC) K Vp ∧ w13.ownsRow w6.heap.size 24 1 (.slice qA K qC) K Vq) := ⟨own_but2 HM12.out.p (by decide) (fun u hu => (HM12.out.good u hu).list (Nat.le_refl _)) hbut, own_but2 HM12.out.q (by decide) (fun u hu => (HM12.out.good u hu).list (Nat.le_refl _)) hbut⟩
      have H113 : Hid (Below w1.heap.size w1 w13) := HM12.out.bel.trans hb13
      have HW13 : Hid (Below W.heap.size W w13) := HW1.out.trans (H113.out.mono HW1.out.size)
      have HSZ : Hid (w6.heap.size ≤ w13.heap.size ∧ W.heap.size ≤ w5.heap.size) := ⟨by
        have h1 := hbut.size
        have h2 := HM12.out.p6
        have h3 := H12s.out
        show _ ≤ _
        omega, HW5.out.size⟩
      have hke := keptE w0 g ea c ec es w13 (HL1.out.below H113.out) (HE.out.below HW13.out (Nat.le_refl _)) (by omega)
      clear hap hb13 hbut HM12 H113
      go_wp2_with fail
      refine hke.mono ?_
      rintro e w14 ⟨rfl, q14, hw14⟩
      have b14 : Below w13.heap.size w13 w14 := by rw [hw14]; exact bdrew (Below.refl _ _) q14
      have HL0 : Hid (LoopI W w14 w5.heap.size 1 K 0 Vp pA pC w6.heap.size (.slice qA K qC) K Vq) := ⟨⟨[], rfl, fun u hu => (by cases hu), by simpa using own_up HP13.out.1 b14⟩, own_up HP13.out.2 b14, fun b h1 h2 => by
        have e1 := HPt.out b h1
        have e2 := (HP13.out.2.lt b h2).1
        omega, HW13.out.trans (b14.mono HW13.out.size), HSZ.out.2, by have := b14.size; have := HSZ.out.1; omega, by have := b14.size; have := HSZ.out.1; omega⟩
      have HW5s : Hid (W.heap.size ≤ w6.heap.size) := by show _ ≤ _; have := HSZ.out.2; omega
      clear hke hw14 b14 HP13 HW13
      go_wp2
      go_loopw [16, 27] (fun s16 s27 wr => ∃ (i : Nat) (a : Option Addr) (c' : Nat), i ≤ 20 ∧ s16 = .slice a (K + i) c' ∧ s27 = .int .i64 (i : Int) ∧ Hid (LoopI W wr w5.heap.size 1 K i Vp a c' w6.heap.size (.slice qA K qC) K Vq)) (fun _ s27 _ => 20 - (intOf s27).toNat)
      case atStart => exact ⟨0, pA, pC, by omega, rfl, rfl, HL0⟩
      case round =>
        clear HL0
        obtain ⟨i, a, c', hi20, rfl, rfl, hI⟩ := hrel
        by_cases hlt : i < 20
        · have hlt3 : (i : Int) < 20 := by omega
          obtain ⟨Us, hU1, hU2, hU3⟩ := hI.out.tail.own
          have hsz := hI.out.sz
          have hNx : Hid (∀ g' cap' w', World.ownsRow w' w5.heap.size 24 1 (.slice (some ⟨g', 0, none⟩) (K + i + 1) cap') (K + i + 1) (Vp ++ Us ++ [.slice (some ⟨wr.heap.size, 0, none⟩) 1 1]) → ((wr.alloc (.cells #[.int .i64 1] 3)).alloc (.cells #[.slice (some ⟨wr.heap.size, 0, none⟩) 1 1] 24)).grownBy w' (Value.slice a (K + i) c').ownBlock → ((Value.slice a (K + i) c').ownBlock = some g' ∨ g' = wr.heap.size + 1 + 1) → LoopI W w' w5.heap.size 1 K (i + 1) Vp (some ⟨g', 0, none⟩) cap' w6.heap.size (.slice qA K qC) K Vq) := fun g' cap' w' h1 h2 h3 => hI.out.next hU1 hU2 hU3 ⟨_, _, rfl⟩ h1 h2 h3
          clear hI hU1 hU2
          go_wp2_with (at_builtin; refine wpList_append_lies _ rfl (.tmp 125) (.tmp 127) 40 rfl w5.heap.size 24 i1 (.slice none 0 0) 1 24 Tryd.underlying40 hi1 hz3 hz4 hz5 rfl (by decide) _ _ _ rfl ((hU3.alloc _).alloc _) ⟨wr.heap.size + 1, 0, none⟩ 1 1 [.slice (some ⟨wr.heap.size, 0, none⟩) 1 1] rfl rfl (cell_one_new2 _ _ _ _) (by simp [Value.oneCell']) (by decide) (by unfold maxLen; omega) (by omega) (by simp; omega) (wr.heap.size + 1 + 1) (by simp) ?_; intro g6 c6 w6' hown6 hgrow6 hat6 hlt6; have hI2 : Hid (LoopI W w6' w5.heap.size 1 K (i + 1) Vp (some ⟨g6, 0, none⟩) c6 w6.heap.size (.slice qA K qC) K Vq) := hNx.out g6 c6 w6' hown6 hgrow6 hat6; clear hNx hown6 hgrow6 hat6 hlt6 hU3)
          go_roundw
          case rel => exact ⟨i + 1, some ⟨g6, 0, none⟩, c6, by omega, rfl, by go_num, hI2⟩
          case measure => simp [intOf]; omega
        · obtain ⟨ip, rfl⟩ : ∃ x, x = i := ⟨i, rfl⟩
          have hip : ¬ (ip : Int) < 20 := by omega
          obtain ⟨wp, rfl⟩ : ∃ x, x = wr := ⟨wr, rfl⟩
          obtain ⟨Us, hU1, hU2, hU3⟩ := hI.out.tail.own
          have HU : Hid (Us.length = ip ∧ ∀ u ∈ Us, ∃ a c, u = .slice a 1 c) := ⟨hU1, hU2⟩
          have HL0 : Hid (LoopI W wp w6.heap.size 2 K 0 Vq qA qC w5.heap.size (.slice a (K + ip) c') (K + ip) (Vp ++ Us)) := ⟨⟨[], rfl, fun u hu => (by cases hu), by simpa using hI.out.oth⟩, hU3, fun b h1 h2 => hI.out.apt b h2 h1, hI.out.bel, HW5s.out, hI.out.sz2, hI.out.sz⟩
          clear hI hU1 hU2 hU3 hlt
          go_wp2
          go_loopw [18, 28] (fun s18 s28 wr => ∃ (i : Nat) (b : Option Addr) (d' : Nat), i ≤ 20 ∧ s18 = .slice b (K + i) d' ∧ s28 = .int .i64 (i : Int) ∧ Hid (LoopI W wr w6.heap.size 2 K i Vq b d' w5.heap.size (.slice a (K + ip) c') (K + ip) (Vp ++ Us))) (fun _ s28 _ => 20 - (intOf s28).toNat)
          case atStart => exact ⟨0, qA, qC, by omega, rfl, rfl, HL0⟩
          case round =>
            clear HL0
            obtain ⟨i, b, d', hi20, rfl, rfl, hI⟩ := hrel
            by_cases hlt : i < 20
            · have hlt3 : (i : Int) < 20 := by omega
              obtain ⟨Uq, hU1, hU2, hU3⟩ := hI.out.tail.own
              have hsz := hI.out.sz
              have hNx : Hid (∀ g' cap' w', World.ownsRow w' w6.heap.size 24 1 (.slice (some ⟨g', 0, none⟩) (K + i + 1) cap') (K + i + 1) (Vq ++ Uq ++ [.slice (some ⟨wr.heap.size, 0, none⟩) 2 2]) → ((wr.alloc (.cells #[.int .i64 2, .int .i64 2] 3)).alloc (.cells #[.slice (some ⟨wr.heap.size, 0, none⟩) 2 2] 24)).grownBy w' (Value.slice b (K + i) d').ownBlock → ((Value.slice b (K + i) d').ownBlock = some g' ∨ g' = wr.heap.size + 1 + 1) → LoopI W w' w6.heap.size 2 K (i + 1) Vq (some ⟨g', 0, none⟩) cap' w5.heap.size (.slice a (K + ip) c') (K + ip) (Vp ++ Us)) := fun g' cap' w' h1 h2 h3 => hI.out.next hU1 hU2 hU3 ⟨_, _, rfl⟩ h1 h2 h3
              clear hI hU1 hU2
              go_wp2_with (at_builtin; refine wpList_append_lies _ rfl (.tmp 133) (.tmp 135) 40 rfl w6.heap.size 24 i1 (.slice none 0 0) 1 24 Tryd.underlying40 hi1 hz3 hz4 hz5 rfl (by decide) _ _ _ rfl ((hU3.alloc _).alloc _) ⟨wr.heap.size + 1, 0, none⟩ 1 1 [.slice (some ⟨wr.heap.size, 0, none⟩) 2 2] rfl rfl (cell_one_new2 _ _ _ _) (by simp [Value.oneCell']) (by decide) (by unfold maxLen; omega) (by omega) (by simp; omega) (wr.heap.size + 1 + 1) (by simp) ?_; intro g6 c6 w6' hown6 hgrow6 hat6 hlt6; have hI2 : Hid (LoopI W w6' w6.heap.size 2 K (i + 1) Vq (some ⟨g6, 0, none⟩) c6 w5.heap.size (.slice a (K + ip) c') (K + ip) (Vp ++ Us)) := hNx.out g6 c6 w6' hown6 hgrow6 hat6; clear hNx hown6 hgrow6 hat6 hlt6 hU3)
              go_roundw
              case rel => exact ⟨i + 1, some ⟨g6, 0, none⟩, c6, by omega, rfl, by go_num, hI2⟩
              case measure => simp [intOf]; omega
            · obtain ⟨iq, rfl⟩ : ∃ x, x = i := ⟨i, rfl⟩
              have hiq : ¬ (iq : Int) < 20 := by omega
              obtain ⟨wq, rfl⟩ : ∃ x, x = wr := ⟨wr, rfl⟩
              have HTP : Hid (∀ j, K ≤ j → j < K + ip → ∃ g b d, a = some ⟨g, 0, none⟩ ∧ wq.cell? ⟨g, j, none⟩ = some (.slice b 1 d)) := fun j h1 h2 => (TailV.mk ⟨Us, HU.out.1, HU.out.2, hI.out.oth⟩ : TailV wq w5.heap.size 1 K ip Vp a c').at HLp.out h1 h2
              have HTQ : Hid (∀ j, K ≤ j → j < K + iq → ∃ g e d, b = some ⟨g, 0, none⟩ ∧ wq.cell? ⟨g, j, none⟩ = some (.slice e 2 d)) := fun j h1 h2 => hI.out.tail.at HLq.out h1 h2
              have HF : Hid (Below W.heap.size W wq) := hI.out.bel
              clear hI hlt HU
              go_wp2
              go_loopw [29] (fun s29 wr => ∃ i : Nat, i ≤ 20 ∧ s29 = .int .i64 (i : Int) ∧ wr = wq) (fun s29 _ => 20 - (intOf s29).toNat)
              case atStart => exact ⟨0, by omega, rfl, rfl⟩
              case round =>
                obtain ⟨i, hi20, rfl, hwr⟩ := hrel
                replace hwr := hwr.symm
                subst hwr
                by_cases hlt : i < 20
                · have hlt3 : (i : Int) < 20 := by omega
                  obtain ⟨j, hj⟩ : ∃ j, j = K + 19 - i := ⟨_, rfl⟩
                  obtain ⟨g1, b1, d1, ha1, hc1⟩ := HTP.out j (by omega) (by omega)
                  obtain ⟨g2, b2, d2, ha2, hc2⟩ := HTQ.out j (by omega) (by omega)
                  subst ha1 ha2
                  have hj1 : (K : Int) + (ip : Int) - 1 - (i : Int) = (j : Int) := by omega
                  have hj2 : (j : Int) < (K : Int) + (ip : Int) := by omega
                  have hj3 : (K : Int) + (iq : Int) - 1 - (i : Int) = (j : Int) := by omega
                  have hj4 : (j : Int) < (K : Int) + (iq : Int) := by omega
                  clear hj
                  go_wp2
                  go_roundw
                  case rel => exact ⟨i + 1, by omega, by go_num, trivial⟩
                  case measure => simp [intOf]; omega
                · go_wp2
                  go_ret
                  exact ⟨rfl, HF.out⟩

end Go.Proofs.YtgllcbajgndldaaDoor.GraphOwnW
