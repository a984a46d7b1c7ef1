/-
  The program's Parts, for every input; the graphs that the document names.
-/
import Derived.Test.YtgllcbajgndldaaDoorGraphPartsFn
import Derived.Test.YtgllcbajgndldaaDoorGraphTops
import Derived.Test.YtgllcbajgndldaaDoorGraphLent
namespace Go.Proofs.YtgllcbajgndldaaDoor.GraphNet
open Go.RowKit Go.Sort Go.Proofs.YtgllcbajgndldaaDoor.GramMath Go.Proofs.YtgllcbajgndldaaDoor.GramRow Go.Proofs.YtgllcbajgndldaaDoor.GramApart Go.Proofs.YtgllcbajgndldaaDoor.GraphMath Go.Proofs.YtgllcbajgndldaaDoor.GraphFn Go.Proofs.YtgllcbajgndldaaDoor.GraphSort Go.Proofs.YtgllcbajgndldaaDoor.OpRow Go.Proofs.YtgllcbajgndldaaDoor.GramErrs Go.Proofs.YtgllcbajgndldaaDoor.GraphLent Go.Proofs.YtgllcbajgndldaaDoor.GramSame
set_option linter.unusedVariables false
set_option linter.unusedSimpArgs false

def ptL (n : Int) (es : List (Int × Int)) : List (List Nat) := if mayE n es = 0 then partsK (sameT n.toNat (toE es)) n.toNat else []
def PartsV (w0 : World) (p : Nat → Addr) (n : Int) (es : List (Int × Int)) (w' : World) (v : Value) : Prop := ∃ pv Vs, v = .tuple #[pv, ckK p (mayE n es)] ∧ Pts w' w0.heap.size pv (ptL n es) Vs

set_option maxRecDepth 100000 in
set_option maxHeartbeats 2000000 in
theorem Parts_top (p : Nat → Addr) (n : Int) (ea : Option Addr) (ec : Nat) (es : List (Int × Int)) (w : World) (hG : GrIn w p n ea es) :
    Calls Tryd.prog 14 #[.int .i64 n, .slice ea es.length ec] w fun e w' => ∃ v, e = .returned v ∧ PartsV w p n es w' v ∧ Below w.heap.size w w' := by
  have hnet := netOf_any p n ea ec es w hG.n64 hG.row hG.sent.1 hG.sent.2 hG.len hG.i64
  have hneq := neq_nil
  clear hG
  go_enter Tryd.func14, Tryd.ntmps14
  go_wp2_with fail
  refine hnet.mono ?_
  rintro e w1 ⟨v, rfl, hv | ⟨hm0, rfl⟩, hb1⟩
  · obtain ⟨hm0, bg, V, rfl, hbg, hN⟩ := hv
    obtain ⟨m, rfl, hm, hel, hes, hE⟩ := mayE_zero hm0
    simp only [Int.toNat_natCast] at hN ⊢
    have hpt := parts_any bg m m (toE es) w1 hN.read hm hE
    have E1 : Hid (ptL (m : Int) es = partsK (sameT m (toE es)) m) := by show _ = _; unfold ptL; rw [if_pos hm0, Int.toNat_natCast]
    have EM : Hid (ckK p (mayE (m : Int) es) = .nilIface) := by show _ = _; rw [hm0]; rfl
    have Hb1 : Hid (Below w.heap.size w w1) := hb1
    clear hnet hN hm0 hb1 hes hE
    go_wp2_with fail
    refine hpt.mono ?_
    rintro e w2 ⟨pv, Vs, rfl, hP, hb2⟩
    have HF : Hid (Pts w2 w.heap.size pv (ptL (m : Int) es) Vs ∧ Below w.heap.size w w2) := ⟨by
      rw [E1.out]
      exact ⟨own_lower hP.outer Hb1.out.size, fun i q hq => by
        obtain ⟨v, h1, h2⟩ := hP.row i q hq
        exact ⟨v, h1, own_lower h2 Hb1.out.size⟩, hP.apart⟩, Hb1.out.trans (hb2.mono Hb1.out.size)⟩
    clear hpt hP hb2 Hb1
    go_wp2
    go_ret2
    exact ⟨_, rfl, ⟨pv, Vs, by rw [EM.out]; rfl, HF.out.1⟩, HF.out.2⟩
  · have E1 : Hid (ptL n es = []) := by show _ = _; unfold ptL; rw [if_neg hm0]
    have EM : Hid (ckK p (mayE n es) = .iface 122 (.pointer (some (p (mayE n es))))) := by show _ = _; unfold ckK; rw [if_neg hm0]
    have Hb1 : Hid (_) := hb1
    clear hm0 hnet hb1
    go_wp2
    go_ret2
    exact ⟨_, rfl, ⟨.slice none 0 0, [], by rw [EM.out]; rfl, by rw [E1.out]; exact Pts.nil _ _⟩, Hb1.out⟩

theorem erow_at {w : World} {b : Nat} {t : TypeId} {es : List (Int × Int)} (h : RowAt w b t (flatE es).toArray) : ERow w (some ⟨b, 0, none⟩) es := fun i e he => by
  obtain ⟨h1, h2⟩ := flatE_at he
  exact ⟨b, 0, rfl, by rw [Nat.zero_add]; exact h.cell (by simpa using h1), by rw [Nat.zero_add]; exact h.cell (by simpa using h2)⟩

def e1 : List (Int × Int) := [(0, 1), (1, 2), (0, 2), (3, 2)]
def e2 : List (Int × Int) := [(3, 1), (1, 3), (0, 2), (2, 0)]
theorem k1 : mayE 4 e1 = 0 ∧ lvL 4 e1 = [2, 1, 0, 1] ∧ rdL 4 e1 = [] := ⟨by kernel_rfl, by kernel_rfl, by kernel_rfl⟩
theorem k2 : mayE 4 e2 = 0 ∧ lvL 4 e2 = [] ∧ rdL 4 e2 = [0, 2] := ⟨by kernel_rfl, by kernel_rfl, by kernel_rfl⟩
theorem e_i64 {es : List (Int × Int)} (h : es.all (fun e => decide (0 ≤ e.1) && decide (e.1 < 100) && decide (0 ≤ e.2) && decide (e.2 < 100)) = true) : ∀ e ∈ es, I64 e.1 ∧ I64 e.2 := fun e he => by
  have := List.all_eq_true.1 h e he
  simp at this
  unfold I64
  omega

set_option maxRecDepth 100000 in
set_option maxHeartbeats 4000000 in
theorem known_any (p : Nat → Addr) (w : World) (hS : SentG w p) : Calls Tryd.prog 13 #[] w fun e w' => e = .returned (.bool true) ∧ Below w.heap.size w w' := by
  have hq0 := eql_none
  have hB1 : Below w.heap.size w (w.alloc (.cells #[.int .i64 0, .int .i64 1, .int .i64 1, .int .i64 2, .int .i64 0, .int .i64 2, .int .i64 3, .int .i64 2] 45)) := (Below.refl _ _).alloc (Nat.le_refl _) _
  have hr1 : RowAt (w.alloc (.cells #[.int .i64 0, .int .i64 1, .int .i64 1, .int .i64 2, .int .i64 0, .int .i64 2, .int .i64 3, .int .i64 2] 45)) w.heap.size 45 (flatE e1).toArray := heap_new _ _
  have h1 := Longest_top p 4 (some ⟨w.heap.size, 0, none⟩) 4 e1 _ ⟨by unfold I64; omega, erow_at hr1, hS.below hB1 (Nat.le_refl _), by decide, e_i64 (by decide)⟩
  have h1' : Calls Tryd.prog 6 #[.int .i64 4, .slice (some ⟨w.heap.size, 0, none⟩) 4 4] (w.alloc (.cells #[.int .i64 0, .int .i64 1, .int .i64 1, .int .i64 2, .int .i64 0, .int .i64 2, .int .i64 3, .int .i64 2] 45)) _ := h1
  have hnil := eql_nil
  clear h1
  go_enter Tryd.func13, Tryd.ntmps13
  go_wp2_with fail
  refine h1'.mono ?_
  rintro e w2 ⟨v, rfl, ⟨lv, rv, rfl, o1, o2⟩, hb2⟩
  have EM1 : ckK p (mayE 4 e1) = .nilIface := by rw [k1.1]; rfl
  rw [EM1]
  rw [k1.2.1] at o1
  rw [k1.2.2] at o2
  obtain ⟨a1, c1, rfl, i1⟩ := own_form o1
  obtain ⟨a2, c2, rfl, i2⟩ := own_form o2
  have hB2 : Below w.heap.size w w2 := hB1.trans (hb2.mono hB1.size)
  have hB3 : Below w2.heap.size w2 (w2.alloc (.cells #[.int .i64 3, .int .i64 1, .int .i64 1, .int .i64 3, .int .i64 0, .int .i64 2, .int .i64 2, .int .i64 0] 45)) := (Below.refl _ _).alloc (Nat.le_refl _) _
  have hr2 : RowAt (w2.alloc (.cells #[.int .i64 3, .int .i64 1, .int .i64 1, .int .i64 3, .int .i64 0, .int .i64 2, .int .i64 2, .int .i64 0] 45)) w2.heap.size 45 (flatE e2).toArray := heap_new _ _
  have h2 := Longest_top p 4 (some ⟨w2.heap.size, 0, none⟩) 4 e2 _ ⟨by unfold I64; omega, erow_at hr2, (hS.below hB2 (Nat.le_refl _)).below hB3 (Nat.le_refl _), by decide, e_i64 (by decide)⟩
  have h2' : Calls Tryd.prog 6 #[.int .i64 4, .slice (some ⟨w2.heap.size, 0, none⟩) 4 4] (w2.alloc (.cells #[.int .i64 3, .int .i64 1, .int .i64 1, .int .i64 3, .int .i64 0, .int .i64 2, .int .i64 2, .int .i64 0] 45)) _ := h2
  clear h2 h1' hr1 hr2 o1 o2 EM1 hb2 hB1 i2
  go_wp2_with fail
  refine h2'.mono ?_
  rintro e w3 ⟨v, rfl, ⟨lv, rv, rfl, o1, o2⟩, hb3⟩
  have EM1 : ckK p (mayE 4 e2) = .nilIface := by rw [k2.1]; rfl
  rw [EM1]
  rw [k2.2.1] at o1
  rw [k2.2.2] at o2
  obtain ⟨a3, c3, rfl, i3⟩ := own_form o1
  obtain ⟨a4, c4, rfl, i4⟩ := own_form o2
  have hB4 : Below w2.heap.size w2 w3 := hB3.trans (hb3.mono hB3.size)
  have i1' := IRow.below i1 hB4 (Nat.le_refl _)
  have hBx : Below w3.heap.size w3 (w3.alloc (.cells #[.int .i64 2, .int .i64 1, .int .i64 0, .int .i64 1] 3)) := (Below.refl _ _).alloc (Nat.le_refl _) _
  have hrx : RowAt (w3.alloc (.cells #[.int .i64 2, .int .i64 1, .int .i64 0, .int .i64 1] 3)) w3.heap.size 3 (intsA [2, 1, 0, 1]) := heap_new _ _
  have h5 := ints_any a1 (some ⟨w3.heap.size, 0, none⟩) c1 4 [2, 1, 0, 1] [2, 1, 0, 1] _ (IRow.below i1' hBx (Nat.le_refl _)) (intsA_row hrx) (by decide) (by decide)
  rw [show eqI [2, 1, 0, 1] [2, 1, 0, 1] = true by unfold eqI; simp] at h5
  have h5' : Calls Tryd.prog 11 #[.slice a1 4 c1, .slice (some ⟨w3.heap.size, 0, none⟩) 4 4] (w3.alloc (.cells #[.int .i64 2, .int .i64 1, .int .i64 0, .int .i64 1] 3)) _ := h5
  clear h2' h5 hrx o1 o2 EM1 i1 i1' i3 hb3 hB3 hS
  go_wp2_with fail
  refine h5'.mono ?_
  rintro e w4 ⟨rfl, q4, hw4⟩
  have hB5 : Below w3.heap.size w3 w4 := by rw [hw4]; exact bdrew hBx _
  have hBy : Below w4.heap.size w4 (w4.alloc (.cells #[.int .i64 0, .int .i64 2] 3)) := (Below.refl _ _).alloc (Nat.le_refl _) _
  have hry : RowAt (w4.alloc (.cells #[.int .i64 0, .int .i64 2] 3)) w4.heap.size 3 (intsA [0, 2]) := heap_new _ _
  have h6 := ints_any a4 (some ⟨w4.heap.size, 0, none⟩) c4 2 [0, 2] [0, 2] _ (IRow.below (IRow.below i4 hB5 (Nat.le_refl _)) hBy (Nat.le_refl _)) (intsA_row hry) (by decide) (by decide)
  rw [show eqI [0, 2] [0, 2] = true by unfold eqI; simp] at h6
  have h6' : Calls Tryd.prog 11 #[.slice a4 2 c4, .slice (some ⟨w4.heap.size, 0, none⟩) 2 2] (w4.alloc (.cells #[.int .i64 0, .int .i64 2] 3)) _ := h6
  clear h5' h6 hry i4 hw4 hBx
  go_wp2_with fail
  refine h6'.mono ?_
  rintro e w5 ⟨rfl, q5, hw5⟩
  have hfin : Hid (Below w.heap.size w w5) := by
    have hB6 : Below w4.heap.size w4 w5 := by rw [hw5]; exact bdrew hBy _
    exact hB2.trans ((hB4.mono hB2.size).trans ((hB5.mono (by have := hB2.size; have := hB4.size; omega)).trans (hB6.mono (by have := hB2.size; have := hB4.size; have := hB5.size; omega))))
  clear h6' hw5 hBy hB5 hB4 hB2
  go_wp2
  go_ret
  exact ⟨rfl, hfin.out⟩

end Go.Proofs.YtgllcbajgndldaaDoor.GraphNet
