/-
  Skeleton: of every right side the skeleton, as a list of new memory.
-/
import Derived.Test.YtkjmmoiickambaaDoorOpTerms
import Derived.Lib.BufferWrite
namespace Go.Proofs.YtkjmmoiickambaaDoor.OpSkel
open Go.RowKit Go.Proofs.YtkjmmoiickambaaDoor.GramMath Go.Proofs.YtkjmmoiickambaaDoor.GramRow Go.Proofs.YtkjmmoiickambaaDoor.GramApart Go.Proofs.YtkjmmoiickambaaDoor.GramLent Go.Proofs.YtkjmmoiickambaaDoor.OpRow Go.Proofs.YtkjmmoiickambaaDoor.OpTerms
set_option linter.unusedVariables false
attribute [local go_sem] Oper.semAt_some

def sk (x : Int) : Int := if x < 0 then -1 else x
/-- The skeleton of a right side. -/
def skel (zs : List Int) : List Int := zs.map sk

theorem skel_len (zs : List Int) : (skel zs).length = zs.length := by simp [skel]

/-- The first k places filled, zeros behind them. -/
def negs (n k : Nat) : List Int := List.replicate k (-1) ++ List.replicate (n - k) 0
theorem negs_zero (n : Nat) : negs n 0 = List.replicate n 0 := by simp [negs]
theorem negs_all (n : Nat) : negs n n = List.replicate n (-1) := by simp [negs]
theorem negs_get {n k : Nat} (h : k < n) : (negs n k)[k]? = some 0 := by
  unfold negs
  rw [List.getElem?_append_right (by simp), List.getElem?_replicate, if_pos (by simp; omega)]
theorem negs_set {n k : Nat} (h : k < n) : (negs n k).set k (-1) = negs n (k + 1) := by
  unfold negs
  rw [List.set_append_right _ _ (by simp)]
  have e : n - k = (n - (k + 1)) + 1 := by omega
  rw [e, List.replicate_succ (n := n - (k + 1)), List.replicate_succ']
  simp

/-- The skeleton of the first k, -1 behind them. -/
def skelTo (zs : List Int) (k : Nat) : List Int := (zs.take k).map sk ++ List.replicate (zs.length - k) (-1)
theorem skelTo_zero (zs : List Int) : skelTo zs 0 = List.replicate zs.length (-1) := by simp [skelTo]
theorem skelTo_all (zs : List Int) : skelTo zs zs.length = skel zs := by simp [skelTo, skel]
theorem skelTo_get {zs : List Int} {k : Nat} (h : k < zs.length) : (skelTo zs k)[k]? = some (-1) := by
  unfold skelTo
  rw [List.getElem?_append_right (by simp; omega), List.getElem?_replicate, if_pos (by simp; omega)]
theorem skelTo_set {zs : List Int} {k : Nat} {x : Int} (h : zs[k]? = some x) : (skelTo zs k).set k (sk x) = skelTo zs (k + 1) := by
  obtain ⟨hk, he⟩ := List.getElem?_eq_some_iff.1 h
  unfold skelTo
  rw [List.set_append_right _ _ (by simp; omega), List.take_succ_eq_append_getElem hk, List.map_append, he]
  have e1 : k - ((zs.take k).map sk).length = 0 := by simp; omega
  have e2 : zs.length - k = (zs.length - (k + 1)) + 1 := by omega
  rw [e1, e2, List.replicate_succ]
  simp
theorem set_same {l : List Int} {k : Nat} {x : Int} (h : l[k]? = some x) : l.set k x = l := by
  apply List.ext_getElem?
  intro i
  rw [List.getElem?_set]
  by_cases e : k = i
  · subst e
    rw [if_pos rfl, if_pos (List.getElem?_eq_some_iff.1 h).1, h]
  · rw [if_neg e]
theorem skelTo_skip {zs : List Int} {k : Nat} {x : Int} (h : zs[k]? = some x) (h0 : x < 0) : skelTo zs k = skelTo zs (k + 1) := by
  rw [← skelTo_set h, show sk x = -1 by unfold sk; rw [if_pos h0], set_same (skelTo_get (List.getElem?_eq_some_iff.1 h).1)]

set_option maxRecDepth 100000 in
set_option maxHeartbeats 2000000 in
theorem skel_any (a : Option Addr) (c : Nat) (zs : List Int) (w : World) (hr : IRow w a zs) (hm : zs.length * 8 ≤ 140737488351232) :
    Calls Tryd.prog 18 #[.slice a zs.length c] w fun e w' => (e = .returned (.slice (some ⟨w.heap.size, 0, none⟩) zs.length zs.length) ∧ RowAt w' w.heap.size 3 (intsA (skel zs))) ∧ Below w.heap.size w w' := by
  refine (callsIn_wide (n := 4)).1 ?_
  have hmk := fun W => madeI_any zs.length hm W
  have hrow0 := (made_row w zs.length 3).alloc (.cells #[.slice (some ⟨w.heap.size, 0, none⟩) zs.length zs.length] 43)
  have hs0 : (w.alloc (.cells (madeCells #[.int .i64 0] zs.length) 3)).heap.size = w.heap.size + 1 := by simp
  have hB0 : Below w.heap.size w (w.alloc (.cells (madeCells #[.int .i64 0] zs.length) 3)) := (Below.refl _ _).alloc (Nat.le_refl _) _
  have hB1 := hB0.alloc (by omega) (.cells #[.slice (some ⟨w.heap.size, 0, none⟩) zs.length zs.length] 43)
  have hbx0 : RowAt _ _ _ _ := heap_new (w.alloc (.cells (madeCells #[.int .i64 0] zs.length) 3)) (.cells #[.slice (some ⟨w.heap.size, 0, none⟩) zs.length zs.length] 43)
  rw [hs0] at hbx0
  have hs1 : ((w.alloc (.cells (madeCells #[.int .i64 0] zs.length) 3)).alloc (.cells #[.slice (some ⟨w.heap.size, 0, none⟩) zs.length zs.length] 43)).heap.size = w.heap.size + 2 := by simp
  rw [← negs_zero] at hrow0
  refine callsIn_of_wp_marks Tryd.func18 rfl trivial ?_ rfl
  simp only [Tryd.ntmps18, List.size_toArray, List.length_cons, List.length_nil, Nat.reduceAdd, Nat.reduceSub, Array.replicate_succ, Array.replicate_zero, List.push_toArray, List.append_toArray, List.nil_append, List.cons_append]
  have hc0 := hbx0.cell (q := 0) rfl
  gi_wp2
  generalize (w.alloc (.cells (madeCells #[.int .i64 0] zs.length) 3)).alloc (.cells #[.slice (some ⟨w.heap.size, 0, none⟩) zs.length zs.length] 43) = W1 at *
  clear hmk hB0 hs0 hc0
  gi_loopw [12] (fun i wr => ∃ k : Nat, k ≤ zs.length ∧ i = .int .i64 k ∧ RowAt wr w.heap.size 3 (intsA (negs zs.length k)) ∧ RowAt wr (w.heap.size + 1) 43 #[.slice (some ⟨w.heap.size, 0, none⟩) zs.length zs.length] ∧ Below w.heap.size w wr ∧ wr.heap.size = w.heap.size + 2) (fun i _ => zs.length - (intOf i).toNat)
  case atStart => exact ⟨0, by omega, rfl, hrow0, hbx0, hB1, hs1⟩
  case round =>
    clear hrow0 hbx0 hB1 hs1
    obtain ⟨k, hk, rfl, hrow, hbx, hB, hsz⟩ := hrel
    have hc0 := hbx.cell (q := 0) rfl
    by_cases hlt : k < zs.length
    · have hlt2 : (k : Int) < (zs.length : Int) := by omega
      have ck := hrow.cell (intsA_get (negs_get hlt))
      have fk := hrow.frozen k
      have hrow3 := hrow.set k (.int .i64 (-1))
      rw [intsA_set, negs_set hlt] at hrow3
      have hbx3 := hbx.other (b' := w.heap.size) (by omega) k (.int .i64 (-1))
      have hB3 := hB.setCell (p := ⟨w.heap.size, k, none⟩) (by simp) (.int .i64 (-1))
      have hsz3 : (wr.setCell ⟨w.heap.size, k, none⟩ (.int .i64 (-1))).heap.size = w.heap.size + 2 := by simp [hsz]
      clear hrow hbx hB hsz hr
      gi_wp2
      go_roundw
      case rel => exact ⟨k + 1, by omega, by go_num, hrow3, hbx3, hB3, hsz3⟩
      case measure => simp [intOf]; omega
    · obtain rfl : k = zs.length := by omega
      have hnl : ¬ (zs.length : Int) < (zs.length : Int) := by omega
      rw [negs_all, ← skelTo_zero] at hrow
      have htm := terms_any a c zs wr (hr.below hB (Nat.le_refl _)) hm
      clear hr
      gi_wp2_with fail
      refine ⟨trivial, (callsIn_wide.2 htm).mono ?_⟩
      rintro e W2 ⟨⟨rfl, hT2, hs2⟩, hb2⟩
      have hrow2 := hrow.below hb2 hrow.lt
      have hbx2 := hbx.below hb2 hbx.lt
      have hB2 := hB.trans (hb2.mono hB.size)
      rw [hsz] at hs2 hT2
      clear hrow hbx hB hb2 htm hc0
      gi_wp2_with fail
      refine' range_terms 4 (by omega) (w.heap.size + 2 + 1) (w.heap.size + 2) zs (by omega) rfl hT2 rfl
        (fun k W => (RowAt W w.heap.size 3 (intsA (skelTo zs k)) ∧ RowAt W (w.heap.size + 1) 43 #[.slice (some ⟨w.heap.size, 0, none⟩) zs.length zs.length]) ∧ Below w.heap.size w W)
        (fun _ _ => False)
        (OwnFrom.and (fun s W W' row hs hg hr => ⟨RowAt.own hs.1 hg (fun r e => (hr r e).2), RowAt.own hs.2 hg (fun r e => (hr r e).2)⟩) (ownFrom_below (Nat.le_refl _) (by omega)))
        (fun _ _ _ _ _ hs _ _ => hs)
        ⟨⟨hrow2, hbx2⟩, hB2⟩
        (fun k x W hx h0 h => by rw [← skelTo_skip hx h0]; exact h)
        _ ?assign ?body ?done ?stop
      case assign =>
        intro l k x W K hK
        gi_wp2
        exact hK
      case stop =>
        rintro D c W _ h _
        exact h.elim
      case body =>
        rintro l k x W hx h0 hTW ⟨⟨hrw, hbw⟩, hBw⟩
        have hc0 := hbw.cell (q := 0) rfl
        have hkl := (List.getElem?_eq_some_iff.1 hx).1
        have hlt2 : (k : Int) < (zs.length : Int) := by omega
        have ck := hrw.cell (intsA_get (skelTo_get hkl))
        have fk := hrw.frozen k
        have hrow3 := hrw.set k (.int .i64 x)
        have esx : sk x = x := by unfold sk; rw [if_neg (by omega)]
        have est := skelTo_set hx
        rw [esx] at est
        rw [intsA_set, est] at hrow3
        have hbx3 := hbw.other (b' := w.heap.size) (by omega) k (.int .i64 x)
        have hB3 := hBw.setCell (p := ⟨w.heap.size, k, none⟩) (by simp) (.int .i64 x)
        have hK3 : KeepsFrom W2.heap.size W (W.setCell ⟨w.heap.size, k, none⟩ (.int .i64 x)) := (KeepsOthers.setCell _ _ _).from _
        have hT3 : TermsAt (W.setCell ⟨w.heap.size, k, none⟩ (.int .i64 x)) (w.heap.size + 2 + 1) (w.heap.size + 2) zs := ⟨hTW.1.other (by omega) _ _, hTW.2.other (by omega) _ _⟩
        clear hrw hbw hBw hTW hx est
        gi_wp2
        exact ⟨hK3, hT3, ⟨hrow3, hbx3⟩, hB3⟩
      rintro D W hD ⟨⟨hrw, hbw⟩, hBw⟩ hK
      rw [skelTo_all] at hrw
      have hc0 := hbw.cell (q := 0) rfl
      gi_wp2
      refine ⟨by simp, .inl ⟨_, _, rfl, run_takeDeferred hK, ?_⟩⟩
      exact ⟨_, results_tmp rfl _ _ _, ⟨rfl, RowAt.own hrw (grownBy_putObj' W D _) (fun r e => by cases e; exact ⟨_, hK, rfl⟩)⟩, hBw.trans (belowK_b (w := w) (Nat.le_refl _) W D _ _ (by omega) hK rfl rfl)⟩

end Go.Proofs.YtkjmmoiickambaaDoor.OpSkel
