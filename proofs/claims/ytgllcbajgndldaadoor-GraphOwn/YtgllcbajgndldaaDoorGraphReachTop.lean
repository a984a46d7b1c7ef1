/-
  The program's Reach, for every input.
-/
import Derived.Test.YtgllcbajgndldaaDoorGraphTours
namespace Go.Proofs.YtgllcbajgndldaaDoor.GraphNet
open Go.RowKit Go.Sort Go.Proofs.YtgllcbajgndldaaDoor.GramMath Go.Proofs.YtgllcbajgndldaaDoor.GramRow Go.Proofs.YtgllcbajgndldaaDoor.GramApart Go.Proofs.YtgllcbajgndldaaDoor.GraphMath Go.Proofs.YtgllcbajgndldaaDoor.GraphFn Go.Proofs.YtgllcbajgndldaaDoor.GraphSort Go.Proofs.YtgllcbajgndldaaDoor.OpRow Go.Proofs.YtgllcbajgndldaaDoor.GramErrs
set_option linter.unusedVariables false
set_option linter.unusedSimpArgs false

/-- The errors that this layer answers. -/
def SentG (w : World) (p : Nat → Addr) : Prop := Sent w 1 (p 1) ∧ Sent w 12 (p 12)
theorem SentG.below {w w' : World} {p : Nat → Addr} {B : Nat} (h : SentG w p) (hb : Below B w w') (hB : w.heap.size ≤ B) : SentG w' p := ⟨h.1.below hb hB, h.2.below hb hB⟩
theorem _root_.Go.Proofs.YtgllcbajgndldaaDoor.GramErrs.Errs.sentG {w : World} {p : Nat → Addr} (h : Errs w p) : SentG w p := ⟨(h.1 0 (by omega)).1, (h.1 11 (by omega)).1⟩

/-- A graph that is handed in. -/
structure GrIn (w : World) (p : Nat → Addr) (n : Int) (ea : Option Addr) (es : List (Int × Int)) : Prop where
  n64 : I64 n
  row : ERow w ea es
  sent : SentG w p
  len : es.length ≤ 1125899906842624
  i64 : ∀ e ∈ es, I64 e.1 ∧ I64 e.2
theorem GrIn.below {w w' : World} {p : Nat → Addr} {n : Int} {ea : Option Addr} {es : List (Int × Int)} (h : GrIn w p n ea es) (hb : Below w.heap.size w w') : GrIn w' p n ea es := ⟨h.n64, h.row.below hb (Nat.le_refl _), h.sent.below hb (Nat.le_refl _), h.len, h.i64⟩

theorem mayE_zero {n : Int} {es : List (Int × Int)} (h : mayE n es = 0) : ∃ m : Nat, n = (m : Int) ∧ m ≤ 256 ∧ es.length ≤ 4096 ∧ (∀ e ∈ es, 0 ≤ e.1 ∧ e.1 < m ∧ 0 ≤ e.2 ∧ e.2 < m) ∧ ∀ e ∈ toE es, e.1 < m ∧ e.2 < m := by
  unfold mayE at h
  by_cases h1 : 256 < n ∨ 4096 < es.length
  · rw [if_pos h1] at h; cases h
  rw [if_neg h1] at h
  by_cases h2 : n < 0
  · rw [if_pos h2] at h; cases h
  rw [if_neg h2] at h
  cases h3 : es.all (fun e => hasB n.toNat [e.1, e.2]) with
  | false => rw [h3] at h; cases h
  | true =>
    have h4 : ∀ e ∈ es, ∃ X Y : Nat, e.1 = (X : Int) ∧ e.2 = (Y : Int) ∧ X < n.toNat ∧ Y < n.toNat := fun e he => hasB_two (List.all_eq_true.1 h3 e he)
    refine ⟨n.toNat, by omega, by omega, by omega, fun e he => ?_, fun e he => ?_⟩
    · obtain ⟨X, Y, h5, h6, h7, h8⟩ := h4 e he
      omega
    · obtain ⟨e0, he0, rfl⟩ := List.mem_map.1 he
      obtain ⟨X, Y, h5, h6, h7, h8⟩ := h4 e0 he0
      dsimp only
      omega

def reachC (n : Int) (es : List (Int × Int)) (fr : List Int) : Nat := if mayE n es ≠ 0 then mayE n es else if hasB n.toNat fr then 0 else 1
noncomputable def reachL (n : Int) (es : List (Int × Int)) (fr : List Int) : List Int := if reachC n es fr = 0 then ints (reach n.toNat (toE es) (fr.map Int.toNat)) else []

/-- What is answered: a list in new memory, and an error or none. -/
def AnsV (w0 : World) (p : Nat → Addr) (k : Nat) (L : List Int) (w' : World) (v : Value) : Prop := ∃ rv, v = .tuple #[rv, ckK p k] ∧ w'.ownsRow w0.heap.size 3 1 rv L.length (iV L)

theorem reach_len (m : Nat) (E : List (Nat × Nat)) (xs : List Nat) : (reach m E xs).length ≤ m := nodup_le ((reach_rising m E xs).imp (fun h => Nat.ne_of_lt h)) (fun y hy => (mem_reach.1 hy).1)

theorem ints_of_has {m : Nat} {fr : List Int} (h : hasB m fr = true) : ints (fr.map Int.toNat) = fr ∧ ∀ x ∈ fr.map Int.toNat, x < m := by
  have h2 := hasB_iff.1 h
  refine ⟨?_, fun x hx => ?_⟩
  · unfold ints
    rw [List.map_map]
    conv => rhs; rw [← List.map_id fr]
    refine List.map_congr_left fun x hx => ?_
    have := h2 x hx
    simp; omega
  · obtain ⟨y, hy, rfl⟩ := List.mem_map.1 hx
    have := h2 y hy
    omega

set_option maxRecDepth 100000 in
set_option maxHeartbeats 2000000 in
theorem Reach_top (p : Nat → Addr) (n : Int) (ea : Option Addr) (ec : Nat) (es : List (Int × Int)) (fa : Option Addr) (fc : Nat) (fr : List Int) (w : World) (hG : GrIn w p n ea es) (hF : IRow w fa fr) (hfl : fr.length ≤ 1125899906842624) (hf64 : ∀ x ∈ fr, I64 x) :
    Calls Tryd.prog 15 #[.int .i64 n, .slice ea es.length ec, .slice fa fr.length fc] w fun e w' => ∃ v, e = .returned v ∧ AnsV w p (reachC n es fr) (reachL n es fr) w' v ∧ Below w.heap.size w w' := by
  have hnet := netOf_any p n ea ec es w hG.n64 hG.row hG.sent.1 hG.sent.2 hG.len hG.i64
  have hneq := neq_nil
  have HG : Hid (_) := hG
  have HF : Hid (IRow w fa fr) := hF
  clear hG hF
  go_enter Tryd.func15, Tryd.ntmps15
  go_wp2_with fail
  refine hnet.mono ?_
  rintro e w1 ⟨v, rfl, hv | ⟨hm0, rfl⟩, hb1⟩
  · obtain ⟨hm0, bg, V, rfl, hbg, hN⟩ := hv
    obtain ⟨m, rfl, hm, hel, hes, hE⟩ := mayE_zero hm0
    rw [Int.toNat_natCast] at hN
    simp only [Int.toNat_natCast] at hN ⊢
    have hFr := HF.out.below hb1 (Nat.le_refl _)
    have hhas := has_any (some ⟨bg, 0, none⟩) m m fa fc fr w1 hFr hfl hf64 hm
    have hS := HG.out.sent.below hb1 (Nat.le_refl _)
    have c1 : w1.cell? ⟨1, 0, none⟩ = some (.iface 122 (.pointer (some (p 1)))) := hS.1
    cases hh : hasB m fr with
    | false =>
      rw [hh] at hhas
      have E1 : Hid (reachC (m : Int) es fr = 1) := by show _ = _; unfold reachC; rw [if_neg (by simp [hm0]), Int.toNat_natCast, hh]; rfl
      have E2 : Hid (reachL (m : Int) es fr = []) := by show _ = _; unfold reachL; rw [if_neg (by rw [E1.out]; decide)]
      have Hb1 : Hid (_) := hb1
      clear hm0 hnet HF HG hN hFr hh hes hE hS hb1
      go_wp2_with fail
      refine hhas.mono ?_
      rintro e w2 ⟨rfl, hw2⟩
      obtain rfl := hw2.symm
      clear hhas
      go_wp2
      go_quiet (fail)
      go_wp2
      go_ret2
      refine ⟨_, rfl, ⟨.slice none 0 0, ?_, ?_⟩, bdrew Hb1.out _⟩
      · rw [E1.out]; rfl
      · rw [E2.out]; exact World.ownsRow_nil ..
    | true =>
      rw [hh] at hhas
      obtain ⟨hin, hlt⟩ := ints_of_has hh
      have E1 : Hid (reachC (m : Int) es fr = 0) := by show _ = _; unfold reachC; rw [if_neg (by simp [hm0]), Int.toNat_natCast, hh]; rfl
      have E2 : Hid (reachL (m : Int) es fr = ints (reach m (toE es) (fr.map Int.toNat))) := by show _ = _; unfold reachL; rw [if_pos E1.out, Int.toNat_natCast]
      have hlen : fr.length = (fr.map Int.toNat).length := by simp
      have htour := tour_any bg m m (toE es) fa fc (fr.map Int.toNat) w1 hN.read (by rw [hin]; exact hFr) hlt hm (by rw [← hlen]; exact hfl) hE
      rw [← hlen] at htour
      obtain ⟨hok, hmem⟩ := tour_facts hE (fr.map Int.toNat) hlt
      have hsort : Hid (srt (ints (GraphMath.tour m (toE es) (fr.map Int.toNat)).nodes) = ints (reach m (toE es) (fr.map Int.toNat))) := by
        show _ = _
        exact sort_ints hok.nodup (reach_rising _ _ _) (fun x => ⟨fun h => mem_reach.2 ⟨hok.lt x h, h⟩, fun h => (mem_reach.1 h).2⟩)
      have hnl := hok.len
      have hrl := sort_ints hok.nodup (reach_rising m (toE es) (fr.map Int.toNat)) (fun x => ⟨fun h => mem_reach.2 ⟨hok.lt x h, h⟩, fun h => (mem_reach.1 h).2⟩)
      have HL : Hid ((GraphMath.tour m (toE es) (fr.map Int.toNat)).nodes.length = (ints (reach m (toE es) (fr.map Int.toNat))).length) := by
        show _ = _
        rw [← hrl, List.length_mergeSort, ints_length]
      have Hb1 : Hid (_) := hb1
      generalize GraphMath.tour m (toE es) (fr.map Int.toNat) = t at *
      clear hm0 hnet HF HG hN hFr hh hes hE hS hb1 hok hmem hin hlt hlen hrl c1
      go_wp2_with fail
      refine hhas.mono ?_
      rintro e w2 ⟨rfl, hw2⟩
      obtain rfl := hw2.symm
      clear hhas
      go_wp2_with fail
      refine htour.mono ?_
      rintro e w3 ⟨nv, ba, rfl, hTV, hb3⟩
      clear htour
      have hown := hTV.nodes
      have hsrt := sort_own w1.heap.size _ nv _ w3 hown (by omega)
      rw [hsort.out] at hsrt
      have HB3 : Hid (Below w.heap.size w w3) := Hb1.out.trans (hb3.mono Hb1.out.size)
      have HO : Hid (∀ j, nv.ownBlock = some j → w.heap.size ≤ j) := fun j hj => by have := (hown.lt j hj).1; have := Hb1.out.size; omega
      have hs31 := hb3.size
      have hs1 : Hid (w.heap.size ≤ w1.heap.size) := Hb1.out.size
      clear hTV hown hb3 Hb1
      have hfld : (Instr.field 61 (.agg #[nv, .slice (some ⟨ba, 0, none⟩) m m]) 0).run Tryd.prog w3 = .ok nv w3 := by kernel_rfl
      go_wp2_with fail
      refine hsrt.mono ?_
      rintro e w4 ⟨rfl, hown4, hg4⟩
      have hfin : Hid (w4.ownsRow w.heap.size 3 1 nv (ints (reach m (toE es) (fr.map Int.toNat))).length (iV (ints (reach m (toE es) (fr.map Int.toNat)))) ∧ Below w.heap.size w w4) := ⟨by
        have h := hown4
        rw [HL.out] at h
        obtain ⟨q1, q2 | ⟨g, cap, cur, q3, q4, q5⟩⟩ := h
        · exact ⟨q1, .inl q2⟩
        · exact ⟨q1, .inr ⟨g, cap, cur, q3, Nat.le_trans hs1.out q4, q5⟩⟩, HB3.out.grown hg4 HB3.out.size HO.out⟩
      clear hsrt hown4 hg4 HB3 HO hfld
      go_wp2
      go_ret2
      exact ⟨_, rfl, ⟨nv, by rw [E1.out]; rfl, by rw [E2.out]; exact hfin.out.1⟩, hfin.out.2⟩
  · have E1 : Hid (reachC n es fr = mayE n es) := by show _ = _; unfold reachC; rw [if_pos hm0]
    have E2 : Hid (reachL n es fr = []) := by show _ = _; unfold reachL; rw [if_neg (by rw [E1.out]; exact hm0)]
    have Hm : Hid (mayE n es ≠ 0) := hm0
    generalize mayE n es = k at *
    clear hm0 hnet HF HG
    have Hb1 : Hid (_) := hb1
    clear hb1
    go_wp2
    go_ret2
    refine ⟨_, rfl, ⟨.slice none 0 0, ?_, ?_⟩, Hb1.out⟩
    · rw [E1.out]
      unfold ckK
      rw [if_neg Hm.out]
      rfl
    · rw [E2.out]
      exact World.ownsRow_nil ..

end Go.Proofs.YtgllcbajgndldaaDoor.GraphNet
