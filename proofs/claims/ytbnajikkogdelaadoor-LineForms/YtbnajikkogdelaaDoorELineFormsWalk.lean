/-
  Texts that stand together: LineFormsWalk.
-/
import Derived.Test.YtbnajikkogdelaaDoorELineBackWalk
import Derived.Test.YtbnajikkogdelaaDoorELineFormsM
import Derived.Laws.Concat
import Derived.BigQuiet
import Derived.Deep.RegionHeld3
namespace Go.Proofs.YtbnajikkogdelaaDoor.LineFormsW
open Go.RowKit Go.Proofs.YtbnajikkogdelaaDoor.GramMath Go.Proofs.YtbnajikkogdelaaDoor.GramRow Go.Proofs.YtbnajikkogdelaaDoor.GramOne Go.Proofs.YtbnajikkogdelaaDoor.GramErrs Go.Proofs.YtbnajikkogdelaaDoor.GramLent Go.Proofs.YtbnajikkogdelaaDoor.GramLess Go.Proofs.YtbnajikkogdelaaDoor.LineSt Go.Proofs.YtbnajikkogdelaaDoor.LineMath Go.Proofs.YtbnajikkogdelaaDoor.LineRead Go.Proofs.YtbnajikkogdelaaDoor.LineReadsW Go.Proofs.YtbnajikkogdelaaDoor.LineKn Go.Proofs.YtbnajikkogdelaaDoor.LineBk Go.Proofs.YtbnajikkogdelaaDoor.LineBackW Go.Proofs.YtbnajikkogdelaaDoor.LineFm
set_option linter.unusedVariables false
set_option linter.unusedSimpArgs false

theorem and7 (n : Int) : bits .and .i64 n 7 = n % 8 := by
  have h7 : (BitVec.ofInt 64 7).toNat = 2 ^ 3 - 1 := by decide
  have key : (BitVec.ofInt 64 n &&& BitVec.ofInt 64 7).toNat = (n % ((2 ^ 64 : Nat) : Int)).toNat % 2 ^ 3 := by
    rw [BitVec.toNat_and, BitVec.toNat_ofInt, h7, Nat.and_two_pow_sub_one_eq_mod]
  show IntKind.i64.wrap ((BitVec.ofInt 64 n &&& BitVec.ofInt 64 7).toNat : Nat) = n % 8
  rw [key, IntKind.wrap_i64]
  omega
theorem and1 (n : Int) : bits .and .i64 n 1 = n % 2 := by
  have h7 : (BitVec.ofInt 64 1).toNat = 2 ^ 1 - 1 := by decide
  have key : (BitVec.ofInt 64 n &&& BitVec.ofInt 64 1).toNat = (n % ((2 ^ 64 : Nat) : Int)).toNat % 2 ^ 1 := by
    rw [BitVec.toNat_and, BitVec.toNat_ofInt, h7, Nat.and_two_pow_sub_one_eq_mod]
  show IntKind.i64.wrap ((BitVec.ofInt 64 n &&& BitVec.ofInt 64 1).toNat : Nat) = n % 2
  rw [key, IntKind.wrap_i64]
  omega

/-- The form of the k-th word. -/
def formN (fs : List Int) (k : Nat) : Nat := if fs.length = 0 then 0 else ((fs.getD (k % fs.length) 0) % 8).toNat
def fF (fs : List Int) (k : Nat) : Bool × Nat := (decide (formN fs k % 2 = 1), formN fs k / 2)
theorem formN_lt (fs : List Int) (k : Nat) : formN fs k < 8 := by
  unfold formN
  split <;> omega

theorem wordS (x : ByteArray) (q : Bool) : WordsBytes.allW [(⟨x.data.toList, q, 0⟩ : Wd)] = WordsMath.wordL x.data.toList q := by
  unfold WordsBytes.allW
  simp [WordsBytes.pr, WordsMath.writeL]

theorem word_one (x : ByteArray) (q : Bool) (b0 : Nat) (W : World) (hx : x.size ≤ 1048576) (h0 : W.cell? ⟨b0, 0, none⟩ = some (.string x)) (h1 : W.cell? ⟨b0, 1, none⟩ = some (.bool q)) (h2 : W.cell? ⟨b0, 2, none⟩ = some (.int .i64 0)) :
    Calls Tryd.prog 21 #[.slice (some ⟨b0, 0, none⟩) 1 1] W fun e w' => e = .returned (.string ⟨(WordsMath.wordL x.data.toList q).toArray⟩) ∧ Below W.heap.size W w' := by
  have hl : x.data.toList.length = x.size := Array.length_toList
  have h := WordsBytes.write_any (some ⟨b0, 0, none⟩) 1 [(⟨x.data.toList, q, 0⟩ : Wd)] W (fun i y hy => by
    cases i with
    | succ i => simp at hy
    | zero =>
      simp at hy
      subst hy
      exact ⟨b0, 0, rfl, h0, h1, h2⟩) (by simp) (fun y hy => by simp at hy; subst hy; simp only; omega) (by
      rw [wordS]
      have := WordsBytes.wordL_len x.data.toList q
      omega)
  rw [wordS] at h
  exact h

set_option maxRecDepth 100000 in
set_option maxHeartbeats 8000000 in
theorem walk (ta na ra : Option Addr) (tc nc rc : Nat) (g : G) (xa : Option Addr) (xc : Nat) (zs : List Int) (ya : Option Addr) (yc : Nat) (fs : List Int) (p : Nat → Addr) (w : World) (hL : Lendable w ta na ra tc nc g) (ho : okG g) (hI : IRow w xa zs) (hm : zs.length * 8 ≤ 140737488351232) (hi64 : ∀ z ∈ zs, I64 z) (hnil : xa = none → zs.length = 0 ∧ xc = 0) (hJ : IRow w ya fs) (hn : fs.length * 8 ≤ 140737488351232) (hf64 : ∀ z ∈ fs, I64 z) (hE : Errs w p) (hT : ErrType w) :
    Calls Tryd.prog 6 #[.agg #[.slice ta g.ts.length tc, .slice na g.ns.length nc, .int .i64 g.ax, .slice ra g.rs.length rc], .slice xa zs.length xc, .slice ya fs.length yc] w fun e w' => e = .returned (.bool true) ∧ Below w.heap.size w w' := by
  have hneq := neq_nil
  have heql := eql_nil
  have hneq0 := neq0
  have heql0 := eql0
  have hBa : Below w.heap.size w (w.alloc (.cells #[.slice ta g.ts.length tc, .slice na g.ns.length nc, .int .i64 g.ax, .slice ra g.rs.length rc] 25)) := (Below.refl _ _).alloc (Nat.le_refl _) _
  have ha : Ht w (w.alloc (.cells #[.slice ta g.ts.length tc, .slice na g.ns.length nc, .int .i64 g.ax, .slice ra g.rs.length rc] 25)) w.heap.size ta na ra tc nc rc g p :=
    ⟨hBa, GBox.new w ta na ra tc nc rc g 25, Lendable.below hL hBa (Nat.le_refl _), hE.below hBa (Nat.le_refl _), hT.below hBa (Nat.le_refl _)⟩
  have hkn := known_any p _ ha.errs ha.et
  go_enter Tryd.func6, Tryd.ntmps6
  go_wp2_with fail
  generalize w.alloc (.cells #[.slice ta g.ts.length tc, .slice na g.ns.length nc, .int .i64 g.ax, .slice ra g.rs.length rc] 25) = wa at *
  refine hkn.mono ?_
  rintro e w0 ⟨rfl, hb⟩
  have h0 := ha.below hb
  have hI0 := hI.below h0.low (Nat.le_refl _)
  have hJ0 := hJ.below h0.low (Nat.le_refl _)
  clear hkn hb ha hBa hL hE hT hI hJ
  obtain ⟨q0, q1, q2, q3⟩ := id h0.box
  have hlend := lentG ta na ra tc nc rc g w0 h0.lend
  go_wp2_with fail
  refine hlend.mono ?_
  rintro e w1 ⟨⟨g1, c1, g2, c2, g3, c3, lq, rfl, hlg⟩, hb⟩
  have h1 := h0.below hb
  have hI1 := hI0.below hb (Nat.le_refl _)
  have hJ1 := hJ0.below hb (Nat.le_refl _)
  have hlz := lentI2 xa xc zs w1 hI1 hm hnil
  clear hlend hb h0 hI0 hJ0 q0 q1 q2 q3
  go_wp2_with fail
  refine hlz.mono ?_
  rintro e w2 ⟨⟨gi, ci, rfl, hci, _, _, hli, _⟩, hb⟩
  have h2 := h1.below hb
  have hI2 := hI1.below hb (Nat.le_refl _)
  have hJ2 := hJ1.below hb (Nat.le_refl _)
  have hlg2 := hlg.below hb (Nat.le_refl _)
  have hwr := write_any _ _ _ _ c1 c2 c3 ci g zs p w2 hlg2.row ho (Nat.le_of_lt hlg2.tc) (Nat.le_of_lt hlg2.nc) (row_frontI hli) (by omega) hi64 h2.errs
  clear hlz hb h1 hI1 hJ1 hlg hli
  go_wp2_with fail
  refine hwr.mono ?_
  rintro e w3 ⟨⟨v, rfl, hv⟩, hb⟩
  have h3 := h2.below hb
  have hI3 := hI2.below hb (Nat.le_refl _)
  have hJ3 := hJ2.below hb (Nat.le_refl _)
  have hlow := h3.low
  clear hwr hb h2 hI2 hJ2 hlg2
  have fin : ∀ (W : World), Ht w W w.heap.size ta na ra tc nc rc g p → Calls Tryd.prog 8 #[.agg #[.slice ta g.ts.length tc, .slice na g.ns.length nc, .int .i64 g.ax, .slice ra g.rs.length rc]] W _ := fun W h => lentG ta na ra tc nc rc g W h.lend
  have FIN : Hid (∀ (W : World), Ht w W w.heap.size ta na ra tc nc rc g p → Calls Tryd.prog 8 #[.agg #[.slice ta g.ts.length tc, .slice na g.ns.length nc, .int .i64 g.ax, .slice ra g.rs.length rc]] W _) := fin
  clear fin
  by_cases hz : (wrZ g zs).1 = 0
  case neg =>
    obtain ⟨t, u, rfl⟩ := LineMath.ckv_ne hv hz
    clear hv h3 hI3 hJ3 hz
    go_wp2
    go_ret
    exact ⟨rfl, hlow⟩
  obtain rfl := LineMath.ckv_nil hv hz
  obtain ⟨hc, hl, hal, htl, hwt⟩ := wr_zero hz
  clear hv hwt htl hz
  by_cases hbig : (2000 : Int) < (zs.length : Int)
  case pos =>
    clear h3 hI3 hJ3
    go_wp2
    go_ret
    exact ⟨rfl, hlow⟩
  have hgood := good_of hc
  have HAL : Hid (∀ z ∈ zs, tokB g z = true) := hal
  have HC : Hid ((checkG g).1 = 0) := hc
  have hlen : zs.length ≤ 2000 := by omega
  have hlt0 : w.heap.size < w3.heap.size := by
    have h1 := h3.box.1
    unfold World.cell? at h1
    cases hh : w3.heap[w.heap.size]? with
    | none => rw [hh] at h1; cases h1
    | some o => exact (Array.getElem?_eq_some_iff.1 hh).1
  obtain ⟨q0, q1, q2, q3⟩ := id h3.box
  have hTr := h3.lend.ts
  clear hal hc
  go_wp2
  go_loopw [9, 10] (fun t i wr => ∃ k : Nat, k ≤ zs.length ∧ i = .int .i64 k ∧ t = .string ⟨(formT g zs (fF fs) k).toArray⟩ ∧ Below w3.heap.size w3 wr) (fun _ i _ => zs.length - (intOf i).toNat)
  case atStart => exact ⟨0, by omega, rfl, rfl, Below.refl _ _⟩
  case round =>
    obtain ⟨k, hk, rfl, rfl, hB⟩ := hrel
    have hsB := hB.size
    by_cases hlt : k < zs.length
    · have hlt2 : (k : Int) < (zs.length : Int) := by omega
      obtain ⟨z, hz⟩ : ∃ z, zs[k]? = some z := ⟨zs[k], List.getElem?_eq_getElem hlt⟩
      have htk := HAL.out z (List.mem_of_getElem? hz)
      have hgd : zs.getD k 0 = z := by rw [List.getD_eq_getElem?_getD, hz]; rfl
      obtain ⟨b, off, rfl, hcz0⟩ := hI3 k z hz
      obtain ⟨n, rfl⟩ : ∃ n : Nat, z = (n : Int) := ⟨z.toNat, by unfold tokB at htk; simp at htk; omega⟩
      have hnl : n < g.ts.length := by unfold tokB at htk; simp at htk; omega
      obtain ⟨x, hx⟩ : ∃ x, g.ts[n]? = some x := ⟨g.ts[n], List.getElem?_eq_getElem hnl⟩
      obtain ⟨tb, tof, rfl, hct0⟩ := hTr n x hx
      have hxn : nameOf g (n : Int) = x := by
        obtain ⟨y, h1, h2⟩ := name_get htk
        rw [Int.toNat_natCast, hx] at h1
        cases h1
        exact h2
      have hxs : x.size ≤ 32 := by have := name_small hgood (n : Int); rwa [hxn] at this
      have hT1 := form_len hgood zs (fF fs) k
      have HN : Hid (formT g zs (fF fs) (k + 1) = formT g zs (fF fs) k ++ (WordsMath.wordL x.data.toList (decide (formN fs k % 2 = 1)) ++ sepL (formN fs k / 2))) := by
        show formT g zs (fF fs) k ++ (WordsMath.wordL (nameOf g (zs.getD k 0)).data.toList (decide (formN fs k % 2 = 1)) ++ sepL (formN fs k / 2)) = _
        rw [hgd, hxn]
      have HS : Hid (∀ W, Below w3.heap.size w3 W → (W.cell? ⟨w.heap.size, 0, none⟩ = some (.slice (some ⟨tb, tof, none⟩) g.ts.length tc) ∧ W.cell? ⟨b, off + k, none⟩ = some (.int .i64 (n : Int)) ∧ W.cell? ⟨tb, tof + n, none⟩ = some (.string x))) := fun W h => ⟨(h.cell (p := ⟨w.heap.size, 0, none⟩) hlt0).trans q0, (h.cell (cell_lt hcz0)).trans hcz0, (h.cell (cell_lt hct0)).trans hct0⟩
      have HW : Hid (∀ (q : Bool) (b0 : Nat) (W : World), W.cell? ⟨b0, 0, none⟩ = some (.string x) → W.cell? ⟨b0, 1, none⟩ = some (.bool q) → W.cell? ⟨b0, 2, none⟩ = some (.int .i64 0) → _) := fun q b0 W => word_one x q b0 W (by omega)
      have hwl : ∀ q, (WordsMath.wordL x.data.toList q).length ≤ 130 := fun q => by
        have := WordsBytes.wordL_len x.data.toList q
        have e : x.data.toList.length = x.size := Array.length_toList
        omega
      have hm8 := formN_lt fs k
      obtain ⟨c0, cz, ct⟩ := HS.out wr hB
      clear hxn hgd htk
      by_cases hfl : fs.length = 0
      · have hf0 : formN fs k = 0 := by unfold formN; rw [if_pos hfl]
        have hfl2 : ¬ (0 : Int) < (fs.length : Int) := by omega
        have HN : Hid (formT g zs (fF fs) (k + 1) = formT g zs (fF fs) k ++ (WordsMath.wordL x.data.toList false ++ [32])) := by
          have h := HN.out
          rw [hf0] at h
          exact h
        generalize formT g zs (fF fs) k = T at *
        clear hf0 hm8 hfl
        go_wp2
        refine wp_region_noPanic ?_
        refine wp_region_held_drew (S := (fun w' => w'.cell? ⟨w.heap.size, 0, none⟩ = some (.slice (some ⟨tb, tof, none⟩) g.ts.length tc) ∧ w'.cell? ⟨b, off + k, none⟩ = some (.int .i64 (n : Int)) ∧ w'.cell? ⟨tb, tof + n, none⟩ = some (.string x))) (by kernel_rfl) ⟨c0, cz, ct⟩ (fun hHeld => ?_)
        refine wpAnyH_take (i := 0) (v := .pointer (some ⟨w.heap.size, 0, none⟩)) rfl (by kernel_rfl) (by kernel_rfl) (by kernel_rfl) (fun _ _ _ h => h) (Or.inl ⟨by rfl, fun w9 hSw => ?_⟩) hHeld ?_
        · obtain ⟨s0, s1, s2⟩ := hSw
          go_simp
        simp only [List.getElem_toArray, List.getElem_cons_zero, List.getElem_cons_succ, Act.put, List.setIfInBounds_toArray, List.set_cons_zero, List.set_cons_succ]
        refine wpAnyH_take (i := 1) (v := .slice (some ⟨tb, tof, none⟩) g.ts.length tc) rfl (by kernel_rfl) (by kernel_rfl) (by kernel_rfl) (fun _ _ _ h => h) (Or.inl ⟨by rfl, fun w9 hSw => ?_⟩) hHeld ?_
        · obtain ⟨s0, s1, s2⟩ := hSw
          go_simp
        simp only [List.getElem_toArray, List.getElem_cons_zero, List.getElem_cons_succ, Act.put, List.setIfInBounds_toArray, List.set_cons_zero, List.set_cons_succ]
        refine wpAnyH_take (i := 2) (v := .slice (some ⟨b, off, none⟩) zs.length xc) rfl (by kernel_rfl) (by kernel_rfl) (by kernel_rfl) (fun _ _ _ h => h) (Or.inl ⟨by rfl, fun w9 hSw => ?_⟩) hHeld ?_
        · obtain ⟨s0, s1, s2⟩ := hSw
          go_simp
        simp only [List.getElem_toArray, List.getElem_cons_zero, List.getElem_cons_succ, Act.put, List.setIfInBounds_toArray, List.set_cons_zero, List.set_cons_succ]
        refine wpAnyH_take (i := 3) (v := .int .i64 (k : Int)) rfl (by kernel_rfl) (by kernel_rfl) (by kernel_rfl) (fun _ _ _ h => h) (Or.inl ⟨by rfl, fun w9 hSw => ?_⟩) hHeld ?_
        · obtain ⟨s0, s1, s2⟩ := hSw
          go_simp
        simp only [List.getElem_toArray, List.getElem_cons_zero, List.getElem_cons_succ, Act.put, List.setIfInBounds_toArray, List.set_cons_zero, List.set_cons_succ]
        refine wpAnyH_take (i := 4) (v := .pointer (some ⟨b, off + k, none⟩)) rfl (by kernel_rfl) (by kernel_rfl) (by kernel_rfl) (fun _ _ _ h => h) (Or.inl ⟨by rfl, fun w9 hSw => ?_⟩) hHeld ?_
        · obtain ⟨s0, s1, s2⟩ := hSw
          go_simp
          all_goals (first | rfl | omega | (rw [and1]; done) | (simp; done) | (simp; omega))
        simp only [List.getElem_toArray, List.getElem_cons_zero, List.getElem_cons_succ, Act.put, List.setIfInBounds_toArray, List.set_cons_zero, List.set_cons_succ]
        refine wpAnyH_take (i := 5) (v := .int .i64 (n : Int)) rfl (by kernel_rfl) (by kernel_rfl) (by kernel_rfl) (fun _ _ _ h => h) (Or.inl ⟨by rfl, fun w9 hSw => ?_⟩) hHeld ?_
        · obtain ⟨s0, s1, s2⟩ := hSw
          go_simp
        simp only [List.getElem_toArray, List.getElem_cons_zero, List.getElem_cons_succ, Act.put, List.setIfInBounds_toArray, List.set_cons_zero, List.set_cons_succ]
        refine wpAnyH_take (i := 6) (v := .pointer (some ⟨tb, tof + n, none⟩)) rfl (by kernel_rfl) (by kernel_rfl) (by kernel_rfl) (fun _ _ _ h => h) (Or.inl ⟨by rfl, fun w9 hSw => ?_⟩) hHeld ?_
        · obtain ⟨s0, s1, s2⟩ := hSw
          go_simp
          all_goals (first | rfl | omega | (rw [and1]; done) | (simp; done) | (simp; omega))
        simp only [List.getElem_toArray, List.getElem_cons_zero, List.getElem_cons_succ, Act.put, List.setIfInBounds_toArray, List.set_cons_zero, List.set_cons_succ]
        refine wpAnyH_take (i := 7) (v := .string x) rfl (by kernel_rfl) (by kernel_rfl) (by kernel_rfl) (fun _ _ _ h => h) (Or.inl ⟨by rfl, fun w9 hSw => ?_⟩) hHeld ?_
        · obtain ⟨s0, s1, s2⟩ := hSw
          go_simp
        simp only [List.getElem_toArray, List.getElem_cons_zero, List.getElem_cons_succ, Act.put, List.setIfInBounds_toArray, List.set_cons_zero, List.set_cons_succ]
        refine wpAnyH_take (i := 8) (v := .int .i64 0) rfl (by kernel_rfl) (by kernel_rfl) (by kernel_rfl) (fun _ _ _ h => h) (Or.inl ⟨by rfl, fun w9 hSw => ?_⟩) hHeld ?_
        · obtain ⟨s0, s1, s2⟩ := hSw
          go_simp
        simp only [List.getElem_toArray, List.getElem_cons_zero, List.getElem_cons_succ, Act.put, List.setIfInBounds_toArray, List.set_cons_zero, List.set_cons_succ]
        refine wpAnyH_take (i := 9) (v := .int .i64 0) rfl (by kernel_rfl) (by kernel_rfl) (by kernel_rfl) (fun _ _ _ h => h) (Or.inl ⟨by rfl, fun w9 hSw => ?_⟩) hHeld ?_
        · obtain ⟨s0, s1, s2⟩ := hSw
          go_simp
          all_goals (first | rfl | omega | (rw [and1]; done) | (simp; done) | (simp; omega))
        simp only [List.getElem_toArray, List.getElem_cons_zero, List.getElem_cons_succ, Act.put, List.setIfInBounds_toArray, List.set_cons_zero, List.set_cons_succ]
        refine wpAnyH_take (i := 10) (v := .bool false) rfl (by kernel_rfl) (by kernel_rfl) (by kernel_rfl) (fun _ _ _ h => h) (Or.inl ⟨by rfl, fun w9 hSw => ?_⟩) hHeld ?_
        · obtain ⟨s0, s1, s2⟩ := hSw
          go_simp
          all_goals (first | rfl | omega | (rw [and1]; done) | (simp; done) | (simp; omega))
        simp only [List.getElem_toArray, List.getElem_cons_zero, List.getElem_cons_succ, Act.put, List.setIfInBounds_toArray, List.set_cons_zero, List.set_cons_succ]
        refine wpAnyH_take (i := 11) (v := .agg #[.string x, .bool false, .int .i64 0]) rfl (by kernel_rfl) (by kernel_rfl) (by kernel_rfl) (fun _ _ _ h => h) (Or.inl ⟨by rfl, fun w9 hSw => ?_⟩) hHeld ?_
        · obtain ⟨s0, s1, s2⟩ := hSw
          go_simp
        simp only [List.getElem_toArray, List.getElem_cons_zero, List.getElem_cons_succ, Act.put, List.setIfInBounds_toArray, List.set_cons_zero, List.set_cons_succ]
        refine wpAnyH_ready (rs := [12]) (by kernel_rfl) (by simp) ?_
        refine AllReadyH.cons rfl (fun K hK => ?_) AllReadyH.nil
        go_simp
        refine hK.out _ _ ((HS.out _ (hB.alloc hsB _).drew)) (fun hHeld => ?_)
        clear hK K
        refine wpAnyH_ready (rs := [13]) (by kernel_rfl) (by simp) ?_
        refine AllReadyH.cons rfl (fun K hK => ?_) AllReadyH.nil
        go_simp
        refine (HW.out false _ _ (by show (World.alloc _ _).cell? _ = _; simp) (by show (World.alloc _ _).cell? _ = _; simp) (by show (World.alloc _ _).cell? _ = _; simp)).mono ?_
        rintro e w6 ⟨rfl, hb6⟩
        have hX := (hB.alloc hsB (.cells #[.string x, .bool false, .int .i64 0] 48)).drew
        have hB6 : Below w3.heap.size w3 w6 := hX.trans (hb6.mono hX.size)
        refine hK.out _ _ ((HS.out _ hB6)) (fun hHeld => ?_)
        clear hK K
        refine wpAnyH_ready (rs := [14]) (by kernel_rfl) (by simp) ?_
        refine AllReadyH.cons rfl (fun K hK => ?_) AllReadyH.nil
        go_simp
        refine hK.out _ _ ((HS.out _ hB6)) (fun hHeld => ?_)
        clear hK K
        refine wpAnyH_done (by kernel_rfl) (NoPanic.normal ?_) _
        clear HS HW hX hb6 c0 cz ct hcz0 hct0 hB hsB
        have hwd := hwl false
        generalize WordsMath.wordL x.data.toList false = wd at *
        clear hwl hx hxs hz
        have hadd1 : ∀ W : World, (Op.stringOp .add ⟨T.toArray⟩ ⟨wd.toArray⟩).run Tryd.prog W = .ok (.string ⟨(T ++ wd).toArray⟩) W := fun W => run_string_add_lists W T wd (by omega) (by omega)
        have hlw : (T ++ wd).length ≤ 2000000 := by rw [List.length_append]; omega
        have hadd2 : ∀ W : World, (Op.stringOp .add ⟨(T ++ wd).toArray⟩ ⟨([32] : List UInt8).toArray⟩).run Tryd.prog W = .ok (.string ⟨(T ++ wd ++ [32]).toArray⟩) W := fun W => run_string_add_lists W (T ++ wd) [32] (by omega) (by decide)
        go_wp2
        go_roundw
        case rel => exact ⟨k + 1, by omega, by go_num, by (rw [HN.out]; try simp), hB6⟩
        case measure => simp [intOf]; omega
      · have hf0 : formN fs k = ((fs.getD (k % fs.length) 0) % 8).toNat := by unfold formN; rw [if_neg hfl]
        have hfl2 : (0 : Int) < (fs.length : Int) := by omega
        obtain ⟨y, hy⟩ : ∃ y, fs[k % fs.length]? = some y := ⟨fs[k % fs.length]'(Nat.mod_lt _ (by omega)), List.getElem?_eq_getElem _⟩
        have hyg : fs.getD (k % fs.length) 0 = y := by rw [List.getD_eq_getElem?_getD, hy]; rfl
        obtain ⟨fb, fo, rfl, hcy0⟩ := hJ3 _ y hy
        have cy := (hB.cell (cell_lt hcy0)).trans hcy0
        rw [hyg] at hf0
        have hmd : ((k % fs.length : Nat) : Int) = (k : Int) % (fs.length : Int) := by omega
        have ha7 : bits .and .i64 y 7 = (formN fs k : Int) := by rw [and7, hf0]; omega
        generalize formN fs k = m at *
        have hjl : k % fs.length < fs.length := Nat.mod_lt _ (by omega)
        have hj0 : 0 ≤ (k : Int) % (fs.length : Int) := by omega
        have hj1 : (k : Int) % (fs.length : Int) < (fs.length : Int) := by omega
        generalize formT g zs (fF fs) k = T at *
        clear hmd hyg hy hf0
        have ha1 : bits .and .i64 (m : Int) 1 = ((m % 2 : Nat) : Int) := by rw [and1]; omega
        have hq : decide (((m % 2 : Nat) : Int) = 1) = decide (m % 2 = 1) := by
          by_cases h : m % 2 = 1
          · rw [h]; rfl
          · rw [decide_eq_false h, decide_eq_false (by omega)]
        go_wp2
        refine wp_region_noPanic ?_
        refine wp_region_held_drew (S := (fun w' => w'.cell? ⟨w.heap.size, 0, none⟩ = some (.slice (some ⟨tb, tof, none⟩) g.ts.length tc) ∧ w'.cell? ⟨b, off + k, none⟩ = some (.int .i64 (n : Int)) ∧ w'.cell? ⟨tb, tof + n, none⟩ = some (.string x))) (by kernel_rfl) ⟨c0, cz, ct⟩ (fun hHeld => ?_)
        refine wpAnyH_take (i := 0) (v := .pointer (some ⟨w.heap.size, 0, none⟩)) rfl (by kernel_rfl) (by kernel_rfl) (by kernel_rfl) (fun _ _ _ h => h) (Or.inl ⟨by rfl, fun w9 hSw => ?_⟩) hHeld ?_
        · obtain ⟨s0, s1, s2⟩ := hSw
          go_simp
        simp only [List.getElem_toArray, List.getElem_cons_zero, List.getElem_cons_succ, Act.put, List.setIfInBounds_toArray, List.set_cons_zero, List.set_cons_succ]
        refine wpAnyH_take (i := 1) (v := .slice (some ⟨tb, tof, none⟩) g.ts.length tc) rfl (by kernel_rfl) (by kernel_rfl) (by kernel_rfl) (fun _ _ _ h => h) (Or.inl ⟨by rfl, fun w9 hSw => ?_⟩) hHeld ?_
        · obtain ⟨s0, s1, s2⟩ := hSw
          go_simp
        simp only [List.getElem_toArray, List.getElem_cons_zero, List.getElem_cons_succ, Act.put, List.setIfInBounds_toArray, List.set_cons_zero, List.set_cons_succ]
        refine wpAnyH_take (i := 2) (v := .slice (some ⟨b, off, none⟩) zs.length xc) rfl (by kernel_rfl) (by kernel_rfl) (by kernel_rfl) (fun _ _ _ h => h) (Or.inl ⟨by rfl, fun w9 hSw => ?_⟩) hHeld ?_
        · obtain ⟨s0, s1, s2⟩ := hSw
          go_simp
        simp only [List.getElem_toArray, List.getElem_cons_zero, List.getElem_cons_succ, Act.put, List.setIfInBounds_toArray, List.set_cons_zero, List.set_cons_succ]
        refine wpAnyH_take (i := 3) (v := .int .i64 (k : Int)) rfl (by kernel_rfl) (by kernel_rfl) (by kernel_rfl) (fun _ _ _ h => h) (Or.inl ⟨by rfl, fun w9 hSw => ?_⟩) hHeld ?_
        · obtain ⟨s0, s1, s2⟩ := hSw
          go_simp
        simp only [List.getElem_toArray, List.getElem_cons_zero, List.getElem_cons_succ, Act.put, List.setIfInBounds_toArray, List.set_cons_zero, List.set_cons_succ]
        refine wpAnyH_take (i := 4) (v := .pointer (some ⟨b, off + k, none⟩)) rfl (by kernel_rfl) (by kernel_rfl) (by kernel_rfl) (fun _ _ _ h => h) (Or.inl ⟨by rfl, fun w9 hSw => ?_⟩) hHeld ?_
        · obtain ⟨s0, s1, s2⟩ := hSw
          go_simp
          all_goals (first | rfl | omega | exact ha1 | exact hq | (rw [ha1]; done) | (simp; done) | (simp; omega))
        simp only [List.getElem_toArray, List.getElem_cons_zero, List.getElem_cons_succ, Act.put, List.setIfInBounds_toArray, List.set_cons_zero, List.set_cons_succ]
        refine wpAnyH_take (i := 5) (v := .int .i64 (n : Int)) rfl (by kernel_rfl) (by kernel_rfl) (by kernel_rfl) (fun _ _ _ h => h) (Or.inl ⟨by rfl, fun w9 hSw => ?_⟩) hHeld ?_
        · obtain ⟨s0, s1, s2⟩ := hSw
          go_simp
        simp only [List.getElem_toArray, List.getElem_cons_zero, List.getElem_cons_succ, Act.put, List.setIfInBounds_toArray, List.set_cons_zero, List.set_cons_succ]
        refine wpAnyH_take (i := 6) (v := .pointer (some ⟨tb, tof + n, none⟩)) rfl (by kernel_rfl) (by kernel_rfl) (by kernel_rfl) (fun _ _ _ h => h) (Or.inl ⟨by rfl, fun w9 hSw => ?_⟩) hHeld ?_
        · obtain ⟨s0, s1, s2⟩ := hSw
          go_simp
          all_goals (first | rfl | omega | exact ha1 | exact hq | (rw [ha1]; done) | (simp; done) | (simp; omega))
        simp only [List.getElem_toArray, List.getElem_cons_zero, List.getElem_cons_succ, Act.put, List.setIfInBounds_toArray, List.set_cons_zero, List.set_cons_succ]
        refine wpAnyH_take (i := 7) (v := .string x) rfl (by kernel_rfl) (by kernel_rfl) (by kernel_rfl) (fun _ _ _ h => h) (Or.inl ⟨by rfl, fun w9 hSw => ?_⟩) hHeld ?_
        · obtain ⟨s0, s1, s2⟩ := hSw
          go_simp
        simp only [List.getElem_toArray, List.getElem_cons_zero, List.getElem_cons_succ, Act.put, List.setIfInBounds_toArray, List.set_cons_zero, List.set_cons_succ]
        refine wpAnyH_take (i := 8) (v := .int .i64 (m : Int)) rfl (by kernel_rfl) (by kernel_rfl) (by kernel_rfl) (fun _ _ _ h => h) (Or.inl ⟨by rfl, fun w9 hSw => ?_⟩) hHeld ?_
        · obtain ⟨s0, s1, s2⟩ := hSw
          go_simp
        simp only [List.getElem_toArray, List.getElem_cons_zero, List.getElem_cons_succ, Act.put, List.setIfInBounds_toArray, List.set_cons_zero, List.set_cons_succ]
        refine wpAnyH_take (i := 9) (v := .int .i64 ((m % 2 : Nat) : Int)) rfl (by kernel_rfl) (by kernel_rfl) (by kernel_rfl) (fun _ _ _ h => h) (Or.inl ⟨by rfl, fun w9 hSw => ?_⟩) hHeld ?_
        · obtain ⟨s0, s1, s2⟩ := hSw
          go_simp
          all_goals (first | rfl | omega | exact ha1 | exact hq | (rw [ha1]; done) | (simp; done) | (simp; omega))
        simp only [List.getElem_toArray, List.getElem_cons_zero, List.getElem_cons_succ, Act.put, List.setIfInBounds_toArray, List.set_cons_zero, List.set_cons_succ]
        refine wpAnyH_take (i := 10) (v := .bool (decide (m % 2 = 1))) rfl (by kernel_rfl) (by kernel_rfl) (by kernel_rfl) (fun _ _ _ h => h) (Or.inl ⟨by rfl, fun w9 hSw => ?_⟩) hHeld ?_
        · obtain ⟨s0, s1, s2⟩ := hSw
          go_simp
          all_goals (first | rfl | omega | exact ha1 | exact hq | (rw [ha1]; done) | (simp; done) | (simp; omega))
        simp only [List.getElem_toArray, List.getElem_cons_zero, List.getElem_cons_succ, Act.put, List.setIfInBounds_toArray, List.set_cons_zero, List.set_cons_succ]
        refine wpAnyH_take (i := 11) (v := .agg #[.string x, .bool (decide (m % 2 = 1)), .int .i64 0]) rfl (by kernel_rfl) (by kernel_rfl) (by kernel_rfl) (fun _ _ _ h => h) (Or.inl ⟨by rfl, fun w9 hSw => ?_⟩) hHeld ?_
        · obtain ⟨s0, s1, s2⟩ := hSw
          go_simp
        simp only [List.getElem_toArray, List.getElem_cons_zero, List.getElem_cons_succ, Act.put, List.setIfInBounds_toArray, List.set_cons_zero, List.set_cons_succ]
        refine wpAnyH_ready (rs := [12]) (by kernel_rfl) (by simp) ?_
        refine AllReadyH.cons rfl (fun K hK => ?_) AllReadyH.nil
        go_simp
        refine hK.out _ _ ((HS.out _ (hB.alloc hsB _).drew)) (fun hHeld => ?_)
        clear hK K
        refine wpAnyH_ready (rs := [13]) (by kernel_rfl) (by simp) ?_
        refine AllReadyH.cons rfl (fun K hK => ?_) AllReadyH.nil
        go_simp
        refine (HW.out (decide (m % 2 = 1)) _ _ (by show (World.alloc _ _).cell? _ = _; simp) (by show (World.alloc _ _).cell? _ = _; simp) (by show (World.alloc _ _).cell? _ = _; simp)).mono ?_
        rintro e w6 ⟨rfl, hb6⟩
        have hX := (hB.alloc hsB (.cells #[.string x, .bool (decide (m % 2 = 1)), .int .i64 0] 48)).drew
        have hB6 : Below w3.heap.size w3 w6 := hX.trans (hb6.mono hX.size)
        refine hK.out _ _ ((HS.out _ hB6)) (fun hHeld => ?_)
        clear hK K
        refine wpAnyH_ready (rs := [14]) (by kernel_rfl) (by simp) ?_
        refine AllReadyH.cons rfl (fun K hK => ?_) AllReadyH.nil
        go_simp
        refine hK.out _ _ ((HS.out _ hB6)) (fun hHeld => ?_)
        clear hK K
        refine wpAnyH_done (by kernel_rfl) (NoPanic.normal ?_) _
        clear HS HW hX hb6 c0 cz ct hcz0 hct0 hB hsB
        have hwd := hwl (decide (m % 2 = 1))
        generalize WordsMath.wordL x.data.toList (decide (m % 2 = 1)) = wd at *
        clear hwl hx hxs hz
        have hadd1 : ∀ W : World, (Op.stringOp .add ⟨T.toArray⟩ ⟨wd.toArray⟩).run Tryd.prog W = .ok (.string ⟨(T ++ wd).toArray⟩) W := fun W => run_string_add_lists W T wd (by omega) (by omega)
        have hlw : (T ++ wd).length ≤ 2000000 := by rw [List.length_append]; omega
        have hc4 : m / 2 = 0 ∨ m / 2 = 1 ∨ m / 2 = 2 ∨ m / 2 = 3 := by omega
        rcases hc4 with hc | hc | hc | hc
        · have hci : (m : Int) / 2 = 0 := by omega
          have hadd2 : ∀ W : World, (Op.stringOp .add ⟨(T ++ wd).toArray⟩ ⟨([32] : List UInt8).toArray⟩).run Tryd.prog W = .ok (.string ⟨(T ++ wd ++ [32]).toArray⟩) W := fun W => run_string_add_lists W (T ++ wd) [32] (by omega) (by decide)
          go_wp2
          go_roundw
          case rel => exact ⟨k + 1, by omega, by go_num, by (rw [HN.out, hc, show sepL 0 = [32] from rfl]; try simp), hB6⟩
          case measure => simp [intOf]; omega
        · have hci : (m : Int) / 2 = 1 := by omega
          have hadd2 : ∀ W : World, (Op.stringOp .add ⟨(T ++ wd).toArray⟩ ⟨([10] : List UInt8).toArray⟩).run Tryd.prog W = .ok (.string ⟨(T ++ wd ++ [10]).toArray⟩) W := fun W => run_string_add_lists W (T ++ wd) [10] (by omega) (by decide)
          go_wp2
          go_roundw
          case rel => exact ⟨k + 1, by omega, by go_num, by (rw [HN.out, hc, show sepL 1 = [10] from rfl]; try simp), hB6⟩
          case measure => simp [intOf]; omega
        · have hci : (m : Int) / 2 = 2 := by omega
          have hadd2 : ∀ W : World, (Op.stringOp .add ⟨(T ++ wd).toArray⟩ ⟨([32, 35, 32, 97, 32, 99, 111, 109, 109, 101, 110, 116, 32, 34, 10, 10] : List UInt8).toArray⟩).run Tryd.prog W = .ok (.string ⟨(T ++ wd ++ [32, 35, 32, 97, 32, 99, 111, 109, 109, 101, 110, 116, 32, 34, 10, 10]).toArray⟩) W := fun W => run_string_add_lists W (T ++ wd) [32, 35, 32, 97, 32, 99, 111, 109, 109, 101, 110, 116, 32, 34, 10, 10] (by omega) (by decide)
          go_wp2
          go_roundw
          case rel => exact ⟨k + 1, by omega, by go_num, by (rw [HN.out, hc, show sepL 2 = [32, 35, 32, 97, 32, 99, 111, 109, 109, 101, 110, 116, 32, 34, 10, 10] from rfl]; try simp), hB6⟩
          case measure => simp [intOf]; omega
        · have hci : (m : Int) / 2 = 3 := by omega
          have hadd2 : ∀ W : World, (Op.stringOp .add ⟨(T ++ wd).toArray⟩ ⟨([9, 32, 32] : List UInt8).toArray⟩).run Tryd.prog W = .ok (.string ⟨(T ++ wd ++ [9, 32, 32]).toArray⟩) W := fun W => run_string_add_lists W (T ++ wd) [9, 32, 32] (by omega) (by decide)
          go_wp2
          go_roundw
          case rel => exact ⟨k + 1, by omega, by go_num, by (rw [HN.out, hc, show sepL 3 = [9, 32, 32] from rfl]; try simp), hB6⟩
          case measure => simp [intOf]; omega
    · obtain rfl : k = zs.length := by omega
      have hlt2 : ¬ (zs.length : Int) < (zs.length : Int) := by omega
      have hTl := form_len hgood zs (fF fs) zs.length
      obtain ⟨ps, hfz⟩ := forms HC.out hl HAL.out (fF fs) (by omega)
      have ht := h3.below hB
      have hIt := hI3.below hB (Nat.le_refl _)
      have hlowt := ht.low
      obtain ⟨q0, q1, q2, q3⟩ := id ht.box
      have hlt := FIN.out wr ht
      generalize formT g zs (fF fs) zs.length = T at *
      clear hB hTr h3 hI3 hJ3
      go_wp2_with fail
      refine hlt.mono ?_
      rintro e W1 ⟨⟨k1, j1, k2, j2, k3, j3, lr, rfl, hlgA⟩, hb⟩
      have hA := ht.below hb
      have hI4 := hIt.below hb (Nat.le_refl _)
      have hrd := lent_read hA ho ⟨T.toArray⟩ hlgA
      rw [show (⟨T.toArray⟩ : ByteArray).data.toList = T from List.toList_toArray, hfz] at hrd
      clear hlt hb ht hIt q0 q1 q2 q3 hlgA
      go_wp2_with fail
      refine hrd.mono ?_
      rintro e w5 ⟨⟨tv, pv, v5, rfl, hR⟩, hb⟩
      have hlow5 := (hA.below hb).low
      have hI5 := hI4.below hb (Nat.le_refl _)
      obtain ⟨rfl, hTw, _, _⟩ := hR
      obtain ⟨a1, d1, rfl, r1⟩ := own_irow hTw.tok
      have hi := GramSame.ints_any a1 xa d1 xc zs zs w5 r1 hI5 (by omega) (by omega)
      rw [eqI_me] at hi
      clear hrd hb hA hI4 hTw r1
      go_wp2_with fail
      refine hi.mono ?_
      rintro e w6 ⟨rfl, q, rfl⟩
      go_wp2
      go_ret
      exact ⟨rfl, bdrew hlow5 q⟩

end Go.Proofs.YtbnajikkogdelaaDoor.LineFormsW
