/-
  Texts that stand together: PrecFn5.
-/
import Derived.Test.YtcoepmpgclndiaaGreatDoorBPrecFn4
import Derived.Test.YtcoepmpgclndiaaGreatDoorBGraphLent
namespace Go.Proofs.YtcoepmpgclndiaaGreatDoor.PrecFn
open Go.RowKit Go.Sort Go.Proofs.YtcoepmpgclndiaaGreatDoor.GraphFn Go.Proofs.YtcoepmpgclndiaaGreatDoor.GraphSort Go.Proofs.YtcoepmpgclndiaaGreatDoor.GramMath Go.Proofs.YtcoepmpgclndiaaGreatDoor.GramRow Go.Proofs.YtcoepmpgclndiaaGreatDoor.GramApart Go.Proofs.YtcoepmpgclndiaaGreatDoor.GraphMath Go.Proofs.YtcoepmpgclndiaaGreatDoor.GraphNet Go.Proofs.YtcoepmpgclndiaaGreatDoor.OpRow Go.Proofs.YtcoepmpgclndiaaGreatDoor.GramErrs Go.Proofs.YtcoepmpgclndiaaGreatDoor.MatrixClash Go.Proofs.YtcoepmpgclndiaaGreatDoor.GraphLent Go.Proofs.YtcoepmpgclndiaaGreatDoor.GramLent
set_option linter.unusedVariables false
set_option linter.unusedSimpArgs false

/-- Edges in new memory. -/
def EOwn (w : World) (B : Nat) (ev : Value) (es : List (Int × Int)) : Prop := w.ownsRow B 39 2 ev es.length (flatE es)
theorem EOwn.nil (w : World) (B : Nat) : EOwn w B (.slice none 0 0) [] := World.ownsRow_nil ..
theorem EOwn.snoc {w : World} {B : Nat} {v : Value} {es : List (Int × Int)} {x y : Int} (h : w.ownsRow B 39 2 v (es.length + 1) (flatE es ++ [.int .i64 x, .int .i64 y])) : EOwn w B v (es ++ [(x, y)]) := by
  unfold EOwn
  rw [flatE_append, List.length_append]
  exact h

set_option maxRecDepth 100000 in
set_option maxHeartbeats 8000000 in
theorem edgesOf_any (po : Option Addr) (t : Nat) (S : Nat → Nat → Int) (ca : Option Addr) (cc : Nat) (w : World) (hm : MatV w po t S) (ht : t ≤ 60) (hC : IRow w ca (ints (classL (rQ t S) t))) :
    Calls Tryz.prog 24 #[.pointer po, .slice ca (2 * t) cc] w fun e w' => ∃ ev, e = .returned ev ∧ EOwn w' w.heap.size ev (edgeL (rY t S) (rQ t S) (rK t S) t) ∧ Below w.heap.size w w' := by
  have h0 := nodesBy_any ca cc (2 * t) (leastF (rQ t S) t) w hC (by omega)
  have HM : Hid (MatV w po t S) := hm
  obtain ⟨i0, hi, hz0, hz1, hz2⟩ := info_parts infoE
  clear hm hC
  go_enter Tryz.func24, Tryz.ntmps24
  go_wp2_with fail
  refine h0.mono ?_
  rintro e w1 ⟨pv, Vs, rfl, hP, hb1⟩
  obtain ⟨pa, pc, rfl, hcells⟩ := own_formP hP.outer
  have hpl := partK_len (leastF (rQ t S) t) (2 * t) (2 * t)
  have hcn : cntC (rQ t S) t ≤ 2 * t := cntC_le _ _
  have HPG : Hid (∀ j, j < cntC (rQ t S) t → (partK (leastF (rQ t S) t) (2 * t) (2 * t))[j]? = some (nodesK (classL (rQ t S) t) (2 * t) j)) := fun j hj => partK_get hj
  rw [hpl] at hP ⊢
  have ecn : cntK (leastF (rQ t S) t) (2 * t) = cntC (rQ t S) t := rfl
  rw [ecn]
  have HRW : Hid (∀ j, j < cntC (rQ t S) t → ∃ ra rc, (∀ w9, Below w1.heap.size w1 w9 → ∃ g, pa = some ⟨g, 0, none⟩ ∧ w9.cell? ⟨g, j, none⟩ = some (.slice ra (nodesK (classL (rQ t S) t) (2 * t) j).length rc)) ∧ ∀ w9, Below w1.heap.size w1 w9 → IRow w9 ra (ints (nodesK (classL (rQ t S) t) (2 * t) j))) := fun j hj => by
    obtain ⟨v, hv, hrow⟩ := hP.row j _ (HPG.out j hj)
    obtain ⟨g, hg, hc⟩ := hcells j v hv
    rw [← ints_length] at hrow
    obtain ⟨ra, rc, rfl, hir⟩ := own_form hrow
    rw [ints_length] at hc
    exact ⟨ra, rc, fun w9 h9 => ⟨g, hg, (h9.cell (cell_lt hc)).trans hc⟩, fun w9 h9 => IRow.below hir h9 (Nat.le_refl _)⟩
  have HMM : Hid (∀ w9, Below w1.heap.size w1 w9 → MatV w9 po t S) := fun w9 h9 => (HM.out.below hb1 (Nat.le_refl _)).below h9 (Nat.le_refl _)
  have HB1 : Hid (Below w.heap.size w w1) := hb1
  have hlen : ∀ j, (nodesK (classL (rQ t S) t) (2 * t) j).length ≤ 120 := fun j => by
    unfold nodesK
    have := List.length_filter_le (fun x => (classL (rQ t S) t).getD x 0 == j) (List.range (2 * t))
    simp at this
    simp
    omega
  have HLEN : Hid (∀ j, (nodesK (classL (rQ t S) t) (2 * t) j).length ≤ 120) := hlen
  have HLT : Hid (∀ j x, x ∈ nodesK (classL (rQ t S) t) (2 * t) j → x ≤ 1000) := fun j x hx => by have := (mem_nodesK.1 hx).1; omega
  have HE : Hid (edgeL (rY t S) (rQ t S) (rK t S) t = edgeA (edgeB (rY t S) (rK t S) t (classL (rQ t S) t)) (cntC (rQ t S) t) (cntC (rQ t S) t)) := rfl
  have HBD : Hid (∀ i j, edgeB (rY t S) (rK t S) t (classL (rQ t S) t) i j = (nodesK (classL (rQ t S) t) (2 * t) i).any (fun x => (nodesK (classL (rQ t S) t) (2 * t) j).any (fun z => aboveB (rY t S) (rK t S) t x z))) := fun i j => rfl
  clear h0 hP hcells hpl ecn hb1 hlen HPG HM
  generalize edgeB (rY t S) (rK t S) t (classL (rQ t S) t) = EB at *
  generalize nodesK (classL (rQ t S) t) (2 * t) = ND at *
  generalize cntC (rQ t S) t = c at *
  have HA0 : Hid (EOwn w1 w1.heap.size (.slice none 0 0) (edgeA EB c 0) ∧ Below w1.heap.size w1 w1) := ⟨EOwn.nil _ _, Below.refl _ _⟩
  go_wp2
  go_loopw [7, 19] (fun s7 s19 wr => ∃ (i : Nat) (ev : Value), s7 = ev ∧ i ≤ c ∧ s19 = .int .i64 (i : Int) ∧ Hid (EOwn wr w1.heap.size ev (edgeA EB c i) ∧ Below w1.heap.size w1 wr)) (fun _ s19 _ => c - (intOf s19).toNat)
  case atStart => exact ⟨0, _, rfl, by omega, rfl, HA0⟩
  case round =>
    clear HA0
    obtain ⟨i, ev, hev, hic, rfl, hI⟩ := hrel
    obtain rfl := hev.symm
    by_cases hli : i < c
    · have hli2 : (i : Int) < (c : Int) := by omega
      have HJ0 : Hid (EOwn wr w1.heap.size ev (edgeA EB c i ++ edgeR EB i 0) ∧ Below w1.heap.size w1 wr) := by rw [edgeR_zero, List.append_nil]; exact hI.out
      clear hI
      obtain ⟨ra, rc, hRi, hRii⟩ := HRW.out i hli
      have HRi : Hid (∀ w9, Below w1.heap.size w1 w9 → ∃ g, pa = some ⟨g, 0, none⟩ ∧ w9.cell? ⟨g, i, none⟩ = some (.slice ra (ND i).length rc)) := hRi
      have HRii : Hid (∀ w9, Below w1.heap.size w1 w9 → IRow w9 ra (ints (ND i))) := hRii
      clear hRi hRii
      go_wp2
      go_step3
      go_wp2
      go_step3
      go_wp2
      go_loopw [7, 23] (fun s7 s23 wr => ∃ (j : Nat) (ev : Value), s7 = ev ∧ j ≤ c ∧ s23 = .int .i64 (j : Int) ∧ Hid (EOwn wr w1.heap.size ev (edgeA EB c i ++ edgeR EB i j) ∧ Below w1.heap.size w1 wr)) (fun _ s23 _ => c - (intOf s23).toNat)
      case atStart => exact ⟨0, _, rfl, by omega, rfl, HJ0⟩
      case round =>
        clear HJ0
        obtain ⟨j, ev, hev, hjc, rfl, hJ⟩ := hrel
        obtain rfl := hev.symm
        by_cases hlj : j < c
        · have hlj2 : (j : Int) < (c : Int) := by omega
          obtain ⟨sa, sc, hRj, hRjj⟩ := HRW.out j hlj
          obtain ⟨wx, rfl⟩ : ∃ x, x = wr := ⟨wr, rfl⟩
          obtain ⟨pg, rfl, ci⟩ := HRi.out wx hJ.out.2
          obtain ⟨pg2, epg, cj⟩ := hRj wx hJ.out.2
          cases epg
          have hIi := HRii.out wx hJ.out.2
          have hIj := hRjj wx hJ.out.2
          have hli9 := HLEN.out i
          have hlj9 := HLEN.out j
          have HIi : Hid (IRow wx ra (ints (ND i))) := hIi
          have HIj : Hid (IRow wx sa (ints (ND j))) := hIj
          have HMx := HMM.out wx hJ.out.2
          have HMX : Hid (MatV wx po t S) := HMx
          obtain ⟨LI, hLI⟩ : ∃ LI, LI = (ND i).length := ⟨_, rfl⟩
          obtain ⟨LJ, hLJ⟩ : ∃ LJ, LJ = (ND j).length := ⟨_, rfl⟩
          rw [← hLI] at ci hli9
          rw [← hLJ] at cj hlj9
          have HLI : Hid (LI = (ND i).length) := hLI
          have HLJ : Hid (LJ = (ND j).length) := hLJ
          clear hRj hRjj hIi hIj HMx hLI hLJ
          go_wp2
          go_loopw [7, 31] (fun s7 s31 wr => ∃ a : Nat, s7 = ev ∧ a ≤ LI ∧ s31 = .int .i64 (a : Int) ∧ wr = wx ∧ Hid (∀ x ∈ (ND i).take a, (ND j).any (fun z => aboveB (rY t S) (rK t S) t x z) = false)) (fun _ s31 _ => LI - (intOf s31).toNat)
          case atStart => exact ⟨0, rfl, by omega, rfl, rfl, fun x hx => by simp at hx⟩
          case round =>
            obtain ⟨a, hev2, haL, rfl, hwr, hno⟩ := hrel
            obtain rfl := hev2.symm
            obtain rfl := hwr.symm
            by_cases hla : a < LI
            · have hla2 : (a : Int) < (LI : Int) := by omega
              obtain ⟨x, hx⟩ : ∃ x, (ND i)[a]? = some x := ⟨(ND i)[a]'(by rw [← HLI.out]; exact hla), List.getElem?_eq_getElem _⟩
              have hx1000 := HLT.out i x (List.mem_of_getElem? hx)
              obtain ⟨rb, ro, rfl, cx⟩ := HIi.out a (x : Int) (by rw [ints_get, hx]; rfl)
              have Hx : Hid ((ND i)[a]? = some x) := hx
              clear hx
              go_wp2
              go_loopw [7, 40] (fun s7 s40 wr => ∃ b : Nat, s7 = ev ∧ b ≤ LJ ∧ s40 = .int .i64 (b : Int) ∧ wr = wx ∧ Hid (∀ z ∈ (ND j).take b, aboveB (rY t S) (rK t S) t x z = false)) (fun _ s40 _ => LJ - (intOf s40).toNat)
              case atStart => exact ⟨0, rfl, by omega, rfl, rfl, fun x hx => by simp at hx⟩
              case round =>
                obtain ⟨b, hev2, hbL, rfl, hwr, hno2⟩ := hrel
                obtain rfl := hev2.symm
                obtain rfl := hwr.symm
                by_cases hlb : b < LJ
                · have hlb2 : (b : Int) < (LJ : Int) := by omega
                  obtain ⟨z, hz⟩ : ∃ z, (ND j)[b]? = some z := ⟨(ND j)[b]'(by rw [← HLJ.out]; exact hlb), List.getElem?_eq_getElem _⟩
                  have hz1000 := HLT.out j z (List.mem_of_getElem? hz)
                  obtain ⟨sb, so, rfl, cz⟩ := HIj.out b (z : Int) (by rw [ints_get, hz]; rfl)
                  have hab := above_any po t S x z wx HMX.out ht hx1000 hz1000
                  cases hB : aboveB (rY t S) (rK t S) t x z with
                  | true =>
                    rw [hB] at hab
                    have hEB : EB i j = true := by
                      rw [HBD.out, List.any_eq_true]
                      exact ⟨x, List.mem_of_getElem? Hx.out, List.any_eq_true.2 ⟨z, List.mem_of_getElem? hz, hB⟩⟩
                    have hown : wx.ownsRow w1.heap.size 39 2 ev (edgeA EB c i ++ edgeR EB i j).length (flatE (edgeA EB c i ++ edgeR EB i j)) := hJ.out.1
                    have hlE : (edgeA EB c i ++ edgeR EB i j).length ≤ 20000 := by
                      rw [List.length_append]
                      have h1 := edgeA_len EB c i
                      have h2 := edgeR_len EB i j
                      have h3 : i * c ≤ 120 * 120 := Nat.mul_le_mul (by omega) (by omega)
                      omega
                    have hszx := hJ.out.2.size
                    have hF : Hid (∀ v2 w2, World.ownsRow w2 w1.heap.size 39 2 v2 ((edgeA EB c i ++ edgeR EB i j).length + 1) (flatE (edgeA EB c i ++ edgeR EB i j) ++ [.int .i64 (i : Int), .int .i64 (j : Int)]) → (wx.alloc (.cells #[.int .i64 (i : Int), .int .i64 (j : Int)] 39)).grownBy w2 ev.ownBlock → Hid (EOwn w2 w1.heap.size v2 (edgeA EB c i ++ edgeR EB i (j + 1)) ∧ Below w1.heap.size w1 w2)) := fun v2 w2 ho hg => ⟨by
                      rw [edgeR_succ, if_pos hEB, ← List.append_assoc]
                      exact EOwn.snoc ho, (hJ.out.2.alloc hszx _).grown hg (by simp; omega) (fun q hq => (hown.lt q hq).1)⟩
                    clear hB hz hJ hno hno2 hEB
                    generalize edgeA EB c i ++ edgeR EB i j = E0 at *
                    go_wp2_with fail
                    refine hab.mono ?_
                    rintro e w2 ⟨rfl, hw2⟩
                    obtain rfl := hw2.symm
                    clear hab
                    go_wp2_with (at_builtin; refine wpList_append_own _ rfl (.tmp 48) (.tmp 52) 33 rfl w1.heap.size 39 i0 (.agg #[.int .i64 0, .int .i64 0]) 2 16 Tryz.underlying33 hi hz0 hz1 hz2 rfl (by decide) _ _ _ rfl (hown.alloc _) ⟨wx.heap.size, 0, none⟩ 1 1 [.int .i64 (i : Int), .int .i64 (j : Int)] rfl rfl (cells_new wx #[.int .i64 (i : Int), .int .i64 (j : Int)] 39) (by simp [Value.oneCell']) (by unfold maxLen; omega) (by omega) (by simp; omega) ?_; intro v2 w2 hown2 hgrow2 _; have hJ2 := hF.out v2 w2 hown2 hgrow2; replace hJ2 : Hid (_) := hJ2; clear hown2 hgrow2 hF hown)
                    go_roundw
                    case rel => exact ⟨j + 1, _, by trivial, by omega, by go_num, hJ2.out⟩
                    case measure => simp [intOf]; omega
                  | false =>
                    rw [hB] at hab
                    have hno3 : Hid (∀ z ∈ (ND j).take (b + 1), aboveB (rY t S) (rK t S) t x z = false) := fun z' hz' => by
                      rw [List.take_add_one, hz] at hz'
                      rcases List.mem_append.1 hz' with h | h
                      · exact hno2.out z' h
                      · obtain rfl : z' = z := by simpa using h
                        exact hB
                    clear hB hz hno2
                    go_wp2_with fail
                    refine hab.mono ?_
                    rintro e w2 ⟨rfl, hw2⟩
                    obtain rfl := hw2.symm
                    clear hab
                    go_wp2
                    go_roundw
                    case rel => exact ⟨b + 1, by trivial, by omega, by go_num, by trivial, hno3⟩
                    case measure => simp [intOf]; omega
                · have hlb2 : ¬ (b : Int) < (LJ : Int) := by omega
                  have hno3 : Hid (∀ x ∈ (ND i).take (a + 1), (ND j).any (fun z => aboveB (rY t S) (rK t S) t x z) = false) := fun x' hx' => by
                    rw [List.take_add_one, Hx.out] at hx'
                    rcases List.mem_append.1 hx' with h | h
                    · exact hno.out x' h
                    · obtain rfl : x' = x := by simpa using h
                      rw [List.any_eq_false]
                      intro z hz
                      have := hno2.out z (by rw [List.take_of_length_le (by rw [← HLJ.out]; omega)]; exact hz)
                      rw [this]
                      exact Bool.false_ne_true
                  clear hno2 hno
                  go_wp2
                  go_roundw
                  case rel => exact ⟨a + 1, by trivial, by omega, by go_num, by trivial, hno3⟩
                  case measure => simp [intOf]; omega
            · have hla2 : ¬ (a : Int) < (LI : Int) := by omega
              have hEB : EB i j = false := by
                rw [HBD.out, List.any_eq_false]
                intro x hx
                have := hno.out x (by rw [List.take_of_length_le (by rw [← HLI.out]; omega)]; exact hx)
                rw [this]
                exact Bool.false_ne_true
              have hJ2 : Hid (EOwn wx w1.heap.size ev (edgeA EB c i ++ edgeR EB i (j + 1)) ∧ Below w1.heap.size w1 wx) := by
                rw [edgeR_succ, if_neg (by rw [hEB]; exact Bool.false_ne_true), List.append_nil]
                exact hJ.out
              clear hno hJ hEB
              go_wp2
              go_roundw
              case rel => exact ⟨j + 1, _, by trivial, by omega, by go_num, hJ2.out⟩
              case measure => simp [intOf]; omega
        · have hlj2 : ¬ (j : Int) < (c : Int) := by omega
          have hI2 : Hid (EOwn wr w1.heap.size ev (edgeA EB c (i + 1)) ∧ Below w1.heap.size w1 wr) := by rw [edgeA_succ]; have h := hJ.out; rw [show j = c by omega] at h; exact h
          clear hJ
          go_wp2
          go_roundw
          case rel => exact ⟨i + 1, _, by trivial, by omega, by go_num, hI2.out⟩
          case measure => simp [intOf]; omega
    · have hli2 : ¬ (i : Int) < (c : Int) := by omega
      have hfin : Hid (EOwn wr w.heap.size ev (edgeL (rY t S) (rQ t S) (rK t S) t) ∧ Below w.heap.size w wr) := by
        rw [HE.out]
        have h := hI.out
        rw [show i = c by omega] at h
        exact ⟨own_base h.1 HB1.out.size, HB1.out.trans (h.2.mono HB1.out.size)⟩
      clear hI
      go_wp2
      go_ret
      exact ⟨ev, rfl, hfin.out⟩

end Go.Proofs.YtcoepmpgclndiaaGreatDoor.PrecFn
