/-
  A set as a text with names that a function answers: what the program's Text comes to, and what it leaves as it lay.
-/
import Derived.Test.YtkjjdmdlkdoedaaDoorSetsNamesFn
namespace Go.Proofs.YtkjjdmdlkdoedaaDoor.SetsNames
open Go.RowKit Go.Shelf Go.Proofs.YtkjjdmdlkdoedaaDoor.SetsMath Go.Proofs.YtkjjdmdlkdoedaaDoor.SetsOne Go.Proofs.YtkjjdmdlkdoedaaDoor.SetsMany Go.Proofs.YtkjjdmdlkdoedaaDoor.SetsAlg Go.Proofs.YtkjjdmdlkdoedaaDoor.SetsEach Go.Proofs.YtkjjdmdlkdoedaaDoor.SetsApart Go.Proofs.YtkjjdmdlkdoedaaDoor.SetsRText
attribute [local go_sem] Oper.semAt_some

theorem Boxed.below' {W W' : World} {H b : Nat} {t : TypeId} {v : Value} (h : Boxed W b t v) (hb : Below H W W') (hlt : b < H) : Boxed W' b t v := (hb.block b hlt).trans h

theorem row_own {β : Type} (b : Nat) (t : TypeId) (cur : Array Value) : Own (fun (_ : β) W => RowAt W b t cur) := fun _ X Y row hs hg hrow =>
  hs.grown hg (fun e' => by obtain ⟨o, ho, hc⟩ := hrow b e'.symm; rw [show X.heap[b]? = _ from hs] at ho; cases ho; cases hc)

theorem but_own {β : Type} {b0 H B : Nat} {w : World} (hH : H ≤ w.heap.size) (hB : H ≤ B) : OwnFrom B (fun (_ : β) W => But b0 H w W) := fun _ X Y row hs hg hrow =>
  ⟨hg.os.trans hs.os, hg.tape.trans hs.tape, hg.output.trans hs.output, Nat.le_trans hs.size hg.size, fun k hk hne =>
    (hg.block k (by have := hs.size; omega) (fun e => by have := (hrow k e.symm).1; omega)).trans (hs.block k hk hne)⟩

theorem own_ne {W : World} {H H' n k : Nat} {e e' : TypeId} {u v : Value} {ys xs : List Value} (hu : W.ownsRow H e 1 u n ys) (hv : W.ownsRow H' e' 1 v k xs) (he : e ≠ e') : u.ownBlock = none ∨ u.ownBlock ≠ v.ownBlock := by
  obtain ⟨_, ⟨rfl, _⟩ | ⟨g, cap, cur, rfl, _, hg, _⟩⟩ := hu
  · exact .inl rfl
  · exact .inr ((show RowAt W g e cur from hg).not_own he hv)

/-- What the appending of a name to the list of names leaves. -/
theorem text_step {W2 w3 : World} {H bO bF bA k c : Nat} {nm : Num → ByteArray} {x : Num} {v fv av u : Value} {xs ys : List Value} (hrow : W2.ownsRow H 9 1 v k xs) (hF : Boxed W2 bF 44 fv) (hA : Boxed W2 bA 25 av) (hAr : W2.ownsRow H 3 1 av c ys)
    (hgrow : (W2.alloc (.cells #[.string (nm x)] 9)).grownBy w3 v.ownBlock) (hv3 : Boxed w3 bO 37 v) (hb : Below H W2 (w3.setCell ⟨bO, 0, none⟩ u)) (hne : bF ≠ bO) (hbA : bA < H) :
    Boxed (w3.setCell ⟨bO, 0, none⟩ u) bF 44 fv ∧ Boxed (w3.setCell ⟨bO, 0, none⟩ u) bA 25 av ∧ (w3.setCell ⟨bO, 0, none⟩ u).ownsRow H 3 1 av c ys := by
  refine ⟨((hF.alloc _).kept hgrow (hF.not_row (by decide) hrow)).other hne u, Boxed.below' hA hb hbA, ?_⟩
  have h3 : w3.ownsRow H 3 1 av c ys := (hAr.alloc _).kept hgrow (own_ne hAr hrow (by decide))
  exact ownsRow_setCell_other h3 (hv3.not_row (by decide) h3).symm u

theorem join_nm (nm : Num → ByteArray) (s : Int) (base g c : Nat) (W : World) (hn : ∀ x, (nm x).size ≤ 1048576) (hown : W.ownsRow base 9 1 (.slice (some ⟨g, 0, none⟩) (numsS s).length c) (numsS s).length ((numsS s).map (fun x => Value.string (nm x)))) :
    Calls Tryd.prog 39 #[.slice (some ⟨g, 0, none⟩) (numsS s).length c, .string ⟨#[32]⟩] W fun e w' => e = .returned (.string (joinN nm (numsS s))) ∧ Below W.heap.size W w' := by
  have hcap := own_cap hown
  have hlt := (hown.lt g rfl).2
  have hl := numsS_len s
  have hle := numsI_le s 64
  have e1 : ((numsS s).map nm).length = (numsS s).length := List.length_map _
  have e2 : ((numsS s).map nm).map (·.data.toList) = (numsS s).map (fun x => (nm x).data.toList) := by
    rw [List.map_map]; rfl
  have h := Tryd.strings_Join g 0 c ((numsS s).map nm) ⟨#[32]⟩ W (by
    intro j y hj
    rw [Nat.zero_add, hown.cellAt j (by have := (List.getElem?_eq_some_iff.1 hj).1; omega)]
    rw [List.getElem?_map] at hj ⊢
    cases hx : (numsS s)[j]? with
    | none => rw [hx] at hj; cases hj
    | some x => rw [hx] at hj; cases hj; rfl) hlt (by omega) (by omega) (by
    rw [e2]
    have h2 := outN_size nm (numsS s) 64 (by omega) hn
    rw [outN_all nm (by omega), ByteArray.size_append'] at h2
    exact Nat.le_trans (show (Lib.join ((numsS s).map (fun x => (nm x).data.toList)) [32]).length ≤ 67108929 from by
      have : (joinN nm (numsS s)).size = (Lib.join ((numsS s).map (fun x => (nm x).data.toList)) [32]).length := rfl
      omega) (by omega))
  rw [e1, e2] at h
  exact h

set_option maxRecDepth 100000 in
set_option maxHeartbeats 8000000 in
theorem text_fn (n₀ bA bL g : Nat) (cur : Array Value) (nm : Num → ByteArray) (s : Int) (w : World) (hs : IsSet s) (hT : Tab w) (hG : 0 < n₀) (hn0 : n₀ ≤ w.heap.size) (hbA : n₀ ≤ bA)
    (hA0 : Boxed w bA 25 (.slice none 0 0)) (hL0 : Boxed w bL 37 (.slice (some ⟨g, 0, none⟩) 64 64)) (hR0 : RowAt w g 9 cur) (hN : ∀ x : Num, cur[x.1.toNat]? = some (.string (nm x))) (hn : ∀ x, (nm x).size ≤ 1048576) :
    Calls Tryd.prog 23 #[.int .u64 s, .func (.func 25) #[] #[.pointer (some ⟨bA, 0, none⟩), .pointer (some ⟨bL, 0, none⟩)]] w fun e W' => e = .returned (.string (⟨#[123]⟩ ++ joinN nm (numsS s) ++ ⟨#[125]⟩)) ∧
      (∃ av, Boxed W' bA 25 av ∧ W'.ownsRow w.heap.size 3 1 av (numsS s).length ((numsS s).map (fun x => Value.int .i64 x.1))) ∧ But bA w.heap.size w W' := by
  refine (callsIn_wide (n := 4)).1 ?_
  obtain ⟨i0, hi, hz0, hz1, hz2⟩ := info_parts infoStr
  have hle := numsI_le s 64
  have hfn := fn_nil
  have hbAH := hA0.lt
  have hbLH := hL0.lt
  have hgH := hR0.lt
  refine callsIn_of_wp_marks Tryd.func23 rfl trivial ?_ rfl
  simp only [Tryd.ntmps23, List.size_toArray, List.length_cons, List.length_nil, Nat.reduceAdd, Nat.reduceSub, Array.replicate_succ, Array.replicate_zero, List.push_toArray, List.append_toArray, List.nil_append, List.cons_append]
  gi_wp2_with (first
    | (refine ⟨trivial, ?_⟩; gi_at_call 16; refine (callsIn_wide.2 (len_any _ _ hs)).mono ?_; rintro e w' ⟨rfl, hw'⟩; obtain rfl := hw'.symm)
    | (gi_at_make; refine wpListIn_make_own _ rfl _ _ 37 rfl w.heap.size 9 i0 (.string ⟨#[]⟩) 1 Tryd.underlying37 hi hz0 hz1 .i64 .i64 _ (numsI s 64).length rfl rfl rfl (by rw [hz2]; omega) (by unfold maxLen; omega) (by simp) ?_; intro w1 hown1 hgrow1)
    | (refine ⟨trivial, ?_⟩; gi_at_call 21; refine (callsIn_wide.2 (each_any _ _)).mono ?_; rintro e w' ⟨rfl, rfl⟩))
  have hB1 : Below w.heap.size w w1 := ((Below.refl _ _).alloc (Nat.le_refl _) _).grown hgrow1 (by simp) (by intro k h; cases h)
  have hs1 := hgrow1.size
  simp only [World.size_alloc] at hown1 hs1
  have bF : Boxed w1 w.heap.size 44 (.func (.func 25) #[] #[.pointer (some ⟨bA, 0, none⟩), .pointer (some ⟨bL, 0, none⟩)]) := (Boxed.new w _ _).kept hgrow1 (by simp)
  have bO := Boxed.new w1 37 (.slice (some ⟨w.heap.size + 1, 0, none⟩) 0 (numsI s 64).length)
  have bN := Boxed.new (w1.alloc (.cells #[.slice (some ⟨w.heap.size + 1, 0, none⟩) 0 (numsI s 64).length] 37)) 24 (.int .u64 s)
  rw [World.size_alloc] at bN
  have hB0 : Below w.heap.size w ((w1.alloc (.cells #[.slice (some ⟨w.heap.size + 1, 0, none⟩) 0 (numsI s 64).length] 37)).alloc (.cells #[.int .u64 s] 24)) := (hB1.alloc (by omega) _).alloc (by simp; omega) _
  refine wpIn_rangeFunc_ownG rfl (by omega) (gf := 37) (lb := #[.pointer (some ⟨w1.heap.size + 1, 0, none⟩)]) rfl trivial (enters_of Tryd.func37 (by kernel_rfl) rfl)
    (each_stops 3 (by omega) (w1.heap.size + 1) n₀ hG s hs _ (by simp) (by simp; omega) bN.cell (Tab.from hT hB0 (by omega))) belowK_t (belowK_b (by simp; omega)) (Below.refl _ _) (fun _ => rfl)
    (fun (pre : List Num) W => ((∃ v, Boxed W w1.heap.size 37 v ∧ W.ownsRow w.heap.size 9 1 v pre.length (pre.map (fun x => Value.string (nm x))) ∧ ∃ g c, v = .slice (some ⟨g, 0, none⟩) pre.length c) ∧ Boxed W w.heap.size 44 (.func (.func 25) #[] #[.pointer (some ⟨bA, 0, none⟩), .pointer (some ⟨bL, 0, none⟩)])) ∧
      ((∃ av, Boxed W bA 25 av ∧ W.ownsRow w.heap.size 3 1 av pre.length (pre.map (fun x => Value.int .i64 x.1)) ∧ True) ∧ ((Boxed W bL 37 (.slice (some ⟨g, 0, none⟩) 64 64) ∧ RowAt W g 9 cur) ∧ But bA w.heap.size w W)))
    (fun _ _ _ => False)
    (OwnFrom.and (OwnFrom.and (Own.from (holdsRow_own w.heap.size w1.heap.size 37 9 1 (fun (pre : List Num) => pre.length) (fun (pre : List Num) => pre.map (fun x => Value.string (nm x))) (fun pre v => ∃ g c, v = .slice (some ⟨g, 0, none⟩) pre.length c)) _) (Own.from (boxed_own _ _ _) _))
      (OwnFrom.and (Own.from (holdsRow_own w.heap.size bA 25 3 1 (fun (pre : List Num) => pre.length) (fun (pre : List Num) => pre.map (fun x => Value.int .i64 x.1)) (fun _ _ => True)) _) (OwnFrom.and (OwnFrom.and (Own.from (boxed_own _ _ _) _) (Own.from (row_own _ _ _) _)) (but_own (Nat.le_refl _) (by simp; omega)))))
    (fun _ _ _ _ _ hs _ _ => hs)
    ⟨⟨⟨_, bO.alloc _, (hown1.alloc _).alloc _, ⟨_, _, rfl⟩⟩, (bF.alloc _).alloc _⟩, ⟨⟨_, Boxed.below' hA0 hB0 hbAH, World.ownsRow_nil _ _ _ _, trivial⟩, ⟨Boxed.below' hL0 hB0 hbLH, hR0.below hB0 hgH⟩, (But.refl _ _ _).below hB0⟩⟩
    (fun x => { tmps := #[.int .u64 s, .func (.func 25) #[] #[.pointer (some ⟨bA, 0, none⟩), .pointer (some ⟨bL, 0, none⟩)], undef, .pointer (some ⟨w.heap.size, 0, none⟩), .string ⟨#[]⟩, .pointer (some ⟨w1.heap.size, 0, none⟩), .int .i64 x.1, .func (.func 25) #[] #[.pointer (some ⟨bA, 0, none⟩), .pointer (some ⟨bL, 0, none⟩)], .bool false, .int .u64 s, .int .i64 (numsI s 64).length, .slice (some ⟨w.heap.size + 1, 0, none⟩) 0 (numsI s 64).length, .int .u64 s, .func (.func 37) #[] #[.pointer (some ⟨w1.heap.size + 1, 0, none⟩)], .int .i64 x.1, undef, undef, undef, undef, undef, undef, undef, undef, undef, undef], defers := [] }) ?assign ?body ?done ?stop
  case assign =>
    intro l x W K hK
    gi_wp2
    exact hK
  case body =>
    rintro l pre x W ⟨⟨⟨v, hv, hrow, _⟩, hF⟩, ⟨av, hA, hArow, _⟩, ⟨hL, hR⟩, hBut⟩ hlt
    have hc := hv.cell
    have hcF := hF.cell
    have hpl : pre.length < 64 := by rw [numsS_len] at hlt; omega
    have hs1' : w.heap.size ≤ w1.heap.size := by omega
    have hHne : w.heap.size ≠ w1.heap.size := by omega
    have hne1 : w1.heap.size ≠ bA := by omega
    have hne2 : w.heap.size ≠ bA := by omega
    have hne3 : bL ≠ bA := RowAt.ne (cur := #[_]) (cur' := #[_]) (show RowAt W bL _ _ from hL) (show RowAt W bA _ _ from hA) (by decide)
    have hne4 : g ≠ bA := RowAt.ne (cur' := #[_]) hR (show RowAt W bA _ _ from hA) (by decide)
    have hWs0 := hBut.size
    have hWs : w.heap.size ≤ W.drew.heap.size := hWs0
    have hAd : Boxed W.drew bA 25 av := hA
    have hArd : W.drew.ownsRow w.heap.size 3 1 av pre.length (pre.map (fun x => Value.int .i64 x.1)) := hArow
    have hLd : Boxed W.drew bL 37 (.slice (some ⟨g, 0, none⟩) 64 64) := hL
    have hRd : RowAt W.drew g 9 cur := hR
    have hmx : Tryd.prog.follows .mixedOrders = true := by kernel_rfl
    gi_wp2
    refine wpIn_region_any hmx ?_
    change wpAnyIn _ _ _ _ _ _ _ _ _ (World.drew _)
    refine wpAnyIn_ready (rs := [0, 1, 2]) (by kernel_rfl) (by simp) ?_
    refine AllReadyIn.cons rfl (fun K hK => ?_) ?_
    · go_simp
      refine hK _ _ ?_
      clear hK K
      refine wpAnyIn_ready (rs := [1, 2]) (by kernel_rfl) (by simp) ?_
      refine AllReadyIn.cons rfl (fun K hK => ?_) ?_
      · go_simp
        refine hK _ _ ?_
        clear hK K
        refine wpAnyIn_ready (rs := [2]) (by kernel_rfl) (by simp) ?_
        refine AllReadyIn.cons rfl (fun K hK => ?_) AllReadyIn.nil
        go_simp
        refine hK _ _ ?_
        clear hK K
        refine wpAnyIn_ready (rs := [3]) (by kernel_rfl) (by simp) ?_
        refine AllReadyIn.cons rfl (fun K hK => ?_) AllReadyIn.nil
        go_simp
        refine ⟨trivial, ?_⟩
        refine (CallsIn.inRound l (callsIn_wide.2 (closure_any bA bL g w.heap.size pre.length av (pre.map (fun x => Value.int .i64 x.1)) cur nm x W.drew hWs hAd hArd (by omega) hLd hRd hN))).mono ?_
        rintro e W2 ⟨rfl, ⟨av', hA2, hAr2⟩, T0⟩
        have T' : Touch bA av W W2 := ⟨T0.os, T0.tape, T0.output, T0.size, T0.block⟩
        have hv2 := T'.boxed hv hne1 hArow (by decide)
        have hF2 := T'.boxed hF hne2 hArow (by decide)
        have hrow2 := T'.owns hA hArow hrow (by decide) (by decide)
        have hL2 := T'.boxed hL hne3 hArow (by decide)
        have hR2 := T'.row hR hne4 hArow (by decide)
        have hBut2 := hBut.touch T' (Nat.le_refl _) (fun j hj => (hArow.lt j hj).1)
        have hb12 : Below n₀ W W2 := T'.below (by omega) hbA (fun j hj => by have := (hArow.lt j hj).1; omega)
        have K12 := T'.keeps hA hArow
        have hW2s : w.heap.size ≤ W2.heap.size := by have := T'.size; omega
        have hc2 := hv2.cell
        have hcA2 : ∀ o, (W2.alloc o).cell? ⟨w1.heap.size, 0, none⟩ = some v := fun o => (hv2.alloc o).cell
        clear T0 T' hA hArow hrow hv hF hL hR hBut hAd hArd hLd hRd
        refine hK _ _ ?_
        clear hK K
        refine wpAnyIn_ready (rs := [4]) (by kernel_rfl) (by simp) ?_
        refine AllReadyIn.cons rfl (fun K hK => ?_) AllReadyIn.nil
        go_simp
        refine hK _ _ ?_
        clear hK K
        refine wpAnyIn_ready (rs := [5]) (by kernel_rfl) (by simp) ?_
        refine AllReadyIn.cons rfl (fun K hK => ?_) AllReadyIn.nil
        refine step_append_own_in rfl (.tmp 15) (.tmp 19) 37 rfl w.heap.size 9 i0 (.string ⟨#[]⟩) 1 16 Tryd.underlying37 hi hz0 hz1 hz2 rfl (by decide) v pre.length (pre.map (fun x => Value.string (nm x))) rfl (hrow2.alloc _) ⟨W2.heap.size, 0, none⟩ 1 1 [.string (nm x)] rfl rfl (cell_one_new _ _ _) (by simp [Value.oneCell']) (by unfold maxLen; omega) (by omega) (by simp; omega) ?_
        intro v' w3 hown' hgrow _
        obtain ⟨g', cap', rfl⟩ := ownsRow_succ hown'
        obtain ⟨hv3, hv4, hr4, hk4, hb4⟩ := hv2.appended (by decide) hrow2 hW2s hs1' hown' hgrow
        have hc1 := hv3.cell
        have hf1 := hv3.frozen
        refine hK _ _ ?_
        clear hK K
        refine wpAnyIn_ready (rs := [6]) (by kernel_rfl) (by simp) ?_
        refine AllReadyIn.cons rfl (fun K hK => ?_) AllReadyIn.nil
        go_simp
        refine hK _ _ ?_
        clear hK K
        refine wpAnyIn_done (by kernel_rfl) ?_ _
        have R := text_step (nm := nm) hrow2 hF2 hA2 hAr2 hgrow hv3 hb4 hHne hbAH
        clear hc1 hf1 hgrow hown' hc2 hcA2
        gi_wp2
        exact ⟨(K12.trans hk4).from _, hb12.trans (hb4.mono hn0), ⟨⟨⟨_, hv4, by simpa using hr4, ⟨g', cap', by simp⟩⟩, R.1⟩, ⟨⟨_, R.2.1, by simpa using R.2.2, trivial⟩, ⟨Boxed.below' hL2 hb4 hbLH, hR2.below hb4 hgH⟩, hBut2.below hb4⟩⟩⟩
      refine AllReadyIn.cons rfl (fun K hK => ?_) AllReadyIn.nil
      go_simp
      refine hK _ _ ?_
      clear hK K
      refine wpAnyIn_ready (rs := [1]) (by kernel_rfl) (by simp) ?_
      refine AllReadyIn.cons rfl (fun K hK => ?_) AllReadyIn.nil
      go_simp
      refine hK _ _ ?_
      clear hK K
      refine wpAnyIn_ready (rs := [3]) (by kernel_rfl) (by simp) ?_
      refine AllReadyIn.cons rfl (fun K hK => ?_) AllReadyIn.nil
      go_simp
      refine ⟨trivial, ?_⟩
      refine (CallsIn.inRound l (callsIn_wide.2 (closure_any bA bL g w.heap.size pre.length av (pre.map (fun x => Value.int .i64 x.1)) cur nm x W.drew hWs hAd hArd (by omega) hLd hRd hN))).mono ?_
      rintro e W2 ⟨rfl, ⟨av', hA2, hAr2⟩, T0⟩
      have T' : Touch bA av W W2 := ⟨T0.os, T0.tape, T0.output, T0.size, T0.block⟩
      have hv2 := T'.boxed hv hne1 hArow (by decide)
      have hF2 := T'.boxed hF hne2 hArow (by decide)
      have hrow2 := T'.owns hA hArow hrow (by decide) (by decide)
      have hL2 := T'.boxed hL hne3 hArow (by decide)
      have hR2 := T'.row hR hne4 hArow (by decide)
      have hBut2 := hBut.touch T' (Nat.le_refl _) (fun j hj => (hArow.lt j hj).1)
      have hb12 : Below n₀ W W2 := T'.below (by omega) hbA (fun j hj => by have := (hArow.lt j hj).1; omega)
      have K12 := T'.keeps hA hArow
      have hW2s : w.heap.size ≤ W2.heap.size := by have := T'.size; omega
      have hc2 := hv2.cell
      have hcA2 : ∀ o, (W2.alloc o).cell? ⟨w1.heap.size, 0, none⟩ = some v := fun o => (hv2.alloc o).cell
      clear T0 T' hA hArow hrow hv hF hL hR hBut hAd hArd hLd hRd
      refine hK _ _ ?_
      clear hK K
      refine wpAnyIn_ready (rs := [4]) (by kernel_rfl) (by simp) ?_
      refine AllReadyIn.cons rfl (fun K hK => ?_) AllReadyIn.nil
      go_simp
      refine hK _ _ ?_
      clear hK K
      refine wpAnyIn_ready (rs := [5]) (by kernel_rfl) (by simp) ?_
      refine AllReadyIn.cons rfl (fun K hK => ?_) AllReadyIn.nil
      refine step_append_own_in rfl (.tmp 15) (.tmp 19) 37 rfl w.heap.size 9 i0 (.string ⟨#[]⟩) 1 16 Tryd.underlying37 hi hz0 hz1 hz2 rfl (by decide) v pre.length (pre.map (fun x => Value.string (nm x))) rfl (hrow2.alloc _) ⟨W2.heap.size, 0, none⟩ 1 1 [.string (nm x)] rfl rfl (cell_one_new _ _ _) (by simp [Value.oneCell']) (by unfold maxLen; omega) (by omega) (by simp; omega) ?_
      intro v' w3 hown' hgrow _
      obtain ⟨g', cap', rfl⟩ := ownsRow_succ hown'
      obtain ⟨hv3, hv4, hr4, hk4, hb4⟩ := hv2.appended (by decide) hrow2 hW2s hs1' hown' hgrow
      have hc1 := hv3.cell
      have hf1 := hv3.frozen
      refine hK _ _ ?_
      clear hK K
      refine wpAnyIn_ready (rs := [6]) (by kernel_rfl) (by simp) ?_
      refine AllReadyIn.cons rfl (fun K hK => ?_) AllReadyIn.nil
      go_simp
      refine hK _ _ ?_
      clear hK K
      refine wpAnyIn_done (by kernel_rfl) ?_ _
      have R := text_step (nm := nm) hrow2 hF2 hA2 hAr2 hgrow hv3 hb4 hHne hbAH
      clear hc1 hf1 hgrow hown' hc2 hcA2
      gi_wp2
      exact ⟨(K12.trans hk4).from _, hb12.trans (hb4.mono hn0), ⟨⟨⟨_, hv4, by simpa using hr4, ⟨g', cap', by simp⟩⟩, R.1⟩, ⟨⟨_, R.2.1, by simpa using R.2.2, trivial⟩, ⟨Boxed.below' hL2 hb4 hbLH, hR2.below hb4 hgH⟩, hBut2.below hb4⟩⟩⟩
    refine AllReadyIn.cons rfl (fun K hK => ?_) ?_
    · go_simp
      refine hK _ _ ?_
      clear hK K
      refine wpAnyIn_ready (rs := [0, 2]) (by kernel_rfl) (by simp) ?_
      refine AllReadyIn.cons rfl (fun K hK => ?_) ?_
      · go_simp
        refine hK _ _ ?_
        clear hK K
        refine wpAnyIn_ready (rs := [2]) (by kernel_rfl) (by simp) ?_
        refine AllReadyIn.cons rfl (fun K hK => ?_) AllReadyIn.nil
        go_simp
        refine hK _ _ ?_
        clear hK K
        refine wpAnyIn_ready (rs := [3]) (by kernel_rfl) (by simp) ?_
        refine AllReadyIn.cons rfl (fun K hK => ?_) AllReadyIn.nil
        go_simp
        refine ⟨trivial, ?_⟩
        refine (CallsIn.inRound l (callsIn_wide.2 (closure_any bA bL g w.heap.size pre.length av (pre.map (fun x => Value.int .i64 x.1)) cur nm x W.drew hWs hAd hArd (by omega) hLd hRd hN))).mono ?_
        rintro e W2 ⟨rfl, ⟨av', hA2, hAr2⟩, T0⟩
        have T' : Touch bA av W W2 := ⟨T0.os, T0.tape, T0.output, T0.size, T0.block⟩
        have hv2 := T'.boxed hv hne1 hArow (by decide)
        have hF2 := T'.boxed hF hne2 hArow (by decide)
        have hrow2 := T'.owns hA hArow hrow (by decide) (by decide)
        have hL2 := T'.boxed hL hne3 hArow (by decide)
        have hR2 := T'.row hR hne4 hArow (by decide)
        have hBut2 := hBut.touch T' (Nat.le_refl _) (fun j hj => (hArow.lt j hj).1)
        have hb12 : Below n₀ W W2 := T'.below (by omega) hbA (fun j hj => by have := (hArow.lt j hj).1; omega)
        have K12 := T'.keeps hA hArow
        have hW2s : w.heap.size ≤ W2.heap.size := by have := T'.size; omega
        have hc2 := hv2.cell
        have hcA2 : ∀ o, (W2.alloc o).cell? ⟨w1.heap.size, 0, none⟩ = some v := fun o => (hv2.alloc o).cell
        clear T0 T' hA hArow hrow hv hF hL hR hBut hAd hArd hLd hRd
        refine hK _ _ ?_
        clear hK K
        refine wpAnyIn_ready (rs := [4]) (by kernel_rfl) (by simp) ?_
        refine AllReadyIn.cons rfl (fun K hK => ?_) AllReadyIn.nil
        go_simp
        refine hK _ _ ?_
        clear hK K
        refine wpAnyIn_ready (rs := [5]) (by kernel_rfl) (by simp) ?_
        refine AllReadyIn.cons rfl (fun K hK => ?_) AllReadyIn.nil
        refine step_append_own_in rfl (.tmp 15) (.tmp 19) 37 rfl w.heap.size 9 i0 (.string ⟨#[]⟩) 1 16 Tryd.underlying37 hi hz0 hz1 hz2 rfl (by decide) v pre.length (pre.map (fun x => Value.string (nm x))) rfl (hrow2.alloc _) ⟨W2.heap.size, 0, none⟩ 1 1 [.string (nm x)] rfl rfl (cell_one_new _ _ _) (by simp [Value.oneCell']) (by unfold maxLen; omega) (by omega) (by simp; omega) ?_
        intro v' w3 hown' hgrow _
        obtain ⟨g', cap', rfl⟩ := ownsRow_succ hown'
        obtain ⟨hv3, hv4, hr4, hk4, hb4⟩ := hv2.appended (by decide) hrow2 hW2s hs1' hown' hgrow
        have hc1 := hv3.cell
        have hf1 := hv3.frozen
        refine hK _ _ ?_
        clear hK K
        refine wpAnyIn_ready (rs := [6]) (by kernel_rfl) (by simp) ?_
        refine AllReadyIn.cons rfl (fun K hK => ?_) AllReadyIn.nil
        go_simp
        refine hK _ _ ?_
        clear hK K
        refine wpAnyIn_done (by kernel_rfl) ?_ _
        have R := text_step (nm := nm) hrow2 hF2 hA2 hAr2 hgrow hv3 hb4 hHne hbAH
        clear hc1 hf1 hgrow hown' hc2 hcA2
        gi_wp2
        exact ⟨(K12.trans hk4).from _, hb12.trans (hb4.mono hn0), ⟨⟨⟨_, hv4, by simpa using hr4, ⟨g', cap', by simp⟩⟩, R.1⟩, ⟨⟨_, R.2.1, by simpa using R.2.2, trivial⟩, ⟨Boxed.below' hL2 hb4 hbLH, hR2.below hb4 hgH⟩, hBut2.below hb4⟩⟩⟩
      refine AllReadyIn.cons rfl (fun K hK => ?_) AllReadyIn.nil
      go_simp
      refine hK _ _ ?_
      clear hK K
      refine wpAnyIn_ready (rs := [0, 3]) (by kernel_rfl) (by simp) ?_
      refine AllReadyIn.cons rfl (fun K hK => ?_) ?_
      · go_simp
        refine hK _ _ ?_
        clear hK K
        refine wpAnyIn_ready (rs := [3]) (by kernel_rfl) (by simp) ?_
        refine AllReadyIn.cons rfl (fun K hK => ?_) AllReadyIn.nil
        go_simp
        refine ⟨trivial, ?_⟩
        refine (CallsIn.inRound l (callsIn_wide.2 (closure_any bA bL g w.heap.size pre.length av (pre.map (fun x => Value.int .i64 x.1)) cur nm x W.drew hWs hAd hArd (by omega) hLd hRd hN))).mono ?_
        rintro e W2 ⟨rfl, ⟨av', hA2, hAr2⟩, T0⟩
        have T' : Touch bA av W W2 := ⟨T0.os, T0.tape, T0.output, T0.size, T0.block⟩
        have hv2 := T'.boxed hv hne1 hArow (by decide)
        have hF2 := T'.boxed hF hne2 hArow (by decide)
        have hrow2 := T'.owns hA hArow hrow (by decide) (by decide)
        have hL2 := T'.boxed hL hne3 hArow (by decide)
        have hR2 := T'.row hR hne4 hArow (by decide)
        have hBut2 := hBut.touch T' (Nat.le_refl _) (fun j hj => (hArow.lt j hj).1)
        have hb12 : Below n₀ W W2 := T'.below (by omega) hbA (fun j hj => by have := (hArow.lt j hj).1; omega)
        have K12 := T'.keeps hA hArow
        have hW2s : w.heap.size ≤ W2.heap.size := by have := T'.size; omega
        have hc2 := hv2.cell
        have hcA2 : ∀ o, (W2.alloc o).cell? ⟨w1.heap.size, 0, none⟩ = some v := fun o => (hv2.alloc o).cell
        clear T0 T' hA hArow hrow hv hF hL hR hBut hAd hArd hLd hRd
        refine hK _ _ ?_
        clear hK K
        refine wpAnyIn_ready (rs := [4]) (by kernel_rfl) (by simp) ?_
        refine AllReadyIn.cons rfl (fun K hK => ?_) AllReadyIn.nil
        go_simp
        refine hK _ _ ?_
        clear hK K
        refine wpAnyIn_ready (rs := [5]) (by kernel_rfl) (by simp) ?_
        refine AllReadyIn.cons rfl (fun K hK => ?_) AllReadyIn.nil
        refine step_append_own_in rfl (.tmp 15) (.tmp 19) 37 rfl w.heap.size 9 i0 (.string ⟨#[]⟩) 1 16 Tryd.underlying37 hi hz0 hz1 hz2 rfl (by decide) v pre.length (pre.map (fun x => Value.string (nm x))) rfl (hrow2.alloc _) ⟨W2.heap.size, 0, none⟩ 1 1 [.string (nm x)] rfl rfl (cell_one_new _ _ _) (by simp [Value.oneCell']) (by unfold maxLen; omega) (by omega) (by simp; omega) ?_
        intro v' w3 hown' hgrow _
        obtain ⟨g', cap', rfl⟩ := ownsRow_succ hown'
        obtain ⟨hv3, hv4, hr4, hk4, hb4⟩ := hv2.appended (by decide) hrow2 hW2s hs1' hown' hgrow
        have hc1 := hv3.cell
        have hf1 := hv3.frozen
        refine hK _ _ ?_
        clear hK K
        refine wpAnyIn_ready (rs := [6]) (by kernel_rfl) (by simp) ?_
        refine AllReadyIn.cons rfl (fun K hK => ?_) AllReadyIn.nil
        go_simp
        refine hK _ _ ?_
        clear hK K
        refine wpAnyIn_done (by kernel_rfl) ?_ _
        have R := text_step (nm := nm) hrow2 hF2 hA2 hAr2 hgrow hv3 hb4 hHne hbAH
        clear hc1 hf1 hgrow hown' hc2 hcA2
        gi_wp2
        exact ⟨(K12.trans hk4).from _, hb12.trans (hb4.mono hn0), ⟨⟨⟨_, hv4, by simpa using hr4, ⟨g', cap', by simp⟩⟩, R.1⟩, ⟨⟨_, R.2.1, by simpa using R.2.2, trivial⟩, ⟨Boxed.below' hL2 hb4 hbLH, hR2.below hb4 hgH⟩, hBut2.below hb4⟩⟩⟩
      refine AllReadyIn.cons rfl (fun K hK => ?_) AllReadyIn.nil
      go_simp
      refine ⟨trivial, ?_⟩
      refine (CallsIn.inRound l (callsIn_wide.2 (closure_any bA bL g w.heap.size pre.length av (pre.map (fun x => Value.int .i64 x.1)) cur nm x W.drew hWs hAd hArd (by omega) hLd hRd hN))).mono ?_
      rintro e W2 ⟨rfl, ⟨av', hA2, hAr2⟩, T0⟩
      have T' : Touch bA av W W2 := ⟨T0.os, T0.tape, T0.output, T0.size, T0.block⟩
      have hv2 := T'.boxed hv hne1 hArow (by decide)
      have hF2 := T'.boxed hF hne2 hArow (by decide)
      have hrow2 := T'.owns hA hArow hrow (by decide) (by decide)
      have hL2 := T'.boxed hL hne3 hArow (by decide)
      have hR2 := T'.row hR hne4 hArow (by decide)
      have hBut2 := hBut.touch T' (Nat.le_refl _) (fun j hj => (hArow.lt j hj).1)
      have hb12 : Below n₀ W W2 := T'.below (by omega) hbA (fun j hj => by have := (hArow.lt j hj).1; omega)
      have K12 := T'.keeps hA hArow
      have hW2s : w.heap.size ≤ W2.heap.size := by have := T'.size; omega
      have hc2 := hv2.cell
      have hcA2 : ∀ o, (W2.alloc o).cell? ⟨w1.heap.size, 0, none⟩ = some v := fun o => (hv2.alloc o).cell
      clear T0 T' hA hArow hrow hv hF hL hR hBut hAd hArd hLd hRd
      refine hK _ _ ?_
      clear hK K
      refine wpAnyIn_ready (rs := [0, 4]) (by kernel_rfl) (by simp) ?_
      refine AllReadyIn.cons rfl (fun K hK => ?_) ?_
      · go_simp
        refine hK _ _ ?_
        clear hK K
        refine wpAnyIn_ready (rs := [4]) (by kernel_rfl) (by simp) ?_
        refine AllReadyIn.cons rfl (fun K hK => ?_) AllReadyIn.nil
        go_simp
        refine hK _ _ ?_
        clear hK K
        refine wpAnyIn_ready (rs := [5]) (by kernel_rfl) (by simp) ?_
        refine AllReadyIn.cons rfl (fun K hK => ?_) AllReadyIn.nil
        refine step_append_own_in rfl (.tmp 15) (.tmp 19) 37 rfl w.heap.size 9 i0 (.string ⟨#[]⟩) 1 16 Tryd.underlying37 hi hz0 hz1 hz2 rfl (by decide) v pre.length (pre.map (fun x => Value.string (nm x))) rfl (hrow2.alloc _) ⟨W2.heap.size, 0, none⟩ 1 1 [.string (nm x)] rfl rfl (cell_one_new _ _ _) (by simp [Value.oneCell']) (by unfold maxLen; omega) (by omega) (by simp; omega) ?_
        intro v' w3 hown' hgrow _
        obtain ⟨g', cap', rfl⟩ := ownsRow_succ hown'
        obtain ⟨hv3, hv4, hr4, hk4, hb4⟩ := hv2.appended (by decide) hrow2 hW2s hs1' hown' hgrow
        have hc1 := hv3.cell
        have hf1 := hv3.frozen
        refine hK _ _ ?_
        clear hK K
        refine wpAnyIn_ready (rs := [6]) (by kernel_rfl) (by simp) ?_
        refine AllReadyIn.cons rfl (fun K hK => ?_) AllReadyIn.nil
        go_simp
        refine hK _ _ ?_
        clear hK K
        refine wpAnyIn_done (by kernel_rfl) ?_ _
        have R := text_step (nm := nm) hrow2 hF2 hA2 hAr2 hgrow hv3 hb4 hHne hbAH
        clear hc1 hf1 hgrow hown' hc2 hcA2
        gi_wp2
        exact ⟨(K12.trans hk4).from _, hb12.trans (hb4.mono hn0), ⟨⟨⟨_, hv4, by simpa using hr4, ⟨g', cap', by simp⟩⟩, R.1⟩, ⟨⟨_, R.2.1, by simpa using R.2.2, trivial⟩, ⟨Boxed.below' hL2 hb4 hbLH, hR2.below hb4 hgH⟩, hBut2.below hb4⟩⟩⟩
      refine AllReadyIn.cons rfl (fun K hK => ?_) AllReadyIn.nil
      go_simp
      refine hK _ _ ?_
      clear hK K
      refine wpAnyIn_ready (rs := [0]) (by kernel_rfl) (by simp) ?_
      refine AllReadyIn.cons rfl (fun K hK => ?_) AllReadyIn.nil
      go_simp
      refine hK _ _ ?_
      clear hK K
      refine wpAnyIn_ready (rs := [5]) (by kernel_rfl) (by simp) ?_
      refine AllReadyIn.cons rfl (fun K hK => ?_) AllReadyIn.nil
      refine step_append_own_in rfl (.tmp 15) (.tmp 19) 37 rfl w.heap.size 9 i0 (.string ⟨#[]⟩) 1 16 Tryd.underlying37 hi hz0 hz1 hz2 rfl (by decide) v pre.length (pre.map (fun x => Value.string (nm x))) rfl (hrow2.alloc _) ⟨W2.heap.size, 0, none⟩ 1 1 [.string (nm x)] rfl rfl (cell_one_new _ _ _) (by simp [Value.oneCell']) (by unfold maxLen; omega) (by omega) (by simp; omega) ?_
      intro v' w3 hown' hgrow _
      obtain ⟨g', cap', rfl⟩ := ownsRow_succ hown'
      obtain ⟨hv3, hv4, hr4, hk4, hb4⟩ := hv2.appended (by decide) hrow2 hW2s hs1' hown' hgrow
      have hc1 := hv3.cell
      have hf1 := hv3.frozen
      refine hK _ _ ?_
      clear hK K
      refine wpAnyIn_ready (rs := [6]) (by kernel_rfl) (by simp) ?_
      refine AllReadyIn.cons rfl (fun K hK => ?_) AllReadyIn.nil
      go_simp
      refine hK _ _ ?_
      clear hK K
      refine wpAnyIn_done (by kernel_rfl) ?_ _
      have R := text_step (nm := nm) hrow2 hF2 hA2 hAr2 hgrow hv3 hb4 hHne hbAH
      clear hc1 hf1 hgrow hown' hc2 hcA2
      gi_wp2
      exact ⟨(K12.trans hk4).from _, hb12.trans (hb4.mono hn0), ⟨⟨⟨_, hv4, by simpa using hr4, ⟨g', cap', by simp⟩⟩, R.1⟩, ⟨⟨_, R.2.1, by simpa using R.2.2, trivial⟩, ⟨Boxed.below' hL2 hb4 hbLH, hR2.below hb4 hgH⟩, hBut2.below hb4⟩⟩⟩
    refine AllReadyIn.cons rfl (fun K hK => ?_) AllReadyIn.nil
    go_simp
    refine hK _ _ ?_
    clear hK K
    refine wpAnyIn_ready (rs := [0, 1]) (by kernel_rfl) (by simp) ?_
    refine AllReadyIn.cons rfl (fun K hK => ?_) ?_
    · go_simp
      refine hK _ _ ?_
      clear hK K
      refine wpAnyIn_ready (rs := [1]) (by kernel_rfl) (by simp) ?_
      refine AllReadyIn.cons rfl (fun K hK => ?_) AllReadyIn.nil
      go_simp
      refine hK _ _ ?_
      clear hK K
      refine wpAnyIn_ready (rs := [3]) (by kernel_rfl) (by simp) ?_
      refine AllReadyIn.cons rfl (fun K hK => ?_) AllReadyIn.nil
      go_simp
      refine ⟨trivial, ?_⟩
      refine (CallsIn.inRound l (callsIn_wide.2 (closure_any bA bL g w.heap.size pre.length av (pre.map (fun x => Value.int .i64 x.1)) cur nm x W.drew hWs hAd hArd (by omega) hLd hRd hN))).mono ?_
      rintro e W2 ⟨rfl, ⟨av', hA2, hAr2⟩, T0⟩
      have T' : Touch bA av W W2 := ⟨T0.os, T0.tape, T0.output, T0.size, T0.block⟩
      have hv2 := T'.boxed hv hne1 hArow (by decide)
      have hF2 := T'.boxed hF hne2 hArow (by decide)
      have hrow2 := T'.owns hA hArow hrow (by decide) (by decide)
      have hL2 := T'.boxed hL hne3 hArow (by decide)
      have hR2 := T'.row hR hne4 hArow (by decide)
      have hBut2 := hBut.touch T' (Nat.le_refl _) (fun j hj => (hArow.lt j hj).1)
      have hb12 : Below n₀ W W2 := T'.below (by omega) hbA (fun j hj => by have := (hArow.lt j hj).1; omega)
      have K12 := T'.keeps hA hArow
      have hW2s : w.heap.size ≤ W2.heap.size := by have := T'.size; omega
      have hc2 := hv2.cell
      have hcA2 : ∀ o, (W2.alloc o).cell? ⟨w1.heap.size, 0, none⟩ = some v := fun o => (hv2.alloc o).cell
      clear T0 T' hA hArow hrow hv hF hL hR hBut hAd hArd hLd hRd
      refine hK _ _ ?_
      clear hK K
      refine wpAnyIn_ready (rs := [4]) (by kernel_rfl) (by simp) ?_
      refine AllReadyIn.cons rfl (fun K hK => ?_) AllReadyIn.nil
      go_simp
      refine hK _ _ ?_
      clear hK K
      refine wpAnyIn_ready (rs := [5]) (by kernel_rfl) (by simp) ?_
      refine AllReadyIn.cons rfl (fun K hK => ?_) AllReadyIn.nil
      refine step_append_own_in rfl (.tmp 15) (.tmp 19) 37 rfl w.heap.size 9 i0 (.string ⟨#[]⟩) 1 16 Tryd.underlying37 hi hz0 hz1 hz2 rfl (by decide) v pre.length (pre.map (fun x => Value.string (nm x))) rfl (hrow2.alloc _) ⟨W2.heap.size, 0, none⟩ 1 1 [.string (nm x)] rfl rfl (cell_one_new _ _ _) (by simp [Value.oneCell']) (by unfold maxLen; omega) (by omega) (by simp; omega) ?_
      intro v' w3 hown' hgrow _
      obtain ⟨g', cap', rfl⟩ := ownsRow_succ hown'
      obtain ⟨hv3, hv4, hr4, hk4, hb4⟩ := hv2.appended (by decide) hrow2 hW2s hs1' hown' hgrow
      have hc1 := hv3.cell
      have hf1 := hv3.frozen
      refine hK _ _ ?_
      clear hK K
      refine wpAnyIn_ready (rs := [6]) (by kernel_rfl) (by simp) ?_
      refine AllReadyIn.cons rfl (fun K hK => ?_) AllReadyIn.nil
      go_simp
      refine hK _ _ ?_
      clear hK K
      refine wpAnyIn_done (by kernel_rfl) ?_ _
      have R := text_step (nm := nm) hrow2 hF2 hA2 hAr2 hgrow hv3 hb4 hHne hbAH
      clear hc1 hf1 hgrow hown' hc2 hcA2
      gi_wp2
      exact ⟨(K12.trans hk4).from _, hb12.trans (hb4.mono hn0), ⟨⟨⟨_, hv4, by simpa using hr4, ⟨g', cap', by simp⟩⟩, R.1⟩, ⟨⟨_, R.2.1, by simpa using R.2.2, trivial⟩, ⟨Boxed.below' hL2 hb4 hbLH, hR2.below hb4 hgH⟩, hBut2.below hb4⟩⟩⟩
    refine AllReadyIn.cons rfl (fun K hK => ?_) AllReadyIn.nil
    go_simp
    refine hK _ _ ?_
    clear hK K
    refine wpAnyIn_ready (rs := [0, 3]) (by kernel_rfl) (by simp) ?_
    refine AllReadyIn.cons rfl (fun K hK => ?_) ?_
    · go_simp
      refine hK _ _ ?_
      clear hK K
      refine wpAnyIn_ready (rs := [3]) (by kernel_rfl) (by simp) ?_
      refine AllReadyIn.cons rfl (fun K hK => ?_) AllReadyIn.nil
      go_simp
      refine ⟨trivial, ?_⟩
      refine (CallsIn.inRound l (callsIn_wide.2 (closure_any bA bL g w.heap.size pre.length av (pre.map (fun x => Value.int .i64 x.1)) cur nm x W.drew hWs hAd hArd (by omega) hLd hRd hN))).mono ?_
      rintro e W2 ⟨rfl, ⟨av', hA2, hAr2⟩, T0⟩
      have T' : Touch bA av W W2 := ⟨T0.os, T0.tape, T0.output, T0.size, T0.block⟩
      have hv2 := T'.boxed hv hne1 hArow (by decide)
      have hF2 := T'.boxed hF hne2 hArow (by decide)
      have hrow2 := T'.owns hA hArow hrow (by decide) (by decide)
      have hL2 := T'.boxed hL hne3 hArow (by decide)
      have hR2 := T'.row hR hne4 hArow (by decide)
      have hBut2 := hBut.touch T' (Nat.le_refl _) (fun j hj => (hArow.lt j hj).1)
      have hb12 : Below n₀ W W2 := T'.below (by omega) hbA (fun j hj => by have := (hArow.lt j hj).1; omega)
      have K12 := T'.keeps hA hArow
      have hW2s : w.heap.size ≤ W2.heap.size := by have := T'.size; omega
      have hc2 := hv2.cell
      have hcA2 : ∀ o, (W2.alloc o).cell? ⟨w1.heap.size, 0, none⟩ = some v := fun o => (hv2.alloc o).cell
      clear T0 T' hA hArow hrow hv hF hL hR hBut hAd hArd hLd hRd
      refine hK _ _ ?_
      clear hK K
      refine wpAnyIn_ready (rs := [4]) (by kernel_rfl) (by simp) ?_
      refine AllReadyIn.cons rfl (fun K hK => ?_) AllReadyIn.nil
      go_simp
      refine hK _ _ ?_
      clear hK K
      refine wpAnyIn_ready (rs := [5]) (by kernel_rfl) (by simp) ?_
      refine AllReadyIn.cons rfl (fun K hK => ?_) AllReadyIn.nil
      refine step_append_own_in rfl (.tmp 15) (.tmp 19) 37 rfl w.heap.size 9 i0 (.string ⟨#[]⟩) 1 16 Tryd.underlying37 hi hz0 hz1 hz2 rfl (by decide) v pre.length (pre.map (fun x => Value.string (nm x))) rfl (hrow2.alloc _) ⟨W2.heap.size, 0, none⟩ 1 1 [.string (nm x)] rfl rfl (cell_one_new _ _ _) (by simp [Value.oneCell']) (by unfold maxLen; omega) (by omega) (by simp; omega) ?_
      intro v' w3 hown' hgrow _
      obtain ⟨g', cap', rfl⟩ := ownsRow_succ hown'
      obtain ⟨hv3, hv4, hr4, hk4, hb4⟩ := hv2.appended (by decide) hrow2 hW2s hs1' hown' hgrow
      have hc1 := hv3.cell
      have hf1 := hv3.frozen
      refine hK _ _ ?_
      clear hK K
      refine wpAnyIn_ready (rs := [6]) (by kernel_rfl) (by simp) ?_
      refine AllReadyIn.cons rfl (fun K hK => ?_) AllReadyIn.nil
      go_simp
      refine hK _ _ ?_
      clear hK K
      refine wpAnyIn_done (by kernel_rfl) ?_ _
      have R := text_step (nm := nm) hrow2 hF2 hA2 hAr2 hgrow hv3 hb4 hHne hbAH
      clear hc1 hf1 hgrow hown' hc2 hcA2
      gi_wp2
      exact ⟨(K12.trans hk4).from _, hb12.trans (hb4.mono hn0), ⟨⟨⟨_, hv4, by simpa using hr4, ⟨g', cap', by simp⟩⟩, R.1⟩, ⟨⟨_, R.2.1, by simpa using R.2.2, trivial⟩, ⟨Boxed.below' hL2 hb4 hbLH, hR2.below hb4 hgH⟩, hBut2.below hb4⟩⟩⟩
    refine AllReadyIn.cons rfl (fun K hK => ?_) AllReadyIn.nil
    go_simp
    refine ⟨trivial, ?_⟩
    refine (CallsIn.inRound l (callsIn_wide.2 (closure_any bA bL g w.heap.size pre.length av (pre.map (fun x => Value.int .i64 x.1)) cur nm x W.drew hWs hAd hArd (by omega) hLd hRd hN))).mono ?_
    rintro e W2 ⟨rfl, ⟨av', hA2, hAr2⟩, T0⟩
    have T' : Touch bA av W W2 := ⟨T0.os, T0.tape, T0.output, T0.size, T0.block⟩
    have hv2 := T'.boxed hv hne1 hArow (by decide)
    have hF2 := T'.boxed hF hne2 hArow (by decide)
    have hrow2 := T'.owns hA hArow hrow (by decide) (by decide)
    have hL2 := T'.boxed hL hne3 hArow (by decide)
    have hR2 := T'.row hR hne4 hArow (by decide)
    have hBut2 := hBut.touch T' (Nat.le_refl _) (fun j hj => (hArow.lt j hj).1)
    have hb12 : Below n₀ W W2 := T'.below (by omega) hbA (fun j hj => by have := (hArow.lt j hj).1; omega)
    have K12 := T'.keeps hA hArow
    have hW2s : w.heap.size ≤ W2.heap.size := by have := T'.size; omega
    have hc2 := hv2.cell
    have hcA2 : ∀ o, (W2.alloc o).cell? ⟨w1.heap.size, 0, none⟩ = some v := fun o => (hv2.alloc o).cell
    clear T0 T' hA hArow hrow hv hF hL hR hBut hAd hArd hLd hRd
    refine hK _ _ ?_
    clear hK K
    refine wpAnyIn_ready (rs := [0, 4]) (by kernel_rfl) (by simp) ?_
    refine AllReadyIn.cons rfl (fun K hK => ?_) ?_
    · go_simp
      refine hK _ _ ?_
      clear hK K
      refine wpAnyIn_ready (rs := [4]) (by kernel_rfl) (by simp) ?_
      refine AllReadyIn.cons rfl (fun K hK => ?_) AllReadyIn.nil
      go_simp
      refine hK _ _ ?_
      clear hK K
      refine wpAnyIn_ready (rs := [5]) (by kernel_rfl) (by simp) ?_
      refine AllReadyIn.cons rfl (fun K hK => ?_) AllReadyIn.nil
      refine step_append_own_in rfl (.tmp 15) (.tmp 19) 37 rfl w.heap.size 9 i0 (.string ⟨#[]⟩) 1 16 Tryd.underlying37 hi hz0 hz1 hz2 rfl (by decide) v pre.length (pre.map (fun x => Value.string (nm x))) rfl (hrow2.alloc _) ⟨W2.heap.size, 0, none⟩ 1 1 [.string (nm x)] rfl rfl (cell_one_new _ _ _) (by simp [Value.oneCell']) (by unfold maxLen; omega) (by omega) (by simp; omega) ?_
      intro v' w3 hown' hgrow _
      obtain ⟨g', cap', rfl⟩ := ownsRow_succ hown'
      obtain ⟨hv3, hv4, hr4, hk4, hb4⟩ := hv2.appended (by decide) hrow2 hW2s hs1' hown' hgrow
      have hc1 := hv3.cell
      have hf1 := hv3.frozen
      refine hK _ _ ?_
      clear hK K
      refine wpAnyIn_ready (rs := [6]) (by kernel_rfl) (by simp) ?_
      refine AllReadyIn.cons rfl (fun K hK => ?_) AllReadyIn.nil
      go_simp
      refine hK _ _ ?_
      clear hK K
      refine wpAnyIn_done (by kernel_rfl) ?_ _
      have R := text_step (nm := nm) hrow2 hF2 hA2 hAr2 hgrow hv3 hb4 hHne hbAH
      clear hc1 hf1 hgrow hown' hc2 hcA2
      gi_wp2
      exact ⟨(K12.trans hk4).from _, hb12.trans (hb4.mono hn0), ⟨⟨⟨_, hv4, by simpa using hr4, ⟨g', cap', by simp⟩⟩, R.1⟩, ⟨⟨_, R.2.1, by simpa using R.2.2, trivial⟩, ⟨Boxed.below' hL2 hb4 hbLH, hR2.below hb4 hgH⟩, hBut2.below hb4⟩⟩⟩
    refine AllReadyIn.cons rfl (fun K hK => ?_) AllReadyIn.nil
    go_simp
    refine hK _ _ ?_
    clear hK K
    refine wpAnyIn_ready (rs := [0]) (by kernel_rfl) (by simp) ?_
    refine AllReadyIn.cons rfl (fun K hK => ?_) AllReadyIn.nil
    go_simp
    refine hK _ _ ?_
    clear hK K
    refine wpAnyIn_ready (rs := [5]) (by kernel_rfl) (by simp) ?_
    refine AllReadyIn.cons rfl (fun K hK => ?_) AllReadyIn.nil
    refine step_append_own_in rfl (.tmp 15) (.tmp 19) 37 rfl w.heap.size 9 i0 (.string ⟨#[]⟩) 1 16 Tryd.underlying37 hi hz0 hz1 hz2 rfl (by decide) v pre.length (pre.map (fun x => Value.string (nm x))) rfl (hrow2.alloc _) ⟨W2.heap.size, 0, none⟩ 1 1 [.string (nm x)] rfl rfl (cell_one_new _ _ _) (by simp [Value.oneCell']) (by unfold maxLen; omega) (by omega) (by simp; omega) ?_
    intro v' w3 hown' hgrow _
    obtain ⟨g', cap', rfl⟩ := ownsRow_succ hown'
    obtain ⟨hv3, hv4, hr4, hk4, hb4⟩ := hv2.appended (by decide) hrow2 hW2s hs1' hown' hgrow
    have hc1 := hv3.cell
    have hf1 := hv3.frozen
    refine hK _ _ ?_
    clear hK K
    refine wpAnyIn_ready (rs := [6]) (by kernel_rfl) (by simp) ?_
    refine AllReadyIn.cons rfl (fun K hK => ?_) AllReadyIn.nil
    go_simp
    refine hK _ _ ?_
    clear hK K
    refine wpAnyIn_done (by kernel_rfl) ?_ _
    have R := text_step (nm := nm) hrow2 hF2 hA2 hAr2 hgrow hv3 hb4 hHne hbAH
    clear hc1 hf1 hgrow hown' hc2 hcA2
    gi_wp2
    exact ⟨(K12.trans hk4).from _, hb12.trans (hb4.mono hn0), ⟨⟨⟨_, hv4, by simpa using hr4, ⟨g', cap', by simp⟩⟩, R.1⟩, ⟨⟨_, R.2.1, by simpa using R.2.2, trivial⟩, ⟨Boxed.below' hL2 hb4 hbLH, hR2.below hb4 hgH⟩, hBut2.below hb4⟩⟩⟩
  case done =>
    rintro D ys W hD rfl ⟨⟨⟨v, hv, hrow, g2, c2, hvg⟩, hF⟩, ⟨av, hA, hArow, _⟩, ⟨hL, hR⟩, hBut⟩ hK
    have hc := hv.cell
    subst hvg
    have hDlt := (Array.getElem?_eq_some_iff.1 hK).1
    have hjs := outN_size nm (numsS s) 64 (by rw [numsS_len]; omega) hn
    rw [outN_all nm (by rw [numsS_len]; omega), ByteArray.size_append'] at hjs
    have hjs2 : (joinN nm (numsS s)).size ≤ 67108929 := by omega
    clear hjs
    have hWs := hBut.size
    gi_wp2_with (refine ⟨trivial, ?_⟩; gi_at_call 39; refine (callsIn_wide.2 (join_nm nm s _ _ _ _ hn hrow)).mono ?_; rintro e w3 ⟨rfl, hb3⟩)
    have hK3 : w3.heap[D]? = some (.deferred (some [])) := (hb3.block D hDlt).trans hK
    refine ⟨by simp, .inl ⟨_, _, rfl, run_takeDeferred hK3, ?_⟩⟩
    have hA3 := Boxed.below' hA hb3 hA.lt
    have hAr3 := own_below hArow hb3
    have hB3 := hBut.below (hb3.mono hWs)
    refine ⟨_, results_tmp rfl _ _ _, rfl, ⟨av, ?_, ownsRow_putObj hAr3 _ hK3 rfl⟩, hB3.below (belowK_b (w := w) (Nat.le_refl _) w3 D _ _ (by simp at hD; omega) hK3 rfl rfl)⟩
    exact hA3.kept (grownBy_putObj' w3 D (.deferred none)) (fun e => by
      cases e
      rw [show w3.heap[bA]? = _ from hA3] at hK3
      cases hK3)
  case stop =>
    rintro D c pre W _ _ h _
    exact h.elim

end Go.Proofs.YtkjjdmdlkdoedaaDoor.SetsNames
