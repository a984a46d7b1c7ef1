/-
  Texts that stand together: SpecBegM, SpecBeg.
-/
import Derived.Test.YtjblkgephboajaaGreatDoorBagGramBuild4
import Derived.Test.YtjblkgephboajaaGreatDoorBSpecNames
namespace Go.Proofs.YtjblkgephboajaaGreatDoor.SpecMem
open Go.RowKit Go.Maps Go.WideMaps GramMath GramRow GramOne GramApart GramRoll GramCopy LineMath SpecLn SpecMd WordsBytes
set_option linter.unusedVariables false
set_option linter.unusedSimpArgs false

theorem step_mapUpdate_own {H : Type} {P : Program} {ops : Array Oper} {o : Oper} {a : Act} {w : World} {K : Act → World → Prop} {Q : Exit → Act → World → Prop} {E : Prop} (hgd : o.guard = none)
    (m x v : Operand) (t : TypeId) (hop : o.op = Op.mapUpdate t m x v)
    (k e : TypeId) (KK : Keyed P k) (ht : P.underlying t = some (.map k e)) (R : Value → Option (DataW H × List MemPlace)) (b n : Nat) (D : DataW H)
    (hm : a.eval m = .map (some b)) (hown : w.ownsMap P k R b n D) (hn : n < maxLen) (key val : Value) (kl : Lit) (hx : a.eval x = key) (hv : a.eval v = val) (hkey : keyOf P k key = some kl)
    (d : DataW H) (ps : List MemPlace) (hval : R val = some (d, ps))
    (h : ∀ w', w'.ownsMap P k R b (n + 1) (D.put kl d) → w.grownBy w' (some b) → K (a.put o.dst undef) w') :
    if Region.wanted o (yielded ops a.tmps) = true then Oper.wp P o a w K Q else E := by
  have hw : Region.wanted o (yielded ops a.tmps) = true := by simp [Region.wanted, hgd]
  rw [if_pos hw]
  obtain ⟨w', hrun, r1, r2⟩ := hown.update KK ht hn hkey hval
  unfold Oper.wp
  simp [execOp, hop, hm, hx, hv, hrun, Result.andThen]
  exact h w' r1 r2

theorem MapOf.again {D : DataW Unit} {ss : List ByteArray} {s : ByteArray} (h : MapOf D ss) (hs : memB s ss = true) : MapOf (D.put (keyL s) (.lit (.int .i64 (idx ss s)))) ss := by
  rcases idx_cases ss s with ⟨_, h3⟩ | ⟨k, e, hk, _, _⟩
  · rw [hs] at h3; cases h3
  refine ⟨put_isMap h.isMap _ _, fun i x hx => ?_, fun x hx => ?_⟩
  · by_cases hxs : x = s
    · subst hxs
      have h1 := (h.hit i x hx).2
      have h2 := (h.hit k x hk).2
      rw [h1] at h2
      have h3 : (i : Int) = (k : Int) := by simpa using h2
      refine ⟨has_put_same h.isMap (key_isKey _) _, ?_⟩
      rw [atKey_put_same h.isMap (key_isKey _), e, h3]
    · have hne : keyL x ≠ keyL s := fun he => hxs (keyL_inj he)
      rw [has_put_other hne, atKey_put_other hne]
      exact h.hit i x hx
  · have hne : keyL x ≠ keyL s := fun he => hx (by rw [keyL_inj he]; exact (memB_iff _ _).1 hs)
    rw [has_put_other hne, atKey_put_other hne]
    exact h.miss x hx
theorem MapOf.told {D : DataW Unit} {ss : List ByteArray} (s : ByteArray) (h : MapOf D ss) : MapOf (D.put (keyL s) (.lit (.int .i64 (numZ ss s)))) (addN ss s) := by
  cases hs : memB s ss with
  | true =>
    rw [add_in hs]
    unfold numZ
    rw [if_pos hs]
    exact MapOf.again h hs
  | false =>
    rw [add_out hs]
    unfold numZ
    rw [if_neg (by rw [hs]; decide)]
    exact MapOf.add h (fun hm => by rw [(memB_iff _ _).2 hm] at hs; cases hs)
theorem cellsR_add (ns : List ByteArray) (s : ByteArray) : ∀ (qs : List Qr), (∀ q ∈ qs, memB (bt q.s.left) ns = true) → cellsR (addN ns s) qs = cellsR ns qs
  | [], _ => rfl
  | q :: qs, h => by
    have := cellsR_add ns s qs (fun p hp => h p (List.mem_cons_of_mem _ hp))
    unfold cellsR at this ⊢
    rw [List.flatMap_cons, List.flatMap_cons, this, idx_add s (h q List.mem_cons_self)]

section
variable {w w1 w3 : World} {rb bb mb base start : Nat} {nx : Value} {ln : Int} {ns : List ByteArray} {qs : List Qr} {D : DataW Unit} {rv nv mv nv' mv' : Value}

/-- What the Builder's call left: all of the reader but the Builder. -/
theorem RdN.after (h : RdN w rb bb mb base nx start ln ns qs D rv nv mv) (hlt : base ≤ w.heap.size) (hk : RKeep w w1 bb 2 (ofRoll nv mv)) :
    (∀ k, k < base → k ≠ bb → w1.heap[k]? = w.heap[k]?) ∧ (∀ b t C, t ≠ 9 → b ≠ bb → RowAt w b t C → RowAt w1 b t C) := by
  refine ⟨fun k hk1 hk2 => hk.block k (by omega) hk2 (fun e => ?_), fun b t C ht hb hr => (hk.block b hr.lt hb (fun e => h.n.not_row hr ht e)).trans hr⟩
  have := (h.n.blocks e).1
  omega

/-- A NONTERMINAL TOLD. -/
theorem RdN.told {s : ByteArray} {n : Nat} (h : RdN w rb bb mb base nx start ln ns qs D rv nv mv) (hlt : base ≤ w.heap.size) (hk : RKeep w w1 bb 2 (ofRoll nv mv)) (hB : Build w1 bb base ⟨[], addN ns s, 0, []⟩ (.slice none 0 0) (.map none) nv' mv' (.slice none 0 0) [])
    (hn : n ≤ start) (hg : ((w1.setCell ⟨rb, 2, none⟩ (.int .i64 (numZ ns s))).drew).grownBy w3 (some mb)) (hown : w3.ownsMap (H := Unit) Tryz.prog 9 (plainElem Tryz.prog 3) mb (n + 1) (D.put (keyL s) (.lit (.int .i64 (numZ ns s))))) :
    RdN w3 rb bb mb base nx start (numZ ns s) (addN ns s) qs (D.put (keyL s) (.lit (.int .i64 (numZ ns s)))) rv nv' mv' ∧ Chg base rb bb mb qs qs w w3 := by
  obtain ⟨a1, a2⟩ := h.after hlt hk
  have hrl := h.rlt
  have hml := h.mlt
  have hbl := h.blt
  have hmr := h.mrb
  have hmb := h.mbb
  have hrb := h.rbb
  have hsz : w1.heap.size ≤ w3.heap.size := by have := hg.size; simpa using this
  have hsz1 := hk.size
  have far : ∀ k, k < w1.heap.size → k ≠ rb → k ≠ mb → w3.heap[k]? = w1.heap[k]? := fun k h1 h2 h3 => (hg.block k (by simpa using h1) (fun e => h3 (by simpa using e))).trans (Below.heap_setCell _ _ _ _ h2)
  have hbs : bb < w1.heap.size := by have := h.bsz; omega
  have rows : ∀ b t C, t ≠ 9 → b ≠ bb → b ≠ rb → RowAt w b t C → RowAt w3 b t C := fun b t C ht hb hr hR => by
    have h1 := a2 b t C ht hb hR
    refine (far b h1.lt hr (fun e => ?_)).trans h1
    exact map_not_row h.own hR e.symm
  have own : ∀ {e : TypeId} {size m : Nat} {v : Value} {xs : List Value}, e ≠ 9 → w.ownsRow base e size v m xs → w3.ownsRow base e size v m xs := fun he ho => own_block ho (fun g hgo => by
    obtain ⟨cur, hr⟩ := own_row ho hgo
    have := (ho.lt g hgo).1
    exact (rows g _ cur he (by omega) (by omega) hr).trans (Eq.symm hr))
  have hbb : w3.heap[bb]? = w1.heap[bb]? := far bb hbs (fun e => hrb e.symm) (fun e => hmb e.symm)
  have hmap : ∀ k, base ≤ k → k < w1.heap.size → w3.heap[k]? = w1.heap[k]? := fun k h1 h2 => far k h2 (by omega) (by omega)
  have hbox : RowAt w3 rb 85 #[nx, .int .i64 (start : Int), .int .i64 (numZ ns s), .pointer (some ⟨bb, 0, none⟩), .map (some mb), rv] := by
    have h1 := a2 rb _ _ (by decide) hrb h.box
    have h2 : RowAt (w1.setCell ⟨rb, 2, none⟩ (.int .i64 (numZ ns s))) rb 85 #[nx, .int .i64 (start : Int), .int .i64 (numZ ns s), .pointer (some ⟨bb, 0, none⟩), .map (some mb), rv] := h1.set 2 _
    have h3 : RowAt (w1.setCell ⟨rb, 2, none⟩ (.int .i64 (numZ ns s))).drew rb 85 #[nx, .int .i64 (start : Int), .int .i64 (numZ ns s), .pointer (some ⟨bb, 0, none⟩), .map (some mb), rv] := h2
    exact h3.grown hg (fun e => hmr (by simpa using e.symm))
  refine ⟨⟨hbox, Roll.at hB.t hbb (fun k h1 h2 _ => hmap k h1 h2), Roll.at hB.n hbb (fun k h1 h2 _ => hmap k h1 h2), (World.cell?_of_block hbb).trans hB.a, (frozen_of_block hbb _).trans hB.af, RulesOf.at hB.r hbb, ⟨n + 1, by omega, hown⟩, MapOf.told s h.map, ?_, fun q hq => own (by decide) (h.each q hq), h.far, fun q hq => mem_add s (h.known q hq), hrl, hml, hrb, hmb⟩, ⟨?_, ?_, ?_, by omega, fun k h1 h2 h3 h4 => (far k (by omega) h2 h4).trans (a1 k h1 h3), fun b t C hb h9 _ _ hr => ?_, fun k hk => .inl hk⟩⟩
  · rw [cellsR_add ns s qs h.known]
    exact own (by decide) h.rules
  · exact hg.os.trans hk.os
  · have := hg.tape
    exact this.trans hk.tape
  · exact hg.output.trans hk.output
  · exact rows b _ C h9 (by omega) (by omega) hr
end

end Go.Proofs.YtjblkgephboajaaGreatDoor.SpecMem

namespace Go.Proofs.YtjblkgephboajaaGreatDoor.SpecMem
open Go.RowKit Go.Maps Go.WideMaps GramMath GramRow GramOne GramApart GramRoll GramCopy LineMath SpecLn SpecMd WordsBytes
set_option linter.unusedVariables false
set_option linter.unusedSimpArgs false

set_option maxRecDepth 100000 in
set_option maxHeartbeats 4000000 in
theorem colon_any (rb bb mb base start : Nat) (nx : Value) (ln : Int) (ns : List ByteArray) (qs : List Qr) (D : DataW Unit) (rv nv mv : Value) (left : List UInt8) (x : Wd) (aS : Addr) (w : World) (h : RdN w rb bb mb base nx start ln ns qs D rv nv mv) (hlt : base ≤ w.heap.size) (hk : Knows ⟨.col, left, qs.map (·.s)⟩ ln ns) (hS : WordsBytes.Sent w 1 aS) (hx : x.text.length ≤ 1048576) (hs : start + x.place + x.text.length ≤ 4611686018427387904) (hq : qs.length ≤ 1073741824) :
    Calls Tryz.prog 100 #[.pointer (some ⟨rb, 0, none⟩), .agg #[.string ⟨x.text.toArray⟩, .bool x.quoted, .int .i64 (x.place : Int)]] w fun e w' => StepR aS rb bb mb base nx start qs (SpecLn.step start ⟨.col, left, qs.map (·.s)⟩ x) w e w' := by
  have hmf := makeFn
  have Hk : Hid (_) := hk
  obtain ⟨W1, hW1⟩ : ∃ W1, W1 = w.alloc (.cells #[.string ⟨x.text.toArray⟩, .bool x.quoted, .int .i64 (x.place : Int)] 102) := ⟨_, rfl⟩
  have hB1 : Below w.heap.size w W1 := by rw [hW1]; exact (Below.refl _ _).alloc (Nat.le_refl _) _
  have hz1 : w.heap.size < W1.heap.size := by rw [hW1]; simp
  have hx1 : RowAt W1 w.heap.size 102 #[.string ⟨x.text.toArray⟩, .bool x.quoted, .int .i64 (x.place : Int)] := by rw [hW1]; exact World.alloc_heap_new w _
  have y0 := hx1.cell (q := 0) rfl
  have y1 := hx1.cell (q := 1) rfl
  have y2 := hx1.cell (q := 2) rfl
  have hW : Hid (W1 = w.alloc (.cells #[.string ⟨x.text.toArray⟩, .bool x.quoted, .int .i64 (x.place : Int)] 102)) := hW1
  clear hk hW1
  have hln : Hid (ln = idx ns (bt left)) := Hk.out.2.1
  have hmem : memB (bt left) ns = true := Hk.out.2.2
  cases hM : mk x 58 with
  | true =>
    have E : Hid (SpecLn.step start ⟨.col, left, qs.map (·.s)⟩ x = .ok (opened start left (qs.map (·.s)) x)) := by
      show _ = _
      unfold SpecLn.step
      simp only [hM, if_true]
    go_enter Tryz.func100, Tryz.ntmps100
    go_wp2_with fail
    rw [← hW.out]
    refine (isMark_b x 58 W1).mono ?_
    rintro e W2 ⟨rfl, hb⟩
    have hB2 : Below w.heap.size w W2 := hB1.trans (hb.mono (by omega))
    have hz2 : w.heap.size < W2.heap.size := Nat.lt_of_lt_of_le hz1 hb.size
    have hx2 := hx1.below hb hx1.lt
    have y0 := hx2.cell (q := 0) rfl
    have y1 := hx2.cell (q := 1) rfl
    have y2 := hx2.cell (q := 2) rfl
    clear hb
    rw [hM]
    have hop := open_any rb bb mb base start nx ln ns qs D rv nv mv left x W2 (h.below hB2) (by omega) hln.out hmem hx hs hq
    go_wp2_with fail
    refine hop.mono ?_
    rintro e W3 ⟨rfl, rv', hR, hC⟩
    have hCf := (Chg.of_below (rb := rb) (bb := bb) (mb := mb) qs hB2 hlt).trans hC
    clear hop hC
    go_wp2
    go_ret
    rw [E.out]
    refine ⟨rfl, ln, ns, _, D, rv', nv, mv, hR, by simp [opened], ?_, hCf⟩
    refine ⟨by simp [opened], ?_, hln.out, hmem⟩
    show ns = ntsZ (qs.map (·.s) ++ [_]) []
    rw [nts_app]
    exact Hk.out.1
  | false =>
    have E : Hid (SpecLn.step start ⟨.col, left, qs.map (·.s)⟩ x = .error x.place) := by
      show _ = _
      unfold SpecLn.step
      simp only [hM, Bool.false_eq_true, if_false]
    go_enter Tryz.func100, Tryz.ntmps100
    go_wp2_with fail
    rw [← hW.out]
    refine (isMark_b x 58 W1).mono ?_
    rintro e W2 ⟨rfl, hb⟩
    have hB2 : Below w.heap.size w W2 := hB1.trans (hb.mono (by omega))
    have hz2 : w.heap.size < W2.heap.size := Nat.lt_of_lt_of_le hz1 hb.size
    have hx2 := hx1.below hb hx1.lt
    have y0 := hx2.cell (q := 0) rfl
    have y1 := hx2.cell (q := 1) rfl
    have y2 := hx2.cell (q := 2) rfl
    clear hb
    rw [hM]
    go_wp2_with fail
    refine (wrongS_b x.place aS W2 (hS.below hB2 (Nat.le_refl _))).mono ?_
    rintro e W3 ⟨⟨b, rfl, hv⟩, hb⟩
    have hB3 : Below w.heap.size w W3 := hB2.trans (hb.mono (by omega))
    have hv2 := ErrAt.weak (B' := w.heap.size) hv (by omega)
    clear hv hb
    go_wp2
    refine ⟨rfl, ?_⟩
    rw [E.out]
    exact ⟨⟨_, rfl, hv2⟩, hB3⟩

set_option maxRecDepth 100000 in
set_option maxHeartbeats 4000000 in
theorem begin_any (rb bb mb base start : Nat) (nx : Value) (ln : Int) (ns : List ByteArray) (qs : List Qr) (D : DataW Unit) (rv nv mv : Value) (left : List UInt8) (x : Wd) (aS : Addr) (w : World) (h : RdN w rb bb mb base nx start ln ns qs D rv nv mv) (hlt : base ≤ w.heap.size) (hk : Knows ⟨.beg, left, qs.map (·.s)⟩ ln ns) (hS : WordsBytes.Sent w 1 aS) (hx : x.text.length ≤ 1048576) (hs : start + x.place + x.text.length ≤ 4611686018427387904) (hq : qs.length ≤ 1073741824) (hn0 : OwnM w mb start D) :
    Calls Tryz.prog 76 #[.pointer (some ⟨rb, 0, none⟩), .agg #[.string ⟨x.text.toArray⟩, .bool x.quoted, .int .i64 (x.place : Int)]] w fun e w' => StepR aS rb bb mb base nx start qs (SpecLn.step start ⟨.beg, left, qs.map (·.s)⟩ x) w e w' := by
  have hmf := makeFn
  have Hk : Hid (_) := hk
  obtain ⟨W1, hW1⟩ : ∃ W1, W1 = w.alloc (.cells #[.string ⟨x.text.toArray⟩, .bool x.quoted, .int .i64 (x.place : Int)] 102) := ⟨_, rfl⟩
  have hB1 : Below w.heap.size w W1 := by rw [hW1]; exact (Below.refl _ _).alloc (Nat.le_refl _) _
  have hz1 : w.heap.size < W1.heap.size := by rw [hW1]; simp
  have hx1 : RowAt W1 w.heap.size 102 #[.string ⟨x.text.toArray⟩, .bool x.quoted, .int .i64 (x.place : Int)] := by rw [hW1]; exact World.alloc_heap_new w _
  have y0 := hx1.cell (q := 0) rfl
  have y1 := hx1.cell (q := 1) rfl
  have y2 := hx1.cell (q := 2) rfl
  have hW : Hid (W1 = w.alloc (.cells #[.string ⟨x.text.toArray⟩, .bool x.quoted, .int .i64 (x.place : Int)] 102)) := hW1
  clear hk hW1
  have hbx1 := (h.below hB1).box.cell (q := 5) rfl
  obtain ⟨ra, rc, hrv⟩ : ∃ a c, rv = .slice a qs.length c := by
    obtain ⟨_, ⟨rfl, h2⟩ | ⟨g, cap, cur, rfl, _⟩⟩ := h.rules
    · exact ⟨none, 0, by rw [h2]⟩
    · exact ⟨_, _, rfl⟩
  rw [hrv] at hbx1
  have Hrv : Hid (_) := hrv
  clear hrv
  cases hE : isEnd x with
  | true =>
    have E : Hid (SpecLn.step start ⟨.beg, left, qs.map (·.s)⟩ x = .ok ⟨.fin, left, qs.map (·.s)⟩) := by
      show _ = _
      unfold SpecLn.step
      simp only [hE, if_true]
    go_enter Tryz.func76, Tryz.ntmps76
    go_wp2_with fail
    rw [← hW.out]
    refine (isEnd_b x W1).mono ?_
    rintro e W2 ⟨rfl, hb⟩
    have hB2 : Below w.heap.size w W2 := hB1.trans (hb.mono (by omega))
    have hz2 : w.heap.size < W2.heap.size := Nat.lt_of_lt_of_le hz1 hb.size
    have hx2 := hx1.below hb hx1.lt
    have y0 := hx2.cell (q := 0) rfl
    have y1 := hx2.cell (q := 1) rfl
    have y2 := hx2.cell (q := 2) rfl
    have hbx2 := (h.below hB2).box.cell (q := 5) rfl
    rw [Hrv.out] at hbx2
    clear hb
    rw [hE]
    have hR := h.below hB2
    have hC : Chg base rb bb mb qs qs w W2 := .of_below _ hB2 hlt
    go_wp2
    go_ret
    rw [E.out]
    exact ⟨rfl, _, _, _, _, _, _, _, hR, rfl, Hk.out, hC⟩
  | false =>
    cases hM : mk x 124 with
    | true =>
      by_cases hqe : qs = []
      · have E : Hid (SpecLn.step start ⟨.beg, left, qs.map (·.s)⟩ x = .error x.place) := by
          show _ = _
          unfold SpecLn.step
          simp only [hE, hM, hqe, List.map_nil, List.isEmpty_nil, Bool.not_true, Bool.and_false, Bool.true_or, if_true, Bool.false_eq_true, if_false]
        have k0 : ¬ (0 : Int) < (qs.length : Int) := by rw [hqe]; simp
        clear hqe
        go_enter Tryz.func76, Tryz.ntmps76
        go_wp2_with fail
        rw [← hW.out]
        refine (isEnd_b x W1).mono ?_
        rintro e W2 ⟨rfl, hb⟩
        have hB2 : Below w.heap.size w W2 := hB1.trans (hb.mono (by omega))
        have hz2 : w.heap.size < W2.heap.size := Nat.lt_of_lt_of_le hz1 hb.size
        have hx2 := hx1.below hb hx1.lt
        have y0 := hx2.cell (q := 0) rfl
        have y1 := hx2.cell (q := 1) rfl
        have y2 := hx2.cell (q := 2) rfl
        have hbx2 := (h.below hB2).box.cell (q := 5) rfl
        rw [Hrv.out] at hbx2
        clear hb
        rw [hE]
        go_wp2_with fail
        refine (isMark_b x 124 W2).mono ?_
        rintro e W3 ⟨rfl, hb⟩
        have hB3 : Below w.heap.size w W3 := hB2.trans (hb.mono (by omega))
        have hz3 : w.heap.size < W3.heap.size := Nat.lt_of_lt_of_le hz2 hb.size
        have hx3 := hx2.below hb hx2.lt
        have y0 := hx3.cell (q := 0) rfl
        have y1 := hx3.cell (q := 1) rfl
        have y2 := hx3.cell (q := 2) rfl
        have hbx3 := (h.below hB3).box.cell (q := 5) rfl
        rw [Hrv.out] at hbx3
        clear hb
        rw [hM]
        go_wp2_with fail
        refine (isMark_b x 124 W3).mono ?_
        rintro e W4 ⟨rfl, hb⟩
        have hB4 : Below w.heap.size w W4 := hB3.trans (hb.mono (by omega))
        have hz4 : w.heap.size < W4.heap.size := Nat.lt_of_lt_of_le hz3 hb.size
        have hx4 := hx3.below hb hx3.lt
        have y0 := hx4.cell (q := 0) rfl
        have y1 := hx4.cell (q := 1) rfl
        have y2 := hx4.cell (q := 2) rfl
        have hbx4 := (h.below hB4).box.cell (q := 5) rfl
        rw [Hrv.out] at hbx4
        clear hb
        rw [hM]
        go_wp2_with fail
        refine (wrongS_b x.place aS W4 (hS.below hB4 (Nat.le_refl _))).mono ?_
        rintro e W5 ⟨⟨b, rfl, hv⟩, hb⟩
        have hB5 : Below w.heap.size w W5 := hB4.trans (hb.mono (by omega))
        have hv2 := ErrAt.weak (B' := w.heap.size) hv (by omega)
        clear hv hb
        go_wp2
        refine ⟨rfl, ?_⟩
        rw [E.out]
        exact ⟨⟨_, rfl, hv2⟩, hB5⟩
      · have E : Hid (SpecLn.step start ⟨.beg, left, qs.map (·.s)⟩ x = .ok (opened start left (qs.map (·.s)) x)) := by
          have hme : (qs.map (·.s)).isEmpty = false := by cases qs with
            | nil => exact absurd rfl hqe
            | cons a l => rfl
          show _ = _
          unfold SpecLn.step
          simp only [hE, hM, hme, Bool.not_false, Bool.and_self, if_true, Bool.false_eq_true, if_false]
        have k0 : (0 : Int) < (qs.length : Int) := by have := List.length_pos_iff.2 hqe; omega
        have hkk := Hk.out.2 (by simpa using hqe)
        have hln : Hid (ln = idx ns (bt left)) := hkk.1
        have hmem : memB (bt left) ns = true := hkk.2
        clear hqe hkk
        go_enter Tryz.func76, Tryz.ntmps76
        go_wp2_with fail
        rw [← hW.out]
        refine (isEnd_b x W1).mono ?_
        rintro e W2 ⟨rfl, hb⟩
        have hB2 : Below w.heap.size w W2 := hB1.trans (hb.mono (by omega))
        have hz2 : w.heap.size < W2.heap.size := Nat.lt_of_lt_of_le hz1 hb.size
        have hx2 := hx1.below hb hx1.lt
        have y0 := hx2.cell (q := 0) rfl
        have y1 := hx2.cell (q := 1) rfl
        have y2 := hx2.cell (q := 2) rfl
        have hbx2 := (h.below hB2).box.cell (q := 5) rfl
        rw [Hrv.out] at hbx2
        clear hb
        rw [hE]
        go_wp2_with fail
        refine (isMark_b x 124 W2).mono ?_
        rintro e W3 ⟨rfl, hb⟩
        have hB3 : Below w.heap.size w W3 := hB2.trans (hb.mono (by omega))
        have hz3 : w.heap.size < W3.heap.size := Nat.lt_of_lt_of_le hz2 hb.size
        have hx3 := hx2.below hb hx2.lt
        have y0 := hx3.cell (q := 0) rfl
        have y1 := hx3.cell (q := 1) rfl
        have y2 := hx3.cell (q := 2) rfl
        have hbx3 := (h.below hB3).box.cell (q := 5) rfl
        rw [Hrv.out] at hbx3
        clear hb
        rw [hM]
        have hop := open_any rb bb mb base start nx ln ns qs D rv nv mv left x W3 (h.below hB3) (by omega) hln.out hmem hx hs hq
        go_wp2_with fail
        refine hop.mono ?_
        rintro e W4 ⟨rfl, rv', hR, hC⟩
        have hCf := (Chg.of_below (rb := rb) (bb := bb) (mb := mb) qs hB3 hlt).trans hC
        clear hop hC
        go_wp2
        go_ret
        rw [E.out]
        refine ⟨rfl, ln, ns, _, D, rv', nv, mv, hR, by simp [opened], ?_, hCf⟩
        refine ⟨by simp [opened], ?_, hln.out, hmem⟩
        show ns = ntsZ (qs.map (·.s) ++ [_]) []
        have hns : ns = ntsZ (qs.map (·.s)) [] := Hk.out.1
        rw [nts_app, ← hns]
        exact (add_in hmem).symm
    | false =>
      have hQQ : x.quoted = true ∨ x.quoted = false := by cases x.quoted <;> simp
      rcases hQQ with hQ | hQ
      · have E : Hid (SpecLn.step start ⟨.beg, left, qs.map (·.s)⟩ x = .error x.place) := by
          show _ = _
          unfold SpecLn.step
          simp only [hE, hM, hQ, Bool.false_and, Bool.false_or, if_true, Bool.false_eq_true, if_false]
        have HQ : Hid (x.quoted = true) := hQ
        clear hQ
        go_enter Tryz.func76, Tryz.ntmps76
        go_wp2_with fail
        rw [← hW.out]
        refine (isEnd_b x W1).mono ?_
        rintro e W2 ⟨rfl, hb⟩
        have hB2 : Below w.heap.size w W2 := hB1.trans (hb.mono (by omega))
        have hz2 : w.heap.size < W2.heap.size := Nat.lt_of_lt_of_le hz1 hb.size
        have hx2 := hx1.below hb hx1.lt
        have y0 := hx2.cell (q := 0) rfl
        have y1 := hx2.cell (q := 1) rfl
        have y2 := hx2.cell (q := 2) rfl
        have hbx2 := (h.below hB2).box.cell (q := 5) rfl
        rw [Hrv.out] at hbx2
        clear hb
        rw [hE]
        go_wp2_with fail
        refine (isMark_b x 124 W2).mono ?_
        rintro e W3 ⟨rfl, hb⟩
        have hB3 : Below w.heap.size w W3 := hB2.trans (hb.mono (by omega))
        have hz3 : w.heap.size < W3.heap.size := Nat.lt_of_lt_of_le hz2 hb.size
        have hx3 := hx2.below hb hx2.lt
        have y0 := hx3.cell (q := 0) rfl
        have y1 := hx3.cell (q := 1) rfl
        have y2 := hx3.cell (q := 2) rfl
        have hbx3 := (h.below hB3).box.cell (q := 5) rfl
        rw [Hrv.out] at hbx3
        clear hb
        rw [hM]
        go_wp2_with fail
        refine (isMark_b x 124 W3).mono ?_
        rintro e W4 ⟨rfl, hb⟩
        have hB4 : Below w.heap.size w W4 := hB3.trans (hb.mono (by omega))
        have hz4 : w.heap.size < W4.heap.size := Nat.lt_of_lt_of_le hz3 hb.size
        have hx4 := hx3.below hb hx3.lt
        have y0 := hx4.cell (q := 0) rfl
        have y1 := hx4.cell (q := 1) rfl
        have y2 := hx4.cell (q := 2) rfl
        have hbx4 := (h.below hB4).box.cell (q := 5) rfl
        rw [Hrv.out] at hbx4
        clear hb
        rw [hM]
        have hqq := HQ.out
        go_wp2_with fail
        refine (wrongS_b x.place aS W4 (hS.below hB4 (Nat.le_refl _))).mono ?_
        rintro e W5 ⟨⟨b, rfl, hv⟩, hb⟩
        have hB5 : Below w.heap.size w W5 := hB4.trans (hb.mono (by omega))
        have hv2 := ErrAt.weak (B' := w.heap.size) hv (by omega)
        clear hv hb
        go_wp2
        refine ⟨rfl, ?_⟩
        rw [E.out]
        exact ⟨⟨_, rfl, hv2⟩, hB5⟩
      · cases hL : lenB x with
        | false =>
          have E : Hid (SpecLn.step start ⟨.beg, left, qs.map (·.s)⟩ x = .error x.place) := by
            show _ = _
            unfold SpecLn.step
            simp only [hE, hM, hQ, hL, Bool.false_and, Bool.or_self, Bool.false_eq_true, if_false]
          have HQ : Hid (x.quoted = false) := hQ
          clear hQ
          go_enter Tryz.func76, Tryz.ntmps76
          go_wp2_with fail
          rw [← hW.out]
          refine (isEnd_b x W1).mono ?_
          rintro e W2 ⟨rfl, hb⟩
          have hB2 : Below w.heap.size w W2 := hB1.trans (hb.mono (by omega))
          have hz2 : w.heap.size < W2.heap.size := Nat.lt_of_lt_of_le hz1 hb.size
          have hx2 := hx1.below hb hx1.lt
          have y0 := hx2.cell (q := 0) rfl
          have y1 := hx2.cell (q := 1) rfl
          have y2 := hx2.cell (q := 2) rfl
          have hbx2 := (h.below hB2).box.cell (q := 5) rfl
          rw [Hrv.out] at hbx2
          clear hb
          rw [hE]
          go_wp2_with fail
          refine (isMark_b x 124 W2).mono ?_
          rintro e W3 ⟨rfl, hb⟩
          have hB3 : Below w.heap.size w W3 := hB2.trans (hb.mono (by omega))
          have hz3 : w.heap.size < W3.heap.size := Nat.lt_of_lt_of_le hz2 hb.size
          have hx3 := hx2.below hb hx2.lt
          have y0 := hx3.cell (q := 0) rfl
          have y1 := hx3.cell (q := 1) rfl
          have y2 := hx3.cell (q := 2) rfl
          have hbx3 := (h.below hB3).box.cell (q := 5) rfl
          rw [Hrv.out] at hbx3
          clear hb
          rw [hM]
          go_wp2_with fail
          refine (isMark_b x 124 W3).mono ?_
          rintro e W4 ⟨rfl, hb⟩
          have hB4 : Below w.heap.size w W4 := hB3.trans (hb.mono (by omega))
          have hz4 : w.heap.size < W4.heap.size := Nat.lt_of_lt_of_le hz3 hb.size
          have hx4 := hx3.below hb hx3.lt
          have y0 := hx4.cell (q := 0) rfl
          have y1 := hx4.cell (q := 1) rfl
          have y2 := hx4.cell (q := 2) rfl
          have hbx4 := (h.below hB4).box.cell (q := 5) rfl
          rw [Hrv.out] at hbx4
          clear hb
          rw [hM]
          have hqq := HQ.out
          have hck := checkName_any x aS W4 (hS.below hB4 (Nat.le_refl _)) hx
          rw [hqq] at hck
          go_wp2_with fail
          refine hck.mono ?_
          clear hqq
          rintro e W5 ⟨(⟨h1, _⟩ | ⟨_, v, rfl, hv⟩), hb⟩
          · rw [hL] at h1; cases h1
          have hB5 : Below w.heap.size w W5 := hB4.trans (hb.mono (by omega))
          have hv2 := ErrAt.weak (B' := w.heap.size) hv (by omega)
          clear hck hv hb
          go_wp2
          refine ⟨rfl, ?_⟩
          rw [E.out]
          exact ⟨⟨_, rfl, hv2⟩, hB5⟩
        | true =>
          have E : Hid (SpecLn.step start ⟨.beg, left, qs.map (·.s)⟩ x = .ok ⟨.col, x.text, qs.map (·.s)⟩) := by
            show _ = _
            unfold SpecLn.step
            simp only [hE, hM, hQ, hL, Bool.false_and, Bool.or_self, Bool.false_eq_true, if_false, if_true]
          have HQ : Hid (x.quoted = false) := hQ
          clear hQ
          have hnsl : ns.length ≤ 1000000000000 := by
            have h1 : ns = ntsZ (qs.map (·.s)) [] := Hk.out.1
            have h2 := nts_len (qs.map (·.s)) []
            rw [← h1] at h2
            simp at h2
            omega
          have hxs : (⟨x.text.toArray⟩ : ByteArray).size ≤ 281474976710656 := by simp [ByteArray.size]; omega
          have hkey : keyOf Tryz.prog 9 (.string ⟨x.text.toArray⟩) = some (keyL ⟨x.text.toArray⟩) := keyOf_string_mk Tryz.underlying9 (by unfold maxLen; omega)
          obtain ⟨n0, hn0s, hn0m⟩ := hn0
          go_enter Tryz.func76, Tryz.ntmps76
          go_wp2_with fail
          rw [← hW.out]
          refine (isEnd_b x W1).mono ?_
          rintro e W2 ⟨rfl, hb⟩
          have hB2 : Below w.heap.size w W2 := hB1.trans (hb.mono (by omega))
          have hz2 : w.heap.size < W2.heap.size := Nat.lt_of_lt_of_le hz1 hb.size
          have hx2 := hx1.below hb hx1.lt
          have y0 := hx2.cell (q := 0) rfl
          have y1 := hx2.cell (q := 1) rfl
          have y2 := hx2.cell (q := 2) rfl
          have hbx2 := (h.below hB2).box.cell (q := 5) rfl
          rw [Hrv.out] at hbx2
          clear hb
          rw [hE]
          go_wp2_with fail
          refine (isMark_b x 124 W2).mono ?_
          rintro e W3 ⟨rfl, hb⟩
          have hB3 : Below w.heap.size w W3 := hB2.trans (hb.mono (by omega))
          have hz3 : w.heap.size < W3.heap.size := Nat.lt_of_lt_of_le hz2 hb.size
          have hx3 := hx2.below hb hx2.lt
          have y0 := hx3.cell (q := 0) rfl
          have y1 := hx3.cell (q := 1) rfl
          have y2 := hx3.cell (q := 2) rfl
          have hbx3 := (h.below hB3).box.cell (q := 5) rfl
          rw [Hrv.out] at hbx3
          clear hb
          rw [hM]
          go_wp2_with fail
          refine (isMark_b x 124 W3).mono ?_
          rintro e W4 ⟨rfl, hb⟩
          have hB4 : Below w.heap.size w W4 := hB3.trans (hb.mono (by omega))
          have hz4 : w.heap.size < W4.heap.size := Nat.lt_of_lt_of_le hz3 hb.size
          have hx4 := hx3.below hb hx3.lt
          have y0 := hx4.cell (q := 0) rfl
          have y1 := hx4.cell (q := 1) rfl
          have y2 := hx4.cell (q := 2) rfl
          have hbx4 := (h.below hB4).box.cell (q := 5) rfl
          rw [Hrv.out] at hbx4
          clear hb
          rw [hM]
          have hqq := HQ.out
          have hck := checkName_any x aS W4 (hS.below hB4 (Nat.le_refl _)) hx
          rw [hqq] at hck
          go_wp2_with fail
          refine hck.mono ?_
          clear hqq
          rintro e W5 ⟨(⟨_, rfl⟩ | ⟨h1, _⟩), hb⟩
          rotate_left
          · rw [hL] at h1; cases h1
          have hB5 : Below w.heap.size w W5 := hB4.trans (hb.mono (by omega))
          have hz5 : w.heap.size < W5.heap.size := Nat.lt_of_lt_of_le hz4 hb.size
          have hx5 := hx4.below hb hx4.lt
          clear hck hb y0 y1 y2
          go_wp2
          obtain ⟨W6, hW6⟩ : ∃ W6, W5.drew = W6 := ⟨_, rfl⟩
          have hB6 : Below w.heap.size w W6 := by rw [← hW6]; exact hB5.drew
          have hx6 : RowAt W6 w.heap.size 102 #[.string ⟨x.text.toArray⟩, .bool x.quoted, .int .i64 (x.place : Int)] := by rw [← hW6]; exact hx5
          have hR6 := h.below hB6
          have hbox6 := hR6.box
          have hz6 : w.heap.size < W6.heap.size := hx6.lt
          have hnt := bnonterm_any bb base ⟨[], ns, 0, []⟩ (.slice none 0 0) (.map none) nv mv (.slice none 0 0) [] ⟨x.text.toArray⟩ W6 (hR6.bld (by omega)) hxs hnsl
          refine wp_region_noPanic ?_
          refine OrdersZ.region_Z (S := (fun w9 => RowAt w9 rb 85 #[nx, .int .i64 (start : Int), .int .i64 ln, .pointer (some ⟨bb, 0, none⟩), .map (some mb), rv] ∧ RowAt w9 w.heap.size 102 #[.string ⟨x.text.toArray⟩, .bool x.quoted, .int .i64 (x.place : Int)])) 10 (by kernel_rfl) (by rw [hW6]; exact ⟨hbox6, hx6⟩) (fun hHeld => ?_)
          rw [hW6]
          replace hHeld : RowAt W6 rb 85 #[nx, .int .i64 (start : Int), .int .i64 ln, .pointer (some ⟨bb, 0, none⟩), .map (some mb), rv] ∧ RowAt W6 w.heap.size 102 #[.string ⟨x.text.toArray⟩, .bool x.quoted, .int .i64 (x.place : Int)] := ⟨hbox6, hx6⟩
          clear hW6
          refine OrdersZ.takeZ (i := 0) (v := .pointer (some ⟨rb, 0, none⟩)) rfl (by kernel_rfl) (by kernel_rfl) (by kernel_rfl) (by kernel_rfl) (by kernel_rfl) (fun _ _ _ h => h) (Or.inl ⟨by rfl, fun w9 hSw => ?_⟩) hHeld ?_
          · obtain ⟨s0, s1⟩ := hSw
            go_simp
          simp only [zA, zB, zC, Act.put, zD, zE, zF]
          refine OrdersZ.takeZ (i := 1) (v := .pointer (some ⟨rb, 0, none⟩)) rfl (by kernel_rfl) (by kernel_rfl) (by kernel_rfl) (by kernel_rfl) (by kernel_rfl) (fun _ _ _ h => h) (Or.inl ⟨by rfl, fun w9 hSw => ?_⟩) hHeld ?_
          · obtain ⟨s0, s1⟩ := hSw
            go_simp
          simp only [zA, zB, zC, Act.put, zD, zE, zF]
          refine OrdersZ.takeZ (i := 2) (v := .pointer (some ⟨rb, 0, none⟩)) rfl (by kernel_rfl) (by kernel_rfl) (by kernel_rfl) (by kernel_rfl) (by kernel_rfl) (fun _ _ _ h => h) (Or.inl ⟨by rfl, fun w9 hSw => ?_⟩) hHeld ?_
          · obtain ⟨s0, s1⟩ := hSw
            go_simp
          simp only [zA, zB, zC, Act.put, zD, zE, zF]
          refine OrdersZ.takeZ (i := 3) (v := .pointer (some ⟨rb, 3, none⟩)) rfl (by kernel_rfl) (by kernel_rfl) (by kernel_rfl) (by kernel_rfl) (by kernel_rfl) (fun _ _ _ h => h) (Or.inl ⟨by rfl, fun w9 hSw => ?_⟩) hHeld ?_
          · obtain ⟨s0, s1⟩ := hSw
            go_simp
          simp only [zA, zB, zC, Act.put, zD, zE, zF]
          refine OrdersZ.takeZ (i := 4) (v := .pointer (some ⟨bb, 0, none⟩)) rfl (by kernel_rfl) (by kernel_rfl) (by kernel_rfl) (by kernel_rfl) (by kernel_rfl) (fun _ _ _ h => h) (Or.inl ⟨by rfl, fun w9 hSw => ?_⟩) hHeld ?_
          · obtain ⟨s0, s1⟩ := hSw
            go_simp
            (have q := s0.cell (q := 3) rfl; go_simp)
          simp only [zA, zB, zC, Act.put, zD, zE, zF]
          refine OrdersZ.takeZ (i := 5) (v := .pointer (some ⟨w.heap.size, 0, none⟩)) rfl (by kernel_rfl) (by kernel_rfl) (by kernel_rfl) (by kernel_rfl) (by kernel_rfl) (fun _ _ _ h => h) (Or.inl ⟨by rfl, fun w9 hSw => ?_⟩) hHeld ?_
          · obtain ⟨s0, s1⟩ := hSw
            go_simp
          simp only [zA, zB, zC, Act.put, zD, zE, zF]
          refine OrdersZ.takeZ (i := 6) (v := .string ⟨x.text.toArray⟩) rfl (by kernel_rfl) (by kernel_rfl) (by kernel_rfl) (by kernel_rfl) (by kernel_rfl) (fun _ _ _ h => h) (Or.inl ⟨by rfl, fun w9 hSw => ?_⟩) hHeld ?_
          · obtain ⟨s0, s1⟩ := hSw
            go_simp
            (have q := s1.cell (q := 0) rfl; go_simp)
          simp only [zA, zB, zC, Act.put, zD, zE, zF]
          refine OrdersZ.readyZ (i := 7) (by kernel_rfl) rfl (fun K hK => ?_)
          go_simp
          refine hnt.mono ?_
          rintro e W7 ⟨⟨nv', mv', rfl, hBld⟩, hKp⟩
          obtain ⟨a1, a2⟩ := hR6.after (by omega) hKp
          have hbox7 := a2 rb _ _ (by decide) hR6.rbb hbox6
          have hx7 := a2 w.heap.size _ _ (by decide) (by have := hR6.blt; omega) hx6
          refine hK.out _ _ ⟨hbox7, hx7⟩ (fun hHeld => ?_)
          clear hK K
          simp only [zA, zB, zC, Act.put, zD, zE, zF]
          refine OrdersZ.readyZ (i := 8) (by kernel_rfl) rfl (fun K hK => ?_)
          go_simp
          refine hK.out _ _ ⟨hbox7, hx7⟩ (fun hHeld => ?_)
          clear hK K
          refine OrdersZ.takeZ (i := 9) (v := .pointer (some ⟨rb, 2, none⟩)) rfl (by kernel_rfl) (by kernel_rfl) (by kernel_rfl) (by kernel_rfl) (by kernel_rfl) (fun _ _ _ h => h) (Or.inl ⟨by rfl, fun w9 hSw => ?_⟩) hHeld ?_
          · obtain ⟨s0, s1⟩ := hSw
            go_simp
          simp only [zA, zB, zC, Act.put, zD, zE, zF]
          have q2 := hbox7.cell (q := 2) rfl
          have f2 := hbox7.frozen 2
          refine OrdersZ.lastZ (by kernel_rfl) rfl (fun K hK => ?_)
          go_simp
          refine hK.out _ _ ?_
          clear hK K
          refine OrdersZ.doneZ (by kernel_rfl) (NoPanic.normal ?_) _
          clear hnt q2 f2 hHeld
          have hmr := hR6.mrb
          have hrw : rb ≠ w.heap.size := by have := hR6.rlt; omega
          have hbox8 : RowAt (W7.setCell ⟨rb, 2, none⟩ (.int .i64 (numZ ns ⟨x.text.toArray⟩))) rb 85 #[nx, .int .i64 (start : Int), .int .i64 (numZ ns ⟨x.text.toArray⟩), .pointer (some ⟨bb, 0, none⟩), .map (some mb), rv] := hbox7.set 2 _
          have hx8 := hx7.other (fun e => hrw e.symm) 2 (.int .i64 (numZ ns ⟨x.text.toArray⟩))
          have hm8 : (W7.setCell ⟨rb, 2, none⟩ (.int .i64 (numZ ns ⟨x.text.toArray⟩))).ownsMap (H := Unit) Tryz.prog 9 (plainElem Tryz.prog 3) mb n0 D :=
            ownsMap_of hn0m ((Below.heap_setCell _ _ _ _ hmr).trans ((a1 mb hR6.mlt hR6.mbb).trans (hB6.block mb (ownsMap_lt hn0m))))
          have HT : Hid (∀ w3, ((W7.setCell ⟨rb, 2, none⟩ (.int .i64 (numZ ns ⟨x.text.toArray⟩))).drew).grownBy w3 (some mb) → w3.ownsMap (H := Unit) Tryz.prog 9 (plainElem Tryz.prog 3) mb (n0 + 1) (D.put (keyL ⟨x.text.toArray⟩) (.lit (.int .i64 (numZ ns ⟨x.text.toArray⟩)))) → _) := fun w3 hg ho => hR6.told (s := ⟨x.text.toArray⟩) (by omega) hKp hBld hn0s hg ho
          have hC6 := Chg.of_below (rb := rb) (bb := bb) (mb := mb) qs hB6 hlt
          have hnum : (Lit.int .i64 (numZ ns ⟨x.text.toArray⟩)).wf = true := WalkArith.wf_i64 (by
            unfold numZ
            rcases idx_cases ns ⟨x.text.toArray⟩ with ⟨h1, h2⟩ | ⟨k, h1, h2, _, h3⟩
            · rw [if_neg (by rw [h2]; decide)]; omega
            · rw [if_pos h3, h1]
              have := (List.getElem?_eq_some_iff.1 h2).1
              omega)
          generalize hnum2 : numZ ns ⟨x.text.toArray⟩ = num at *
          have HNum : Hid (_) := hnum2
          clear hnum2 a1 a2 hbox7 hx7 hKp hBld hR6 hbox6 hx6
          generalize W7.setCell ⟨rb, 2, none⟩ (.int .i64 num) = W8 at *
          go_wp2
          obtain ⟨W9, hW9⟩ : ∃ W9, W8.drew = W9 := ⟨_, rfl⟩
          have hbox9 : RowAt W9 rb 85 #[nx, .int .i64 (start : Int), .int .i64 num, .pointer (some ⟨bb, 0, none⟩), .map (some mb), rv] := by rw [← hW9]; exact hbox8
          have hx9 : RowAt W9 w.heap.size 102 #[.string ⟨x.text.toArray⟩, .bool x.quoted, .int .i64 (x.place : Int)] := by rw [← hW9]; exact hx8
          have hm9 : W9.ownsMap (H := Unit) Tryz.prog 9 (plainElem Tryz.prog 3) mb n0 D := by rw [← hW9]; exact hm8
          refine wp_region_noPanic ?_
          refine OrdersZ.region_Z (S := (fun w9 => RowAt w9 rb 85 #[nx, .int .i64 (start : Int), .int .i64 num, .pointer (some ⟨bb, 0, none⟩), .map (some mb), rv] ∧ RowAt w9 w.heap.size 102 #[.string ⟨x.text.toArray⟩, .bool x.quoted, .int .i64 (x.place : Int)])) 10 (by kernel_rfl) (by rw [hW9]; exact ⟨hbox9, hx9⟩) (fun hHeld => ?_)
          rw [hW9]
          rw [hW9] at HT
          replace hHeld : RowAt W9 rb 85 #[nx, .int .i64 (start : Int), .int .i64 num, .pointer (some ⟨bb, 0, none⟩), .map (some mb), rv] ∧ RowAt W9 w.heap.size 102 #[.string ⟨x.text.toArray⟩, .bool x.quoted, .int .i64 (x.place : Int)] := ⟨hbox9, hx9⟩
          clear hW9
          refine OrdersZ.takeZ (i := 0) (v := .pointer (some ⟨rb, 0, none⟩)) rfl (by kernel_rfl) (by kernel_rfl) (by kernel_rfl) (by kernel_rfl) (by kernel_rfl) (fun _ _ _ h => h) (Or.inl ⟨by rfl, fun w9 hSw => ?_⟩) hHeld ?_
          · obtain ⟨s0, s1⟩ := hSw
            go_simp
          simp only [zA, zB, zC, Act.put, zD, zE, zF]
          refine OrdersZ.takeZ (i := 1) (v := .pointer (some ⟨rb, 0, none⟩)) rfl (by kernel_rfl) (by kernel_rfl) (by kernel_rfl) (by kernel_rfl) (by kernel_rfl) (fun _ _ _ h => h) (Or.inl ⟨by rfl, fun w9 hSw => ?_⟩) hHeld ?_
          · obtain ⟨s0, s1⟩ := hSw
            go_simp
          simp only [zA, zB, zC, Act.put, zD, zE, zF]
          refine OrdersZ.takeZ (i := 2) (v := .pointer (some ⟨rb, 4, none⟩)) rfl (by kernel_rfl) (by kernel_rfl) (by kernel_rfl) (by kernel_rfl) (by kernel_rfl) (fun _ _ _ h => h) (Or.inl ⟨by rfl, fun w9 hSw => ?_⟩) hHeld ?_
          · obtain ⟨s0, s1⟩ := hSw
            go_simp
          simp only [zA, zB, zC, Act.put, zD, zE, zF]
          refine OrdersZ.takeZ (i := 3) (v := .map (some mb)) rfl (by kernel_rfl) (by kernel_rfl) (by kernel_rfl) (by kernel_rfl) (by kernel_rfl) (fun _ _ _ h => h) (Or.inl ⟨by rfl, fun w9 hSw => ?_⟩) hHeld ?_
          · obtain ⟨s0, s1⟩ := hSw
            go_simp
            (have q := s0.cell (q := 4) rfl; go_simp)
          simp only [zA, zB, zC, Act.put, zD, zE, zF]
          refine OrdersZ.takeZ (i := 4) (v := .pointer (some ⟨w.heap.size, 0, none⟩)) rfl (by kernel_rfl) (by kernel_rfl) (by kernel_rfl) (by kernel_rfl) (by kernel_rfl) (fun _ _ _ h => h) (Or.inl ⟨by rfl, fun w9 hSw => ?_⟩) hHeld ?_
          · obtain ⟨s0, s1⟩ := hSw
            go_simp
          simp only [zA, zB, zC, Act.put, zD, zE, zF]
          refine OrdersZ.takeZ (i := 5) (v := .string ⟨x.text.toArray⟩) rfl (by kernel_rfl) (by kernel_rfl) (by kernel_rfl) (by kernel_rfl) (by kernel_rfl) (fun _ _ _ h => h) (Or.inl ⟨by rfl, fun w9 hSw => ?_⟩) hHeld ?_
          · obtain ⟨s0, s1⟩ := hSw
            go_simp
            (have q := s1.cell (q := 0) rfl; go_simp)
          simp only [zA, zB, zC, Act.put, zD, zE, zF]
          refine OrdersZ.takeZ (i := 6) (v := .pointer (some ⟨rb, 0, none⟩)) rfl (by kernel_rfl) (by kernel_rfl) (by kernel_rfl) (by kernel_rfl) (by kernel_rfl) (fun _ _ _ h => h) (Or.inl ⟨by rfl, fun w9 hSw => ?_⟩) hHeld ?_
          · obtain ⟨s0, s1⟩ := hSw
            go_simp
          simp only [zA, zB, zC, Act.put, zD, zE, zF]
          refine OrdersZ.takeZ (i := 7) (v := .pointer (some ⟨rb, 0, none⟩)) rfl (by kernel_rfl) (by kernel_rfl) (by kernel_rfl) (by kernel_rfl) (by kernel_rfl) (fun _ _ _ h => h) (Or.inl ⟨by rfl, fun w9 hSw => ?_⟩) hHeld ?_
          · obtain ⟨s0, s1⟩ := hSw
            go_simp
          simp only [zA, zB, zC, Act.put, zD, zE, zF]
          refine OrdersZ.takeZ (i := 8) (v := .pointer (some ⟨rb, 2, none⟩)) rfl (by kernel_rfl) (by kernel_rfl) (by kernel_rfl) (by kernel_rfl) (by kernel_rfl) (fun _ _ _ h => h) (Or.inl ⟨by rfl, fun w9 hSw => ?_⟩) hHeld ?_
          · obtain ⟨s0, s1⟩ := hSw
            go_simp
          simp only [zA, zB, zC, Act.put, zD, zE, zF]
          refine OrdersZ.takeZ (i := 9) (v := .int .i64 num) rfl (by kernel_rfl) (by kernel_rfl) (by kernel_rfl) (by kernel_rfl) (by kernel_rfl) (fun _ _ _ h => h) (Or.inl ⟨by rfl, fun w9 hSw => ?_⟩) hHeld ?_
          · obtain ⟨s0, s1⟩ := hSw
            go_simp
            (have q := s0.cell (q := 2) rfl; go_simp)
          simp only [zA, zB, zC, Act.put, zD, zE, zF]
          refine OrdersZ.lastZ (by kernel_rfl) rfl (fun K hK => ?_)
          refine step_mapUpdate_own rfl (.tmp 45) (.tmp 47) (.tmp 51) 82 rfl 9 3 keyed Tryz.underlying82 _ mb n0 D (by rfl) hm9 (by unfold maxLen; omega) (.string ⟨x.text.toArray⟩) (.int .i64 num) _ (by rfl) (by rfl) hkey _ [] (plainElem_int Tryz.underlying3 hnum) ?_
          intro w3 hown3 hg3
          obtain ⟨hRf, hCf⟩ := HT.out w3 hg3 hown3
          have hCt := hC6.trans hCf
          refine hK.out _ _ ?_
          clear hK K
          refine OrdersZ.doneZ (by kernel_rfl) (NoPanic.normal ?_) _
          clear HT hown3 hg3 hm9 hx9 hbox9 hC6 hCf hm8 hx8 hbox8 hnum
          go_wp2
          go_ret
          rw [E.out]
          obtain rfl := HNum.out
          refine ⟨rfl, _, _, qs, _, rv, _, _, hRf, rfl, ⟨?_, num_add ns _, add_mem ns _⟩, hCt⟩
          have h1 : ns = ntsZ (qs.map (·.s)) [] := Hk.out.1
          show addN ns _ = addN (ntsZ (qs.map (·.s)) []) _
          rw [← h1]
          rfl

end Go.Proofs.YtjblkgephboajaaGreatDoor.SpecMem
