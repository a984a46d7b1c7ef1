/-
  Texts that stand together: SpecGram.
-/
import Derived.Test.YtjblkgephboajaaGreatDoorBagSpecText
import Derived.Test.YtjblkgephboajaaGreatDoorBagSpecRunM
namespace Go.Proofs.YtjblkgephboajaaGreatDoor.SpecMem
open GramLess Go.RowKit Go.Maps Go.WideMaps GramMath GramRow GramOne GramApart GramRoll GramCopy LineMath SpecLn SpecMd SpecTx SpecRun WordsBytes
set_option linter.unusedVariables false
set_option linter.unusedSimpArgs false

theorem madeInts (n : Nat) : madeCells #[.int .i64 0] n = intsA (List.replicate n 0) := by
  apply Array.ext
  · simp [intsA, madeCells]
  · intro i h1 h2
    simp [intsA, madeCells, Nat.mod_one]
theorem irowOf {w : World} {b : Nat} {l : List Int} {t : TypeId} (h : RowAt w b t (intsA l)) : IRow w (some ⟨b, 0, none⟩) l := fun k x hx => by
  refine ⟨b, 0, rfl, ?_⟩
  rw [Nat.zero_add, h.cell (q := k) (v := .int .i64 x) (by unfold intsA; simp [hx])]
theorem fill_set {acc : List Int} {n k : Nat} (h : acc.length = k) (hk : k < n) (x : Int) : (acc ++ List.replicate (n - k) 0).set k x = (acc ++ [x]) ++ List.replicate (n - (k + 1)) 0 := by
  rw [List.set_append_right _ _ (by omega), h, Nat.sub_self]
  rw [show n - k = (n - (k + 1)) + 1 by omega, List.replicate_succ, List.append_assoc]
  rfl
theorem intsSet (l : List Int) (k : Nat) (v : Int) : (intsA l).setIfInBounds k (.int .i64 v) = intsA (l.set k v) := by
  apply Array.toList_inj.1
  unfold intsA
  simp [List.map_set]

theorem Build.far {w : World} {bb base rg j : Nat} {g : G} {nv mv nv2 mv2 brv : Value} {lq : List Q} {C : Array Value} (h : Build w bb base g nv mv nv2 mv2 brv lq) (hr : RowAt w rg 3 C) (hb : base ≤ rg) (hq : ∀ x ∈ lq, ∀ xb, x.a = some ⟨xb, 0, none⟩ → xb ≠ rg) (v : Value) : Build (w.setCell ⟨rg, j, none⟩ v) bb base g nv mv nv2 mv2 brv lq := by
  have hbl := h.t.lt
  have hk : RKeep w (w.setCell ⟨rg, j, none⟩ v) bb 7 (fun k => k = rg) :=
    ⟨rfl, rfl, rfl, by simp, fun k _ _ hn => Below.heap_setCell _ _ _ _ hn, fun o _ _ => World.cell?_of_block (Below.heap_setCell _ _ _ _ (show bb ≠ rg by omega)), fun o => frozen_of_block (Below.heap_setCell _ _ _ _ (show bb ≠ rg by omega)) _⟩
  refine ⟨h.t.keep hk (by decide) (by decide) (by decide) (fun k hk e => h.t.not_row (e ▸ hr) (by decide) hk), h.n.keep hk (by decide) (by decide) (by decide) (fun k hk e => h.n.not_row (e ▸ hr) (by decide) hk), (hk.cell 4 (by decide) (by decide)).trans h.a, (hk.frozen 4).trans h.af, ?_, h.far, by simpa using h.lt⟩
  refine ⟨(hk.cell 5 (by decide) (by decide)).trans h.r.c, (hk.frozen 5).trans h.r.f, own_block h.r.row (fun g hg => Below.heap_setCell _ _ _ _ (show g ≠ rg from fun e => by
    obtain ⟨cur, hc⟩ := own_row h.r.row hg
    exact hc.ne hr (by decide) e)), h.r.map, fun x hx => ?_⟩
  obtain ⟨xb, e1, e2, e3, e4⟩ := h.r.each x hx
  exact ⟨xb, e1, e2, e3, e4.other (hq x hx xb e1) _ _⟩
theorem Build.below {w w' : World} {bb base : Nat} {g : G} {nv mv nv2 mv2 brv : Value} {lq : List Q} (h : Build w bb base g nv mv nv2 mv2 brv lq) (hb : Below w.heap.size w w') : Build w' bb base g nv mv nv2 mv2 brv lq := by
  have hk : RKeep w w' bb 7 (fun _ => False) := RKeep.on hb (by have := h.t.lt; have := h.lt; omega)
  exact ⟨h.t.keep hk (by decide) (by decide) (by decide) (fun _ _ e => e), h.n.keep hk (by decide) (by decide) (by decide) (fun _ _ e => e), (hk.cell 4 (by decide) (by decide)).trans h.a, (hk.frozen 4).trans h.af, h.r.keep hk h.t.lt (by decide) (by decide) (fun _ _ _ _ _ e => e), h.far, Nat.le_trans h.lt hb.size⟩
theorem RdK.far {w : World} {rb bb mb base start rg j : Nat} {nx : Value} {ln : Int} {ns : List ByteArray} {qs : List Qr} {D : DataW Unit} {rv : Value} {C : Array Value} (h : RdK w rb bb mb base nx start ln ns qs D rv) (hr : RowAt w rg 3 C) (hb : base ≤ rg) (v : Value) : RdK (w.setCell ⟨rg, j, none⟩ v) rb bb mb base nx start ln ns qs D rv := by
  have hrl := h.rlt
  have hml := h.mlt
  refine ⟨h.box.other (by omega) _ _, h.own.at (Below.heap_setCell _ _ _ _ (show mb ≠ rg by omega)), h.map, own_block h.rules (fun g hg => Below.heap_setCell _ _ _ _ (show g ≠ rg from fun e => ?_)), fun q hq => own_block (h.each q hq) (fun g hg => Below.heap_setCell _ _ _ _ (show g ≠ rg from fun e => ?_)), h.rlt, h.mlt, h.rbb, h.mbb⟩
  · obtain ⟨cur, hc⟩ := own_row h.rules hg
    exact hc.ne hr (by decide) e
  · obtain ⟨cur, hc⟩ := own_row (h.each q hq) hg
    exact hc.ne hr (by decide) e
theorem RdK.farG {w : World} {rb bb mb base start rg j : Nat} {nx : Value} {ln : Int} {ns : List ByteArray} {qs : List Qr} {D : DataW Unit} {rv : Value} {C : Array Value} (h : RdK w rb bb mb base nx start ln ns qs D rv) (hr : RowAt w rg 25 C) (hb : base ≤ rg) (v : Value) : RdK (w.setCell ⟨rg, j, none⟩ v) rb bb mb base nx start ln ns qs D rv := by
  have hrl := h.rlt
  have hml := h.mlt
  refine ⟨h.box.other (by omega) _ _, h.own.at (Below.heap_setCell _ _ _ _ (show mb ≠ rg by omega)), h.map, own_block h.rules (fun g hg => Below.heap_setCell _ _ _ _ (show g ≠ rg from fun e => ?_)), fun q hq => own_block (h.each q hq) (fun g hg => Below.heap_setCell _ _ _ _ (show g ≠ rg from fun e => ?_)), h.rlt, h.mlt, h.rbb, h.mbb⟩
  · obtain ⟨cur, hc⟩ := own_row h.rules hg
    exact hc.ne hr (by decide) e
  · obtain ⟨cur, hc⟩ := own_row (h.each q hq) hg
    exact hc.ne hr (by decide) e
/-- Written nothing below a number but one block. -/
structure Ch1 (base bb : Nat) (w w' : World) : Prop where
  os : w'.os = w.os
  tape : w'.tape = w.tape
  output : w'.output = w.output
  size : w.heap.size ≤ w'.heap.size
  block : ∀ k, k < base → k ≠ bb → w'.heap[k]? = w.heap[k]?
theorem Ch1.trans {base bb : Nat} {a b c : World} (h : Ch1 base bb a b) (k : Ch1 base bb b c) : Ch1 base bb a c := ⟨k.os.trans h.os, k.tape.trans h.tape, k.output.trans h.output, Nat.le_trans h.size k.size, fun i h1 h2 => (k.block i h1 h2).trans (h.block i h1 h2)⟩
theorem ChgG.one {base bb : Nat} {w w' : World} (h : ChgG base bb w w') : Ch1 base bb w w' := ⟨h.os, h.tape, h.output, h.size, h.block⟩
theorem Ch1.set {base bb rg j : Nat} (w : World) (hb : base ≤ rg) (v : Value) : Ch1 base bb w (w.setCell ⟨rg, j, none⟩ v) := ⟨rfl, rfl, rfl, by simp, fun k hk _ => Below.heap_setCell _ _ _ _ (show k ≠ rg by omega)⟩
theorem Ch1.of_below {base bb : Nat} {w w' : World} (h : Below w.heap.size w w') (hB : base ≤ w.heap.size) : Ch1 base bb w w' := ⟨h.os, h.tape, h.output, h.size, fun k hk _ => h.block k (by omega)⟩
theorem Ch1.below {base bb B : Nat} {w w' : World} (h : Ch1 base bb w w') (h1 : B ≤ bb) (h2 : B ≤ base) : Below B w w' := ⟨h.os, h.tape, h.output, h.size, fun k hk => h.block k (by omega) (by omega)⟩

/-- What asking for the grammar answers. -/
def GraR (p : Nat → Addr) (B : Nat) (g : G) (e : Ending) (w' : World) : Prop :=
  ((checkG g).1 = 0 ∧ ∃ b1 b2 b3 bs, e = .returned (.tuple #[.agg #[.slice (some ⟨b1, 0, none⟩) g.ts.length g.ts.length, .slice (some ⟨b2, 0, none⟩) g.ns.length g.ns.length, .int .i64 g.ax, .slice (some ⟨b3, 0, none⟩) g.rs.length g.rs.length], .nilIface]) ∧ CopyAt w' B b1 b2 b3 bs g)
  ∨ ((checkG g).1 ≠ 0 ∧ ∃ v, e = .returned (.tuple #[.agg #[.slice none 0 0, .slice none 0 0, .int .i64 0, .slice none 0 0], v]) ∧ CkV B p (checkG g) w' v)

set_option maxRecDepth 100000 in
set_option maxHeartbeats 8000000 in
theorem grammar_any (rb bb mb base start : Nat) (nx : Value) (ln : Int) (all : List Sd) (qs : List Qr) (D : DataW Unit) (rv nv mv nv2 mv2 brv : Value) (lq : List Q) (p : Nat → Addr) (w w00 : World) (h : RdK w rb bb mb base nx start ln (ntsZ all []) qs D rv) (hB : Build w bb base ⟨[], ntsZ all [], 0, []⟩ nv mv nv2 mv2 brv lq) (hqs : qs.map (·.s) = all) (hS : Sents w00 p) (hB0 : Below w00.heap.size w00 w) (hbb : w00.heap.size ≤ bb) (hba : w00.heap.size ≤ base)
    (hl : all.length ≤ 100000000) (hsum : sumN all ≤ 100000000) (hfit : ∀ s ∈ all, FitS s ∧ s.names.length ≤ 100000000) :
    Calls Tryz.prog 27 #[.pointer (some ⟨rb, 0, none⟩)] w fun e w' => GraR p w.heap.size (madeZ all) e w' ∧ Ch1 base bb w w' ∧ RdK w' rb bb mb base nx start ln (ntsZ all []) qs D rv := by
  have hmk := madeI_any
  have hnl : (ntsZ all []).length ≤ 1000000000 := by have := nts_small all []; simp at this; omega
  obtain ⟨hok, hm1, hm2, hm3, hm4⟩ := made_ok 100000000 (by omega) hl hsum hfit
  have HOK : Hid (okG (madeZ all) ∧ (madeZ all).ts.length ≤ 100000000 ∧ (madeZ all).ns.length ≤ 100000000 ∧ (madeZ all).rs.length ≤ 100000000 ∧ ∀ r ∈ (madeZ all).rs, r.right.length ≤ 100000000) := ⟨hok, hm1, hm2, hm3, hm4⟩
  have HMZ : Hid (madeZ all = ⟨(rulesZ (ntsZ all []) all [] []).1, ntsZ all [], 0, (rulesZ (ntsZ all []) all [] []).2⟩) := rfl
  generalize ntsZ all [] = ns at *
  obtain ⟨R0, hR0⟩ : ∃ R0, rulesZ ns all [] [] = R0 := ⟨_, rfl⟩
  have HR0 : Hid (_) := hR0
  rw [hR0] at HMZ
  have HQS : Hid (_) := hqs
  have HSUM : Hid (([] : List ByteArray).length + sumN (all.drop 0) ≤ 100000000 ∧ ([] : List R).length ≤ 0) := (show _ ∧ _ from ⟨by rw [List.drop_zero]; simpa using hsum, by simp⟩)
  have HFI : Hid (_) := hfit
  have hql : qs.length ≤ 100000000 := by rw [← hqs, List.length_map] at hl; exact hl
  have hblt := hB.lt
  have hB1 : Below w.heap.size w (w.alloc (.cells #[.slice none 0 0, .slice none 0 0, .int .i64 0, .slice none 0 0] 25)) := (Below.refl _ _).alloc (Nat.le_refl _) _
  have rG1 : RowAt (w.alloc (.cells #[.slice none 0 0, .slice none 0 0, .int .i64 0, .slice none 0 0] 25)) w.heap.size 25 #[.slice none 0 0, .slice none 0 0, .int .i64 0, .slice none 0 0] := World.alloc_heap_new w _
  have hc1 : ChgG base bb w (w.alloc (.cells #[.slice none 0 0, .slice none 0 0, .int .i64 0, .slice none 0 0] 25)) := .of_below hB1 hblt
  have hK1 := h.keep hc1
  have hBu1 := Build.below hB hB1
  obtain ⟨ra, rc, hrv⟩ : ∃ a c, rv = .slice a qs.length c := by
    obtain ⟨_, ⟨rfl, h2⟩ | ⟨g, cap, cur, rfl, _⟩⟩ := h.rules
    · exact ⟨none, 0, by rw [h2]⟩
    · exact ⟨_, _, rfl⟩
  subst hrv
  have r5 := hK1.box.cell (q := 5) rfl
  have hz1 : (w.alloc (.cells #[.slice none 0 0, .slice none 0 0, .int .i64 0, .slice none 0 0] 25)).heap.size = w.heap.size + 1 := by simp
  obtain ⟨W1, hW1⟩ : ∃ W1, W1 = w.alloc (.cells #[.slice none 0 0, .slice none 0 0, .int .i64 0, .slice none 0 0] 25) := ⟨_, rfl⟩
  have HW1 : Hid (W1 = w.alloc (.cells #[.slice none 0 0, .slice none 0 0, .int .i64 0, .slice none 0 0] 25)) := hW1
  rw [← hW1] at rG1 hc1 hK1 hBu1 r5 hz1
  clear h hB hR0 hqs hfit hl hsum hok hm1 hm2 hm3 hm4 hB1 hW1
  go_enter Tryz.func27, Tryz.ntmps27
  go_wp2_with (rw [← HW1.out])
  go_loopw [14] (fun i wr => ∃ (k : Nat) (ts : List ByteArray) (rs : List R) (nv mv brv : Value) (lq : List Q), k ≤ qs.length ∧ i = .int .i64 k ∧ Hid (rulesZ ns (all.drop k) ts rs = R0) ∧ Build wr bb base ⟨ts, ns, 0, rs⟩ nv mv nv2 mv2 brv lq ∧ RdK wr rb bb mb base nx start ln ns qs D (.slice ra qs.length rc) ∧ Ch1 base bb w wr ∧ RowAt wr w.heap.size 25 #[.slice none 0 0, .slice none 0 0, .int .i64 0, .slice none 0 0] ∧ Hid (ts.length + sumN (all.drop k) ≤ 100000000 ∧ rs.length ≤ k)) (fun i _ => qs.length - (intOf i).toNat)
  case atStart => exact ⟨0, [], [], nv, mv, brv, lq, by omega, rfl, HR0, hBu1, hK1, hc1.one, rG1, HSUM⟩
  case round =>
    clear hBu1 hK1 hc1 rG1 r5 hz1
    obtain ⟨k, ts, rs, nv, mv, brv, lq, hk, rfl, hX, hBu, hK, hC, hG, hbd⟩ := hrel
    obtain ⟨V, rfl⟩ : ∃ V, V = wr := ⟨_, rfl⟩
    have hszr := hC.size
    have hbzr := hBu.lt
    by_cases hlt2 : k < qs.length
    · obtain ⟨q, hq⟩ : ∃ q, qs[k]? = some q := ⟨_, List.getElem?_eq_getElem hlt2⟩
      have hqm := List.mem_of_getElem? hq
      have hlt3 : (k : Int) < (qs.length : Int) := by omega
      have hsk : all[k]? = some q.s := by rw [← HQS.out, List.getElem?_map, hq]; rfl
      have hdr : Hid (all.drop k = q.s :: all.drop (k + 1)) := by
        obtain ⟨hk', e⟩ := List.getElem?_eq_some_iff.1 hsk
        show _ = _
        rw [← e]
        exact List.drop_eq_getElem_cons hk'
      obtain ⟨hfs, hfn⟩ := HFI.out q.s (List.mem_of_getElem? hsk)
      obtain ⟨va, vc, hv, _⟩ := WordsBytes.own_shape (hK.each q hqm)
      obtain ⟨gb, gc, hra, hgb, hgl⟩ := hK.rules.form (by omega)
      cases hra
      have hc3 : ∀ j, j < 3 → V.cell? ⟨gb, k * 3 + j, none⟩ = ([Value.int .i64 (idx ns (bt q.s.left)), q.v, .int .i64 (q.s.at_ : Int)] : List Value)[j]? := fun j hj => by
        rw [hK.rules.cellAt _ (by omega)]
        obtain ⟨l1, l2, e1, e2⟩ : ∃ l1 l2, qs = l1 ++ q :: l2 ∧ l1.length = k := by
          obtain ⟨hk', e⟩ := List.getElem?_eq_some_iff.1 hq
          exact ⟨qs.take k, qs.drop (k + 1), by rw [← e, List.getElem_cons_drop, List.take_append_drop], by simp; omega⟩
        rw [e1]
        unfold cellsR
        rw [List.flatMap_append, List.flatMap_cons]
        have h3 : (l1.flatMap (fun q => [Value.int .i64 (idx ns (bt q.s.left)), q.v, .int .i64 (q.s.at_ : Int)])).length = k * 3 := by
          have := cellsR_len ns l1
          unfold cellsR at this
          rw [this, e2]
        rw [List.getElem?_append_right (by omega), h3, Nat.add_sub_cancel_left, List.getElem?_append_left (by simpa using hj)]
      have c0 := hc3 0 (by omega)
      have c1 := hc3 1 (by omega)
      have c2 := hc3 2 (by omega)
      simp only [List.getElem?_cons_zero, List.getElem?_cons_succ, Nat.add_zero] at c0 c1 c2
      rw [hv] at c1
      have Hv : Hid (_) := hv
      have hB2 : Below V.heap.size V (V.alloc (.cells #[.int .i64 (idx ns (bt q.s.left)), .slice va q.s.names.length vc, .int .i64 (q.s.at_ : Int)] 88)) := (Below.refl _ _).alloc (Nat.le_refl _) _
      have hbx2 : RowAt (V.alloc (.cells #[.int .i64 (idx ns (bt q.s.left)), .slice va q.s.names.length vc, .int .i64 (q.s.at_ : Int)] 88)) V.heap.size 88 #[.int .i64 (idx ns (bt q.s.left)), .slice va q.s.names.length vc, .int .i64 (q.s.at_ : Int)] := World.alloc_heap_new V _
      have hz2 : (V.alloc (.cells #[.int .i64 (idx ns (bt q.s.left)), .slice va q.s.names.length vc, .int .i64 (q.s.at_ : Int)] 88)).heap.size = V.heap.size + 1 := by simp
      have hLQ : Hid (∀ x ∈ lq, ∀ xb, x.a = some ⟨xb, 0, none⟩ → xb < V.heap.size) := fun x hx xb e => by
        obtain ⟨xb', e1, _, _, e4⟩ := hBu.r.each x hx
        rw [e1] at e
        cases e
        exact e4.lt
      obtain ⟨W2, hW2⟩ : ∃ W2, W2 = V.alloc (.cells #[.int .i64 (idx ns (bt q.s.left)), .slice va q.s.names.length vc, .int .i64 (q.s.at_ : Int)] 88) := ⟨_, rfl⟩
      have HW2 : Hid (_) := hW2
      rw [← hW2] at hB2 hbx2 hz2
      have x1 := hbx2.cell (q := 1) rfl
      have x0 := hbx2.cell (q := 0) rfl
      have hmkn := hmk q.s.names.length (by omega)
      have hB3 : Below W2.heap.size W2 (W2.alloc (.cells (madeCells #[.int .i64 0] q.s.names.length) 3)) := (Below.refl _ _).alloc (Nat.le_refl _) _
      have hr3 : RowAt (W2.alloc (.cells (madeCells #[.int .i64 0] q.s.names.length) 3)) (V.heap.size + 1) 3 (intsA (List.replicate q.s.names.length 0)) := by
        have := World.alloc_heap_new W2 (.cells (madeCells #[.int .i64 0] q.s.names.length) 3)
        rw [hz2] at this
        rw [← madeInts]
        exact this
      have hB13 : Below V.heap.size V (W2.alloc (.cells (madeCells #[.int .i64 0] q.s.names.length) 3)) := hB2.trans (hB3.mono (by omega))
      have hbx3 := hbx2.below hB3 hbx2.lt
      have hK3 := hK.keep (.of_below hB13 (by omega))
      have hBu3 := Build.below hBu hB13
      have hC3 := hC.trans (.of_below hB13 (by omega))
      have hG3 := hG.below hB13 hG.lt
      have y1 := hbx3.cell (q := 1) rfl
      clear hq hsk hc3 hv hW2
      go_wp2_with (rw [← HW2.out])
      generalize W2.alloc (.cells (madeCells #[.int .i64 0] q.s.names.length) 3) = W3 at *
      clear x1 x0 hB2 hB3 hB13 hbx2 c0 c1 c2 hBu hK hC hG
      go_loopw [25] (fun i W => ∃ (j : Nat) (ts' : List ByteArray) (acc : List Int) (nv mv : Value), j ≤ q.s.names.length ∧ i = .int .i64 j ∧ Hid (namesZ ns (q.s.names.drop j) ts' acc = namesZ ns q.s.names ts []) ∧ Build W bb base ⟨ts', ns, 0, rs⟩ nv mv nv2 mv2 brv lq ∧ RdK W rb bb mb base nx start ln ns qs D (.slice (some ⟨gb, 0, none⟩) qs.length rc) ∧ Ch1 base bb w W ∧ RowAt W w.heap.size 25 #[.slice none 0 0, .slice none 0 0, .int .i64 0, .slice none 0 0] ∧ RowAt W V.heap.size 88 #[.int .i64 (idx ns (bt q.s.left)), .slice va q.s.names.length vc, .int .i64 (q.s.at_ : Int)] ∧ RowAt W (V.heap.size + 1) 3 (intsA (acc ++ List.replicate (q.s.names.length - j) 0)) ∧ Hid (acc.length = j ∧ ts'.length ≤ ts.length + j)) (fun i _ => q.s.names.length - (intOf i).toNat)
      case atStart => exact ⟨0, ts, [], nv, mv, by omega, rfl, (by show _ = _; rw [List.drop_zero]), hBu3, hK3, hC3, hG3, hbx3, (by simpa using hr3), (show _ ∧ _ from ⟨rfl, by omega⟩)⟩
      case round =>
        clear hBu3 hK3 hC3 hG3 hbx3 hr3 y1
        obtain ⟨j, ts', acc, nv, mv, hj, rfl, hX2, hBu, hK, hC, hG, hbx, hrr, hac⟩ := hrel
        obtain ⟨W, rfl⟩ : ∃ W, W = wr := ⟨_, rfl⟩
        have hsz2 := hbx.lt
        have hsz3 := hrr.lt
        by_cases hjl : j < q.s.names.length
        · obtain ⟨x, hx⟩ : ∃ x, q.s.names[j]? = some x := ⟨_, List.getElem?_eq_getElem hjl⟩
          have hxt := hfs.2 x (List.mem_of_getElem? hx)
          have hjl2 : (j : Int) < (q.s.names.length : Int) := by omega
          have hown := hK.each q hqm
          rw [Hv.out] at hown
          obtain ⟨wb, wo, hw0, k1, k2, k3⟩ := WordsBytes.own_wrow hown j x hx
          subst hw0
          have hdr2 : Hid (q.s.names.drop j = x :: q.s.names.drop (j + 1)) := by
            obtain ⟨hk', e⟩ := List.getElem?_eq_some_iff.1 hx
            show _ = _
            rw [← e]
            exact List.drop_eq_getElem_cons hk'
          have hB4 : Below W.heap.size W (W.alloc (.cells #[.string ⟨x.text.toArray⟩, .bool x.quoted, .int .i64 (x.place : Int)] 102)) := (Below.refl _ _).alloc (Nat.le_refl _) _
          have hxb : RowAt (W.alloc (.cells #[.string ⟨x.text.toArray⟩, .bool x.quoted, .int .i64 (x.place : Int)] 102)) W.heap.size 102 #[.string ⟨x.text.toArray⟩, .bool x.quoted, .int .i64 (x.place : Int)] := World.alloc_heap_new W _
          have hgc4 : ChgG base bb W (W.alloc (.cells #[.string ⟨x.text.toArray⟩, .bool x.quoted, .int .i64 (x.place : Int)] 102)) := .of_below hB4 hBu.lt
          have htl := hac.out.2
          have hbq := hbd.out.1
          have hsy := symbol_any rb bb mb base start nx ln ns ts' rs qs D _ nv mv nv2 mv2 brv lq x _ (hK.keep hgc4) (Build.below hBu hB4) (by omega) (by omega) hnl
          have hrr4 := hrr.below hB4 hrr.lt
          have hbx4 := hbx.below hB4 hbx.lt
          have hG4 := hG.below hB4 hG.lt
          have hK4 := hK.keep hgc4
          have hC4 := hC.trans hgc4.one
          clear hx hown hBu hK hC hG hbx hrr hgc4
          go_wp2_with fail
          refine hsy.mono ?_
          rintro e W7 ⟨nv', mv', rfl, hBu7, hc7⟩
          have hrr7 := hc7.row _ _ _ (by omega) (by decide) (by decide) hrr4
          have hbx7 := hc7.row _ _ _ (by omega) (by decide) (by decide) hbx4
          have hG7 := hc7.row _ _ _ (by omega) (by decide) (by decide) hG4
          have hK7 := hK4.keep hc7
          have hC7 := hC4.trans hc7.one
          have hLQ7 : ∀ y ∈ lq, ∀ yb, y.a = some ⟨yb, 0, none⟩ → yb ≠ V.heap.size + 1 := fun y hy yb e => by have := hLQ.out y hy yb e; omega
          have hcell : ∃ u, W7.cell? ⟨V.heap.size + 1, j, none⟩ = some u := ⟨.int .i64 0, hrr7.cell (q := j) (by
            unfold intsA
            have h1 := hac.out.1
            simp only [List.getElem?_toArray, List.getElem?_map]
            rw [List.getElem?_append_right (by omega), h1, Nat.sub_self, List.getElem?_replicate_of_lt (by omega)]
            rfl)⟩
          obtain ⟨u, hu⟩ := hcell
          have hfz := hrr7.frozen j
          have hBu8 := Build.far (j := j) hBu7 hrr7 (by omega) hLQ7 (.int .i64 (symS ns ts' x))
          have hK8 := RdK.far (j := j) hK7 hrr7 (by omega) (.int .i64 (symS ns ts' x))
          have hC8 := hC7.trans (.set (rg := V.heap.size + 1) (j := j) W7 (by omega) (.int .i64 (symS ns ts' x)))
          have hG8 := hG7.other (b' := V.heap.size + 1) (by omega) j (.int .i64 (symS ns ts' x))
          have hbx8 := hbx7.other (b' := V.heap.size + 1) (by omega) j (.int .i64 (symS ns ts' x))
          have hrr8 := hrr7.set j (.int .i64 (symS ns ts' x))
          rw [intsSet, fill_set hac.out.1 hjl] at hrr8
          have hX8 : Hid (namesZ ns (q.s.names.drop (j + 1)) (symT ns ts' x) (acc ++ [symS ns ts' x]) = namesZ ns q.s.names ts []) := by
            show _ = _
            rw [← hX2.out, hdr2.out]
            rfl
          have hac8 : Hid ((acc ++ [symS ns ts' x]).length = j + 1 ∧ (symT ns ts' x).length ≤ ts.length + (j + 1)) := by
            have h1 := symT_more ns ts' x
            have h2 := hac.out.1
            exact ⟨by simp [h2], by omega⟩
          clear hsy hc7 hrr4 hbx4 hG4 hK4 hC4 hrr7 hbx7 hG7 hK7 hC7 hBu7 hB4 hxb hX2 hac hLQ7
          generalize symS ns ts' x = sy at *
          go_wp2
          go_roundw
          case rel => exact ⟨j + 1, _, _, nv', mv', by omega, by go_num, hX8, hBu8, hK8, hC8, hG8, hbx8, hrr8, hac8⟩
          case measure => simp [intOf]; omega
        · obtain rfl : j = q.s.names.length := by omega
          rw [Nat.sub_self, List.replicate_zero, List.append_nil] at hrr
          have hE : Hid (namesZ ns q.s.names ts [] = (ts', acc)) := by
            show _ = _
            rw [← hX2.out, List.drop_of_length_le (Nat.le_refl _)]
            rfl
          have hacl := hac.out.1
          have htl := hac.out.2
          have hbd2 := hbd.out.2
          have hdw := drew_keep W
          have hrl := brule_any bb base ⟨ts', ns, 0, rs⟩ nv mv nv2 mv2 brv lq (idx ns (bt q.s.left)) (some ⟨V.heap.size + 1, 0, none⟩) q.s.names.length acc W.drew (Build.below hBu hdw) (irowOf (hrr.below hdw hrr.lt)) (by omega) (by show rs.length ≤ _; omega)
          rw [hacl] at hrl
          have HBuD : Hid (Build W.drew bb base ⟨ts', ns, 0, rs⟩ nv mv nv2 mv2 brv lq) := Build.below hBu hdw
          have hbxd := hbx.below hdw hbx.lt
          have hKd := hK.keep (.of_below hdw hBu.lt)
          have hCd := hC.trans (.of_below hdw hBu.lt)
          have hGd := hG.below hdw hG.lt
          have hbxK := hKd.box
          have hX9 : Hid (rulesZ ns (all.drop (k + 1)) ts' (rs ++ [⟨idx ns (bt q.s.left), acc⟩]) = R0) := by
            show _ = _
            rw [← hX.out, hdr.out]
            show _ = rulesZ ns (all.drop (k + 1)) (namesZ ns q.s.names ts []).1 (rs ++ [⟨idx ns (bt q.s.left), (namesZ ns q.s.names ts []).2⟩])
            rw [hE.out]
          have hbd9 : Hid (ts'.length + sumN (all.drop (k + 1)) ≤ 100000000 ∧ (rs ++ [(⟨idx ns (bt q.s.left), acc⟩ : R)]).length ≤ k + 1) := by
            have h1 := hbd.out.1
            rw [hdr.out] at h1
            have h2 : sumN (q.s :: all.drop (k + 1)) = q.s.names.length + sumN (all.drop (k + 1)) := rfl
            exact ⟨by omega, by simp; omega⟩
          have hbase : base ≤ W.heap.size := hBu.lt
          clear hX2 hBu hK hC hG hbx hrr hac hX hbd hdw
          go_wp2
          refine wp_region_noPanic ?_
          refine wp_region_held_drew (S := (fun w9 => RowAt w9 rb 85 #[nx, .int .i64 (start : Int), .int .i64 ln, .pointer (some ⟨bb, 0, none⟩), .map (some mb), .slice (some ⟨gb, 0, none⟩) qs.length rc] ∧ RowAt w9 V.heap.size 88 #[.int .i64 (idx ns (bt q.s.left)), .slice va q.s.names.length vc, .int .i64 (q.s.at_ : Int)])) (by kernel_rfl) ⟨hbxK, hbxd⟩ (fun hHeld => ?_)
          generalize W.drew = Wd at *
          replace hHeld : RowAt Wd rb 85 #[nx, .int .i64 (start : Int), .int .i64 ln, .pointer (some ⟨bb, 0, none⟩), .map (some mb), .slice (some ⟨gb, 0, none⟩) qs.length rc] ∧ RowAt Wd V.heap.size 88 #[.int .i64 (idx ns (bt q.s.left)), .slice va q.s.names.length vc, .int .i64 (q.s.at_ : Int)] := ⟨hbxK, hbxd⟩
          refine wpAnyH_take (i := 0) (v := .pointer (some ⟨rb, 0, none⟩)) rfl (by kernel_rfl) (by kernel_rfl) (by kernel_rfl) (fun _ _ _ h => h) (Or.inl ⟨by rfl, fun w9 hSw => ?_⟩) hHeld ?_
          · obtain ⟨s0, s1⟩ := hSw
            go_simp
          simp only [zA, zB, zC, Act.put, zD, zE, zF]
          refine wpAnyH_take (i := 1) (v := .pointer (some ⟨rb, 0, none⟩)) rfl (by kernel_rfl) (by kernel_rfl) (by kernel_rfl) (fun _ _ _ h => h) (Or.inl ⟨by rfl, fun w9 hSw => ?_⟩) hHeld ?_
          · obtain ⟨s0, s1⟩ := hSw
            go_simp
          simp only [zA, zB, zC, Act.put, zD, zE, zF]
          refine wpAnyH_take (i := 2) (v := .pointer (some ⟨rb, 3, none⟩)) rfl (by kernel_rfl) (by kernel_rfl) (by kernel_rfl) (fun _ _ _ h => h) (Or.inl ⟨by rfl, fun w9 hSw => ?_⟩) hHeld ?_
          · obtain ⟨s0, s1⟩ := hSw
            go_simp
          simp only [zA, zB, zC, Act.put, zD, zE, zF]
          refine wpAnyH_take (i := 3) (v := .pointer (some ⟨bb, 0, none⟩)) rfl (by kernel_rfl) (by kernel_rfl) (by kernel_rfl) (fun _ _ _ h => h) (Or.inl ⟨by rfl, fun w9 hSw => ?_⟩) hHeld ?_
          · obtain ⟨s0, s1⟩ := hSw
            go_simp
            (have q := s0.cell (q := 3) rfl; go_simp)
          simp only [zA, zB, zC, Act.put, zD, zE, zF]
          refine wpAnyH_take (i := 4) (v := .pointer (some ⟨V.heap.size, 0, none⟩)) rfl (by kernel_rfl) (by kernel_rfl) (by kernel_rfl) (fun _ _ _ h => h) (Or.inl ⟨by rfl, fun w9 hSw => ?_⟩) hHeld ?_
          · obtain ⟨s0, s1⟩ := hSw
            go_simp
          simp only [zA, zB, zC, Act.put, zD, zE, zF]
          refine wpAnyH_take (i := 5) (v := .int .i64 (idx ns (bt q.s.left))) rfl (by kernel_rfl) (by kernel_rfl) (by kernel_rfl) (fun _ _ _ h => h) (Or.inl ⟨by rfl, fun w9 hSw => ?_⟩) hHeld ?_
          · obtain ⟨s0, s1⟩ := hSw
            go_simp
            (have q := s1.cell (q := 0) rfl; go_simp)
          simp only [zA, zB, zC, Act.put, zD, zE, zF]
          refine wpAnyH_take (i := 6) (v := .slice (some ⟨V.heap.size + 1, 0, none⟩) q.s.names.length q.s.names.length) rfl (by kernel_rfl) (by kernel_rfl) (by kernel_rfl) (fun _ _ _ h => h) (Or.inl ⟨by rfl, fun w9 hSw => ?_⟩) hHeld ?_
          · obtain ⟨s0, s1⟩ := hSw
            go_simp
          simp only [zA, zB, zC, Act.put, zD, zE, zF]
          refine wpAnyH_ready (rs := [7]) (by kernel_rfl) (by simp) ?_
          refine AllReadyH.cons rfl (fun K hK => ?_) AllReadyH.nil
          go_simp
          refine hrl.mono ?_
          rintro e w7 ⟨⟨rv', lq', rfl, hBu7⟩, hk7⟩
          have hc7 := ChgG.rule HBuD.out hk7
          have hK7 := hKd.keep hc7
          have hC7 := hCd.trans hc7.one
          have hG7 := hc7.row _ _ _ (by omega) (by decide) (by decide) hGd
          have hbx7 := hc7.row _ _ _ (by omega) (by decide) (by decide) hbxd
          refine hK.out _ _ ⟨hK7.box, hbx7⟩ (fun hHeld => ?_)
          clear hK K
          refine wpAnyH_done (by kernel_rfl) (NoPanic.normal ?_) _
          clear hrl hk7 hc7 hbxd hKd hCd hGd hbxK
          go_wp2
          go_roundw
          case rel => exact ⟨k + 1, ts', _, nv, mv, rv', lq', by omega, by go_num, hX9, hBu7, hK7, hC7, hG7, hbd9⟩
          case measure => simp [intOf]; omega
    · obtain rfl : k = qs.length := by omega
      have hall : all.length = qs.length := by rw [← HQS.out, List.length_map]
      have hR : Hid (R0 = (ts, rs)) := by
        show _ = _
        rw [← hX.out, List.drop_of_length_le (by omega)]
        rfl
      have hlt3 : ¬ (qs.length : Int) < (qs.length : Int) := by omega
      obtain ⟨g, hg⟩ : ∃ g, madeZ all = g := ⟨_, rfl⟩
      have hgz : g = ⟨ts, ns, 0, rs⟩ := by rw [← hg, HMZ.out, hR.out]
      obtain ⟨o1, o2, o3, o4, o5⟩ := HOK.out
      rw [hg] at o1 o2 o3 o4 o5
      have HG : Hid (madeZ all = g) := hg
      have hBg : Build V bb base g nv mv nv2 mv2 brv lq := by rw [hgz]; exact hBu
      have hgr := bgrammar_any bb base g nv mv nv2 mv2 brv lq p V hBg o1 (hS.below (hB0.trans (hC.below hbb hba)) (Nat.le_refl _)) (by omega) (by omega) (by omega) (fun r hr => by have := o5 r hr; omega)
      have r3 := hK.box.cell (q := 3) rfl
      have g0 := hG.cell (q := 0) rfl
      have g1 := hG.cell (q := 1) rfl
      have g2 := hG.cell (q := 2) rfl
      have g3 := hG.cell (q := 3) rfl
      have f0 := hG.frozen 0
      have f1 := hG.frozen 1
      have f2 := hG.frozen 2
      have f3 := hG.frozen 3
      have hKe := hK
      clear hX hBu hK hbd hgz hBg o1 o2 o3 o4 o5 hR HMZ HOK HR0 hg
      go_wp2_with fail
      refine hgr.mono ?_
      have hzw : w.heap.size ≤ V.heap.size := hszr
      rintro e w9 ⟨⟨hck, b1, b2, b3, bs, rfl, hcp⟩ | ⟨hck, v, rfl, hv⟩, hb9⟩
      · have hG9 := hG.below hb9 hG.lt
        have hC9 := hC.trans (.of_below hb9 hbzr)
        have g0 := hG9.cell (q := 0) rfl
        have g1 := hG9.cell (q := 1) rfl
        have g2 := hG9.cell (q := 2) rfl
        have g3 := hG9.cell (q := 3) rfl
        have f0 := hG9.frozen 0
        have f1 := hG9.frozen 1
        have f2 := hG9.frozen 2
        have f3 := hG9.frozen 3
        have hbw : base ≤ w.heap.size := hblt
        have hCf := (((hC9.trans (.set (rg := w.heap.size) (j := 0) w9 hbw (.slice (some ⟨b1, 0, none⟩) g.ts.length g.ts.length))).trans (.set (rg := w.heap.size) (j := 1) _ hbw (.slice (some ⟨b2, 0, none⟩) g.ns.length g.ns.length))).trans (.set (rg := w.heap.size) (j := 2) _ hbw (.int .i64 g.ax))).trans (.set (rg := w.heap.size) (j := 3) _ hbw (.slice (some ⟨b3, 0, none⟩) g.rs.length g.rs.length))
        have hKw := hKe.keep (.of_below hb9 hbzr)
        have hKf := (((hKw.farG (j := 0) hG9 hbw (.slice (some ⟨b1, 0, none⟩) g.ts.length g.ts.length)).farG (j := 1) (hG9.set 0 _) hbw (.slice (some ⟨b2, 0, none⟩) g.ns.length g.ns.length)).farG (j := 2) ((hG9.set 0 _).set 1 _) hbw (.int .i64 g.ax)).farG (j := 3) (((hG9.set 0 _).set 1 _).set 2 _) hbw (.slice (some ⟨b3, 0, none⟩) g.rs.length g.rs.length)
        have hGf := (((hG9.set 0 (.slice (some ⟨b1, 0, none⟩) g.ts.length g.ts.length)).set 1 (.slice (some ⟨b2, 0, none⟩) g.ns.length g.ns.length)).set 2 (.int .i64 g.ax)).set 3 (.slice (some ⟨b3, 0, none⟩) g.rs.length g.rs.length)
        have hwV : w.heap.size < V.heap.size := hG.lt
        have hcpf := GramRoll.CopyAt.kept hcp (C := w.heap.size) (w' := (((w9.setCell ⟨w.heap.size, 0, none⟩ (.slice (some ⟨b1, 0, none⟩) g.ts.length g.ts.length)).setCell ⟨w.heap.size, 1, none⟩ (.slice (some ⟨b2, 0, none⟩) g.ns.length g.ns.length)).setCell ⟨w.heap.size, 2, none⟩ (.int .i64 g.ax)).setCell ⟨w.heap.size, 3, none⟩ (.slice (some ⟨b3, 0, none⟩) g.rs.length g.rs.length)) (fun i h1 h2 => by
          have hn : i ≠ w.heap.size := by omega
          rw [Below.heap_setCell _ ⟨w.heap.size, 3, none⟩ _ _ hn, Below.heap_setCell _ ⟨w.heap.size, 2, none⟩ _ _ hn, Below.heap_setCell _ ⟨w.heap.size, 1, none⟩ _ _ hn, Below.heap_setCell _ ⟨w.heap.size, 0, none⟩ _ _ hn]) (by simp) (by omega)
        have hE : Hid (GraR p w.heap.size (madeZ all) (.returned (.tuple #[.agg #[.slice (some ⟨b1, 0, none⟩) g.ts.length g.ts.length, .slice (some ⟨b2, 0, none⟩) g.ns.length g.ns.length, .int .i64 g.ax, .slice (some ⟨b3, 0, none⟩) g.rs.length g.rs.length], .nilIface])) ((((w9.setCell ⟨w.heap.size, 0, none⟩ (.slice (some ⟨b1, 0, none⟩) g.ts.length g.ts.length)).setCell ⟨w.heap.size, 1, none⟩ (.slice (some ⟨b2, 0, none⟩) g.ns.length g.ns.length)).setCell ⟨w.heap.size, 2, none⟩ (.int .i64 g.ax)).setCell ⟨w.heap.size, 3, none⟩ (.slice (some ⟨b3, 0, none⟩) g.rs.length g.rs.length))) := by
          show GraR _ _ _ _ _
          rw [HG.out]
          exact .inl ⟨hck, b1, b2, b3, bs, rfl, hcpf⟩
        clear hgr hcp hC9 hG9 hC hG hb9 hS hB0 hcpf hKe hKw
        go_wp2
        generalize ((((w9.setCell ⟨w.heap.size, 0, none⟩ (.slice (some ⟨b1, 0, none⟩) g.ts.length g.ts.length)).setCell ⟨w.heap.size, 1, none⟩ (.slice (some ⟨b2, 0, none⟩) g.ns.length g.ns.length)).setCell ⟨w.heap.size, 2, none⟩ (.int .i64 g.ax)).setCell ⟨w.heap.size, 3, none⟩ (.slice (some ⟨b3, 0, none⟩) g.rs.length g.rs.length)) = Wf at *
        have z0 := hGf.cell (q := 0) rfl
        have z1 := hGf.cell (q := 1) rfl
        have z2 := hGf.cell (q := 2) rfl
        have z3 := hGf.cell (q := 3) rfl
        exact bodyPost_ret (by simp [results, Tryz.results27, go_sem, z0, z1, z2, z3]) rfl ⟨hE.out, hCf, hKf⟩
      · obtain ⟨tv, uv, rfl⟩ : ∃ t u, v = .iface t u := by
          match hq : checkG g, hck, hv with
          | (0, _), hck, _ => exact absurd rfl hck
          | (k + 1, none), _, h => exact ⟨_, _, h⟩
          | (k + 1, some i), _, h =>
            obtain ⟨b, _, e, _⟩ := h
            exact ⟨_, _, e⟩
        have hG9 := hG.below hb9 hG.lt
        have hC9 := hC.trans (.of_below hb9 hbzr)
        have g0 := hG9.cell (q := 0) rfl
        have g1 := hG9.cell (q := 1) rfl
        have g2 := hG9.cell (q := 2) rfl
        have g3 := hG9.cell (q := 3) rfl
        have f0 := hG9.frozen 0
        have f1 := hG9.frozen 1
        have f2 := hG9.frozen 2
        have f3 := hG9.frozen 3
        have hbw : base ≤ w.heap.size := hblt
        have hwV : w.heap.size < V.heap.size := hG.lt
        have hCf := (((hC9.trans (.set (rg := w.heap.size) (j := 0) w9 hbw (.slice none 0 0))).trans (.set (rg := w.heap.size) (j := 1) _ hbw (.slice none 0 0))).trans (.set (rg := w.heap.size) (j := 2) _ hbw (.int .i64 0))).trans (.set (rg := w.heap.size) (j := 3) _ hbw (.slice none 0 0))
        have hKw := hKe.keep (.of_below hb9 hbzr)
        have hKf := (((hKw.farG (j := 0) hG9 hbw (.slice none 0 0)).farG (j := 1) (hG9.set 0 _) hbw (.slice none 0 0)).farG (j := 2) ((hG9.set 0 _).set 1 _) hbw (.int .i64 0)).farG (j := 3) (((hG9.set 0 _).set 1 _).set 2 _) hbw (.slice none 0 0)
        have hGf := (((hG9.set 0 (.slice none 0 0)).set 1 (.slice none 0 0)).set 2 (.int .i64 0)).set 3 (.slice none 0 0)
        have hvf : CkV w.heap.size p (checkG g) ((((w9.setCell ⟨w.heap.size, 0, none⟩ (.slice none 0 0)).setCell ⟨w.heap.size, 1, none⟩ (.slice none 0 0)).setCell ⟨w.heap.size, 2, none⟩ (.int .i64 0)).setCell ⟨w.heap.size, 3, none⟩ (.slice none 0 0)) (.iface tv uv) := by
          have hkeep : ∀ b, V.heap.size ≤ b → ((((w9.setCell ⟨w.heap.size, 0, none⟩ (.slice none 0 0)).setCell ⟨w.heap.size, 1, none⟩ (.slice none 0 0)).setCell ⟨w.heap.size, 2, none⟩ (.int .i64 0)).setCell ⟨w.heap.size, 3, none⟩ (.slice none 0 0)).heap[b]? = w9.heap[b]? := fun b hb => by
            have hn : b ≠ w.heap.size := by omega
            rw [Below.heap_setCell _ ⟨w.heap.size, 3, none⟩ _ _ hn, Below.heap_setCell _ ⟨w.heap.size, 2, none⟩ _ _ hn, Below.heap_setCell _ ⟨w.heap.size, 1, none⟩ _ _ hn, Below.heap_setCell _ ⟨w.heap.size, 0, none⟩ _ _ hn]
          match checkG g, hv with
          | (0, _), h => exact h
          | (k + 1, none), h => exact h
          | (k + 1, some i), h =>
            obtain ⟨b, hb, e, hh⟩ := h
            exact ⟨b, by omega, e, (hkeep b hb).trans hh⟩
        have hE : Hid (GraR p w.heap.size (madeZ all) (.returned (.tuple #[.agg #[.slice none 0 0, .slice none 0 0, .int .i64 0, .slice none 0 0], .iface tv uv])) ((((w9.setCell ⟨w.heap.size, 0, none⟩ (.slice none 0 0)).setCell ⟨w.heap.size, 1, none⟩ (.slice none 0 0)).setCell ⟨w.heap.size, 2, none⟩ (.int .i64 0)).setCell ⟨w.heap.size, 3, none⟩ (.slice none 0 0))) := by
          show GraR _ _ _ _ _
          rw [HG.out]
          exact .inr ⟨hck, _, rfl, hvf⟩
        clear hgr hv hvf hC9 hG9 hC hG hb9 hS hB0 hKe hKw
        go_wp2
        generalize ((((w9.setCell ⟨w.heap.size, 0, none⟩ (.slice none 0 0)).setCell ⟨w.heap.size, 1, none⟩ (.slice none 0 0)).setCell ⟨w.heap.size, 2, none⟩ (.int .i64 0)).setCell ⟨w.heap.size, 3, none⟩ (.slice none 0 0)) = Wf at *
        have z0 := hGf.cell (q := 0) rfl
        have z1 := hGf.cell (q := 1) rfl
        have z2 := hGf.cell (q := 2) rfl
        have z3 := hGf.cell (q := 3) rfl
        exact bodyPost_ret (by simp [results, Tryz.results27, go_sem, z0, z1, z2, z3]) rfl ⟨hE.out, hCf, hKf⟩

end Go.Proofs.YtjblkgephboajaaGreatDoor.SpecMem
