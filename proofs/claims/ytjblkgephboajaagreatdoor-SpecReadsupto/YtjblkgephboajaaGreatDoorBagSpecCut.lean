/-
  Texts that stand together: SpecCut, LineWds, SpecLn1.
-/
import Derived.Test.YtjblkgephboajaaGreatDoorBagSpecBegM
import Derived.Recover
import Derived.Defers
import Derived.Test.YtjblkgephboajaaGreatDoorBagLineMath
import Derived.Test.YtjblkgephboajaaGreatDoorBagSpecRunM
import Derived.Laws.EntriesVeiled
namespace Go.Proofs.YtjblkgephboajaaGreatDoor.SpecMem
open Go.RowKit Go.Maps Go.WideMaps GramMath GramRow GramOne GramApart GramRoll GramCopy LineMath SpecLn SpecMd WordsBytes
set_option linter.unusedVariables false
set_option linter.unusedSimpArgs false

/-- What cutting a line answers. -/
def CutR (aS : Addr) (l : List UInt8) (R : Except Nat (List Wd)) (w : World) (e : Ending) (w' : World) : Prop :=
  (match R with
  | .error p => ∃ v, e = .panicked [{ v := v, recovered := false }] ∧ ErrAt w.heap.size aS p w' v
  | .ok ws => ∃ g c, e = .returned (.slice (some ⟨g, 0, none⟩) (ws.length + 1) c) ∧ w'.ownsRow w.heap.size 102 3 (.slice (some ⟨g, 0, none⟩) (ws.length + 1) c) (ws.length + 1) (cellsW (ws ++ [SpecTx.endW l]))) ∧ Below w.heap.size w w'

set_option maxRecDepth 100000 in
set_option maxHeartbeats 2000000 in
theorem cut_any (l : List UInt8) (aS : Addr) (w : World) (hl : l.length ≤ 1048576) (hS : WordsBytes.Sent w 1 aS) :
    Calls Tryz.prog 77 #[.string ⟨l.toArray⟩] w fun e w' => CutR aS l (WordsMath.lineL l 0 []) w e w' := by
  obtain ⟨i0, hi, hi0, hi1, hi2⟩ := info_parts infoW
  have hsz : (⟨l.toArray⟩ : ByteArray).size = l.length := by simp [ByteArray.size]
  have hk0 : ¬ (1048576 : Int) < ((⟨l.toArray⟩ : ByteArray).size : Int) := by omega
  have hln := WordsBytes.line_any ⟨l.toArray⟩ (WordsMath.lineL l 0 []) aS w (by omega) hS (by show _ = _; rw [show (⟨l.toArray⟩ : ByteArray).data.toList = l from List.toList_toArray])
  have hneq0 : ∀ W : World, (binOp .neq 27 .nilIface .nilIface).run Tryz.prog W = .ok (.bool false) W := fun W => by kernel_rfl
  cases hR : WordsMath.lineL l 0 [] with
  | error p =>
    rw [hR] at hln
    go_enter Tryz.func77, Tryz.ntmps77
    go_wp2_with fail
    refine hln.mono ?_
    rintro e w1 ⟨⟨v, rfl, hv⟩, hb1⟩
    have hv2 := hv
    obtain ⟨b, hbb, rfl, hblk⟩ := hv
    have hne := fun W => iface_nil 68 (.pointer (some ⟨b, 0, none⟩)) W
    clear hln hblk
    go_wp2
    exact ⟨rfl, ⟨_, rfl, hv2⟩, hb1⟩
  | ok ws =>
    rw [hR] at hln
    have hwl : ws.length ≤ 1048576 := by
      obtain ⟨more, hm, hpw, hpl3⟩ := WordsMath.lineL_ok _ _ _ _ _ (Nat.le_refl _) hR
      rw [List.nil_append] at hm
      subst hm
      have := WordsMath.rise_len ws 0 _ hpw hpl3
      omega
    clear hR
    go_enter Tryz.func77, Tryz.ntmps77
    go_wp2_with fail
    refine hln.mono ?_
    rintro e w1 ⟨⟨v, rfl, hv⟩, hb1⟩
    obtain ⟨a, c, rfl, _⟩ := WordsBytes.own_shape hv
    have hs1 := hb1.size
    have E : Hid ([Value.string ⟨#[]⟩, .bool false, .int .i64 (l.length : Int)] = wv (SpecTx.endW l)) := rfl
    clear hln
    go_wp2_with (at_builtin; refine wpList_append_lies _ rfl _ _ 86 rfl w.heap.size 102 i0 (.agg #[.string ⟨#[]⟩, .bool false, .int .i64 0]) 3 32 Tryz.underlying86 hi hi0 hi1 hi2 rfl (by decide) _ _ _ rfl (hv.alloc _) ⟨w1.heap.size, 0, none⟩ 1 1 [.string ⟨#[]⟩, .bool false, .int .i64 (l.length : Int)] rfl rfl (WordsBytes.cells_new _ #[_, _, _] _) (by simp [Value.oneCell']) (by omega) (by unfold maxLen; omega) (by omega) (by simp; omega) (w1.heap.size + 1) (by simp) ?_; intro g4 c4 w4 hown4 hgrow4 hat4 hlt4; rw [E.out] at hown4)
    have hB4 : Below w.heap.size w w4 := WordsBytes.app3 hb1 hs1 hv hgrow4
    go_ret
    refine ⟨⟨g4, c4, rfl, ?_⟩, hB4⟩
    rw [show cellsW (ws ++ [SpecTx.endW l]) = cellsW ws ++ wv (SpecTx.endW l) by unfold cellsW; rw [List.flatMap_append]; simp]
    exact hown4

theorem asErr (b : Nat) (w : World) : (Instr.typeAssert (.iface 68 (.pointer (some ⟨b, 0, none⟩))) 20 27 false).run Tryz.prog w = .ok (.iface 68 (.pointer (some ⟨b, 0, none⟩))) w := by kernel_rfl
theorem anyNe (b : Nat) (w : World) : (binOp .neq 20 (.iface 68 (.pointer (some ⟨b, 0, none⟩))) .nilIface).run Tryz.prog w = .ok (.bool true) w := by kernel_rfl
theorem anyEq (w : World) : (binOp .neq 20 .nilIface .nilIface).run Tryz.prog w = .ok (.bool false) w := by kernel_rfl

set_option maxHeartbeats 1000000 in
theorem catch_panicking (p : Addr) (b : Nat) (x : Value) (w : World) (hc : w.cell? p = some x) (hz : w.frozen? p = false) :
    CallsD Tryz.prog 75 #[.pointer (some p)] (.panicking ({ v := .iface 68 (.pointer (some ⟨b, 0, none⟩)), recovered := false } :: [])) w fun e u' w' =>
      e = .returned (.tuple #[]) ∧ u' = .panicking ({ v := .iface 68 (.pointer (some ⟨b, 0, none⟩)), recovered := true } :: []) ∧ w' = w.setCell p (.iface 68 (.pointer (some ⟨b, 0, none⟩))) := by
  have h1 := asErr b
  have h2 := anyNe b
  refine callsD_of_wpS Tryz.func75 rfl fun c₀ cs hu => ?_
  apply wpS_seq
  apply wpS_region
  simp [wpOpsS, go_sem, recoverD, hu, Tryz.ntmps75, Exit.thenS]
  apply wpS_seq
  apply wpS_region
  simp [wpOpsS, go_sem, h2, Exit.thenS]
  refine wpS_cond (t := true) (by simp [Act.eval, Array.replicate]) ?_
  simp only [if_true]
  apply wpS_region
  simp [wpOpsS, go_sem, h1, hc, hz, bodyPostS, results, Tryz.results75]

set_option maxHeartbeats 1000000 in
theorem catch_idle (p : Addr) (w : World) :
    CallsD Tryz.prog 75 #[.pointer (some p)] .returning w fun e u' w' => e = .returned (.tuple #[]) ∧ u' = .returning ∧ w' = w := by
  have h2 := anyEq
  refine callsD_of_wpS Tryz.func75 rfl fun c₀ cs hu => ?_
  apply wpS_seq
  apply wpS_region
  simp [wpOpsS, go_sem, recoverD, hu, Tryz.ntmps75, Exit.thenS]
  apply wpS_seq
  apply wpS_region
  simp [wpOpsS, go_sem, h2, Exit.thenS]
  refine wpS_cond (t := false) (by simp [Act.eval, Array.replicate]) ?_
  simp only [Bool.false_eq_true, if_false]
  refine wpS_of_wp (wp_skip ?_)
  cases c₀
  simp_all [bodyPostS, results, Tryz.results75]

end Go.Proofs.YtjblkgephboajaaGreatDoor.SpecMem

namespace Go.Proofs.YtjblkgephboajaaGreatDoor.LineWd
open LineMath
set_option linter.unusedVariables false
set_option linter.unusedSimpArgs false

theorem unq_len (n : Nat) : ∀ (l : List UInt8) (i : Nat) (acc t : List UInt8) (e : Nat), l.length ≤ n → WordsMath.unqL l i acc = .ok (t, e) → t.length ≤ acc.length + l.length := by
  induction n with
  | zero =>
    intro l i acc t e hl h
    obtain rfl : l = [] := List.eq_nil_of_length_eq_zero (by omega)
    rw [WordsMath.unqL_nil] at h
    cases h
  | succ n ih =>
    intro l i acc t e hl h
    cases l with
    | nil => rw [WordsMath.unqL_nil] at h; cases h
    | cons c r =>
      simp only [List.length_cons] at hl ⊢
      by_cases h1 : c.toNat = 34
      · rw [WordsMath.unqL_end h1] at h
        cases h
        omega
      · cases hp : WordsMath.pieceL c r with
        | none => rw [WordsMath.unqL_none h1 hp] at h; cases h
        | some x =>
          obtain ⟨b, k⟩ := x
          rw [WordsMath.unqL_some h1 hp] at h
          have hlen : (r.drop k).length = r.length - k := List.length_drop
          have := ih (r.drop k) _ _ t e (by omega) h
          simp only [List.length_append, List.length_cons, List.length_nil] at this
          omega

theorem line_text (n : Nat) : ∀ (l : List UInt8) (i M : Nat) (out us : List Wd), l.length ≤ n → l.length ≤ M → (∀ x ∈ out, x.text.length ≤ M) → WordsMath.lineL l i out = .ok us → ∀ x ∈ us, x.text.length ≤ M := by
  induction n with
  | zero =>
    intro l i M out us hl hM ho h
    obtain rfl : l = [] := List.eq_nil_of_length_eq_zero (by omega)
    rw [WordsMath.lineL_nil] at h
    cases h
    exact ho
  | succ n ih =>
    intro l i M out us hl hM ho h
    cases l with
    | nil =>
      rw [WordsMath.lineL_nil] at h
      cases h
      exact ho
    | cons c r =>
      simp only [List.length_cons] at hl hM
      have step : ∀ (k e : Nat) (x : Wd), k ≤ r.length → x.text.length ≤ M → WordsMath.lineL (r.drop k) e (out ++ [x]) = .ok us → ∀ x ∈ us, x.text.length ≤ M := by
        intro k e x hk hx h2
        have hlen : (r.drop k).length = r.length - k := List.length_drop
        refine ih (r.drop k) e M (out ++ [x]) us (by omega) (by omega) (fun y hy => ?_) h2
        rcases List.mem_append.1 hy with hy | hy
        · exact ho y hy
        · rw [List.mem_singleton.1 hy]; exact hx
      rcases WordsMath.lineL_ways c r i out with ⟨_, w⟩ | ⟨_, w⟩ | ⟨_, p, _, w⟩ | ⟨_, t, e, hu, w⟩ | ⟨_, _, _, w⟩ | ⟨k, _, w⟩
      · rw [w] at h
        exact ih r (i + 1) M out us (by omega) (by omega) ho h
      · rw [w] at h
        cases h
        exact ho
      · rw [w] at h; cases h
      · rw [w] at h
        have hb := WordsMath.unqE_bound.1 _ _ hu
        have ht := unq_len r.length r _ _ _ _ (Nat.le_refl _) (WordsMath.unqE_ok hu).1
        simp only [List.length_nil] at ht
        exact step (e - (i + 1)) e _ (by omega) (by show t.length ≤ M; omega) h
      · rw [w] at h
        have hpl := WordsMath.plainLen_le r
        exact step (WordsMath.plainLen r) _ _ hpl (by simp; omega) h
      · rw [w] at h; cases h

end Go.Proofs.YtjblkgephboajaaGreatDoor.LineWd

namespace Go.Proofs.YtjblkgephboajaaGreatDoor.SpecMem
open Go.RowKit Go.Maps Go.WideMaps GramMath GramRow GramOne GramApart GramRoll GramCopy LineMath SpecLn SpecMd WordsBytes
set_option linter.unusedVariables false
set_option linter.unusedSimpArgs false

/-- The number of a state's function. -/
def fnOf : St → Nat
  | .beg => 76
  | .col => 100
  | .nam => 108
  | .fin => 0
theorem stV_fn (rb : Nat) {st : St} (h : st ≠ .fin) : stV rb st = .func (.func (fnOf st)) #[.pointer (some ⟨rb, 0, none⟩)] #[] := by
  cases st <;> first | rfl | exact absurd rfl h
theorem enter_fn {st : St} (h : st ≠ .fin) : ∀ args w, (callFunc (fnOf st) args).run Tryz.prog w = .ok (.enter (fnOf st) args) w := by
  cases st
  · exact enters_of Tryz.func76 (by kernel_rfl) rfl
  · exact enters_of Tryz.func100 (by kernel_rfl) rfl
  · exact enters_of Tryz.func108 (by kernel_rfl) rfl
  · exact absurd rfl h

theorem next_any (st : St) (hst : st ≠ .fin) (rb bb mb base start : Nat) (nx : Value) (ln : Int) (ns : List ByteArray) (qs : List Qr) (D : DataW Unit) (rv nv mv : Value) (left : List UInt8) (x : Wd) (aS : Addr) (w : World) (h : RdN w rb bb mb base nx start ln ns qs D rv nv mv) (hlt : base ≤ w.heap.size) (hk : Knows ⟨st, left, qs.map (·.s)⟩ ln ns) (hS : WordsBytes.Sent w 1 aS) (hx : x.text.length ≤ 1048576) (hs : start + x.place + x.text.length ≤ 4611686018427387904) (hq : qs.length ≤ 1073741824) (hnm : ∀ q ∈ qs, q.s.names.length ≤ 1073741824) (hn0 : st = .beg → OwnM w mb start D) :
    Calls Tryz.prog (fnOf st) #[.pointer (some ⟨rb, 0, none⟩), .agg #[.string ⟨x.text.toArray⟩, .bool x.quoted, .int .i64 (x.place : Int)]] w fun e w' => StepR aS rb bb mb base nx start qs (SpecLn.step start ⟨st, left, qs.map (·.s)⟩ x) w e w' := by
  cases st
  · exact begin_any rb bb mb base start nx ln ns qs D rv nv mv left x aS w h hlt hk hS hx hs hq (hn0 rfl)
  · exact colon_any rb bb mb base start nx ln ns qs D rv nv mv left x aS w h hlt hk hS hx hs hq
  · exact names_any rb bb mb base start nx ln ns qs D rv nv mv left x aS w h hlt hk hS hx hs hq hnm
  · exact absurd rfl hst

section
variable {w w' : World} {rb bb mb base start : Nat} {nx : Value} {ln : Int} {ns : List ByteArray} {qs : List Qr} {D : DataW Unit} {rv nv mv : Value}
theorem RdN.box_set (h : RdN w rb bb mb base nx start ln ns qs D rv nv mv) (q : Nat) (v : Value) (nx' : Value) (start' : Nat) (hst : start ≤ start') (hb : RowAt (w.setCell ⟨rb, q, none⟩ v) rb 85 #[nx', .int .i64 (start' : Int), .int .i64 ln, .pointer (some ⟨bb, 0, none⟩), .map (some mb), rv]) :
    RdN (w.setCell ⟨rb, q, none⟩ v) rb bb mb base nx' start' ln ns qs D rv nv mv ∧ Chg base rb bb mb qs qs w (w.setCell ⟨rb, q, none⟩ v) := by
  have far : ∀ k, k ≠ rb → (w.setCell ⟨rb, q, none⟩ v).heap[k]? = w.heap[k]? := fun k hk => Below.heap_setCell _ _ _ _ hk
  have hrl := h.rlt
  obtain ⟨e1, e2, e3, e4, e5, e6⟩ := h.heads (w' := w.setCell ⟨rb, q, none⟩ v) (fun k hk hc => by
    rcases hc with rfl | rfl | ⟨h1, h2⟩
    · exact far _ (fun e => h.rbb e.symm)
    · exact far _ h.mrb
    · exact far k (by omega))
  exact ⟨⟨hb, e1, e2, e3, e4, e5, e6.mono (by omega), h.map, own_block h.rules (fun g hg => far g (by have := (h.rules.lt g hg).1; omega)), fun p hp => own_block (h.each p hp) (fun g hg => far g (by have := ((h.each p hp).lt g hg).1; omega)), h.far, h.known, h.rlt, h.mlt, h.rbb, h.mbb⟩,
    ⟨rfl, rfl, rfl, by simp, fun k _ hk _ _ => far k hk, fun b t C hb _ _ _ hr => (far b (by omega)).trans hr, fun k hk => .inl hk⟩⟩
theorem RdN.next (h : RdN w rb bb mb base nx start ln ns qs D rv nv mv) (v : Value) : RdN (w.setCell ⟨rb, 0, none⟩ v) rb bb mb base v start ln ns qs D rv nv mv ∧ Chg base rb bb mb qs qs w (w.setCell ⟨rb, 0, none⟩ v) :=
  h.box_set 0 v v start (Nat.le_refl _) (h.box.set 0 v)
theorem RdN.starts (h : RdN w rb bb mb base nx start ln ns qs D rv nv mv) (st' : Nat) (hle : start ≤ st') : RdN (w.setCell ⟨rb, 1, none⟩ (.int .i64 (st' : Int))) rb bb mb base nx st' ln ns qs D rv nv mv ∧ Chg base rb bb mb qs qs w (w.setCell ⟨rb, 1, none⟩ (.int .i64 (st' : Int))) :=
  h.box_set 1 _ nx st' hle (h.box.set 1 _)
/-- A cell of a block of another kind put. -/
theorem RdN.typed_set (h : RdN w rb bb mb base nx start ln ns qs D rv nv mv) {eb : Nat} {t : TypeId} {C : Array Value} (hr : RowAt w eb t C) (hb : base ≤ eb) (h9 : t ≠ 9) (ht : t ≠ 88) (hw : t ≠ 102) (q : Nat) (v : Value) : RdN (w.setCell ⟨eb, q, none⟩ v) rb bb mb base nx start ln ns qs D rv nv mv := by
  have far : ∀ k, k ≠ eb → (w.setCell ⟨eb, q, none⟩ v).heap[k]? = w.heap[k]? := fun k hk => Below.heap_setCell _ _ _ _ hk
  have hrl := h.rlt
  have hml := h.mlt
  have hbl := h.blt
  obtain ⟨e1, e2, e3, e4, e5, e6⟩ := h.heads (w' := w.setCell ⟨eb, q, none⟩ v) (fun k hk hc => by
    rcases hc with rfl | rfl | ⟨h1, h2⟩
    · exact far _ (by omega)
    · exact far _ (by omega)
    · exact far k (fun e => h.n.not_row (e ▸ hr) h9 h2))
  exact ⟨h.box.other (by omega) _ _, e1, e2, e3, e4, e5, e6, h.map, own_block h.rules (fun g hg => far g (fun e => by
    obtain ⟨cur, hc⟩ := own_row h.rules hg
    exact hc.ne hr (fun e => ht e.symm) e)), fun p hp => own_block (h.each p hp) (fun g hg => far g (fun e => by
    obtain ⟨cur, hc⟩ := own_row (h.each p hp) hg
    exact hc.ne hr (fun e => hw e.symm) e)), h.far, h.known, h.rlt, h.mlt, h.rbb, h.mbb⟩
end
/-- What a call writes of what was there: below a number but three blocks. -/
structure ChgB (base rb bb mb : Nat) (w w' : World) : Prop where
  os : w'.os = w.os
  tape : w'.tape = w.tape
  output : w'.output = w.output
  size : w.heap.size ≤ w'.heap.size
  block : ∀ k, k < base → k ≠ rb → k ≠ bb → k ≠ mb → w'.heap[k]? = w.heap[k]?
theorem Chg.b {base rb bb mb : Nat} {qs qs' : List Qr} {w w' : World} (h : Chg base rb bb mb qs qs' w w') : ChgB base rb bb mb w w' := ⟨h.os, h.tape, h.output, h.size, h.block⟩
theorem ChgB.trans {base rb bb mb : Nat} {a b c : World} (h : ChgB base rb bb mb a b) (k : ChgB base rb bb mb b c) : ChgB base rb bb mb a c :=
  ⟨k.os.trans h.os, k.tape.trans h.tape, k.output.trans h.output, Nat.le_trans h.size k.size, fun i h1 h2 h3 h4 => (k.block i h1 h2 h3 h4).trans (h.block i h1 h2 h3 h4)⟩
theorem ChgB.set {base rb bb mb b q : Nat} (w : World) (hb : base ≤ b) (v : Value) : ChgB base rb bb mb w (w.setCell ⟨b, q, none⟩ v) := ⟨rfl, rfl, rfl, by simp, fun k hk _ _ _ => Below.heap_setCell _ _ _ _ (show k ≠ b by omega)⟩
theorem ChgB.below {base rb bb mb B : Nat} {w w' : World} (h : ChgB base rb bb mb w w') (h1 : B ≤ rb) (h2 : B ≤ bb) (h3 : B ≤ mb) (h4 : B ≤ base) : Below B w w' := ⟨h.os, h.tape, h.output, h.size, fun k hk => h.block k (by omega) (by omega) (by omega) (by omega)⟩
theorem ChgB.of_below {base rb bb mb : Nat} {w w' : World} (h : Below w.heap.size w w') (hB : base ≤ w.heap.size) : ChgB base rb bb mb w w' := ⟨h.os, h.tape, h.output, h.size, fun k hk _ _ _ => h.block k (by omega)⟩

/-- A line's words by the states, its end's word the last. -/
def lineP (start : Nat) (l : List UInt8) (p : PS) : Except Nat PS :=
  match WordsMath.lineL l 0 [] with
  | .error q => .error q
  | .ok ws => run start (ws ++ [SpecTx.endW l]) p
/-- What reading a line answers. -/
def LnR (aS : Addr) (rb bb mb base start : Nat) (qs : List Qr) (z : Except Nat PS) (w : World) (e : Ending) (w' : World) : Prop :=
  (match z with
  | .error p => ∃ v, e = .returned v ∧ ErrAt w.heap.size aS p w' v
  | .ok p' => e = .returned .nilIface ∧ p'.st = .fin) ∧
  ∃ p' nx' ln' ns' qs' D' rv' nv' mv', RdN w' rb bb mb base nx' start ln' ns' qs' D' rv' nv' mv' ∧ ChgB base rb bb mb w w' ∧ (∀ p2, z = .ok p2 → p' = p2 ∧ qs'.map (·.s) = p2.rs ∧ Knows p2 ln' ns')

/-- What a state's panic says. -/
def PanR (aS : Addr) (start : Nat) (p : PS) (x : Wd) (W5 : World) (c : List PanicEntry) (w6 : World) : Prop := ∃ v q, c = [{ v := v, recovered := false }] ∧ SpecLn.step start p x = .error q ∧ ErrAt W5.heap.size aS q w6 v ∧ Below W5.heap.size W5 w6
/-- Behind a region of which one operation may panic: what the panic's way needs. -/
def PanQ (R : List PanicEntry → World → Prop) (D : List Deferred) (T : Option Value) (Q : Exit → Act → World → Prop) : Exit → Act → World → Prop
  | .panic c, a, w => R c w ∧ a.defers = D ∧ a.tmps[4]? = T
  | e, a, w => Q e a w
theorem wp_region_pan {P : Program} {R : List PanicEntry → World → Prop} {D : List Deferred} {T : Option Value} {Q : Exit → Act → World → Prop} {id : Nat} {ops : Array Oper} {b : Bool} {a : Act} {w : World}
    (hQ : ∀ c a w, R c w → a.defers = D → a.tmps[4]? = T → Q (.panic c) a w) (h : (Code.region id ops b).wp P (PanQ R D T Q) a w) : (Code.region id ops b).wp P Q a w :=
  Code.wp_mono (fun e a w h => by
    cases e with
    | panic c => exact hQ c a w h.1 h.2.1 h.2.2
    | _ => exact h) h
theorem panQ_put {R : List PanicEntry → World → Prop} {D : List Deferred} {T : Option Value} {Q : Exit → Act → World → Prop} {d : Nat} {v : Value} (hd : d ≠ 4) : ∀ c a w, PanQ R D T Q (.panic c) (a.put (some d) v) w → PanQ R D T Q (.panic c) a w := fun c a w ⟨h1, h2, h3⟩ =>
  ⟨h1, h2, by
    rw [← h3]
    simp only [Act.put]
    rw [Array.getElem?_setIfInBounds_ne hd]⟩

theorem step_store_one {P : Program} {ops : Array Oper} {o : Oper} {a : Act} {w : World} {K : Act → World → Prop} {Q : Exit → Act → World → Prop} {E : Prop} (hgd : o.guard = none) (t : TypeId) (x y : Operand) (ho : o.op = .store t x y)
    (ad : Addr) (v old : Value) (hx : a.eval x = .pointer (some ad)) (hv : a.eval y = v) (hone : (∃ fn fi cap, v = .func fn fi cap) ∨ v = .nilFunc) (hsz : ∀ w, (sizeOf t).run P w = .ok 1 w) (hc : w.cell? ad = some old) (hf : w.frozen? ad = false) (h : K (a.put o.dst undef) (w.setCell ad v)) :
    if Region.wanted o (yielded ops a.tmps) = true then Oper.wp P o a w K Q else E := by
  have hw : Region.wanted o (yielded ops a.tmps) = true := by simp [Region.wanted, hgd]
  rw [if_pos hw]
  generalize hae : a.eval = ev at hx hv
  have hrun : (execOp ev o).run P w = .ok .skip (w.setCell ad v) := by
    unfold execOp
    rw [ho]
    simp only [hx, hv]
    rcases hone with ⟨fn, fi, cap, rfl⟩ | rfl
    · simp [hsz, hc, hf, go_sem, Result.andThen]
    · simp [hsz, hc, hf, go_sem, Result.andThen]
  unfold Oper.wp
  rw [hae, hrun]
  exact h

attribute [local go_sem] Oper.semAt_some

set_option maxRecDepth 100000 in
set_option maxHeartbeats 4000000 in
theorem readLine_any (rb bb mb base start : Nat) (nx : Value) (ln : Int) (ns : List ByteArray) (qs : List Qr) (D : DataW Unit) (rv nv mv : Value) (left : List UInt8) (l : List UInt8) (aS : Addr) (w w00 : World) (h : RdN w rb bb mb base nx start ln ns qs D rv nv mv) (hlt : base ≤ w.heap.size) (hk : Knows ⟨.beg, left, qs.map (·.s)⟩ ln ns) (hS0 : WordsBytes.Sent w00 1 aS) (hB00 : Below w00.heap.size w00 w) (hr0 : w00.heap.size ≤ rb) (hb0 : w00.heap.size ≤ bb) (hm0 : w00.heap.size ≤ mb) (hba : w00.heap.size ≤ base) (hl : l.length ≤ 1048576) (hs : start ≤ 16777216) (hq : qs.length ≤ 16777216) (hnm : ∀ q ∈ qs, q.s.names.length ≤ 16777216) (hn0 : OwnM w mb start D) :
    Calls Tryz.prog 44 #[.pointer (some ⟨rb, 0, none⟩), .string ⟨l.toArray⟩] w fun e w' => LnR aS rb bb mb base start qs (lineP start l ⟨.beg, left, qs.map (·.s)⟩) w e w' := by
  have hmf := makeFn
  obtain ⟨W1, hW1⟩ : ∃ W1, W1 = w.alloc (.cells #[.nilIface] 27) := ⟨_, rfl⟩
  have hB1 : Below w.heap.size w W1 := by rw [hW1]; exact (Below.refl _ _).alloc (Nat.le_refl _) _
  have hz1 : W1.heap.size = w.heap.size + 1 := by rw [hW1]; simp
  have he1 : RowAt W1 w.heap.size 27 #[.nilIface] := by rw [hW1]; exact World.alloc_heap_new w _
  have hR1 := h.below hB1
  obtain ⟨hR2, hC2⟩ := hR1.next (stV rb .beg)
  have hrl := h.rlt
  have he2 := he1.other (b' := rb) (by omega) 0 (stV rb .beg)
  have b0 := hR1.box.cell (q := 0) rfl
  have f0 := hR1.box.frozen 0
  have hC12 := (Chg.of_below (rb := rb) (bb := bb) (mb := mb) qs hB1 hlt).trans hC2
  have hz2 : (W1.setCell ⟨rb, 0, none⟩ (stV rb .beg)).heap.size = w.heap.size + 1 := by simp [hz1]
  have hn2 : OwnM (W1.setCell ⟨rb, 0, none⟩ (stV rb .beg)) mb start D := hn0.at ((Below.heap_setCell _ _ _ _ h.mrb).trans (hB1.block mb hn0.lt))
  have hsent : ∀ W qs', Chg base rb bb mb qs qs' w W → WordsBytes.Sent W 1 aS := fun W qs' hC => (hS0.below (hB00.trans (hC.below hr0 hb0 hm0 hba)) (Nat.le_refl _))
  have hcut := cut_any l aS _ hl (hsent _ _ hC12)
  obtain ⟨W2, hW2⟩ : ∃ W2, W2 = W1.setCell ⟨rb, 0, none⟩ (stV rb .beg) := ⟨_, rfl⟩
  have HW2 : Hid (W2 = W1.setCell ⟨rb, 0, none⟩ (.func (.func 76) #[.pointer (some ⟨rb, 0, none⟩)] #[])) := hW2
  have HW1 : Hid (W1 = w.alloc (.cells #[.nilIface] 27)) := hW1
  rw [← hW2] at hR2 he2 hC12 hz2 hn2 hcut
  clear hW2 hW1 hC2 hR1 he1 hB1
  go_enter_defers Tryz.func44, Tryz.ntmps44
  go_wp2_with (first | rw [← HW1.out] | rw [← HW2.out])
  refine hcut.mono ?_
  clear hcut b0 f0
  have HU : Hid (lineP start l ⟨.beg, left, qs.map (·.s)⟩ = match WordsMath.lineL l 0 [] with | .error q => .error q | .ok ws => run start (ws ++ [SpecTx.endW l]) ⟨.beg, left, qs.map (·.s)⟩) := rfl
  cases hR : WordsMath.lineL l 0 [] with
  | error q =>
    rintro e W3 ⟨⟨v, rfl, hv⟩, hb3⟩
    have hv2 := hv
    obtain ⟨b, hbb, rfl, hblk⟩ := hv
    have he3 := he2.below hb3 he2.lt
    have hc := he3.cell (q := 0) rfl
    have hf := he3.frozen 0
    have hR3 := hR2.below hb3
    have hC3 := hC12.trans (.of_below _ hb3 (by omega))
    have Hv : Hid (W3.heap[b]? = _) := hblk
    clear hblk
    go_wp2
    refine leaves_cons (f := 75) (args := #[.pointer (some ⟨w.heap.size, 0, none⟩)]) (by simp) (by simp [go_sem]) ?_
    refine (catch_panicking ⟨w.heap.size, 0, none⟩ b .nilIface _ hc hf).mono ?_
    rintro e u' w'' ⟨rfl, rfl, rfl⟩
    have hcc : (W3.setCell ⟨w.heap.size, 0, none⟩ (.iface 68 (.pointer (some ⟨b, 0, none⟩)))).cell? ⟨w.heap.size, 0, none⟩ = some (.iface 68 (.pointer (some ⟨b, 0, none⟩))) := World.cell?_setCell_same (h := hc) ..
    simp only [Leaves, settle, List.dropWhile_nil]
    refine ⟨.iface 68 (.pointer (some ⟨b, 0, none⟩)), by simp [results, Tryz.results44, go_sem, hcc], ?_⟩
    have hE : lineP start l ⟨.beg, left, qs.map (·.s)⟩ = .error q := by rw [HU.out, hR]
    rw [hE]
    refine ⟨⟨_, rfl, b, by omega, rfl, (Below.heap_setCell _ _ _ _ (show b ≠ w.heap.size by omega)).trans Hv.out⟩, ⟨.beg, left, []⟩, _, _, _, _, _, _, _, _, hR3.typed_set he3 (by omega) (by decide) (by decide) (by decide) _ _, hC3.b.trans (.set _ (by omega) _), fun p2 h2 => by cases h2⟩
  | ok ws =>
    rintro e W3 ⟨⟨g, c, rfl, hown⟩, hb3⟩
    have HE : Hid (lineP start l ⟨.beg, left, qs.map (·.s)⟩ = run start (ws ++ [SpecTx.endW l]) ⟨.beg, left, qs.map (·.s)⟩) := by show _ = _; rw [HU.out, hR]
    have hwl : ws.length ≤ 1048576 := by
      obtain ⟨more, hm, hpw, hpl3⟩ := WordsMath.lineL_ok _ _ _ _ _ (Nat.le_refl _) hR
      rw [List.nil_append] at hm
      subst hm
      have := WordsMath.rise_len ws 0 _ hpw hpl3
      omega
    have HX : Hid (∀ x ∈ ws ++ [SpecTx.endW l], x.place ≤ 1048576 ∧ x.text.length ≤ 1048576) := fun x hx => by
      rcases List.mem_append.1 hx with hx | hx
      · obtain ⟨more, hm, _, hpl⟩ := WordsMath.lineL_ok _ _ _ _ _ (Nat.le_refl _) hR
        rw [List.nil_append] at hm
        subst hm
        exact ⟨by have := hpl x hx; omega, LineWd.line_text _ _ _ 1048576 _ _ (Nat.le_refl _) (by omega) (fun y hy => by cases hy) hR x hx⟩
      · rw [List.mem_singleton.1 hx]
        exact ⟨hl, by simp [SpecTx.endW]⟩
    have HN : Hid (∀ x ∈ ws, isEnd x = false) := SpecTx.line_words _ l 0 [] ws (Nat.le_refl _) hR (fun x hx => by cases hx)
    have hR3 := hR2.below hb3
    have hC3 := hC12.trans (.of_below _ hb3 (by omega))
    have he3 := he2.below hb3 he2.lt
    obtain ⟨cur, hgr⟩ := own_row hown (g := g) rfl
    have hgb := hown.lt g rfl
    have hn3 : OwnM W3 mb start D := hn2.at (hb3.block mb hn2.lt)
    have hz3 := hb3.size
    have hof : ¬ ofNames qs g := fun ⟨q, hq1, hq2⟩ => by
      have := ((hR2.each q (List.mem_of_getLast? hq1)).lt g hq2).2
      omega
    have Hown : Hid (W3.ownsRow W2.heap.size 102 3 (.slice (some ⟨g, 0, none⟩) (ws.length + 1) c) (ws.length + 1) (cellsW (ws ++ [SpecTx.endW l]))) := hown
    have Hgr : Hid (RowAt W3 g 102 cur) := hgr
    have hge : base ≤ g := by omega
    have HK0 : Hid (Knows ⟨.beg, left, qs.map (·.s)⟩ ln ns) := hk
    clear hR HU hown hn2 he2 hk h hb3 hn0
    go_wp2
    go_loopw [16] (fun i wr => ∃ (k : Nat) (p : PS) (ln' : Int) (ns' : List ByteArray) (qs' : List Qr) (D' : DataW Unit) (rv' nv' mv' : Value), k ≤ ws.length + 1 ∧ i = .int .i64 k ∧ Hid (run start ((ws ++ [SpecTx.endW l]).drop k) p = run start (ws ++ [SpecTx.endW l]) ⟨.beg, left, qs.map (·.s)⟩) ∧ RdN wr rb bb mb base (stV rb p.st) start ln' ns' qs' D' rv' nv' mv' ∧ Hid (qs'.map (·.s) = p.rs) ∧ Hid (Knows p ln' ns') ∧ Hid ((k ≤ ws.length → p.st ≠ .fin) ∧ (k = ws.length + 1 → p.st = .fin)) ∧ Hid (p.st = .beg → OwnM wr mb start D') ∧ Chg base rb bb mb qs qs' w wr ∧ Hid (¬ ofNames qs' g) ∧ Hid (qs'.length ≤ qs.length + k ∧ ∀ q ∈ qs', q.s.names.length ≤ 16777216 + k) ∧ RowAt wr g 102 cur ∧ RowAt wr w.heap.size 27 #[.nilIface]) (fun i _ => ws.length + 1 - (intOf i).toNat)
    case atStart => exact ⟨0, ⟨.beg, left, qs.map (·.s)⟩, ln, ns, qs, D, rv, nv, mv, by omega, rfl, (by show _ = _; rfl), hR3, (by show _ = _; rfl), HK0, (show _ ∧ _ from ⟨fun _ e => (by cases e), fun e => by omega⟩), (fun _ => hn3), hC3, hof, (show _ ∧ _ from ⟨by omega, fun q hq => by have := hnm q hq; omega⟩), hgr, he3⟩
    case round =>
      clear hR3 hC3 hof hn3 hgr he3
      obtain ⟨k, p, ln', ns', qs', D', rv', nv', mv', hkl, rfl, hX, hR, hqs, hkn, hfin, hbg, hC, hof, hbd, hg, heb⟩ := hrel
      have hszC := hC.size
      by_cases hlt2 : k < ws.length + 1
      · obtain ⟨x, hx⟩ : ∃ x, (ws ++ [SpecTx.endW l])[k]? = some x := ⟨_, List.getElem?_eq_getElem (by simp; omega)⟩
        obtain ⟨hxp, hxt⟩ := HX.out x (List.mem_of_getElem? hx)
        have hownr : wr.ownsRow W2.heap.size 102 3 (.slice (some ⟨g, 0, none⟩) (ws ++ [SpecTx.endW l]).length c) (ws ++ [SpecTx.endW l]).length (cellsW (ws ++ [SpecTx.endW l])) := by
          rw [show (ws ++ [SpecTx.endW l]).length = ws.length + 1 by simp]
          exact own_block Hown.out (fun j hj => by
            have e : g = j := by simpa [Value.ownBlock] using hj
            rw [← e]
            exact (show wr.heap[g]? = _ from hg).trans (Eq.symm (show W3.heap[g]? = _ from Hgr.out)))
        obtain ⟨wb, wo, hw0, k1, k2, k3⟩ := WordsBytes.own_wrow hownr k x hx
        cases hw0
        simp only [Nat.zero_add] at k1 k2 k3
        have hki : (k : Int) < (ws.length : Int) + 1 := by omega
        have hB4 : Below wr.heap.size wr (wr.alloc (.cells #[.string ⟨x.text.toArray⟩, .bool x.quoted, .int .i64 (x.place : Int)] 102)) := (Below.refl _ _).alloc (Nat.le_refl _) _
        have hxb : RowAt (wr.alloc (.cells #[.string ⟨x.text.toArray⟩, .bool x.quoted, .int .i64 (x.place : Int)] 102)) wr.heap.size 102 #[.string ⟨x.text.toArray⟩, .bool x.quoted, .int .i64 (x.place : Int)] := World.alloc_heap_new wr _
        have hdr : Hid ((ws ++ [SpecTx.endW l]).drop k = x :: (ws ++ [SpecTx.endW l]).drop (k + 1)) := by
          obtain ⟨hk', e⟩ := List.getElem?_eq_some_iff.1 hx
          show _ = _
          rw [← e]
          exact List.drop_eq_getElem_cons hk'
        have hend : Hid ((k < ws.length → isEnd x = false) ∧ (k = ws.length → isEnd x = true)) := by
          refine ⟨fun hk1 => HN.out x ?_, fun hk1 => ?_⟩
          · rw [List.getElem?_append_left hk1] at hx
            exact List.mem_of_getElem? hx
          · rw [hk1, List.getElem?_append_right (Nat.le_refl _), Nat.sub_self] at hx
            have e : SpecTx.endW l = x := by simpa using hx
            rw [← e]
            rfl
        clear hx hownr
        go_wp2
        have hst : p.st ≠ .fin := hfin.out.1 (by omega)
        have hent := enter_fn hst
        obtain ⟨W5, hW5⟩ : ∃ W5, (wr.alloc (.cells #[.string ⟨x.text.toArray⟩, .bool x.quoted, .int .i64 (x.place : Int)] 102)).drew = W5 := ⟨_, rfl⟩
        have hB5 : Below wr.heap.size wr W5 := by rw [← hW5]; exact hB4.drew
        have hx5 : RowAt W5 wr.heap.size 102 #[.string ⟨x.text.toArray⟩, .bool x.quoted, .int .i64 (x.place : Int)] := by rw [← hW5]; exact hxb
        have hR5 := hR.below hB5
        have hc5 : W5.cell? ⟨rb, 0, none⟩ = some (.func (.func (fnOf p.st)) #[.pointer (some ⟨rb, 0, none⟩)] #[]) := by rw [← stV_fn rb hst]; exact hR5.box.cell (q := 0) rfl
        have hC5 := hC.trans (.of_below qs' hB5 (by omega))
        have heb5 := heb.below hB5 heb.lt
        have hg5 := hg.below hB5 hg.lt
        have hz5 : wr.heap.size < W5.heap.size := hx5.lt
        obtain ⟨pst, pleft, prs⟩ := p
        have hnx := next_any pst hst rb bb mb base start _ ln' ns' qs' D' rv' nv' mv' pleft x aS W5 hR5 (by omega) (by rw [hqs.out]; exact hkn.out) (hsent _ _ hC5) hxt (by omega) (by have := hbd.out.1; omega) (fun q hq => by have := hbd.out.2 q hq; omega) (fun e => (hbg.out e).at (hB5.block mb (hbg.out e).lt))
        rw [hqs.out] at hnx
        have hof5 : ¬ ofNames qs' wr.heap.size := fun ⟨q, hq1, hq2⟩ => by
          have := ((hR.each q (List.mem_of_getLast? hq1)).lt _ hq2).2
          omega
        refine wp_region_pan (R := PanR aS start ⟨pst, pleft, prs⟩ x W5) (D := [{ target := Target.fn (Fn.func 75) #[Value.pointer (some ⟨w.heap.size, 0, none⟩)], args := #[] }]) (T := some (Value.pointer (some ⟨w.heap.size, 0, none⟩))) (fun cc aa w6 hr hd ht => ?_) ?_
        · obtain ⟨v, q, rfl, hz, hv, hb6⟩ := hr
          obtain ⟨b, hbb, rfl, hblk⟩ := hv
          change Leaves Tryz.prog Tryz.f44 aa.tmps (fun e w' => LnR aS rb bb mb base start qs (lineP start l ⟨.beg, left, qs.map (·.s)⟩) w e w') aa.defers (.panicking [{ v := .iface 68 (.pointer (some ⟨b, 0, none⟩)), recovered := false }]) w6
          rw [hd]
          have he6 := heb5.below hb6 heb5.lt
          have hc := he6.cell (q := 0) rfl
          have hf := he6.frozen 0
          have hR6 := hR5.below hb6
          refine leaves_cons (f := 75) (args := #[.pointer (some ⟨w.heap.size, 0, none⟩)]) (by simp) (by simp [go_sem]) ?_
          refine (catch_panicking ⟨w.heap.size, 0, none⟩ b .nilIface _ hc hf).mono ?_
          rintro e u' w'' ⟨rfl, rfl, rfl⟩
          have hcc : (w6.setCell ⟨w.heap.size, 0, none⟩ (.iface 68 (.pointer (some ⟨b, 0, none⟩)))).cell? ⟨w.heap.size, 0, none⟩ = some (.iface 68 (.pointer (some ⟨b, 0, none⟩))) := World.cell?_setCell_same (h := hc) ..
          simp only [Leaves, settle, List.dropWhile_nil]
          refine ⟨.iface 68 (.pointer (some ⟨b, 0, none⟩)), by simp [results, Tryz.results44, go_sem, hcc, ht], ?_⟩
          have hE : lineP start l ⟨.beg, left, qs.map (·.s)⟩ = .error q := by rw [HE.out, ← hX.out, hdr.out, SpecRun.run_cons_bad hz]
          rw [hE]
          exact ⟨⟨_, rfl, b, by omega, rfl, (Below.heap_setCell _ _ _ _ (show b ≠ w.heap.size by omega)).trans hblk⟩, ⟨.beg, left, []⟩, _, _, _, _, _, _, _, _, hR6.typed_set he6 (by omega) (by decide) (by decide) (by decide) _ _, (hC5.b.trans (.of_below hb6 (by omega))).trans (.set _ (by omega) _), fun p2 h2 => by cases h2⟩
        refine OrdersZ.region_Z (S := (fun w9 => w9.cell? ⟨rb, 0, none⟩ = some (.func (.func (fnOf pst)) #[.pointer (some ⟨rb, 0, none⟩)] #[]) ∧ RowAt w9 wr.heap.size 102 #[.string ⟨x.text.toArray⟩, .bool x.quoted, .int .i64 (x.place : Int)])) 9 (by kernel_rfl) (by rw [hW5]; exact ⟨hc5, hx5⟩) (fun hHeld => ?_)
        rw [hW5]
        replace hHeld : W5.cell? ⟨rb, 0, none⟩ = some (.func (.func (fnOf pst)) #[.pointer (some ⟨rb, 0, none⟩)] #[]) ∧ RowAt W5 wr.heap.size 102 #[.string ⟨x.text.toArray⟩, .bool x.quoted, .int .i64 (x.place : Int)] := ⟨hc5, hx5⟩
        clear hW5 k1 k2 k3 hki
        refine OrdersZ.takeZ (i := 0) (v := .pointer (some ⟨rb, 0, none⟩)) rfl (by kernel_rfl) (by kernel_rfl) (by kernel_rfl) (by kernel_rfl) (by kernel_rfl) (panQ_put (by decide)) (Or.inl ⟨by rfl, fun w9 hSw => ?_⟩) hHeld ?_
        · obtain ⟨s0, s1⟩ := hSw
          go_simp
        simp only [zA, zB, zC, Act.put, zD, zE, zF]
        refine OrdersZ.takeZ (i := 1) (v := .pointer (some ⟨rb, 0, none⟩)) rfl (by kernel_rfl) (by kernel_rfl) (by kernel_rfl) (by kernel_rfl) (by kernel_rfl) (panQ_put (by decide)) (Or.inl ⟨by rfl, fun w9 hSw => ?_⟩) hHeld ?_
        · obtain ⟨s0, s1⟩ := hSw
          go_simp
        simp only [zA, zB, zC, Act.put, zD, zE, zF]
        refine OrdersZ.takeZ (i := 2) (v := .pointer (some ⟨rb, 0, none⟩)) rfl (by kernel_rfl) (by kernel_rfl) (by kernel_rfl) (by kernel_rfl) (by kernel_rfl) (panQ_put (by decide)) (Or.inl ⟨by rfl, fun w9 hSw => ?_⟩) hHeld ?_
        · obtain ⟨s0, s1⟩ := hSw
          go_simp
        simp only [zA, zB, zC, Act.put, zD, zE, zF]
        refine OrdersZ.takeZ (i := 3) (v := .pointer (some ⟨rb, 0, none⟩)) rfl (by kernel_rfl) (by kernel_rfl) (by kernel_rfl) (by kernel_rfl) (by kernel_rfl) (panQ_put (by decide)) (Or.inl ⟨by rfl, fun w9 hSw => ?_⟩) hHeld ?_
        · obtain ⟨s0, s1⟩ := hSw
          go_simp
        simp only [zA, zB, zC, Act.put, zD, zE, zF]
        refine OrdersZ.takeZ (i := 4) (v := .func (.func (fnOf pst)) #[.pointer (some ⟨rb, 0, none⟩)] #[]) rfl (by kernel_rfl) (by kernel_rfl) (by kernel_rfl) (by kernel_rfl) (by kernel_rfl) (panQ_put (by decide)) (Or.inl ⟨by rfl, fun w9 hSw => ?_⟩) hHeld ?_
        · obtain ⟨s0, s1⟩ := hSw
          go_simp
        simp only [zA, zB, zC, Act.put, zD, zE, zF]
        refine OrdersZ.takeZ (i := 5) (v := .agg #[.string ⟨x.text.toArray⟩, .bool x.quoted, .int .i64 (x.place : Int)]) rfl (by kernel_rfl) (by kernel_rfl) (by kernel_rfl) (by kernel_rfl) (by kernel_rfl) (panQ_put (by decide)) (Or.inl ⟨by rfl, fun w9 hSw => ?_⟩) hHeld ?_
        · obtain ⟨s0, s1⟩ := hSw
          go_simp
          (have q0 := s1.cell (q := 0) rfl; have q1 := s1.cell (q := 1) rfl; have q2 := s1.cell (q := 2) rfl; go_simp)
        simp only [zA, zB, zC, Act.put, zD, zE, zF]
        refine OrdersZ.readyZ (i := 6) (by kernel_rfl) rfl (fun K hK => ?_)
        go_simp
        refine hnx.mono ?_
        rintro e w6 hst6
        cases hz : SpecLn.step start ⟨pst, pleft, prs⟩ x with
        | error q =>
          rw [hz] at hst6
          obtain ⟨⟨v, rfl, hv⟩, hb6⟩ := hst6
          exact ⟨⟨v, q, rfl, hz, hv, hb6⟩, rfl, rfl⟩
        | ok p2 =>
          rw [hz] at hst6
          obtain ⟨rfl, ln2, ns2, qs2, D2, rv2, nv2, mv2, hR6, hqs6, hkn6, hC6⟩ := hst6
          have hc6 : w6.cell? ⟨rb, 0, none⟩ = some (.func (.func (fnOf pst)) #[.pointer (some ⟨rb, 0, none⟩)] #[]) := by rw [← stV_fn rb hst]; exact hR6.box.cell (q := 0) rfl
          have hx6 := hC6.word (by omega) hx5 hof5
          refine hK.out _ _ ⟨hc6, hx6⟩ (fun hHeld => ?_)
          clear hK K
          refine OrdersZ.readyZ (i := 7) (by kernel_rfl) rfl (fun K hK => ?_)
          go_simp
          refine hK.out _ _ ⟨hc6, hx6⟩ (fun hHeld => ?_)
          clear hK K
          refine OrdersZ.readyZ (i := 8) (by kernel_rfl) rfl (fun K hK => ?_)
          go_simp
          refine hK.out _ _ ⟨hc6, hx6⟩ (fun hHeld => ?_)
          clear hK K
          have f0 := hR6.box.frozen 0
          refine OrdersZ.lastZ (by kernel_rfl) rfl (fun K hK => ?_)
          refine step_store_one rfl 80 (.tmp 28) (.tmp 26) rfl ⟨rb, 0, none⟩ (stV rb p2.st) _ (by rfl) (by rfl) (by cases p2.st <;> first | exact .inr rfl | exact .inl ⟨_, _, _, rfl⟩) Tryz.sizeOf80 hc6 f0 ?_
          refine hK.out _ _ ?_
          clear hK K
          simp only [zA, zB, zC, Act.put, zD, zE, zF]
          refine OrdersZ.doneZ (by kernel_rfl) ?_ _
          show Exit.inBlock 1 _ Exit.normal _ _
          obtain ⟨hR7, hC7⟩ := hR6.next (stV rb p2.st)
          have hg6 := hC6.word (by omega) hg5 hof.out
          have heb6 := hC6.row w.heap.size _ _ (by omega) (by decide) (by decide) (fun e => by cases e) heb5
          have hrl6 := hR6.rlt
          have hg7 := hg6.other (b' := rb) (by omega) 0 (stV rb p2.st)
          have heb7 := heb6.other (b' := rb) (by omega) 0 (stV rb p2.st)
          have hCf := (hC5.trans hC6).trans hC7
          have hof7 : Hid (¬ ofNames qs2 g) := fun e => by
            rcases hC6.new g e with h1 | h1
            · exact hof.out h1
            · have := hg.lt; omega
          have hX7 : Hid (run start ((ws ++ [SpecTx.endW l]).drop (k + 1)) p2 = run start (ws ++ [SpecTx.endW l]) ⟨.beg, left, qs.map (·.s)⟩) := by
            show _ = _
            rw [← hX.out, hdr.out, SpecRun.run_cons_ok hz]
          have hbd7 : Hid (qs2.length ≤ qs.length + (k + 1) ∧ ∀ q ∈ qs2, q.s.names.length ≤ 16777216 + (k + 1)) := by
            have hm : ∀ s ∈ prs, s.names.length ≤ 16777216 + k := fun s hs => by
              have h1 : s ∈ qs'.map (·.s) := by rw [hqs.out]; exact hs
              obtain ⟨q, hq1, rfl⟩ := List.mem_map.1 h1
              exact hbd.out.2 q hq1
            obtain ⟨h1, h2⟩ := SpecRun.step_small hz hm
            have h3 : prs.length = qs'.length := by
              have h4 := congrArg List.length hqs.out
              simp only [List.length_map] at h4
              exact h4.symm
            have h5 := hbd.out.1
            rw [← hqs6, List.length_map] at h1
            refine ⟨by simp only at h1; omega, fun q hq => h2 _ (by rw [← hqs6]; exact List.mem_map_of_mem hq)⟩
          have hfin7 : Hid ((k + 1 ≤ ws.length → p2.st ≠ .fin) ∧ (k + 1 = ws.length + 1 → p2.st = .fin)) :=
            ⟨fun h1 => SpecRun.step_go (hend.out.1 (by omega)) hst hz, fun h1 => SpecRun.step_end (hend.out.2 (by omega)) hz⟩
          have hbg7 : Hid (p2.st = .beg → OwnM (w6.setCell ⟨rb, 0, none⟩ (stV rb p2.st)) mb start D2) := fun e => absurd e (SpecRun.step_beg hst hz)
          have HQ6 : Hid (qs2.map (·.s) = p2.rs) := hqs6
          have HK6 : Hid (Knows p2 ln2 ns2) := hkn6
          clear hnx hR6 hC6 hC7 hC5 hc6 hx6 f0 hg6 heb6 hqs6 hkn6 hz hst hent hX hR hqs hkn hfin hbg hC hof hbd hg heb hHeld hc5 hx5 hR5 heb5 hg5
          go_wp2
          go_roundw
          case rel => exact ⟨k + 1, p2, ln2, ns2, qs2, D2, rv2, nv2, mv2, by omega, by go_num, hX7, hR7, HQ6, HK6, hfin7, hbg7, hCf, hof7, hbd7, hg7, heb7⟩
          case measure => simp [intOf]; omega
      · obtain rfl : k = ws.length + 1 := by omega
        have hpf := hfin.out.2 rfl
        have hc := heb.cell (q := 0) rfl
        have hf := heb.frozen 0
        have hRf := hR.typed_set heb (by omega) (by decide) (by decide) (by decide) 0 .nilIface
        have hCf := hC.b.trans (.set (q := 0) wr (b := w.heap.size) (by omega) .nilIface)
        have hE : Hid (lineP start l ⟨.beg, left, qs.map (·.s)⟩ = .ok p) := by
          show _ = _
          rw [HE.out, ← hX.out, List.drop_of_length_le (by simp)]
          rfl
        have hcc : (wr.setCell ⟨w.heap.size, 0, none⟩ .nilIface).cell? ⟨w.heap.size, 0, none⟩ = some .nilIface := World.cell?_setCell_same (h := hc) ..
        have hki : ¬ ((ws.length : Int) + 1 < (ws.length : Int) + 1) := by omega
        clear hX hR hC hof hg hbg hfin hsent
        go_wp2
        refine leaves_cons (f := 75) (args := #[.pointer (some ⟨w.heap.size, 0, none⟩)]) (by simp) (by simp [go_sem]) ?_
        refine (catch_idle ⟨w.heap.size, 0, none⟩ _).mono ?_
        rintro e u' w'' ⟨rfl, rfl, rfl⟩
        simp only [Leaves, settle, List.dropWhile_nil]
        refine ⟨.nilIface, by simp [results, Tryz.results44, go_sem, hcc], ?_⟩
        rw [hE.out]
        exact ⟨⟨rfl, hpf⟩, p, _, _, _, _, _, _, _, _, hRf, hCf, fun p2 h2 => by cases h2; exact ⟨rfl, hqs.out, hkn.out⟩⟩

end Go.Proofs.YtjblkgephboajaaGreatDoor.SpecMem
