/-
  Texts that stand together: SpecBegM.
-/
import Derived.Test.YtbeflhpekklgoaaGreatDoorBagOrdersZ
namespace Go.Proofs.YtbeflhpekklgoaaGreatDoor.SpecMem
open Go.RowKit Go.Maps Go.WideMaps Go.Proofs.YtbeflhpekklgoaaGreatDoor.GramMath Go.Proofs.YtbeflhpekklgoaaGreatDoor.GramRow Go.Proofs.YtbeflhpekklgoaaGreatDoor.GramOne Go.Proofs.YtbeflhpekklgoaaGreatDoor.GramApart Go.Proofs.YtbeflhpekklgoaaGreatDoor.GramRoll Go.Proofs.YtbeflhpekklgoaaGreatDoor.GramCopy Go.Proofs.YtbeflhpekklgoaaGreatDoor.LineMath Go.Proofs.YtbeflhpekklgoaaGreatDoor.SpecLn Go.Proofs.YtbeflhpekklgoaaGreatDoor.SpecMd Go.Proofs.YtbeflhpekklgoaaGreatDoor.WordsBytes
set_option linter.unusedVariables false
set_option linter.unusedSimpArgs false

theorem step_mapUpdate_own {H : Type} {P : Program} {ops : Array Oper} {o : Oper} {a : Act} {w : World} {K : Act → World → Prop} {Q : Exit → Act → World → Prop} {E : Prop} (hgd : o.guard = none)
    (m x v : Operand) (t : TypeId) (hop : o.op = Op.mapUpdate t m x v)
    (k e : TypeId) (KK : Keyed P k) (ht : P.underlying t = some (.map k e)) (R : Value → Option (DataW H × List MemPlace)) (b n : Nat) (D : DataW H)
    (hm : a.eval m = .map (some b)) (hown : w.ownsMap P k R b n D) (hn : n < maxLen) (key val : Value) (kl : Lit) (hx : a.eval x = key) (hv : a.eval v = val) (hkey : keyOf P k key = some kl)
    (d : DataW H) (ps : List MemPlace) (hval : R val = some (d, ps))
    (h : ∀ w', w'.ownsMap P k R b (n + 1) (D.put kl d) → w.grownBy w' (some b) → K (a.put o.dst undef) w') :
    if Region.wanted o (yielded ops a.tmps) = true then Oper.wp P o a w K Q else E := by
  have hw : Region.wanted o (yielded ops a.tmps) = true := by simp [Region.wanted, hgd]
  rw [if_pos hw]
  obtain ⟨w', hrun, r1, r2⟩ := hown.update KK ht hn hkey hval
  unfold Oper.wp
  simp [execOp, hop, hm, hx, hv, hrun, Result.andThen]
  exact h w' r1 r2

theorem MapOf.again {D : DataW Unit} {ss : List ByteArray} {s : ByteArray} (h : MapOf D ss) (hs : memB s ss = true) : MapOf (D.put (keyL s) (.lit (.int .i64 (idx ss s)))) ss := by
  rcases idx_cases ss s with ⟨_, h3⟩ | ⟨k, e, hk, _, _⟩
  · rw [hs] at h3; cases h3
  refine ⟨put_isMap h.isMap _ _, fun i x hx => ?_, fun x hx => ?_⟩
  · by_cases hxs : x = s
    · subst hxs
      have h1 := (h.hit i x hx).2
      have h2 := (h.hit k x hk).2
      rw [h1] at h2
      have h3 : (i : Int) = (k : Int) := by simpa using h2
      refine ⟨has_put_same h.isMap (key_isKey _) _, ?_⟩
      rw [atKey_put_same h.isMap (key_isKey _), e, h3]
    · have hne : keyL x ≠ keyL s := fun he => hxs (keyL_inj he)
      rw [has_put_other hne, atKey_put_other hne]
      exact h.hit i x hx
  · have hne : keyL x ≠ keyL s := fun he => hx (by rw [keyL_inj he]; exact (memB_iff _ _).1 hs)
    rw [has_put_other hne, atKey_put_other hne]
    exact h.miss x hx
theorem MapOf.told {D : DataW Unit} {ss : List ByteArray} (s : ByteArray) (h : MapOf D ss) : MapOf (D.put (keyL s) (.lit (.int .i64 (numZ ss s)))) (addN ss s) := by
  cases hs : memB s ss with
  | true =>
    rw [add_in hs]
    unfold numZ
    rw [if_pos hs]
    exact MapOf.again h hs
  | false =>
    rw [add_out hs]
    unfold numZ
    rw [if_neg (by rw [hs]; decide)]
    exact MapOf.add h (fun hm => by rw [(memB_iff _ _).2 hm] at hs; cases hs)
theorem cellsR_add (ns : List ByteArray) (s : ByteArray) : ∀ (qs : List Qr), (∀ q ∈ qs, memB (bt q.s.left) ns = true) → cellsR (addN ns s) qs = cellsR ns qs
  | [], _ => rfl
  | q :: qs, h => by
    have := cellsR_add ns s qs (fun p hp => h p (List.mem_cons_of_mem _ hp))
    unfold cellsR at this ⊢
    rw [List.flatMap_cons, List.flatMap_cons, this, idx_add s (h q List.mem_cons_self)]

section
variable {w w1 w3 : World} {rb bb mb base start : Nat} {nx : Value} {ln : Int} {ns : List ByteArray} {qs : List Qr} {D : DataW Unit} {rv nv mv nv' mv' : Value}

/-- What the Builder's call left: all of the reader but the Builder. -/
theorem RdN.after (h : RdN w rb bb mb base nx start ln ns qs D rv nv mv) (hlt : base ≤ w.heap.size) (hk : RKeep w w1 bb 2 (ofRoll nv mv)) :
    (∀ k, k < base → k ≠ bb → w1.heap[k]? = w.heap[k]?) ∧ (∀ b t C, t ≠ 9 → b ≠ bb → RowAt w b t C → RowAt w1 b t C) := by
  refine ⟨fun k hk1 hk2 => hk.block k (by omega) hk2 (fun e => ?_), fun b t C ht hb hr => (hk.block b hr.lt hb (fun e => h.n.not_row hr ht e)).trans hr⟩
  have := (h.n.blocks e).1
  omega

/-- A NONTERMINAL TOLD. -/
theorem RdN.told {s : ByteArray} {n : Nat} (h : RdN w rb bb mb base nx start ln ns qs D rv nv mv) (hlt : base ≤ w.heap.size) (hk : RKeep w w1 bb 2 (ofRoll nv mv)) (hB : Build w1 bb base ⟨[], addN ns s, 0, []⟩ (.slice none 0 0) (.map none) nv' mv' (.slice none 0 0) [])
    (hn : n ≤ start) (hg : ((w1.setCell ⟨rb, 2, none⟩ (.int .i64 (numZ ns s))).drew).grownBy w3 (some mb)) (hown : w3.ownsMap (H := Unit) Tryz.prog 9 (plainElem Tryz.prog 3) mb (n + 1) (D.put (keyL s) (.lit (.int .i64 (numZ ns s))))) :
    RdN w3 rb bb mb base nx start (numZ ns s) (addN ns s) qs (D.put (keyL s) (.lit (.int .i64 (numZ ns s)))) rv nv' mv' ∧ Chg base rb bb mb qs qs w w3 := by
  obtain ⟨a1, a2⟩ := h.after hlt hk
  have hrl := h.rlt
  have hml := h.mlt
  have hbl := h.blt
  have hmr := h.mrb
  have hmb := h.mbb
  have hrb := h.rbb
  have hsz : w1.heap.size ≤ w3.heap.size := by have := hg.size; simpa using this
  have hsz1 := hk.size
  have far : ∀ k, k < w1.heap.size → k ≠ rb → k ≠ mb → w3.heap[k]? = w1.heap[k]? := fun k h1 h2 h3 => (hg.block k (by simpa using h1) (fun e => h3 (by simpa using e))).trans (Below.heap_setCell _ _ _ _ h2)
  have hbs : bb < w1.heap.size := by have := h.bsz; omega
  have rows : ∀ b t C, t ≠ 9 → b ≠ bb → b ≠ rb → RowAt w b t C → RowAt w3 b t C := fun b t C ht hb hr hR => by
    have h1 := a2 b t C ht hb hR
    refine (far b h1.lt hr (fun e => ?_)).trans h1
    exact map_not_row h.own hR e.symm
  have own : ∀ {e : TypeId} {size m : Nat} {v : Value} {xs : List Value}, e ≠ 9 → w.ownsRow base e size v m xs → w3.ownsRow base e size v m xs := fun he ho => own_block ho (fun g hgo => by
    obtain ⟨cur, hr⟩ := own_row ho hgo
    have := (ho.lt g hgo).1
    exact (rows g _ cur he (by omega) (by omega) hr).trans (Eq.symm hr))
  have hbb : w3.heap[bb]? = w1.heap[bb]? := far bb hbs (fun e => hrb e.symm) (fun e => hmb e.symm)
  have hmap : ∀ k, base ≤ k → k < w1.heap.size → w3.heap[k]? = w1.heap[k]? := fun k h1 h2 => far k h2 (by omega) (by omega)
  have hbox : RowAt w3 rb 76 #[nx, .int .i64 (start : Int), .int .i64 (numZ ns s), .pointer (some ⟨bb, 0, none⟩), .map (some mb), rv] := by
    have h1 := a2 rb _ _ (by decide) hrb h.box
    have h2 : RowAt (w1.setCell ⟨rb, 2, none⟩ (.int .i64 (numZ ns s))) rb 76 #[nx, .int .i64 (start : Int), .int .i64 (numZ ns s), .pointer (some ⟨bb, 0, none⟩), .map (some mb), rv] := h1.set 2 _
    have h3 : RowAt (w1.setCell ⟨rb, 2, none⟩ (.int .i64 (numZ ns s))).drew rb 76 #[nx, .int .i64 (start : Int), .int .i64 (numZ ns s), .pointer (some ⟨bb, 0, none⟩), .map (some mb), rv] := h2
    exact h3.grown hg (fun e => hmr (by simpa using e.symm))
  refine ⟨⟨hbox, Roll.at hB.t hbb (fun k h1 h2 _ => hmap k h1 h2), Roll.at hB.n hbb (fun k h1 h2 _ => hmap k h1 h2), (World.cell?_of_block hbb).trans hB.a, (frozen_of_block hbb _).trans hB.af, RulesOf.at hB.r hbb, ⟨n + 1, by omega, hown⟩, MapOf.told s h.map, ?_, fun q hq => own (by decide) (h.each q hq), h.far, fun q hq => mem_add s (h.known q hq), hrl, hml, hrb, hmb⟩, ⟨?_, ?_, ?_, by omega, fun k h1 h2 h3 h4 => (far k (by omega) h2 h4).trans (a1 k h1 h3), fun b t C hb h9 _ _ hr => ?_, fun k hk => .inl hk⟩⟩
  · rw [cellsR_add ns s qs h.known]
    exact own (by decide) h.rules
  · exact hg.os.trans hk.os
  · have := hg.tape
    exact this.trans hk.tape
  · exact hg.output.trans hk.output
  · exact rows b _ C h9 (by omega) (by omega) hr
end

end Go.Proofs.YtbeflhpekklgoaaGreatDoor.SpecMem
