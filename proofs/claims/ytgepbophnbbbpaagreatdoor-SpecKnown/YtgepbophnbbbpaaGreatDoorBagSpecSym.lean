/-
  Texts that stand together: SpecSym, SpecOkM.
-/
import Derived.Test.YtgepbophnbbbpaaGreatDoorBSpecText
import Derived.Test.YtgepbophnbbbpaaGreatDoorBagSpecRunM
import Derived.Test.YtgepbophnbbbpaaGreatDoorBagSpecNumM
namespace Go.Proofs.YtgepbophnbbbpaaGreatDoor.SpecMem
open Go.Proofs.YtgepbophnbbbpaaGreatDoor.GramLess Go.RowKit Go.Maps Go.WideMaps Go.Proofs.YtgepbophnbbbpaaGreatDoor.GramMath Go.Proofs.YtgepbophnbbbpaaGreatDoor.GramRow Go.Proofs.YtgepbophnbbbpaaGreatDoor.GramOne Go.Proofs.YtgepbophnbbbpaaGreatDoor.GramApart Go.Proofs.YtgepbophnbbbpaaGreatDoor.GramRoll Go.Proofs.YtgepbophnbbbpaaGreatDoor.GramCopy Go.Proofs.YtgepbophnbbbpaaGreatDoor.LineMath Go.Proofs.YtgepbophnbbbpaaGreatDoor.SpecLn Go.Proofs.YtgepbophnbbbpaaGreatDoor.SpecMd Go.Proofs.YtgepbophnbbbpaaGreatDoor.SpecTx Go.Proofs.YtgepbophnbbbpaaGreatDoor.WordsBytes
set_option linter.unusedVariables false
set_option linter.unusedSimpArgs false

/-- A reader but for its Builder. -/
structure RdK (w : World) (rb bb mb base : Nat) (nx : Value) (start : Nat) (ln : Int) (ns : List ByteArray) (qs : List Qr) (D : DataW Unit) (rv : Value) : Prop where
  box : RowAt w rb 85 #[nx, .int .i64 (start : Int), .int .i64 ln, .pointer (some ⟨bb, 0, none⟩), .map (some mb), rv]
  own : OwnM w mb (start + 1) D
  map : MapOf D ns
  rules : w.ownsRow base 88 3 rv qs.length (cellsR ns qs)
  each : ∀ q ∈ qs, w.ownsRow base 102 3 q.v q.s.names.length (cellsW q.s.names)
  rlt : rb < base
  mlt : mb < base
  rbb : rb ≠ bb
  mbb : mb ≠ bb
/-- What telling the Builder writes. -/
structure ChgG (base bb : Nat) (w w' : World) : Prop where
  os : w'.os = w.os
  tape : w'.tape = w.tape
  output : w'.output = w.output
  size : w.heap.size ≤ w'.heap.size
  block : ∀ k, k < base → k ≠ bb → w'.heap[k]? = w.heap[k]?
  row : ∀ b t C, base ≤ b → t ≠ 9 → t ≠ 46 → RowAt w b t C → RowAt w' b t C
theorem ChgG.refl (base bb : Nat) (w : World) : ChgG base bb w w := ⟨rfl, rfl, rfl, Nat.le_refl _, fun _ _ _ => rfl, fun _ _ _ _ _ _ h => h⟩
theorem ChgG.trans {base bb : Nat} {a b c : World} (h : ChgG base bb a b) (k : ChgG base bb b c) : ChgG base bb a c :=
  ⟨k.os.trans h.os, k.tape.trans h.tape, k.output.trans h.output, Nat.le_trans h.size k.size, fun i h1 h2 => (k.block i h1 h2).trans (h.block i h1 h2), fun b t C h1 h2 h3 h4 => k.row b t C h1 h2 h3 (h.row b t C h1 h2 h3 h4)⟩
theorem ChgG.of_below {base bb : Nat} {w w' : World} (h : Below w.heap.size w w') (hB : base ≤ w.heap.size) : ChgG base bb w w' := ⟨h.os, h.tape, h.output, h.size, fun k hk _ => h.block k (by omega), fun b t C _ _ _ hr => hr.below h hr.lt⟩
theorem ChgG.below {base bb B : Nat} {w w' : World} (h : ChgG base bb w w') (h1 : B ≤ bb) (h2 : B ≤ base) : Below B w w' := ⟨h.os, h.tape, h.output, h.size, fun k hk => h.block k (by omega) (by omega)⟩
theorem ChgG.own {base bb : Nat} {w w' : World} (h : ChgG base bb w w') {e : TypeId} {size n : Nat} {v : Value} {xs : List Value} (he : e ≠ 9) (he2 : e ≠ 46) (ho : w.ownsRow base e size v n xs) : w'.ownsRow base e size v n xs := own_block ho (fun g hg => by
  obtain ⟨cur, hr⟩ := own_row ho hg
  exact (h.row g _ cur (ho.lt g hg).1 he he2 hr).trans (Eq.symm hr))
theorem RdK.keep {w w' : World} {rb bb mb base start : Nat} {nx : Value} {ln : Int} {ns : List ByteArray} {qs : List Qr} {D : DataW Unit} {rv : Value} (h : RdK w rb bb mb base nx start ln ns qs D rv) (hc : ChgG base bb w w') : RdK w' rb bb mb base nx start ln ns qs D rv :=
  ⟨(hc.block rb h.rlt h.rbb).trans h.box, h.own.at (hc.block mb h.mlt h.mbb), h.map, hc.own (by decide) (by decide) h.rules, fun q hq => hc.own (by decide) (by decide) (h.each q hq), h.rlt, h.mlt, h.rbb, h.mbb⟩
theorem RdN.k {w : World} {rb bb mb base start : Nat} {nx : Value} {ln : Int} {ns : List ByteArray} {qs : List Qr} {D : DataW Unit} {rv nv mv : Value} (h : RdN w rb bb mb base nx start ln ns qs D rv nv mv) : RdK w rb bb mb base nx start ln ns qs D rv := ⟨h.box, h.own, h.map, h.rules, h.each, h.rlt, h.mlt, h.rbb, h.mbb⟩
theorem ChgG.term {w w' : World} {bb base : Nat} {g : G} {nv mv nv2 mv2 rv : Value} {lq : List Q} (h : Build w bb base g nv mv nv2 mv2 rv lq) (hk : RKeep w w' bb 0 (ofRoll nv mv)) : ChgG base bb w w' :=
  ⟨hk.os, hk.tape, hk.output, hk.size, fun k h1 h2 => hk.block k (by have := h.lt; omega) h2 (fun e => by have := (h.t.blocks e).1; omega), fun b t C h1 h2 _ hr => (hk.block b hr.lt (by have := h.t.lt; omega) (h.t.not_row hr h2)).trans hr⟩
theorem ChgG.rule {w w' : World} {bb base : Nat} {g : G} {nv mv nv2 mv2 rv : Value} {lq : List Q} (h : Build w bb base g nv mv nv2 mv2 rv lq) (hk : RKeep w w' bb 5 (fun k => rv.ownBlock = some k)) : ChgG base bb w w' :=
  ⟨hk.os, hk.tape, hk.output, hk.size, fun k h1 h2 => hk.block k (by have := h.lt; omega) h2 (fun e => by have := (h.r.row.lt k e).1; omega), fun b t C h1 _ h3 hr => (hk.block b hr.lt (by have := h.t.lt; omega) (fun e => by
    obtain ⟨cur, hc⟩ := own_row h.r.row e
    exact hr.ne hc h3 rfl)).trans hr⟩

theorem look_any {w : World} {mb M : Nat} {D : DataW Unit} {ns : List ByteArray} (h : OwnM w mb M D) (hm : MapOf D ns) (s : ByteArray) (hs : s.size ≤ 281474976710656) :
    ∃ c b, (Instr.lookup 82 (.map (some mb)) (.string s) true).run Tryz.prog w = .ok (.tuple #[.int .i64 c, .bool b]) w ∧ b = memB s ns ∧ (memB s ns = true → c = idx ns s) := by
  obtain ⟨n, _, hown⟩ := h
  have hkey : keyOf Tryz.prog 9 (.string s) = some (keyL s) := keyOf_string_mk Tryz.underlying9 (by unfold maxLen; omega)
  obtain ⟨v, ps, hrun, hR⟩ := hown.look_ok keyed Tryz.underlying82 (zeroI w) (zd := .lit (.int .i64 0)) (zp := []) (plainElem_int Tryz.underlying3 (by decide)) hkey
  obtain ⟨c, rfl, hc, _⟩ := plainElem_int_inv Tryz.underlying3 hR
  have hc2 : D.atKey (keyL s) (.lit (.int .i64 0)) = .lit (.int .i64 c) := congrArg Prod.fst hc
  refine ⟨c, _, hrun, ?_, fun hmem => ?_⟩
  · rcases idx_cases ns s with ⟨_, h2⟩ | ⟨k, _, hk, _, h2⟩
    · rw [h2]
      exact (hm.miss s (fun e => by rw [(memB_iff _ _).2 e] at h2; cases h2)).1
    · rw [h2]
      exact (hm.hit k s hk).1
  · rcases idx_cases ns s with ⟨_, h2⟩ | ⟨k, e, hk, _, _⟩
    · rw [hmem] at h2; cases h2
    · rw [(hm.hit k s hk).2] at hc2
      have : (k : Int) = c := by simpa using hc2
      omega

/-- What asking for a name's symbol answers. -/
def SymR (bb base : Nat) (ns ts : List ByteArray) (rs : List R) (nv2 mv2 brv : Value) (lq : List Q) (x : Wd) (w : World) (e : Ending) (w' : World) : Prop := ∃ nv' mv', e = .returned (.int .i64 (symS ns ts x)) ∧ Build w' bb base ⟨symT ns ts x, ns, 0, rs⟩ nv' mv' nv2 mv2 brv lq ∧ ChgG base bb w w'

set_option maxRecDepth 100000 in
set_option maxHeartbeats 4000000 in
theorem symbol_any (rb bb mb base start : Nat) (nx : Value) (ln : Int) (ns ts : List ByteArray) (rs : List R) (qs : List Qr) (D : DataW Unit) (rv nv mv nv2 mv2 brv : Value) (lq : List Q) (x : Wd) (w : World) (h : RdK w rb bb mb base nx start ln ns qs D rv) (hB : Build w bb base ⟨ts, ns, 0, rs⟩ nv mv nv2 mv2 brv lq) (hx : x.text.length ≤ 1048576) (hts : ts.length ≤ 1000000000) (hns : ns.length ≤ 1000000000) :
    Calls Tryz.prog 47 #[.pointer (some ⟨rb, 0, none⟩), .agg #[.string ⟨x.text.toArray⟩, .bool x.quoted, .int .i64 (x.place : Int)]] w fun e w' => SymR bb base ns ts rs nv2 mv2 brv lq x w e w' := by
  have hxs : (⟨x.text.toArray⟩ : ByteArray).size ≤ 281474976710656 := by simp [ByteArray.size]; omega
  obtain ⟨W1, hW1⟩ : ∃ W1, W1 = w.alloc (.cells #[.string ⟨x.text.toArray⟩, .bool x.quoted, .int .i64 (x.place : Int)] 102) := ⟨_, rfl⟩
  have hB1 : Below w.heap.size w W1 := by rw [hW1]; exact (Below.refl _ _).alloc (Nat.le_refl _) _
  obtain ⟨Wd, hWd⟩ : ∃ Wd, W1.drew = Wd := ⟨_, rfl⟩
  have hBd : Below w.heap.size w Wd := by rw [← hWd]; exact hB1.drew
  have hblt := hB.lt
  have hc1 : ChgG base bb w Wd := .of_below hBd hblt
  have hd := h.keep hc1
  have hxb : RowAt Wd w.heap.size 102 #[.string ⟨x.text.toArray⟩, .bool x.quoted, .int .i64 (x.place : Int)] := by rw [← hWd, hW1]; exact World.alloc_heap_new w _
  have hBB : Build Wd bb base ⟨ts, ns, 0, rs⟩ nv mv nv2 mv2 brv lq := by
    have hk : RKeep w Wd bb 7 (fun _ => False) := RKeep.on hBd (by have := hB.t.lt; omega)
    exact ⟨hB.t.keep hk (by decide) (by decide) (by decide) (fun _ _ e => e), hB.n.keep hk (by decide) (by decide) (by decide) (fun _ _ e => e), (hk.cell 4 (by decide) (by decide)).trans hB.a, (hk.frozen 4).trans hB.af, hB.r.keep hk hB.t.lt (by decide) (by decide) (fun _ _ _ _ _ e => e), hB.far, Nat.le_trans hB.lt hBd.size⟩
  have hbox := hd.box
  have HWd : Hid (W1.drew = Wd) := hWd
  obtain ⟨c, b, hlk, hb, hcm⟩ := look_any hd.own h.map ⟨x.text.toArray⟩ hxs
  have E : Hid (symS ns ts x = (if (memB (bt x.text) ns && !x.quoted) = true then -1 - idx ns (bt x.text) else numS ts (bt x.text)) ∧ symT ns ts x = (if (memB (bt x.text) ns && !x.quoted) = true then ts else addN ts (bt x.text))) := ⟨rfl, rfl⟩
  subst hW1
  clear hB1 hWd h hB hBd
  go_enter Tryz.func47, Tryz.ntmps47
  go_wp2
  refine wp_region_noPanic ?_
  refine wp_region_held_drew (S := (fun w' => w' = Wd)) (by kernel_rfl) HWd.out (fun hHeld => ?_)
  rw [HWd.out]
  replace hHeld : Wd = Wd := rfl
  clear HWd
  have r3 := hbox.cell (q := 3) rfl
  have r4 := hbox.cell (q := 4) rfl
  have d0 := hxb.cell (q := 0) rfl
  have d1 := hxb.cell (q := 1) rfl
  refine wpAnyH_take (i := 0) (v := .pointer (some ⟨rb, 0, none⟩)) rfl (by kernel_rfl) (by kernel_rfl) (by kernel_rfl) (fun _ _ _ h => h) (Or.inl ⟨by rfl, fun w9 hSw => ?_⟩) hHeld ?_
  · obtain rfl := hSw
    go_simp
  simp only [List.getElem_toArray, List.getElem_cons_zero, List.getElem_cons_succ, Act.put, List.setIfInBounds_toArray, List.set_cons_zero, List.set_cons_succ]
  refine wpAnyH_take (i := 1) (v := .pointer (some ⟨rb, 0, none⟩)) rfl (by kernel_rfl) (by kernel_rfl) (by kernel_rfl) (fun _ _ _ h => h) (Or.inl ⟨by rfl, fun w9 hSw => ?_⟩) hHeld ?_
  · obtain rfl := hSw
    go_simp
  simp only [List.getElem_toArray, List.getElem_cons_zero, List.getElem_cons_succ, Act.put, List.setIfInBounds_toArray, List.set_cons_zero, List.set_cons_succ]
  refine wpAnyH_take (i := 2) (v := .pointer (some ⟨rb, 4, none⟩)) rfl (by kernel_rfl) (by kernel_rfl) (by kernel_rfl) (fun _ _ _ h => h) (Or.inl ⟨by rfl, fun w9 hSw => ?_⟩) hHeld ?_
  · obtain rfl := hSw
    go_simp
  simp only [List.getElem_toArray, List.getElem_cons_zero, List.getElem_cons_succ, Act.put, List.setIfInBounds_toArray, List.set_cons_zero, List.set_cons_succ]
  refine wpAnyH_take (i := 3) (v := .map (some mb)) rfl (by kernel_rfl) (by kernel_rfl) (by kernel_rfl) (fun _ _ _ h => h) (Or.inl ⟨by rfl, fun w9 hSw => ?_⟩) hHeld ?_
  · obtain rfl := hSw
    go_simp
  simp only [List.getElem_toArray, List.getElem_cons_zero, List.getElem_cons_succ, Act.put, List.setIfInBounds_toArray, List.set_cons_zero, List.set_cons_succ]
  refine wpAnyH_take (i := 4) (v := .pointer (some ⟨w.heap.size, 0, none⟩)) rfl (by kernel_rfl) (by kernel_rfl) (by kernel_rfl) (fun _ _ _ h => h) (Or.inl ⟨by rfl, fun w9 hSw => ?_⟩) hHeld ?_
  · obtain rfl := hSw
    go_simp
  simp only [List.getElem_toArray, List.getElem_cons_zero, List.getElem_cons_succ, Act.put, List.setIfInBounds_toArray, List.set_cons_zero, List.set_cons_succ]
  refine wpAnyH_take (i := 5) (v := .string ⟨x.text.toArray⟩) rfl (by kernel_rfl) (by kernel_rfl) (by kernel_rfl) (fun _ _ _ h => h) (Or.inl ⟨by rfl, fun w9 hSw => ?_⟩) hHeld ?_
  · obtain rfl := hSw
    go_simp
  simp only [List.getElem_toArray, List.getElem_cons_zero, List.getElem_cons_succ, Act.put, List.setIfInBounds_toArray, List.set_cons_zero, List.set_cons_succ]
  refine wpAnyH_take (i := 6) (v := .tuple #[.int .i64 c, .bool b]) rfl (by kernel_rfl) (by kernel_rfl) (by kernel_rfl) (fun _ _ _ h => h) (Or.inl ⟨by rfl, fun w9 hSw => ?_⟩) hHeld ?_
  · obtain rfl := hSw
    go_simp
  simp only [List.getElem_toArray, List.getElem_cons_zero, List.getElem_cons_succ, Act.put, List.setIfInBounds_toArray, List.set_cons_zero, List.set_cons_succ]
  refine wpAnyH_take (i := 7) (v := .tuple #[.int .i64 c, .bool b]) rfl (by kernel_rfl) (by kernel_rfl) (by kernel_rfl) (fun _ _ _ h => h) (Or.inl ⟨by rfl, fun w9 hSw => ?_⟩) hHeld ?_
  · obtain rfl := hSw
    go_simp
  simp only [List.getElem_toArray, List.getElem_cons_zero, List.getElem_cons_succ, Act.put, List.setIfInBounds_toArray, List.set_cons_zero, List.set_cons_succ]
  refine wpAnyH_take (i := 8) (v := .int .i64 c) rfl (by kernel_rfl) (by kernel_rfl) (by kernel_rfl) (fun _ _ _ h => h) (Or.inl ⟨by rfl, fun w9 hSw => ?_⟩) hHeld ?_
  · obtain rfl := hSw
    go_simp
  simp only [List.getElem_toArray, List.getElem_cons_zero, List.getElem_cons_succ, Act.put, List.setIfInBounds_toArray, List.set_cons_zero, List.set_cons_succ]
  refine wpAnyH_take (i := 9) (v := .bool b) rfl (by kernel_rfl) (by kernel_rfl) (by kernel_rfl) (fun _ _ _ h => h) (Or.inl ⟨by rfl, fun w9 hSw => ?_⟩) hHeld ?_
  · obtain rfl := hSw
    go_simp
  simp only [List.getElem_toArray, List.getElem_cons_zero, List.getElem_cons_succ, Act.put, List.setIfInBounds_toArray, List.set_cons_zero, List.set_cons_succ]
  refine wpAnyH_take (i := 10) (v := .int .i64 c) rfl (by kernel_rfl) (by kernel_rfl) (by kernel_rfl) (fun _ _ _ h => h) (Or.inl ⟨by rfl, fun w9 hSw => ?_⟩) hHeld ?_
  · obtain rfl := hSw
    go_simp
  simp only [List.getElem_toArray, List.getElem_cons_zero, List.getElem_cons_succ, Act.put, List.setIfInBounds_toArray, List.set_cons_zero, List.set_cons_succ]
  refine wpAnyH_take (i := 11) (v := .bool b) rfl (by kernel_rfl) (by kernel_rfl) (by kernel_rfl) (fun _ _ _ h => h) (Or.inl ⟨by rfl, fun w9 hSw => ?_⟩) hHeld ?_
  · obtain rfl := hSw
    go_simp
  simp only [List.getElem_toArray, List.getElem_cons_zero, List.getElem_cons_succ, Act.put, List.setIfInBounds_toArray, List.set_cons_zero, List.set_cons_succ]
  refine wpAnyH_done (by kernel_rfl) (NoPanic.normal ?_) _
  have hterm := bterm_any bb base ⟨ts, ns, 0, rs⟩ nv mv nv2 mv2 brv lq ⟨x.text.toArray⟩ Wd.drew (by
    have hk : RKeep Wd Wd.drew bb 7 (fun _ => False) := RKeep.on (drew_keep Wd) (by have := hBB.t.lt; have := hBB.lt; omega)
    exact ⟨hBB.t.keep hk (by decide) (by decide) (by decide) (fun _ _ e => e), hBB.n.keep hk (by decide) (by decide) (by decide) (fun _ _ e => e), (hk.cell 4 (by decide) (by decide)).trans hBB.a, (hk.frozen 4).trans hBB.af, hBB.r.keep hk hBB.t.lt (by decide) (by decide) (fun _ _ _ _ _ e => e), hBB.far, hBB.lt⟩) hxs (by show ts.length ≤ _; omega)
  clear hlk
  have hmm : memB (bt x.text) ns = true ∨ memB (bt x.text) ns = false := by cases memB (bt x.text) ns <;> simp
  have hqq : x.quoted = true ∨ x.quoted = false := by cases x.quoted <;> simp
  have hWr : Hid (Wd.drew = Wd.drew) := rfl
  by_cases hc : (memB (bt x.text) ns && !x.quoted) = true
  · have hm : memB (bt x.text) ns = true := by
      rw [Bool.and_eq_true] at hc
      exact hc.1
    have hq : x.quoted = false := by
      rw [Bool.and_eq_true] at hc
      simpa using hc.2
    obtain rfl := hcm hm
    have hbt : b = true := by rw [hb]; exact hm
    subst hbt
    have F : Hid (symS ns ts x = -1 - idx ns (bt x.text) ∧ symT ns ts x = ts) := by
      show _ ∧ _
      rw [E.out.1, E.out.2, if_pos hc, if_pos hc]
      exact ⟨rfl, rfl⟩
    have hix : 0 ≤ idx ns ⟨x.text.toArray⟩ ∧ idx ns ⟨x.text.toArray⟩ < 1000000000 := by
      rcases idx_cases ns ⟨x.text.toArray⟩ with ⟨_, h2⟩ | ⟨k, h1, h2, _, _⟩
      · rw [show memB ⟨x.text.toArray⟩ ns = true from hm] at h2; cases h2
      · have := (List.getElem?_eq_some_iff.1 h2).1
        omega
    generalize hix2 : idx ns ⟨x.text.toArray⟩ = ix at *
    have HI : Hid (idx ns ⟨x.text.toArray⟩ = ix) := hix2
    have hwr : wrap64 (-1 - ix) = -1 - ix := by unfold wrap64; omega
    obtain ⟨hi1, hi2⟩ := hix
    clear hterm hmm hqq hc hm hcm hb hix2 hi1 hi2 r3 r4 E
    go_wp2
    go_ret
    have F2 := F.out
    rw [show idx ns (bt x.text) = ix from HI.out] at F2
    refine ⟨nv, mv, ?_, by rw [F2.2]; exact hBB, hc1⟩
    rw [F2.1]
    rfl
  · have F : Hid (symS ns ts x = numZ ts ⟨x.text.toArray⟩ ∧ symT ns ts x = addS ts ⟨x.text.toArray⟩) := by
      show _ ∧ _
      rw [E.out.1, E.out.2, if_neg hc, if_neg hc]
      exact ⟨rfl, rfl⟩
    have hbx : (b = true ∧ x.quoted = true) ∨ b = false := by
      rcases hmm with h1 | h1
      · rcases hqq with h2 | h2
        · exact .inl ⟨by rw [hb]; exact h1, h2⟩
        · exact absurd (by rw [h1, h2]; rfl) hc
      · exact .inr (by rw [hb]; exact h1)
    clear hmm hqq hc hcm hb E
    have hd4 := hd
    have HBe : Hid (Build Wd.drew bb base ⟨ts, ns, 0, rs⟩ nv mv nv2 mv2 brv lq) := by
      have hk : RKeep Wd Wd.drew bb 7 (fun _ => False) := RKeep.on (drew_keep Wd) (by have := hBB.t.lt; have := hBB.lt; omega)
      exact ⟨hBB.t.keep hk (by decide) (by decide) (by decide) (fun _ _ e => e), hBB.n.keep hk (by decide) (by decide) (by decide) (fun _ _ e => e), (hk.cell 4 (by decide) (by decide)).trans hBB.a, (hk.frozen 4).trans hBB.af, hBB.r.keep hk hBB.t.lt (by decide) (by decide) (fun _ _ _ _ _ e => e), hBB.far, hBB.lt⟩
    have HCd : Hid (ChgG base bb Wd Wd.drew) := ChgG.of_below (drew_keep Wd) hBB.lt
    have hboxd := hbox.below (drew_keep Wd) hbox.lt
    have hxbd := hxb.below (drew_keep Wd) hxb.lt
    rcases hbx with ⟨rfl, hq⟩ | rfl
    · go_wp2
      clear hq
      refine wp_region_noPanic ?_
      refine OrdersZ.region_Z (S := (fun w9 => RowAt w9 rb 85 #[nx, .int .i64 (start : Int), .int .i64 ln, .pointer (some ⟨bb, 0, none⟩), .map (some mb), rv] ∧ RowAt w9 w.heap.size 102 #[.string ⟨x.text.toArray⟩, .bool x.quoted, .int .i64 (x.place : Int)])) 7 (by kernel_rfl) ⟨hboxd, hxbd⟩ (fun hHeld => ?_)
      generalize Wd.drew = We at *
      replace hHeld : RowAt We rb 85 #[nx, .int .i64 (start : Int), .int .i64 ln, .pointer (some ⟨bb, 0, none⟩), .map (some mb), rv] ∧ RowAt We w.heap.size 102 #[.string ⟨x.text.toArray⟩, .bool x.quoted, .int .i64 (x.place : Int)] := ⟨hboxd, hxbd⟩
      refine OrdersZ.takeZ (i := 0) (v := .pointer (some ⟨rb, 0, none⟩)) rfl (by kernel_rfl) (by kernel_rfl) (by kernel_rfl) (by kernel_rfl) (by kernel_rfl) (fun _ _ _ h => h) (Or.inl ⟨by rfl, fun w9 hSw => ?_⟩) hHeld ?_
      · obtain ⟨s0, s1⟩ := hSw
        go_simp
      simp only [List.getElem_toArray, List.getElem_cons_zero, List.getElem_cons_succ, Act.put, List.setIfInBounds_toArray, List.set_cons_zero, List.set_cons_succ]
      refine OrdersZ.takeZ (i := 1) (v := .pointer (some ⟨rb, 0, none⟩)) rfl (by kernel_rfl) (by kernel_rfl) (by kernel_rfl) (by kernel_rfl) (by kernel_rfl) (fun _ _ _ h => h) (Or.inl ⟨by rfl, fun w9 hSw => ?_⟩) hHeld ?_
      · obtain ⟨s0, s1⟩ := hSw
        go_simp
      simp only [List.getElem_toArray, List.getElem_cons_zero, List.getElem_cons_succ, Act.put, List.setIfInBounds_toArray, List.set_cons_zero, List.set_cons_succ]
      refine OrdersZ.takeZ (i := 2) (v := .pointer (some ⟨rb, 3, none⟩)) rfl (by kernel_rfl) (by kernel_rfl) (by kernel_rfl) (by kernel_rfl) (by kernel_rfl) (fun _ _ _ h => h) (Or.inl ⟨by rfl, fun w9 hSw => ?_⟩) hHeld ?_
      · obtain ⟨s0, s1⟩ := hSw
        go_simp
      simp only [List.getElem_toArray, List.getElem_cons_zero, List.getElem_cons_succ, Act.put, List.setIfInBounds_toArray, List.set_cons_zero, List.set_cons_succ]
      refine OrdersZ.takeZ (i := 3) (v := .pointer (some ⟨bb, 0, none⟩)) rfl (by kernel_rfl) (by kernel_rfl) (by kernel_rfl) (by kernel_rfl) (by kernel_rfl) (fun _ _ _ h => h) (Or.inl ⟨by rfl, fun w9 hSw => ?_⟩) hHeld ?_
      · obtain ⟨s0, s1⟩ := hSw
        go_simp
        (have q := s0.cell (q := 3) rfl; go_simp)
      simp only [List.getElem_toArray, List.getElem_cons_zero, List.getElem_cons_succ, Act.put, List.setIfInBounds_toArray, List.set_cons_zero, List.set_cons_succ]
      refine OrdersZ.takeZ (i := 4) (v := .pointer (some ⟨w.heap.size, 0, none⟩)) rfl (by kernel_rfl) (by kernel_rfl) (by kernel_rfl) (by kernel_rfl) (by kernel_rfl) (fun _ _ _ h => h) (Or.inl ⟨by rfl, fun w9 hSw => ?_⟩) hHeld ?_
      · obtain ⟨s0, s1⟩ := hSw
        go_simp
      simp only [List.getElem_toArray, List.getElem_cons_zero, List.getElem_cons_succ, Act.put, List.setIfInBounds_toArray, List.set_cons_zero, List.set_cons_succ]
      refine OrdersZ.takeZ (i := 5) (v := .string ⟨x.text.toArray⟩) rfl (by kernel_rfl) (by kernel_rfl) (by kernel_rfl) (by kernel_rfl) (by kernel_rfl) (fun _ _ _ h => h) (Or.inl ⟨by rfl, fun w9 hSw => ?_⟩) hHeld ?_
      · obtain ⟨s0, s1⟩ := hSw
        go_simp
        (have q := s1.cell (q := 0) rfl; go_simp)
      simp only [List.getElem_toArray, List.getElem_cons_zero, List.getElem_cons_succ, Act.put, List.setIfInBounds_toArray, List.set_cons_zero, List.set_cons_succ]
      refine OrdersZ.readyZ (i := 6) (by kernel_rfl) rfl (fun K hK => ?_)
      go_simp
      refine hterm.mono ?_
      rintro e w7 ⟨⟨nv', mv', rfl, hB7⟩, hk7⟩
      have hc7 := ChgG.term HBe.out hk7
      have hbox7 := (hc7.block rb hd4.rlt hd4.rbb).trans hboxd
      have hx7 := hc7.row _ _ _ (by omega) (by decide) (by decide) hxbd
      refine hK.out _ _ ⟨hbox7, hx7⟩ (fun hHeld => ?_)
      clear hK K
      refine OrdersZ.lastZ (by kernel_rfl) rfl (fun K hK => ?_)
      go_simp
      refine hK.out _ _ ?_
      clear hK K
      refine OrdersZ.doneZ (by kernel_rfl) (NoPanic.normal ?_) _
      have hcf := (hc1.trans HCd.out).trans hc7
      clear hterm hk7 hc7 hbox7 hx7
      go_wp2
      go_ret
      refine ⟨nv', mv', ?_, by rw [F.out.2]; exact hB7, hcf⟩
      rw [F.out.1]
      rfl
    · go_wp2
      refine wp_region_noPanic ?_
      refine OrdersZ.region_Z (S := (fun w9 => RowAt w9 rb 85 #[nx, .int .i64 (start : Int), .int .i64 ln, .pointer (some ⟨bb, 0, none⟩), .map (some mb), rv] ∧ RowAt w9 w.heap.size 102 #[.string ⟨x.text.toArray⟩, .bool x.quoted, .int .i64 (x.place : Int)])) 7 (by kernel_rfl) ⟨hboxd, hxbd⟩ (fun hHeld => ?_)
      generalize Wd.drew = We at *
      replace hHeld : RowAt We rb 85 #[nx, .int .i64 (start : Int), .int .i64 ln, .pointer (some ⟨bb, 0, none⟩), .map (some mb), rv] ∧ RowAt We w.heap.size 102 #[.string ⟨x.text.toArray⟩, .bool x.quoted, .int .i64 (x.place : Int)] := ⟨hboxd, hxbd⟩
      refine OrdersZ.takeZ (i := 0) (v := .pointer (some ⟨rb, 0, none⟩)) rfl (by kernel_rfl) (by kernel_rfl) (by kernel_rfl) (by kernel_rfl) (by kernel_rfl) (fun _ _ _ h => h) (Or.inl ⟨by rfl, fun w9 hSw => ?_⟩) hHeld ?_
      · obtain ⟨s0, s1⟩ := hSw
        go_simp
      simp only [List.getElem_toArray, List.getElem_cons_zero, List.getElem_cons_succ, Act.put, List.setIfInBounds_toArray, List.set_cons_zero, List.set_cons_succ]
      refine OrdersZ.takeZ (i := 1) (v := .pointer (some ⟨rb, 0, none⟩)) rfl (by kernel_rfl) (by kernel_rfl) (by kernel_rfl) (by kernel_rfl) (by kernel_rfl) (fun _ _ _ h => h) (Or.inl ⟨by rfl, fun w9 hSw => ?_⟩) hHeld ?_
      · obtain ⟨s0, s1⟩ := hSw
        go_simp
      simp only [List.getElem_toArray, List.getElem_cons_zero, List.getElem_cons_succ, Act.put, List.setIfInBounds_toArray, List.set_cons_zero, List.set_cons_succ]
      refine OrdersZ.takeZ (i := 2) (v := .pointer (some ⟨rb, 3, none⟩)) rfl (by kernel_rfl) (by kernel_rfl) (by kernel_rfl) (by kernel_rfl) (by kernel_rfl) (fun _ _ _ h => h) (Or.inl ⟨by rfl, fun w9 hSw => ?_⟩) hHeld ?_
      · obtain ⟨s0, s1⟩ := hSw
        go_simp
      simp only [List.getElem_toArray, List.getElem_cons_zero, List.getElem_cons_succ, Act.put, List.setIfInBounds_toArray, List.set_cons_zero, List.set_cons_succ]
      refine OrdersZ.takeZ (i := 3) (v := .pointer (some ⟨bb, 0, none⟩)) rfl (by kernel_rfl) (by kernel_rfl) (by kernel_rfl) (by kernel_rfl) (by kernel_rfl) (fun _ _ _ h => h) (Or.inl ⟨by rfl, fun w9 hSw => ?_⟩) hHeld ?_
      · obtain ⟨s0, s1⟩ := hSw
        go_simp
        (have q := s0.cell (q := 3) rfl; go_simp)
      simp only [List.getElem_toArray, List.getElem_cons_zero, List.getElem_cons_succ, Act.put, List.setIfInBounds_toArray, List.set_cons_zero, List.set_cons_succ]
      refine OrdersZ.takeZ (i := 4) (v := .pointer (some ⟨w.heap.size, 0, none⟩)) rfl (by kernel_rfl) (by kernel_rfl) (by kernel_rfl) (by kernel_rfl) (by kernel_rfl) (fun _ _ _ h => h) (Or.inl ⟨by rfl, fun w9 hSw => ?_⟩) hHeld ?_
      · obtain ⟨s0, s1⟩ := hSw
        go_simp
      simp only [List.getElem_toArray, List.getElem_cons_zero, List.getElem_cons_succ, Act.put, List.setIfInBounds_toArray, List.set_cons_zero, List.set_cons_succ]
      refine OrdersZ.takeZ (i := 5) (v := .string ⟨x.text.toArray⟩) rfl (by kernel_rfl) (by kernel_rfl) (by kernel_rfl) (by kernel_rfl) (by kernel_rfl) (fun _ _ _ h => h) (Or.inl ⟨by rfl, fun w9 hSw => ?_⟩) hHeld ?_
      · obtain ⟨s0, s1⟩ := hSw
        go_simp
        (have q := s1.cell (q := 0) rfl; go_simp)
      simp only [List.getElem_toArray, List.getElem_cons_zero, List.getElem_cons_succ, Act.put, List.setIfInBounds_toArray, List.set_cons_zero, List.set_cons_succ]
      refine OrdersZ.readyZ (i := 6) (by kernel_rfl) rfl (fun K hK => ?_)
      go_simp
      refine hterm.mono ?_
      rintro e w7 ⟨⟨nv', mv', rfl, hB7⟩, hk7⟩
      have hc7 := ChgG.term HBe.out hk7
      have hbox7 := (hc7.block rb hd4.rlt hd4.rbb).trans hboxd
      have hx7 := hc7.row _ _ _ (by omega) (by decide) (by decide) hxbd
      refine hK.out _ _ ⟨hbox7, hx7⟩ (fun hHeld => ?_)
      clear hK K
      refine OrdersZ.lastZ (by kernel_rfl) rfl (fun K hK => ?_)
      go_simp
      refine hK.out _ _ ?_
      clear hK K
      refine OrdersZ.doneZ (by kernel_rfl) (NoPanic.normal ?_) _
      have hcf := (hc1.trans HCd.out).trans hc7
      clear hterm hk7 hc7 hbox7 hx7
      go_wp2
      go_ret
      refine ⟨nv', mv', ?_, by rw [F.out.2]; exact hB7, hcf⟩
      rw [F.out.1]
      rfl

end Go.Proofs.YtgepbophnbbbpaaGreatDoor.SpecMem

namespace Go.Proofs.YtgepbophnbbbpaaGreatDoor.SpecRun
open Go.Proofs.YtgepbophnbbbpaaGreatDoor.GramMath Go.Proofs.YtgepbophnbbbpaaGreatDoor.GramOne Go.Proofs.YtgepbophnbbbpaaGreatDoor.LineMath Go.Proofs.YtgepbophnbbbpaaGreatDoor.SpecLn Go.Proofs.YtgepbophnbbbpaaGreatDoor.SpecMd Go.Proofs.YtgepbophnbbbpaaGreatDoor.SpecTx
set_option linter.unusedVariables false
set_option linter.unusedSimpArgs false

def FitS (s : Sd) : Prop := s.left.length ≤ 32 ∧ ∀ w ∈ s.names, w.text.length ≤ 32
def sumN : List Sd → Nat
  | [] => 0
  | s :: r => s.names.length + sumN r
theorem sum_app : ∀ (a b : List Sd), sumN (a ++ b) = sumN a + sumN b
  | [], b => by simp [sumN]
  | s :: r, b => by
    show s.names.length + sumN (r ++ b) = s.names.length + sumN r + sumN b
    rw [sum_app r b]
    omega
theorem len_32 {x : Wd} (h : lenB x = true) : x.text.length ≤ 32 := by
  unfold lenB at h
  simp at h
  exact h.2.2
theorem push_fit {start : Nat} {rs : List Sd} {x : Wd} (h : ∀ s ∈ rs, FitS s) (hx : x.text.length ≤ 32) : (∀ s ∈ push start rs x, FitS s) ∧ sumN (push start rs x) ≤ sumN rs + 1 := by
  unfold push
  cases hl : rs.getLast? with
  | none => exact ⟨h, by simp⟩
  | some q =>
    obtain ⟨l, rfl⟩ : ∃ l, rs = l ++ [q] := by
      have hne : rs ≠ [] := by rintro rfl; cases hl
      have := List.dropLast_concat_getLast hne
      rw [List.getLast?_eq_some_getLast hne] at hl
      cases hl
      exact ⟨_, this.symm⟩
    rw [List.dropLast_concat]
    have hq := h q (by simp)
    refine ⟨fun s hs => ?_, ?_⟩
    · rcases List.mem_append.1 hs with hs | hs
      · exact h s (List.mem_append_left _ hs)
      · rw [List.mem_singleton.1 hs]
        refine ⟨hq.1, fun w hw => ?_⟩
        rcases List.mem_append.1 hw with hw | hw
        · exact hq.2 w hw
        · rw [List.mem_singleton.1 hw]; exact hx
    · rw [sum_app, sum_app]
      simp [sumN]
      omega
theorem step_fit {start : Nat} {p p' : PS} {x : Wd} (h : SpecLn.step start p x = .ok p') (hl : p.left.length ≤ 32) (hr : ∀ s ∈ p.rs, FitS s) : p'.left.length ≤ 32 ∧ (∀ s ∈ p'.rs, FitS s) ∧ sumN p'.rs ≤ sumN p.rs + 1 := by
  have open_ : p' = opened start p.left p.rs x → p'.left.length ≤ 32 ∧ (∀ s ∈ p'.rs, FitS s) ∧ sumN p'.rs ≤ sumN p.rs + 1 := fun e => by
    rw [e]
    refine ⟨hl, fun s hs => ?_, by unfold opened; simp only; rw [sum_app]; simp [sumN]⟩
    rcases List.mem_append.1 hs with hs | hs
    · exact hr s hs
    · rw [List.mem_singleton.1 hs]
      exact ⟨hl, fun w hw => by cases hw⟩
  unfold SpecLn.step at h
  split at h
  · split at h
    · cases h; exact ⟨hl, hr, by simp⟩
    · split at h
      · cases h; exact open_ rfl
      · split at h
        · cases h
        · split at h
          · rename_i hlb
            cases h
            exact ⟨len_32 hlb, hr, by simp⟩
          · cases h
  · split at h
    · cases h; exact open_ rfl
    · cases h
  · split at h
    · cases h; exact ⟨hl, hr, by simp⟩
    · split at h
      · cases h; exact open_ rfl
      · split at h
        · rename_i hlb
          cases h
          obtain ⟨h1, h2⟩ := push_fit (start := start) hr (len_32 hlb)
          exact ⟨hl, h1, h2⟩
        · cases h
  · cases h; exact ⟨hl, hr, by simp⟩
theorem run_fit {start : Nat} : ∀ (ws : List Wd) (p p' : PS), run start ws p = .ok p' → p.left.length ≤ 32 → (∀ s ∈ p.rs, FitS s) → p'.left.length ≤ 32 ∧ (∀ s ∈ p'.rs, FitS s) ∧ sumN p'.rs ≤ sumN p.rs + ws.length
  | [], p, p', h, hl, hr => by cases h; exact ⟨hl, hr, by simp⟩
  | x :: r, p, p', h, hl, hr => by
    cases hz : SpecLn.step start p x with
    | error q => rw [run_cons_bad hz] at h; cases h
    | ok p2 =>
      rw [run_cons_ok hz] at h
      obtain ⟨h1, h2, h3⟩ := step_fit hz hl hr
      obtain ⟨h4, h5, h6⟩ := run_fit r p2 p' h h1 h2
      simp only [List.length_cons]
      exact ⟨h4, h5, by omega⟩
def totalL : List (List UInt8) → Nat
  | [] => 0
  | x :: r => x.length + 1 + totalL r
theorem split_totalL : ∀ (l cur : List UInt8), totalL (splitGo cur l) = cur.length + l.length + 1
  | [], cur => rfl
  | c :: r, cur => by
    show totalL (if c = 10 then _ else _) = _
    split
    · show cur.length + 1 + totalL (splitGo [] r) = _
      rw [split_totalL r []]
      simp
      omega
    · rw [split_totalL r _]
      simp
      omega
theorem text_fit : ∀ (ls : List (List UInt8)) (start : Nat) (left : List UInt8) (all all' : List Sd), textP ls start left all = .ok all' → left.length ≤ 32 → (∀ s ∈ all, FitS s) → (∀ s ∈ all', FitS s) ∧ sumN all' ≤ sumN all + totalL ls
  | [], start, left, all, all', h, hl, hr => by cases h; exact ⟨hr, by simp⟩
  | x :: ls, start, left, all, all', h, hl, hr => by
    unfold textP at h
    split at h
    · cases h
    · cases hR : WordsMath.lineL x 0 [] with
      | error p => rw [hR] at h; cases h
      | ok ws =>
        rw [hR] at h
        simp only at h
        have hwl : ws.length ≤ x.length := by
          obtain ⟨more, hm, hpw, hpl3⟩ := WordsMath.lineL_ok _ _ _ _ _ (Nat.le_refl _) hR
          rw [List.nil_append] at hm
          subst hm
          have := WordsMath.rise_len ws 0 _ hpw hpl3
          omega
        cases hz : run start (ws ++ [endW x]) ⟨.beg, left, all⟩ with
        | error p => rw [hz] at h; cases h
        | ok q =>
          rw [hz] at h
          obtain ⟨h1, h2, h3⟩ := run_fit _ _ _ hz hl hr
          obtain ⟨h4, h5⟩ := text_fit ls _ _ _ _ h h1 h2
          rw [List.length_append, List.length_singleton] at h3
          refine ⟨h4, ?_⟩
          show sumN all' ≤ sumN all + (x.length + 1 + totalL ls)
          simp only at h3
          omega
theorem sides_fit {t : List UInt8} {all : List Sd} (h : sidesZ t = .ok all) : (∀ s ∈ all, FitS s) ∧ sumN all ≤ t.length + 1 := by
  unfold sidesZ at h
  cases hz : textP (splitGo [] t) 0 [] [] with
  | error p => rw [hz] at h; cases h
  | ok a =>
    rw [hz] at h
    simp only at h
    split at h
    · cases h
    · cases h
      obtain ⟨h1, h2⟩ := text_fit _ _ _ _ _ hz (by simp) (fun s hs => by cases hs)
      rw [split_totalL] at h2
      simp [sumN] at h2
      exact ⟨h1, h2⟩

/-- A number that is small. -/
def Sm (x : Int) : Prop := -1000000002 ≤ x ∧ x ≤ 1000000000
theorem idx_small (ss : List ByteArray) (s : ByteArray) (h : ss.length ≤ 1000000000) : -1 ≤ idx ss s ∧ idx ss s ≤ 1000000000 := by
  rcases idx_cases ss s with ⟨h1, _⟩ | ⟨k, h1, h2, _, _⟩
  · omega
  · have := (List.getElem?_eq_some_iff.1 h2).1
    omega
theorem sym_small (ns ts : List ByteArray) (w : Wd) (h1 : ns.length ≤ 1000000000) (h2 : ts.length ≤ 1000000000) : Sm (symS ns ts w) := by
  have h3 := idx_small ns (bt w.text) h1
  have h4 := idx_small ts (bt w.text) h2
  unfold symS Sm
  split
  · omega
  · unfold numS
    split <;> omega
theorem symT_more (ns ts : List ByteArray) (w : Wd) : (symT ns ts w).length ≤ ts.length + 1 := by
  unfold symT addN
  split
  · omega
  · split <;> simp
theorem names_ok (ns : List ByteArray) (hn : ns.length ≤ 1000000000) : ∀ (l : List Wd) (ts : List ByteArray) (acc : List Int), ts.length + l.length ≤ 1000000000 → (∀ x ∈ acc, Sm x) →
    (namesZ ns l ts acc).1.length ≤ ts.length + l.length ∧ (namesZ ns l ts acc).2.length = acc.length + l.length ∧ ∀ x ∈ (namesZ ns l ts acc).2, Sm x
  | [], ts, acc, h, ha => ⟨by simp [namesZ], by simp [namesZ], ha⟩
  | w :: r, ts, acc, h, ha => by
    simp only [List.length_cons] at h ⊢
    have h1 := symT_more ns ts w
    obtain ⟨h2, h3, h4⟩ := names_ok ns hn r (symT ns ts w) (acc ++ [symS ns ts w]) (by omega) (fun x hx => by
      rcases List.mem_append.1 hx with hx | hx
      · exact ha x hx
      · rw [List.mem_singleton.1 hx]; exact sym_small ns ts w hn (by omega))
    rw [List.length_append, List.length_singleton] at h3
    refine ⟨?_, ?_, h4⟩
    · show (namesZ ns r _ _).1.length ≤ _
      omega
    · show (namesZ ns r _ _).2.length = _
      omega
theorem symT_sizes {ns ts : List ByteArray} {w : Wd} (ht : ∀ t ∈ ts, t.size ≤ 32) (hw : w.text.length ≤ 32) : ∀ t ∈ symT ns ts w, t.size ≤ 32 := by
  unfold symT addN
  split
  · exact ht
  · split
    · exact ht
    · intro t h
      rcases List.mem_append.1 h with h | h
      · exact ht t h
      · rw [List.mem_singleton.1 h]
        simpa [bt, ByteArray.size] using hw
theorem names_sizes (ns : List ByteArray) : ∀ (l : List Wd) (ts : List ByteArray) (acc : List Int), (∀ w ∈ l, w.text.length ≤ 32) → (∀ t ∈ ts, t.size ≤ 32) → ∀ t ∈ (namesZ ns l ts acc).1, t.size ≤ 32
  | [], ts, acc, h, ht => ht
  | w :: r, ts, acc, h, ht => names_sizes ns r _ _ (fun x hx => h x (List.mem_cons_of_mem _ hx)) (symT_sizes ht (h w List.mem_cons_self))
def SmR (M : Nat) (r : R) : Prop := Sm r.left ∧ (∀ x ∈ r.right, Sm x) ∧ r.right.length ≤ M
theorem rules_ok (ns : List ByteArray) (hn : ns.length ≤ 1000000000) (M : Nat) : ∀ (l : List Sd) (ts : List ByteArray) (rs : List R), ts.length + sumN l ≤ 1000000000 → (∀ s ∈ l, FitS s ∧ s.names.length ≤ M) → (∀ t ∈ ts, t.size ≤ 32) → (∀ r ∈ rs, SmR M r) →
    (rulesZ ns l ts rs).1.length ≤ ts.length + sumN l ∧ (rulesZ ns l ts rs).2.length = rs.length + l.length ∧ (∀ t ∈ (rulesZ ns l ts rs).1, t.size ≤ 32) ∧ ∀ r ∈ (rulesZ ns l ts rs).2, SmR M r
  | [], ts, rs, h, hl, ht, hr => ⟨by simp [rulesZ], by simp [rulesZ], ht, hr⟩
  | s :: r, ts, rs, h, hl, ht, hr => by
    have hs : sumN (s :: r) = s.names.length + sumN r := rfl
    rw [hs] at h ⊢
    obtain ⟨h1, h2, h3⟩ := names_ok ns hn s.names ts [] (by omega) (fun x hx => by cases hx)
    have hi := idx_small ns (bt s.left) hn
    have hsl := hl s List.mem_cons_self
    obtain ⟨h4, h5, h6, h7⟩ := rules_ok ns hn M r (namesZ ns s.names ts []).1 (rs ++ [⟨idx ns (bt s.left), (namesZ ns s.names ts []).2⟩]) (by omega) (fun x hx => hl x (List.mem_cons_of_mem _ hx)) (names_sizes ns _ _ _ hsl.1.2 ht) (fun x hx => by
      rcases List.mem_append.1 hx with hx | hx
      · exact hr x hx
      · rw [List.mem_singleton.1 hx]
        exact ⟨by show Sm (idx ns (bt s.left)); unfold Sm; omega, h3, by rw [h2]; simpa using hsl.2⟩)
    rw [List.length_append, List.length_singleton] at h5
    refine ⟨?_, ?_, h6, h7⟩
    · show (rulesZ ns r _ _).1.length ≤ _
      omega
    · show (rulesZ ns r _ _).2.length = _
      simp only [List.length_cons]
      omega
theorem nts_small (l : List Sd) : ∀ ns, (ntsZ l ns).length ≤ ns.length + l.length := by
  induction l with
  | nil => intro ns; exact Nat.le_refl _
  | cons x l ih =>
    intro ns
    have h1 := ih (addN ns (bt x.left))
    have h2 : (addN ns (bt x.left)).length ≤ ns.length + 1 := by unfold addN; split <;> simp
    show (ntsZ l _).length ≤ _
    simp only [List.length_cons]
    omega
theorem nts_sizes : ∀ (l : List Sd) (ns : List ByteArray), (∀ s ∈ l, FitS s) → (∀ t ∈ ns, t.size ≤ 32) → ∀ t ∈ ntsZ l ns, t.size ≤ 32
  | [], ns, h, ht => ht
  | s :: r, ns, h, ht => nts_sizes r _ (fun x hx => h x (List.mem_cons_of_mem _ hx)) (by
    unfold addN
    split
    · exact ht
    · intro t hm
      rcases List.mem_append.1 hm with hm | hm
      · exact ht t hm
      · rw [List.mem_singleton.1 hm]
        simpa [bt, ByteArray.size] using (h s List.mem_cons_self).1)
/-- All bounds of what was made. -/
theorem made_ok {all : List Sd} (M : Nat) (hM : M ≤ 1000000000) (h1 : all.length ≤ 100000000) (h2 : sumN all ≤ 100000000) (h3 : ∀ s ∈ all, FitS s ∧ s.names.length ≤ M) :
    okG (madeZ all) ∧ (madeZ all).ts.length ≤ 100000000 ∧ (madeZ all).ns.length ≤ 100000000 ∧ (madeZ all).rs.length ≤ 100000000 ∧ ∀ r ∈ (madeZ all).rs, r.right.length ≤ M := by
  have hn := nts_small all []
  simp at hn
  have hs := nts_sizes all [] (fun s hs => (h3 s hs).1) (fun t ht => by cases ht)
  obtain ⟨h4, h5, h6, h7⟩ := rules_ok (ntsZ all []) (by omega) M all [] [] (by simp; omega) h3 (fun t ht => by cases ht) (fun r hr => by cases hr)
  simp at h4 h5
  have e1 : (madeZ all).ts = (rulesZ (ntsZ all []) all [] []).1 := rfl
  have e2 : (madeZ all).ns = ntsZ all [] := rfl
  have e3 : (madeZ all).rs = (rulesZ (ntsZ all []) all [] []).2 := rfl
  have e4 : (madeZ all).ax = 0 := rfl
  unfold okG
  rw [e1, e2, e3, e4]
  refine ⟨⟨by omega, by omega, by omega, by unfold I64; omega, fun r hr => ?_, fun t ht => by have := h6 t ht; omega, fun t ht => by have := hs t ht; omega⟩, by omega, by omega, by omega, fun r hr => (h7 r hr).2.2⟩
  obtain ⟨a1, a2, a3⟩ := h7 r hr
  refine ⟨by unfold I64; unfold Sm at a1; omega, fun x hx => by have := a2 x hx; unfold Sm at this; unfold I64; omega, by omega⟩

end Go.Proofs.YtgepbophnbbbpaaGreatDoor.SpecRun
