/-
  Texts that stand together: SpecSym.
-/
import Derived.Test.YtbeflhpekklgoaaGreatDoorBSpecText
namespace Go.Proofs.YtbeflhpekklgoaaGreatDoor.SpecMem
open Go.Proofs.YtbeflhpekklgoaaGreatDoor.GramLess Go.RowKit Go.Maps Go.WideMaps Go.Proofs.YtbeflhpekklgoaaGreatDoor.GramMath Go.Proofs.YtbeflhpekklgoaaGreatDoor.GramRow Go.Proofs.YtbeflhpekklgoaaGreatDoor.GramOne Go.Proofs.YtbeflhpekklgoaaGreatDoor.GramApart Go.Proofs.YtbeflhpekklgoaaGreatDoor.GramRoll Go.Proofs.YtbeflhpekklgoaaGreatDoor.GramCopy Go.Proofs.YtbeflhpekklgoaaGreatDoor.LineMath Go.Proofs.YtbeflhpekklgoaaGreatDoor.SpecLn Go.Proofs.YtbeflhpekklgoaaGreatDoor.SpecMd Go.Proofs.YtbeflhpekklgoaaGreatDoor.SpecTx Go.Proofs.YtbeflhpekklgoaaGreatDoor.WordsBytes
set_option linter.unusedVariables false
set_option linter.unusedSimpArgs false

/-- A reader but for its Builder. -/
structure RdK (w : World) (rb bb mb base : Nat) (nx : Value) (start : Nat) (ln : Int) (ns : List ByteArray) (qs : List Qr) (D : DataW Unit) (rv : Value) : Prop where
  box : RowAt w rb 76 #[nx, .int .i64 (start : Int), .int .i64 ln, .pointer (some ⟨bb, 0, none⟩), .map (some mb), rv]
  own : OwnM w mb (start + 1) D
  map : MapOf D ns
  rules : w.ownsRow base 85 3 rv qs.length (cellsR ns qs)
  each : ∀ q ∈ qs, w.ownsRow base 87 3 q.v q.s.names.length (cellsW q.s.names)
  rlt : rb < base
  mlt : mb < base
  rbb : rb ≠ bb
  mbb : mb ≠ bb
/-- What telling the Builder writes. -/
structure ChgG (base bb : Nat) (w w' : World) : Prop where
  os : w'.os = w.os
  tape : w'.tape = w.tape
  output : w'.output = w.output
  size : w.heap.size ≤ w'.heap.size
  block : ∀ k, k < base → k ≠ bb → w'.heap[k]? = w.heap[k]?
  row : ∀ b t C, base ≤ b → t ≠ 9 → t ≠ 40 → RowAt w b t C → RowAt w' b t C
theorem ChgG.refl (base bb : Nat) (w : World) : ChgG base bb w w := ⟨rfl, rfl, rfl, Nat.le_refl _, fun _ _ _ => rfl, fun _ _ _ _ _ _ h => h⟩
theorem ChgG.trans {base bb : Nat} {a b c : World} (h : ChgG base bb a b) (k : ChgG base bb b c) : ChgG base bb a c :=
  ⟨k.os.trans h.os, k.tape.trans h.tape, k.output.trans h.output, Nat.le_trans h.size k.size, fun i h1 h2 => (k.block i h1 h2).trans (h.block i h1 h2), fun b t C h1 h2 h3 h4 => k.row b t C h1 h2 h3 (h.row b t C h1 h2 h3 h4)⟩
theorem ChgG.of_below {base bb : Nat} {w w' : World} (h : Below w.heap.size w w') (hB : base ≤ w.heap.size) : ChgG base bb w w' := ⟨h.os, h.tape, h.output, h.size, fun k hk _ => h.block k (by omega), fun b t C _ _ _ hr => hr.below h hr.lt⟩
theorem ChgG.below {base bb B : Nat} {w w' : World} (h : ChgG base bb w w') (h1 : B ≤ bb) (h2 : B ≤ base) : Below B w w' := ⟨h.os, h.tape, h.output, h.size, fun k hk => h.block k (by omega) (by omega)⟩
theorem ChgG.own {base bb : Nat} {w w' : World} (h : ChgG base bb w w') {e : TypeId} {size n : Nat} {v : Value} {xs : List Value} (he : e ≠ 9) (he2 : e ≠ 40) (ho : w.ownsRow base e size v n xs) : w'.ownsRow base e size v n xs := own_block ho (fun g hg => by
  obtain ⟨cur, hr⟩ := own_row ho hg
  exact (h.row g _ cur (ho.lt g hg).1 he he2 hr).trans (Eq.symm hr))
theorem RdK.keep {w w' : World} {rb bb mb base start : Nat} {nx : Value} {ln : Int} {ns : List ByteArray} {qs : List Qr} {D : DataW Unit} {rv : Value} (h : RdK w rb bb mb base nx start ln ns qs D rv) (hc : ChgG base bb w w') : RdK w' rb bb mb base nx start ln ns qs D rv :=
  ⟨(hc.block rb h.rlt h.rbb).trans h.box, h.own.at (hc.block mb h.mlt h.mbb), h.map, hc.own (by decide) (by decide) h.rules, fun q hq => hc.own (by decide) (by decide) (h.each q hq), h.rlt, h.mlt, h.rbb, h.mbb⟩
theorem RdN.k {w : World} {rb bb mb base start : Nat} {nx : Value} {ln : Int} {ns : List ByteArray} {qs : List Qr} {D : DataW Unit} {rv nv mv : Value} (h : RdN w rb bb mb base nx start ln ns qs D rv nv mv) : RdK w rb bb mb base nx start ln ns qs D rv := ⟨h.box, h.own, h.map, h.rules, h.each, h.rlt, h.mlt, h.rbb, h.mbb⟩
theorem ChgG.term {w w' : World} {bb base : Nat} {g : G} {nv mv nv2 mv2 rv : Value} {lq : List Q} (h : Build w bb base g nv mv nv2 mv2 rv lq) (hk : RKeep w w' bb 0 (ofRoll nv mv)) : ChgG base bb w w' :=
  ⟨hk.os, hk.tape, hk.output, hk.size, fun k h1 h2 => hk.block k (by have := h.lt; omega) h2 (fun e => by have := (h.t.blocks e).1; omega), fun b t C h1 h2 _ hr => (hk.block b hr.lt (by have := h.t.lt; omega) (h.t.not_row hr h2)).trans hr⟩
theorem ChgG.rule {w w' : World} {bb base : Nat} {g : G} {nv mv nv2 mv2 rv : Value} {lq : List Q} (h : Build w bb base g nv mv nv2 mv2 rv lq) (hk : RKeep w w' bb 5 (fun k => rv.ownBlock = some k)) : ChgG base bb w w' :=
  ⟨hk.os, hk.tape, hk.output, hk.size, fun k h1 h2 => hk.block k (by have := h.lt; omega) h2 (fun e => by have := (h.r.row.lt k e).1; omega), fun b t C h1 _ h3 hr => (hk.block b hr.lt (by have := h.t.lt; omega) (fun e => by
    obtain ⟨cur, hc⟩ := own_row h.r.row e
    exact hr.ne hc h3 rfl)).trans hr⟩

theorem look_any {w : World} {mb M : Nat} {D : DataW Unit} {ns : List ByteArray} (h : OwnM w mb M D) (hm : MapOf D ns) (s : ByteArray) (hs : s.size ≤ 281474976710656) :
    ∃ c b, (Instr.lookup 71 (.map (some mb)) (.string s) true).run Tryz.prog w = .ok (.tuple #[.int .i64 c, .bool b]) w ∧ b = memB s ns ∧ (memB s ns = true → c = idx ns s) := by
  obtain ⟨n, _, hown⟩ := h
  have hkey : keyOf Tryz.prog 9 (.string s) = some (keyL s) := keyOf_string_mk Tryz.underlying9 (by unfold maxLen; omega)
  obtain ⟨v, ps, hrun, hR⟩ := hown.look_ok keyed Tryz.underlying71 (zeroI w) (zd := .lit (.int .i64 0)) (zp := []) (plainElem_int Tryz.underlying3 (by decide)) hkey
  obtain ⟨c, rfl, hc, _⟩ := plainElem_int_inv Tryz.underlying3 hR
  have hc2 : D.atKey (keyL s) (.lit (.int .i64 0)) = .lit (.int .i64 c) := congrArg Prod.fst hc
  refine ⟨c, _, hrun, ?_, fun hmem => ?_⟩
  · rcases idx_cases ns s with ⟨_, h2⟩ | ⟨k, _, hk, _, h2⟩
    · rw [h2]
      exact (hm.miss s (fun e => by rw [(memB_iff _ _).2 e] at h2; cases h2)).1
    · rw [h2]
      exact (hm.hit k s hk).1
  · rcases idx_cases ns s with ⟨_, h2⟩ | ⟨k, e, hk, _, _⟩
    · rw [hmem] at h2; cases h2
    · rw [(hm.hit k s hk).2] at hc2
      have : (k : Int) = c := by simpa using hc2
      omega

/-- What asking for a name's symbol answers. -/
def SymR (bb base : Nat) (ns ts : List ByteArray) (rs : List R) (nv2 mv2 brv : Value) (lq : List Q) (x : Wd) (w : World) (e : Ending) (w' : World) : Prop := ∃ nv' mv', e = .returned (.int .i64 (symS ns ts x)) ∧ Build w' bb base ⟨symT ns ts x, ns, 0, rs⟩ nv' mv' nv2 mv2 brv lq ∧ ChgG base bb w w'

set_option maxRecDepth 100000 in
set_option maxHeartbeats 4000000 in
theorem symbol_any (rb bb mb base start : Nat) (nx : Value) (ln : Int) (ns ts : List ByteArray) (rs : List R) (qs : List Qr) (D : DataW Unit) (rv nv mv nv2 mv2 brv : Value) (lq : List Q) (x : Wd) (w : World) (h : RdK w rb bb mb base nx start ln ns qs D rv) (hB : Build w bb base ⟨ts, ns, 0, rs⟩ nv mv nv2 mv2 brv lq) (hx : x.text.length ≤ 1048576) (hts : ts.length ≤ 1000000000) (hns : ns.length ≤ 1000000000) :
    Calls Tryz.prog 39 #[.pointer (some ⟨rb, 0, none⟩), .agg #[.string ⟨x.text.toArray⟩, .bool x.quoted, .int .i64 (x.place : Int)]] w fun e w' => SymR bb base ns ts rs nv2 mv2 brv lq x w e w' := by
  have hxs : (⟨x.text.toArray⟩ : ByteArray).size ≤ 281474976710656 := by simp [ByteArray.size]; omega
  obtain ⟨W1, hW1⟩ : ∃ W1, W1 = w.alloc (.cells #[.string ⟨x.text.toArray⟩, .bool x.quoted, .int .i64 (x.place : Int)] 87) := ⟨_, rfl⟩
  have hB1 : Below w.heap.size w W1 := by rw [hW1]; exact (Below.refl _ _).alloc (Nat.le_refl _) _
  obtain ⟨Wd, hWd⟩ : ∃ Wd, W1.drew = Wd := ⟨_, rfl⟩
  have hBd : Below w.heap.size w Wd := by rw [← hWd]; exact hB1.drew
  have hblt := hB.lt
  have hc1 : ChgG base bb w Wd := .of_below hBd hblt
  have hd := h.keep hc1
  have hxb : RowAt Wd w.heap.size 87 #[.string ⟨x.text.toArray⟩, .bool x.quoted, .int .i64 (x.place : Int)] := by rw [← hWd, hW1]; exact World.alloc_heap_new w _
  have hBB : Build Wd bb base ⟨ts, ns, 0, rs⟩ nv mv nv2 mv2 brv lq := by
    have hk : RKeep w Wd bb 7 (fun _ => False) := RKeep.on hBd (by have := hB.t.lt; omega)
    exact ⟨hB.t.keep hk (by decide) (by decide) (by decide) (fun _ _ e => e), hB.n.keep hk (by decide) (by decide) (by decide) (fun _ _ e => e), (hk.cell 4 (by decide) (by decide)).trans hB.a, (hk.frozen 4).trans hB.af, hB.r.keep hk hB.t.lt (by decide) (by decide) (fun _ _ _ _ _ e => e), hB.far, Nat.le_trans hB.lt hBd.size⟩
  have hbox := hd.box
  have HWd : Hid (W1.drew = Wd) := hWd
  obtain ⟨c, b, hlk, hb, hcm⟩ := look_any hd.own h.map ⟨x.text.toArray⟩ hxs
  have E : Hid (symS ns ts x = (if (memB (bt x.text) ns && !x.quoted) = true then -1 - idx ns (bt x.text) else numS ts (bt x.text)) ∧ symT ns ts x = (if (memB (bt x.text) ns && !x.quoted) = true then ts else addN ts (bt x.text))) := ⟨rfl, rfl⟩
  subst hW1
  clear hB1 hWd h hB hBd
  go_enter Tryz.func39, Tryz.ntmps39
  go_wp2
  refine wp_region_noPanic ?_
  refine wp_region_held_drew (S := (fun w' => w' = Wd)) (by kernel_rfl) HWd.out (fun hHeld => ?_)
  rw [HWd.out]
  replace hHeld : Wd = Wd := rfl
  clear HWd
  have r3 := hbox.cell (q := 3) rfl
  have r4 := hbox.cell (q := 4) rfl
  have d0 := hxb.cell (q := 0) rfl
  have d1 := hxb.cell (q := 1) rfl
  refine wpAnyH_take (i := 0) (v := .pointer (some ⟨rb, 0, none⟩)) rfl (by kernel_rfl) (by kernel_rfl) (by kernel_rfl) (fun _ _ _ h => h) (Or.inl ⟨by rfl, fun w9 hSw => ?_⟩) hHeld ?_
  · obtain rfl := hSw
    go_simp
  simp only [List.getElem_toArray, List.getElem_cons_zero, List.getElem_cons_succ, Act.put, List.setIfInBounds_toArray, List.set_cons_zero, List.set_cons_succ]
  refine wpAnyH_take (i := 1) (v := .pointer (some ⟨rb, 0, none⟩)) rfl (by kernel_rfl) (by kernel_rfl) (by kernel_rfl) (fun _ _ _ h => h) (Or.inl ⟨by rfl, fun w9 hSw => ?_⟩) hHeld ?_
  · obtain rfl := hSw
    go_simp
  simp only [List.getElem_toArray, List.getElem_cons_zero, List.getElem_cons_succ, Act.put, List.setIfInBounds_toArray, List.set_cons_zero, List.set_cons_succ]
  refine wpAnyH_take (i := 2) (v := .pointer (some ⟨rb, 4, none⟩)) rfl (by kernel_rfl) (by kernel_rfl) (by kernel_rfl) (fun _ _ _ h => h) (Or.inl ⟨by rfl, fun w9 hSw => ?_⟩) hHeld ?_
  · obtain rfl := hSw
    go_simp
  simp only [List.getElem_toArray, List.getElem_cons_zero, List.getElem_cons_succ, Act.put, List.setIfInBounds_toArray, List.set_cons_zero, List.set_cons_succ]
  refine wpAnyH_take (i := 3) (v := .map (some mb)) rfl (by kernel_rfl) (by kernel_rfl) (by kernel_rfl) (fun _ _ _ h => h) (Or.inl ⟨by rfl, fun w9 hSw => ?_⟩) hHeld ?_
  · obtain rfl := hSw
    go_simp
  simp only [List.getElem_toArray, List.getElem_cons_zero, List.getElem_cons_succ, Act.put, List.setIfInBounds_toArray, List.set_cons_zero, List.set_cons_succ]
  refine wpAnyH_take (i := 4) (v := .pointer (some ⟨w.heap.size, 0, none⟩)) rfl (by kernel_rfl) (by kernel_rfl) (by kernel_rfl) (fun _ _ _ h => h) (Or.inl ⟨by rfl, fun w9 hSw => ?_⟩) hHeld ?_
  · obtain rfl := hSw
    go_simp
  simp only [List.getElem_toArray, List.getElem_cons_zero, List.getElem_cons_succ, Act.put, List.setIfInBounds_toArray, List.set_cons_zero, List.set_cons_succ]
  refine wpAnyH_take (i := 5) (v := .string ⟨x.text.toArray⟩) rfl (by kernel_rfl) (by kernel_rfl) (by kernel_rfl) (fun _ _ _ h => h) (Or.inl ⟨by rfl, fun w9 hSw => ?_⟩) hHeld ?_
  · obtain rfl := hSw
    go_simp
  simp only [List.getElem_toArray, List.getElem_cons_zero, List.getElem_cons_succ, Act.put, List.setIfInBounds_toArray, List.set_cons_zero, List.set_cons_succ]
  refine wpAnyH_take (i := 6) (v := .tuple #[.int .i64 c, .bool b]) rfl (by kernel_rfl) (by kernel_rfl) (by kernel_rfl) (fun _ _ _ h => h) (Or.inl ⟨by rfl, fun w9 hSw => ?_⟩) hHeld ?_
  · obtain rfl := hSw
    go_simp
  simp only [List.getElem_toArray, List.getElem_cons_zero, List.getElem_cons_succ, Act.put, List.setIfInBounds_toArray, List.set_cons_zero, List.set_cons_succ]
  refine wpAnyH_take (i := 7) (v := .tuple #[.int .i64 c, .bool b]) rfl (by kernel_rfl) (by kernel_rfl) (by kernel_rfl) (fun _ _ _ h => h) (Or.inl ⟨by rfl, fun w9 hSw => ?_⟩) hHeld ?_
  · obtain rfl := hSw
    go_simp
  simp only [List.getElem_toArray, List.getElem_cons_zero, List.getElem_cons_succ, Act.put, List.setIfInBounds_toArray, List.set_cons_zero, List.set_cons_succ]
  refine wpAnyH_take (i := 8) (v := .int .i64 c) rfl (by kernel_rfl) (by kernel_rfl) (by kernel_rfl) (fun _ _ _ h => h) (Or.inl ⟨by rfl, fun w9 hSw => ?_⟩) hHeld ?_
  · obtain rfl := hSw
    go_simp
  simp only [List.getElem_toArray, List.getElem_cons_zero, List.getElem_cons_succ, Act.put, List.setIfInBounds_toArray, List.set_cons_zero, List.set_cons_succ]
  refine wpAnyH_take (i := 9) (v := .bool b) rfl (by kernel_rfl) (by kernel_rfl) (by kernel_rfl) (fun _ _ _ h => h) (Or.inl ⟨by rfl, fun w9 hSw => ?_⟩) hHeld ?_
  · obtain rfl := hSw
    go_simp
  simp only [List.getElem_toArray, List.getElem_cons_zero, List.getElem_cons_succ, Act.put, List.setIfInBounds_toArray, List.set_cons_zero, List.set_cons_succ]
  refine wpAnyH_take (i := 10) (v := .int .i64 c) rfl (by kernel_rfl) (by kernel_rfl) (by kernel_rfl) (fun _ _ _ h => h) (Or.inl ⟨by rfl, fun w9 hSw => ?_⟩) hHeld ?_
  · obtain rfl := hSw
    go_simp
  simp only [List.getElem_toArray, List.getElem_cons_zero, List.getElem_cons_succ, Act.put, List.setIfInBounds_toArray, List.set_cons_zero, List.set_cons_succ]
  refine wpAnyH_take (i := 11) (v := .bool b) rfl (by kernel_rfl) (by kernel_rfl) (by kernel_rfl) (fun _ _ _ h => h) (Or.inl ⟨by rfl, fun w9 hSw => ?_⟩) hHeld ?_
  · obtain rfl := hSw
    go_simp
  simp only [List.getElem_toArray, List.getElem_cons_zero, List.getElem_cons_succ, Act.put, List.setIfInBounds_toArray, List.set_cons_zero, List.set_cons_succ]
  refine wpAnyH_done (by kernel_rfl) (NoPanic.normal ?_) _
  have hterm := bterm_any bb base ⟨ts, ns, 0, rs⟩ nv mv nv2 mv2 brv lq ⟨x.text.toArray⟩ Wd.drew (by
    have hk : RKeep Wd Wd.drew bb 7 (fun _ => False) := RKeep.on (drew_keep Wd) (by have := hBB.t.lt; have := hBB.lt; omega)
    exact ⟨hBB.t.keep hk (by decide) (by decide) (by decide) (fun _ _ e => e), hBB.n.keep hk (by decide) (by decide) (by decide) (fun _ _ e => e), (hk.cell 4 (by decide) (by decide)).trans hBB.a, (hk.frozen 4).trans hBB.af, hBB.r.keep hk hBB.t.lt (by decide) (by decide) (fun _ _ _ _ _ e => e), hBB.far, hBB.lt⟩) hxs (by show ts.length ≤ _; omega)
  clear hlk
  have hmm : memB (bt x.text) ns = true ∨ memB (bt x.text) ns = false := by cases memB (bt x.text) ns <;> simp
  have hqq : x.quoted = true ∨ x.quoted = false := by cases x.quoted <;> simp
  have hWr : Hid (Wd.drew = Wd.drew) := rfl
  by_cases hc : (memB (bt x.text) ns && !x.quoted) = true
  · have hm : memB (bt x.text) ns = true := by
      rw [Bool.and_eq_true] at hc
      exact hc.1
    have hq : x.quoted = false := by
      rw [Bool.and_eq_true] at hc
      simpa using hc.2
    obtain rfl := hcm hm
    have hbt : b = true := by rw [hb]; exact hm
    subst hbt
    have F : Hid (symS ns ts x = -1 - idx ns (bt x.text) ∧ symT ns ts x = ts) := by
      show _ ∧ _
      rw [E.out.1, E.out.2, if_pos hc, if_pos hc]
      exact ⟨rfl, rfl⟩
    have hix : 0 ≤ idx ns ⟨x.text.toArray⟩ ∧ idx ns ⟨x.text.toArray⟩ < 1000000000 := by
      rcases idx_cases ns ⟨x.text.toArray⟩ with ⟨_, h2⟩ | ⟨k, h1, h2, _, _⟩
      · rw [show memB ⟨x.text.toArray⟩ ns = true from hm] at h2; cases h2
      · have := (List.getElem?_eq_some_iff.1 h2).1
        omega
    generalize hix2 : idx ns ⟨x.text.toArray⟩ = ix at *
    have HI : Hid (idx ns ⟨x.text.toArray⟩ = ix) := hix2
    have hwr : wrap64 (-1 - ix) = -1 - ix := by unfold wrap64; omega
    obtain ⟨hi1, hi2⟩ := hix
    clear hterm hmm hqq hc hm hcm hb hix2 hi1 hi2 r3 r4 E
    go_wp2
    go_ret
    have F2 := F.out
    rw [show idx ns (bt x.text) = ix from HI.out] at F2
    refine ⟨nv, mv, ?_, by rw [F2.2]; exact hBB, hc1⟩
    rw [F2.1]
    rfl
  · have F : Hid (symS ns ts x = numZ ts ⟨x.text.toArray⟩ ∧ symT ns ts x = addS ts ⟨x.text.toArray⟩) := by
      show _ ∧ _
      rw [E.out.1, E.out.2, if_neg hc, if_neg hc]
      exact ⟨rfl, rfl⟩
    have hbx : (b = true ∧ x.quoted = true) ∨ b = false := by
      rcases hmm with h1 | h1
      · rcases hqq with h2 | h2
        · exact .inl ⟨by rw [hb]; exact h1, h2⟩
        · exact absurd (by rw [h1, h2]; rfl) hc
      · exact .inr (by rw [hb]; exact h1)
    clear hmm hqq hc hcm hb E
    have hd4 := hd
    have HBe : Hid (Build Wd.drew bb base ⟨ts, ns, 0, rs⟩ nv mv nv2 mv2 brv lq) := by
      have hk : RKeep Wd Wd.drew bb 7 (fun _ => False) := RKeep.on (drew_keep Wd) (by have := hBB.t.lt; have := hBB.lt; omega)
      exact ⟨hBB.t.keep hk (by decide) (by decide) (by decide) (fun _ _ e => e), hBB.n.keep hk (by decide) (by decide) (by decide) (fun _ _ e => e), (hk.cell 4 (by decide) (by decide)).trans hBB.a, (hk.frozen 4).trans hBB.af, hBB.r.keep hk hBB.t.lt (by decide) (by decide) (fun _ _ _ _ _ e => e), hBB.far, hBB.lt⟩
    have HCd : Hid (ChgG base bb Wd Wd.drew) := ChgG.of_below (drew_keep Wd) hBB.lt
    have hboxd := hbox.below (drew_keep Wd) hbox.lt
    have hxbd := hxb.below (drew_keep Wd) hxb.lt
    rcases hbx with ⟨rfl, hq⟩ | rfl
    · go_wp2
      clear hq
      refine wp_region_noPanic ?_
      refine OrdersZ.region_Z (S := (fun w9 => RowAt w9 rb 76 #[nx, .int .i64 (start : Int), .int .i64 ln, .pointer (some ⟨bb, 0, none⟩), .map (some mb), rv] ∧ RowAt w9 w.heap.size 87 #[.string ⟨x.text.toArray⟩, .bool x.quoted, .int .i64 (x.place : Int)])) 7 (by kernel_rfl) ⟨hboxd, hxbd⟩ (fun hHeld => ?_)
      generalize Wd.drew = We at *
      replace hHeld : RowAt We rb 76 #[nx, .int .i64 (start : Int), .int .i64 ln, .pointer (some ⟨bb, 0, none⟩), .map (some mb), rv] ∧ RowAt We w.heap.size 87 #[.string ⟨x.text.toArray⟩, .bool x.quoted, .int .i64 (x.place : Int)] := ⟨hboxd, hxbd⟩
      refine OrdersZ.takeZ (i := 0) (v := .pointer (some ⟨rb, 0, none⟩)) rfl (by kernel_rfl) (by kernel_rfl) (by kernel_rfl) (by kernel_rfl) (by kernel_rfl) (fun _ _ _ h => h) (Or.inl ⟨by rfl, fun w9 hSw => ?_⟩) hHeld ?_
      · obtain ⟨s0, s1⟩ := hSw
        go_simp
      simp only [List.getElem_toArray, List.getElem_cons_zero, List.getElem_cons_succ, Act.put, List.setIfInBounds_toArray, List.set_cons_zero, List.set_cons_succ]
      refine OrdersZ.takeZ (i := 1) (v := .pointer (some ⟨rb, 0, none⟩)) rfl (by kernel_rfl) (by kernel_rfl) (by kernel_rfl) (by kernel_rfl) (by kernel_rfl) (fun _ _ _ h => h) (Or.inl ⟨by rfl, fun w9 hSw => ?_⟩) hHeld ?_
      · obtain ⟨s0, s1⟩ := hSw
        go_simp
      simp only [List.getElem_toArray, List.getElem_cons_zero, List.getElem_cons_succ, Act.put, List.setIfInBounds_toArray, List.set_cons_zero, List.set_cons_succ]
      refine OrdersZ.takeZ (i := 2) (v := .pointer (some ⟨rb, 3, none⟩)) rfl (by kernel_rfl) (by kernel_rfl) (by kernel_rfl) (by kernel_rfl) (by kernel_rfl) (fun _ _ _ h => h) (Or.inl ⟨by rfl, fun w9 hSw => ?_⟩) hHeld ?_
      · obtain ⟨s0, s1⟩ := hSw
        go_simp
      simp only [List.getElem_toArray, List.getElem_cons_zero, List.getElem_cons_succ, Act.put, List.setIfInBounds_toArray, List.set_cons_zero, List.set_cons_succ]
      refine OrdersZ.takeZ (i := 3) (v := .pointer (some ⟨bb, 0, none⟩)) rfl (by kernel_rfl) (by kernel_rfl) (by kernel_rfl) (by kernel_rfl) (by kernel_rfl) (fun _ _ _ h => h) (Or.inl ⟨by rfl, fun w9 hSw => ?_⟩) hHeld ?_
      · obtain ⟨s0, s1⟩ := hSw
        go_simp
        (have q := s0.cell (q := 3) rfl; go_simp)
      simp only [List.getElem_toArray, List.getElem_cons_zero, List.getElem_cons_succ, Act.put, List.setIfInBounds_toArray, List.set_cons_zero, List.set_cons_succ]
      refine OrdersZ.takeZ (i := 4) (v := .pointer (some ⟨w.heap.size, 0, none⟩)) rfl (by kernel_rfl) (by kernel_rfl) (by kernel_rfl) (by kernel_rfl) (by kernel_rfl) (fun _ _ _ h => h) (Or.inl ⟨by rfl, fun w9 hSw => ?_⟩) hHeld ?_
      · obtain ⟨s0, s1⟩ := hSw
        go_simp
      simp only [List.getElem_toArray, List.getElem_cons_zero, List.getElem_cons_succ, Act.put, List.setIfInBounds_toArray, List.set_cons_zero, List.set_cons_succ]
      refine OrdersZ.takeZ (i := 5) (v := .string ⟨x.text.toArray⟩) rfl (by kernel_rfl) (by kernel_rfl) (by kernel_rfl) (by kernel_rfl) (by kernel_rfl) (fun _ _ _ h => h) (Or.inl ⟨by rfl, fun w9 hSw => ?_⟩) hHeld ?_
      · obtain ⟨s0, s1⟩ := hSw
        go_simp
        (have q := s1.cell (q := 0) rfl; go_simp)
      simp only [List.getElem_toArray, List.getElem_cons_zero, List.getElem_cons_succ, Act.put, List.setIfInBounds_toArray, List.set_cons_zero, List.set_cons_succ]
      refine OrdersZ.readyZ (i := 6) (by kernel_rfl) rfl (fun K hK => ?_)
      go_simp
      refine hterm.mono ?_
      rintro e w7 ⟨⟨nv', mv', rfl, hB7⟩, hk7⟩
      have hc7 := ChgG.term HBe.out hk7
      have hbox7 := (hc7.block rb hd4.rlt hd4.rbb).trans hboxd
      have hx7 := hc7.row _ _ _ (by omega) (by decide) (by decide) hxbd
      refine hK.out _ _ ⟨hbox7, hx7⟩ (fun hHeld => ?_)
      clear hK K
      refine OrdersZ.lastZ (by kernel_rfl) rfl (fun K hK => ?_)
      go_simp
      refine hK.out _ _ ?_
      clear hK K
      refine OrdersZ.doneZ (by kernel_rfl) (NoPanic.normal ?_) _
      have hcf := (hc1.trans HCd.out).trans hc7
      clear hterm hk7 hc7 hbox7 hx7
      go_wp2
      go_ret
      refine ⟨nv', mv', ?_, by rw [F.out.2]; exact hB7, hcf⟩
      rw [F.out.1]
      rfl
    · go_wp2
      refine wp_region_noPanic ?_
      refine OrdersZ.region_Z (S := (fun w9 => RowAt w9 rb 76 #[nx, .int .i64 (start : Int), .int .i64 ln, .pointer (some ⟨bb, 0, none⟩), .map (some mb), rv] ∧ RowAt w9 w.heap.size 87 #[.string ⟨x.text.toArray⟩, .bool x.quoted, .int .i64 (x.place : Int)])) 7 (by kernel_rfl) ⟨hboxd, hxbd⟩ (fun hHeld => ?_)
      generalize Wd.drew = We at *
      replace hHeld : RowAt We rb 76 #[nx, .int .i64 (start : Int), .int .i64 ln, .pointer (some ⟨bb, 0, none⟩), .map (some mb), rv] ∧ RowAt We w.heap.size 87 #[.string ⟨x.text.toArray⟩, .bool x.quoted, .int .i64 (x.place : Int)] := ⟨hboxd, hxbd⟩
      refine OrdersZ.takeZ (i := 0) (v := .pointer (some ⟨rb, 0, none⟩)) rfl (by kernel_rfl) (by kernel_rfl) (by kernel_rfl) (by kernel_rfl) (by kernel_rfl) (fun _ _ _ h => h) (Or.inl ⟨by rfl, fun w9 hSw => ?_⟩) hHeld ?_
      · obtain ⟨s0, s1⟩ := hSw
        go_simp
      simp only [List.getElem_toArray, List.getElem_cons_zero, List.getElem_cons_succ, Act.put, List.setIfInBounds_toArray, List.set_cons_zero, List.set_cons_succ]
      refine OrdersZ.takeZ (i := 1) (v := .pointer (some ⟨rb, 0, none⟩)) rfl (by kernel_rfl) (by kernel_rfl) (by kernel_rfl) (by kernel_rfl) (by kernel_rfl) (fun _ _ _ h => h) (Or.inl ⟨by rfl, fun w9 hSw => ?_⟩) hHeld ?_
      · obtain ⟨s0, s1⟩ := hSw
        go_simp
      simp only [List.getElem_toArray, List.getElem_cons_zero, List.getElem_cons_succ, Act.put, List.setIfInBounds_toArray, List.set_cons_zero, List.set_cons_succ]
      refine OrdersZ.takeZ (i := 2) (v := .pointer (some ⟨rb, 3, none⟩)) rfl (by kernel_rfl) (by kernel_rfl) (by kernel_rfl) (by kernel_rfl) (by kernel_rfl) (fun _ _ _ h => h) (Or.inl ⟨by rfl, fun w9 hSw => ?_⟩) hHeld ?_
      · obtain ⟨s0, s1⟩ := hSw
        go_simp
      simp only [List.getElem_toArray, List.getElem_cons_zero, List.getElem_cons_succ, Act.put, List.setIfInBounds_toArray, List.set_cons_zero, List.set_cons_succ]
      refine OrdersZ.takeZ (i := 3) (v := .pointer (some ⟨bb, 0, none⟩)) rfl (by kernel_rfl) (by kernel_rfl) (by kernel_rfl) (by kernel_rfl) (by kernel_rfl) (fun _ _ _ h => h) (Or.inl ⟨by rfl, fun w9 hSw => ?_⟩) hHeld ?_
      · obtain ⟨s0, s1⟩ := hSw
        go_simp
        (have q := s0.cell (q := 3) rfl; go_simp)
      simp only [List.getElem_toArray, List.getElem_cons_zero, List.getElem_cons_succ, Act.put, List.setIfInBounds_toArray, List.set_cons_zero, List.set_cons_succ]
      refine OrdersZ.takeZ (i := 4) (v := .pointer (some ⟨w.heap.size, 0, none⟩)) rfl (by kernel_rfl) (by kernel_rfl) (by kernel_rfl) (by kernel_rfl) (by kernel_rfl) (fun _ _ _ h => h) (Or.inl ⟨by rfl, fun w9 hSw => ?_⟩) hHeld ?_
      · obtain ⟨s0, s1⟩ := hSw
        go_simp
      simp only [List.getElem_toArray, List.getElem_cons_zero, List.getElem_cons_succ, Act.put, List.setIfInBounds_toArray, List.set_cons_zero, List.set_cons_succ]
      refine OrdersZ.takeZ (i := 5) (v := .string ⟨x.text.toArray⟩) rfl (by kernel_rfl) (by kernel_rfl) (by kernel_rfl) (by kernel_rfl) (by kernel_rfl) (fun _ _ _ h => h) (Or.inl ⟨by rfl, fun w9 hSw => ?_⟩) hHeld ?_
      · obtain ⟨s0, s1⟩ := hSw
        go_simp
        (have q := s1.cell (q := 0) rfl; go_simp)
      simp only [List.getElem_toArray, List.getElem_cons_zero, List.getElem_cons_succ, Act.put, List.setIfInBounds_toArray, List.set_cons_zero, List.set_cons_succ]
      refine OrdersZ.readyZ (i := 6) (by kernel_rfl) rfl (fun K hK => ?_)
      go_simp
      refine hterm.mono ?_
      rintro e w7 ⟨⟨nv', mv', rfl, hB7⟩, hk7⟩
      have hc7 := ChgG.term HBe.out hk7
      have hbox7 := (hc7.block rb hd4.rlt hd4.rbb).trans hboxd
      have hx7 := hc7.row _ _ _ (by omega) (by decide) (by decide) hxbd
      refine hK.out _ _ ⟨hbox7, hx7⟩ (fun hHeld => ?_)
      clear hK K
      refine OrdersZ.lastZ (by kernel_rfl) rfl (fun K hK => ?_)
      go_simp
      refine hK.out _ _ ?_
      clear hK K
      refine OrdersZ.doneZ (by kernel_rfl) (NoPanic.normal ?_) _
      have hcf := (hc1.trans HCd.out).trans hc7
      clear hterm hk7 hc7 hbox7 hx7
      go_wp2
      go_ret
      refine ⟨nv', mv', ?_, by rw [F.out.2]; exact hB7, hcf⟩
      rw [F.out.1]
      rfl

end Go.Proofs.YtbeflhpekklgoaaGreatDoor.SpecMem
