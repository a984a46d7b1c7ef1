/-
  Texts that stand together: SpecOpen, SpecNameM.
-/
import Derived.Test.YtjblkgephboajaaGreatDoorBagGramBuild4
import Derived.BigQuiet
namespace Go.Proofs.YtjblkgephboajaaGreatDoor.SpecMem
open Go.RowKit Go.Maps Go.WideMaps GramMath GramRow GramOne GramApart GramRoll GramCopy LineMath SpecLn SpecMd WordsBytes
set_option linter.unusedVariables false
set_option linter.unusedSimpArgs false

theorem drew_keep (W : World) : Below W.heap.size W W.drew := ⟨rfl, rfl, rfl, Nat.le_refl W.heap.size, fun _ _ => rfl⟩
theorem makeFn (fn : Fn) (first cap : Array Value) (w : World) : (Instr.makeFunc fn first cap).run Tryz.prog w = .ok (.func fn first cap) w := rfl

set_option maxRecDepth 100000 in
set_option maxHeartbeats 4000000 in
theorem open_any (rb bb mb base start : Nat) (nx : Value) (ln : Int) (ns : List ByteArray) (qs : List Qr) (D : DataW Unit) (rv nv mv : Value) (left : List UInt8) (x : Wd) (w : World) (h : RdN w rb bb mb base nx start ln ns qs D rv nv mv) (hlt : base ≤ w.heap.size) (hln : ln = idx ns (bt left)) (hmem : memB (bt left) ns = true) (hx : x.text.length ≤ 1048576) (hs : start + x.place + x.text.length ≤ 4611686018427387904) (hq : qs.length ≤ 1073741824) :
    Calls Tryz.prog 97 #[.pointer (some ⟨rb, 0, none⟩), .agg #[.string ⟨x.text.toArray⟩, .bool x.quoted, .int .i64 (x.place : Int)]] w fun e w' => e = .returned (stV rb .nam) ∧ ∃ rv', RdN w' rb bb mb base nx start ln ns (qs ++ [⟨⟨left, [], start + x.place + x.text.length⟩, .slice none 0 0⟩]) D rv' nv mv ∧ Chg base rb bb mb qs (qs ++ [⟨⟨left, [], start + x.place + x.text.length⟩, .slice none 0 0⟩]) w w' := by
  obtain ⟨i0, hi, hz0, hz1, hz2⟩ := info_parts infoRl
  have hmf := makeFn
  obtain ⟨ra, rc, rfl⟩ : ∃ a c, rv = .slice a qs.length c := by
    obtain ⟨_, ⟨rfl, h2⟩ | ⟨g, cap, cur, rfl, _⟩⟩ := h.rules
    · exact ⟨none, 0, by rw [h2]⟩
    · exact ⟨_, _, rfl⟩
  obtain ⟨W1, hW1⟩ : ∃ W1, W1 = w.alloc (.cells #[.string ⟨x.text.toArray⟩, .bool x.quoted, .int .i64 (x.place : Int)] 102) := ⟨_, rfl⟩
  have hB1 : Below w.heap.size w W1 := by rw [hW1]; exact (Below.refl _ _).alloc (Nat.le_refl _) _
  have hz : W1.heap.size = w.heap.size + 1 := by rw [hW1]; simp
  obtain ⟨Wd, hWd⟩ : ∃ Wd, W1.drew = Wd := ⟨_, rfl⟩
  have hBd : Below w.heap.size w Wd := by rw [← hWd]; exact hB1.drew
  have hd := h.below hBd
  have hzd : Wd.heap.size = w.heap.size + 1 := by rw [← hWd]; exact hz
  have hxb : RowAt Wd w.heap.size 102 #[.string ⟨x.text.toArray⟩, .bool x.quoted, .int .i64 (x.place : Int)] := by rw [← hWd, hW1]; exact World.alloc_heap_new w _
  have HWd : Hid (W1.drew = Wd) := hWd
  have hC1 : Chg base rb bb mb qs qs w Wd := .of_below qs hBd hlt
  have hb0 : base ≤ w.heap.size := hlt
  have hsz : (⟨x.text.toArray⟩ : ByteArray).size = x.text.length := by simp [ByteArray.size]
  have hsm2 : (start : Int) + (x.place : Int) + (x.text.length : Int) ≤ 4611686018427387904 := by omega
  have hbox := hd.box
  have Hln : Hid (ln = idx ns (bt left)) := hln
  have hbz : base ≤ Wd.heap.size := by omega
  subst hW1
  clear hB1 hz hWd h hln hzd
  go_enter Tryz.func97, Tryz.ntmps97
  go_wp2
  refine wp_region_noPanic ?_
  refine OrdersZ.region_Z (S := (fun w9 => RowAt w9 rb 85 #[nx, .int .i64 (start : Int), .int .i64 ln, .pointer (some ⟨bb, 0, none⟩), .map (some mb), .slice ra qs.length rc] ∧ RowAt w9 w.heap.size 102 #[.string ⟨x.text.toArray⟩, .bool x.quoted, .int .i64 (x.place : Int)])) 25 (by kernel_rfl) (by rw [HWd.out]; exact ⟨hbox, hxb⟩) (fun hHeld => ?_)
  rw [HWd.out]
  replace hHeld : RowAt Wd rb 85 #[nx, .int .i64 (start : Int), .int .i64 ln, .pointer (some ⟨bb, 0, none⟩), .map (some mb), .slice ra qs.length rc] ∧ RowAt Wd w.heap.size 102 #[.string ⟨x.text.toArray⟩, .bool x.quoted, .int .i64 (x.place : Int)] := ⟨hbox, hxb⟩
  clear HWd
  refine OrdersZ.takeZ (i := 0) (v := .pointer (some ⟨rb, 0, none⟩)) rfl (by kernel_rfl) (by kernel_rfl) (by kernel_rfl) (by kernel_rfl) (by kernel_rfl) (fun _ _ _ h => h) (Or.inl ⟨by rfl, fun w9 hSw => ?_⟩) hHeld ?_
  · obtain ⟨s0, s1⟩ := hSw
    go_simp
  simp only [zA, zB, zC, Act.put, zD, zE, zF]
  refine OrdersZ.takeZ (i := 1) (v := .pointer (some ⟨rb, 0, none⟩)) rfl (by kernel_rfl) (by kernel_rfl) (by kernel_rfl) (by kernel_rfl) (by kernel_rfl) (fun _ _ _ h => h) (Or.inl ⟨by rfl, fun w9 hSw => ?_⟩) hHeld ?_
  · obtain ⟨s0, s1⟩ := hSw
    go_simp
  simp only [zA, zB, zC, Act.put, zD, zE, zF]
  refine OrdersZ.takeZ (i := 2) (v := .pointer (some ⟨rb, 0, none⟩)) rfl (by kernel_rfl) (by kernel_rfl) (by kernel_rfl) (by kernel_rfl) (by kernel_rfl) (fun _ _ _ h => h) (Or.inl ⟨by rfl, fun w9 hSw => ?_⟩) hHeld ?_
  · obtain ⟨s0, s1⟩ := hSw
    go_simp
  simp only [zA, zB, zC, Act.put, zD, zE, zF]
  refine OrdersZ.takeZ (i := 3) (v := .pointer (some ⟨rb, 5, none⟩)) rfl (by kernel_rfl) (by kernel_rfl) (by kernel_rfl) (by kernel_rfl) (by kernel_rfl) (fun _ _ _ h => h) (Or.inl ⟨by rfl, fun w9 hSw => ?_⟩) hHeld ?_
  · obtain ⟨s0, s1⟩ := hSw
    go_simp
  simp only [zA, zB, zC, Act.put, zD, zE, zF]
  refine OrdersZ.takeZ (i := 4) (v := .slice ra qs.length rc) rfl (by kernel_rfl) (by kernel_rfl) (by kernel_rfl) (by kernel_rfl) (by kernel_rfl) (fun _ _ _ h => h) (Or.inl ⟨by rfl, fun w9 hSw => ?_⟩) hHeld ?_
  · obtain ⟨s0, s1⟩ := hSw
    go_simp
    (have q := s0.cell (q := 5) rfl; go_simp)
  simp only [zA, zB, zC, Act.put, zD, zE, zF]
  refine OrdersZ.takeZ (i := 5) (v := .pointer (some ⟨rb, 0, none⟩)) rfl (by kernel_rfl) (by kernel_rfl) (by kernel_rfl) (by kernel_rfl) (by kernel_rfl) (fun _ _ _ h => h) (Or.inl ⟨by rfl, fun w9 hSw => ?_⟩) hHeld ?_
  · obtain ⟨s0, s1⟩ := hSw
    go_simp
  simp only [zA, zB, zC, Act.put, zD, zE, zF]
  refine OrdersZ.takeZ (i := 6) (v := .pointer (some ⟨rb, 0, none⟩)) rfl (by kernel_rfl) (by kernel_rfl) (by kernel_rfl) (by kernel_rfl) (by kernel_rfl) (fun _ _ _ h => h) (Or.inl ⟨by rfl, fun w9 hSw => ?_⟩) hHeld ?_
  · obtain ⟨s0, s1⟩ := hSw
    go_simp
  simp only [zA, zB, zC, Act.put, zD, zE, zF]
  refine OrdersZ.takeZ (i := 7) (v := .pointer (some ⟨rb, 2, none⟩)) rfl (by kernel_rfl) (by kernel_rfl) (by kernel_rfl) (by kernel_rfl) (by kernel_rfl) (fun _ _ _ h => h) (Or.inl ⟨by rfl, fun w9 hSw => ?_⟩) hHeld ?_
  · obtain ⟨s0, s1⟩ := hSw
    go_simp
  simp only [zA, zB, zC, Act.put, zD, zE, zF]
  refine OrdersZ.takeZ (i := 8) (v := .int .i64 ln) rfl (by kernel_rfl) (by kernel_rfl) (by kernel_rfl) (by kernel_rfl) (by kernel_rfl) (fun _ _ _ h => h) (Or.inl ⟨by rfl, fun w9 hSw => ?_⟩) hHeld ?_
  · obtain ⟨s0, s1⟩ := hSw
    go_simp
    (have q := s0.cell (q := 2) rfl; go_simp)
  simp only [zA, zB, zC, Act.put, zD, zE, zF]
  refine OrdersZ.takeZ (i := 9) (v := .pointer (some ⟨rb, 0, none⟩)) rfl (by kernel_rfl) (by kernel_rfl) (by kernel_rfl) (by kernel_rfl) (by kernel_rfl) (fun _ _ _ h => h) (Or.inl ⟨by rfl, fun w9 hSw => ?_⟩) hHeld ?_
  · obtain ⟨s0, s1⟩ := hSw
    go_simp
  simp only [zA, zB, zC, Act.put, zD, zE, zF]
  refine OrdersZ.takeZ (i := 10) (v := .pointer (some ⟨rb, 0, none⟩)) rfl (by kernel_rfl) (by kernel_rfl) (by kernel_rfl) (by kernel_rfl) (by kernel_rfl) (fun _ _ _ h => h) (Or.inl ⟨by rfl, fun w9 hSw => ?_⟩) hHeld ?_
  · obtain ⟨s0, s1⟩ := hSw
    go_simp
  simp only [zA, zB, zC, Act.put, zD, zE, zF]
  refine OrdersZ.takeZ (i := 11) (v := .pointer (some ⟨rb, 1, none⟩)) rfl (by kernel_rfl) (by kernel_rfl) (by kernel_rfl) (by kernel_rfl) (by kernel_rfl) (fun _ _ _ h => h) (Or.inl ⟨by rfl, fun w9 hSw => ?_⟩) hHeld ?_
  · obtain ⟨s0, s1⟩ := hSw
    go_simp
  simp only [zA, zB, zC, Act.put, zD, zE, zF]
  refine OrdersZ.takeZ (i := 12) (v := .int .i64 (start : Int)) rfl (by kernel_rfl) (by kernel_rfl) (by kernel_rfl) (by kernel_rfl) (by kernel_rfl) (fun _ _ _ h => h) (Or.inl ⟨by rfl, fun w9 hSw => ?_⟩) hHeld ?_
  · obtain ⟨s0, s1⟩ := hSw
    go_simp
    (have q := s0.cell (q := 1) rfl; go_simp)
  simp only [zA, zB, zC, Act.put, zD, zE, zF]
  refine OrdersZ.takeZ (i := 13) (v := .pointer (some ⟨w.heap.size, 2, none⟩)) rfl (by kernel_rfl) (by kernel_rfl) (by kernel_rfl) (by kernel_rfl) (by kernel_rfl) (fun _ _ _ h => h) (Or.inl ⟨by rfl, fun w9 hSw => ?_⟩) hHeld ?_
  · obtain ⟨s0, s1⟩ := hSw
    go_simp
  simp only [zA, zB, zC, Act.put, zD, zE, zF]
  refine OrdersZ.takeZ (i := 14) (v := .int .i64 (x.place : Int)) rfl (by kernel_rfl) (by kernel_rfl) (by kernel_rfl) (by kernel_rfl) (by kernel_rfl) (fun _ _ _ h => h) (Or.inl ⟨by rfl, fun w9 hSw => ?_⟩) hHeld ?_
  · obtain ⟨s0, s1⟩ := hSw
    go_simp
    (have q := s1.cell (q := 2) rfl; go_simp)
  simp only [zA, zB, zC, Act.put, zD, zE, zF]
  refine OrdersZ.takeZ (i := 15) (v := .int .i64 ((start : Int) + (x.place : Int))) rfl (by kernel_rfl) (by kernel_rfl) (by kernel_rfl) (by kernel_rfl) (by kernel_rfl) (fun _ _ _ h => h) (Or.inl ⟨by rfl, fun w9 hSw => ?_⟩) hHeld ?_
  · obtain ⟨s0, s1⟩ := hSw
    go_simp
    (rw [IntKind.wrap_i64]; omega)
  simp only [zA, zB, zC, Act.put, zD, zE, zF]
  refine OrdersZ.takeZ (i := 16) (v := .pointer (some ⟨w.heap.size, 0, none⟩)) rfl (by kernel_rfl) (by kernel_rfl) (by kernel_rfl) (by kernel_rfl) (by kernel_rfl) (fun _ _ _ h => h) (Or.inl ⟨by rfl, fun w9 hSw => ?_⟩) hHeld ?_
  · obtain ⟨s0, s1⟩ := hSw
    go_simp
  simp only [zA, zB, zC, Act.put, zD, zE, zF]
  refine OrdersZ.takeZ (i := 17) (v := .string ⟨x.text.toArray⟩) rfl (by kernel_rfl) (by kernel_rfl) (by kernel_rfl) (by kernel_rfl) (by kernel_rfl) (fun _ _ _ h => h) (Or.inl ⟨by rfl, fun w9 hSw => ?_⟩) hHeld ?_
  · obtain ⟨s0, s1⟩ := hSw
    go_simp
    (have q := s1.cell (q := 0) rfl; go_simp)
  simp only [zA, zB, zC, Act.put, zD, zE, zF]
  refine OrdersZ.takeZ (i := 18) (v := .int .i64 (x.text.length : Int)) rfl (by kernel_rfl) (by kernel_rfl) (by kernel_rfl) (by kernel_rfl) (by kernel_rfl) (fun _ _ _ h => h) (Or.inl ⟨by rfl, fun w9 hSw => ?_⟩) hHeld ?_
  · obtain ⟨s0, s1⟩ := hSw
    go_simp
  simp only [zA, zB, zC, Act.put, zD, zE, zF]
  refine OrdersZ.takeZ (i := 19) (v := .int .i64 ((start + x.place + x.text.length : Nat) : Int)) rfl (by kernel_rfl) (by kernel_rfl) (by kernel_rfl) (by kernel_rfl) (by kernel_rfl) (fun _ _ _ h => h) (Or.inl ⟨by rfl, fun w9 hSw => ?_⟩) hHeld ?_
  · obtain ⟨s0, s1⟩ := hSw
    go_simp
    (rw [IntKind.wrap_i64]; omega)
  simp only [zA, zB, zC, Act.put, zD, zE, zF]
  refine OrdersZ.takeZ (i := 20) (v := .agg #[.int .i64 ln, .slice none 0 0, .int .i64 ((start + x.place + x.text.length : Nat) : Int)]) rfl (by kernel_rfl) (by kernel_rfl) (by kernel_rfl) (by kernel_rfl) (by kernel_rfl) (fun _ _ _ h => h) (Or.inl ⟨by rfl, fun w9 hSw => ?_⟩) hHeld ?_
  · obtain ⟨s0, s1⟩ := hSw
    go_simp
  simp only [zA, zB, zC, Act.put, zD, zE, zF]
  generalize hat : start + x.place + x.text.length = at_ at *
  have Hat : Hid (_) := hat
  clear hat
  refine OrdersZ.readyZ (i := 21) (by kernel_rfl) rfl (fun K hK => ?_)
  go_simp
  have hB7 : Below Wd.heap.size Wd (Wd.alloc (.cells #[.int .i64 ln, .slice none 0 0, .int .i64 (at_ : Int)] 88)) := (Below.refl _ _).alloc (Nat.le_refl _) _
  refine hK.out _ _ ⟨hbox.below hB7 hbox.lt, hxb.below hB7 hxb.lt⟩ (fun hHeld => ?_)
  clear hK K
  refine OrdersZ.readyZ (i := 22) (by kernel_rfl) rfl (fun K hK => ?_)
  refine step_append_lies _ rfl (.tmp 9) (.tmp 26) 83 rfl base 88 i0 (.agg #[.int .i64 0, .slice none 0 0, .int .i64 0]) 3 40 Tryz.underlying83 hi hz0 hz1 hz2 rfl (by decide) (.slice ra qs.length rc) qs.length (cellsR ns qs) (by rfl) (hd.rules.alloc _) ⟨Wd.heap.size, 0, none⟩ 1 1 [.int .i64 ln, .slice none 0 0, .int .i64 (at_ : Int)] (by rfl) rfl (WordsBytes.cells_new _ #[_, _, _] _) (by simp [Value.oneCell']) (by omega) (by unfold maxLen; omega) (by omega) (by simp; omega) (Wd.heap.size + 1) (by simp) ?_
  intro g6 c6 w6 hown6 hgrow6 hat6 hlt6
  obtain ⟨hR8, hC8, hbx⟩ := hd.more (at_ := at_) (by omega) hgrow6 hown6 Hln.out hmem
  have hpx := (hxb.below hB7 hxb.lt).grown hgrow6 (hxb.not_own (by decide) hd.rules)
  refine hK.out _ _ ⟨hbx, hpx⟩ (fun hHeld => ?_)
  clear hK K
  simp only [zA, zB, zC, Act.put, zD, zE, zF]
  refine OrdersZ.readyZ (i := 23) (by kernel_rfl) rfl (fun K hK => ?_)
  go_simp
  refine hK.out _ _ ⟨hbx, hpx⟩ (fun hHeld => ?_)
  clear hK K
  refine OrdersZ.takeZ (i := 24) (v := .pointer (some ⟨rb, 5, none⟩)) rfl (by kernel_rfl) (by kernel_rfl) (by kernel_rfl) (by kernel_rfl) (by kernel_rfl) (fun _ _ _ h => h) (Or.inl ⟨by rfl, fun w9 hSw => ?_⟩) hHeld ?_
  · obtain ⟨s0, s1⟩ := hSw
    go_simp
  simp only [zA, zB, zC, Act.put, zD, zE, zF]
  have q5 := hbx.cell (q := 5) rfl
  have f5 := hbx.frozen 5
  refine OrdersZ.lastZ (by kernel_rfl) rfl (fun K hK => ?_)
  go_simp
  refine hK.out _ _ ?_
  clear hK K
  refine OrdersZ.doneZ (by kernel_rfl) (NoPanic.normal ?_) _
  have hCf := hC1.trans hC8
  clear hown6 hgrow6 hat6 hlt6 hbx hpx q5 f5 hB7 hd hxb hbox hC8 hC1
  go_wp2
  go_ret
  obtain rfl := Hat.out
  exact ⟨rfl, _, hR8, hCf⟩

end Go.Proofs.YtjblkgephboajaaGreatDoor.SpecMem

namespace Go.Proofs.YtjblkgephboajaaGreatDoor.SpecMem
open Go.RowKit Go.Maps Go.WideMaps GramMath GramRow GramOne GramApart GramRoll GramCopy LineMath SpecLn SpecMd WordsBytes
set_option linter.unusedVariables false
set_option linter.unusedSimpArgs false

theorem cellsR_len (ns : List ByteArray) : ∀ (qs : List Qr), (cellsR ns qs).length = qs.length * 3
  | [] => rfl
  | q :: qs => by
    have := cellsR_len ns qs
    unfold cellsR at this ⊢
    rw [List.flatMap_cons, List.length_append, this]
    simp only [List.length_cons, List.length_nil]
    omega
theorem cellsR_app (ns : List ByteArray) (qs : List Qr) (q : Qr) : cellsR ns (qs ++ [q]) = cellsR ns qs ++ [.int .i64 (idx ns (bt q.s.left)), q.v, .int .i64 (q.s.at_ : Int)] := by
  unfold cellsR
  rw [List.flatMap_append]
  rfl

section
variable {w w' W2 : World} {rb bb mb base start : Nat} {nx : Value} {ln : Int} {ns : List ByteArray} {qs : List Qr} {q : Qr} {D : DataW Unit} {nv mv : Value}

/-- A rule's place, put. -/
theorem RdN.putAt {g c : Nat} (h : RdN w rb bb mb base nx start ln ns (qs ++ [q]) D (.slice (some ⟨g, 0, none⟩) (qs.length + 1) c) nv mv) (hlt : base ≤ w.heap.size) (at_ : Nat) :
    RdN (w.setCell ⟨g, qs.length * 3 + 2, none⟩ (.int .i64 (at_ : Int))) rb bb mb base nx start ln ns (qs ++ [⟨⟨q.s.left, q.s.names, at_⟩, q.v⟩]) D (.slice (some ⟨g, 0, none⟩) (qs.length + 1) c) nv mv
    ∧ Chg base rb bb mb (qs ++ [q]) (qs ++ [⟨⟨q.s.left, q.s.names, at_⟩, q.v⟩]) w (w.setCell ⟨g, qs.length * 3 + 2, none⟩ (.int .i64 (at_ : Int))) := by
  have hr := h.rules
  rw [List.length_append, List.length_singleton] at hr
  obtain ⟨s1, s2⟩ := hr.stored (qs.length * 3 + 2) (.int .i64 (at_ : Int))
  have hgb := (hr.lt g rfl).1
  obtain ⟨gc, hgr⟩ := own_row hr (g := g) rfl
  have far : ∀ k, k ≠ g → (w.setCell ⟨g, qs.length * 3 + 2, none⟩ (.int .i64 (at_ : Int))).heap[k]? = w.heap[k]? := fun k hk => Below.heap_setCell _ _ _ _ hk
  have hrl := h.rlt
  have hml := h.mlt
  have hbl := h.blt
  obtain ⟨e1, e2, e3, e4, e5, e6⟩ := h.heads (w' := w.setCell ⟨g, qs.length * 3 + 2, none⟩ (.int .i64 (at_ : Int))) (fun k hk hc => by
    rcases hc with rfl | rfl | ⟨h1, h2⟩
    · exact far _ (by omega)
    · exact far _ (by omega)
    · exact far k (fun e => h.n.not_row (e ▸ hgr) (by decide) h2))
  have hq : ∀ p ∈ qs ++ [q], (w.setCell ⟨g, qs.length * 3 + 2, none⟩ (.int .i64 (at_ : Int))).ownsRow base 102 3 p.v p.s.names.length (cellsW p.s.names) := fun p hp => own_block (h.each p hp) (fun k hk => far k (fun e => by
    obtain ⟨cur, hc⟩ := own_row (h.each p hp) hk
    exact hc.ne hgr (by decide) e))
  refine ⟨⟨h.box.other (by omega) _ _, e1, e2, e3, e4, e5, e6, h.map, ?_, ?_, ?_, ?_, h.rlt, h.mlt, h.rbb, h.mbb⟩, ⟨rfl, rfl, rfl, by simp, fun k hk _ _ _ => far k (by omega), fun b t C _ _ ht _ hb => (far b (hb.ne hgr ht)).trans hb, ?_⟩⟩
  · rw [List.length_append, List.length_singleton]
    have e : (cellsR ns (qs ++ [q])).set (qs.length * 3 + 2) (.int .i64 (at_ : Int)) = cellsR ns (qs ++ [⟨⟨q.s.left, q.s.names, at_⟩, q.v⟩]) := by
      rw [cellsR_app, cellsR_app, List.set_append_right _ _ (by rw [cellsR_len]; omega), cellsR_len, Nat.add_sub_cancel_left]
      rfl
    rw [← e]
    exact s1
  · intro p hp
    rcases List.mem_append.1 hp with hp | hp
    · exact hq p (List.mem_append_left _ hp)
    · rw [List.mem_singleton.1 hp]
      exact hq q (by simp)
  · have hf := h.far
    rw [List.pairwise_append] at hf ⊢
    refine ⟨hf.1, List.pairwise_singleton _ _, fun a ha b hb => ?_⟩
    rw [List.mem_singleton.1 hb]
    exact hf.2.2 a ha q (by simp)
  · intro p hp
    rcases List.mem_append.1 hp with hp | hp
    · exact h.known p (List.mem_append_left _ hp)
    · rw [List.mem_singleton.1 hp]
      exact h.known q (by simp)
  · intro k hk
    refine .inl ?_
    obtain ⟨p, hp, hv⟩ := hk
    rw [List.getLast?_append] at hp
    simp at hp
    exact ⟨q, by simp, by rw [← hp] at hv; exact hv⟩

/-- A NAME MORE. -/
theorem RdN.name {g c g2 c2 : Nat} {x : Wd} {o : Obj} (h : RdN w rb bb mb base nx start ln ns (qs ++ [q]) D (.slice (some ⟨g, 0, none⟩) (qs.length + 1) c) nv mv) (hlt : base ≤ w.heap.size) (hg : (w.alloc o).grownBy W2 q.v.ownBlock)
    (hown : W2.ownsRow base 102 3 (.slice (some ⟨g2, 0, none⟩) (q.s.names.length + 1) c2) (q.s.names.length + 1) (cellsW q.s.names ++ wv x)) (hat : q.v.ownBlock = some g2 ∨ g2 = w.heap.size + 1) :
    RdN (W2.setCell ⟨g, qs.length * 3 + 1, none⟩ (.slice (some ⟨g2, 0, none⟩) (q.s.names.length + 1) c2)) rb bb mb base nx start ln ns (qs ++ [⟨⟨q.s.left, q.s.names ++ [x], q.s.at_⟩, .slice (some ⟨g2, 0, none⟩) (q.s.names.length + 1) c2⟩]) D (.slice (some ⟨g, 0, none⟩) (qs.length + 1) c) nv mv
    ∧ Chg base rb bb mb (qs ++ [q]) (qs ++ [⟨⟨q.s.left, q.s.names ++ [x], q.s.at_⟩, .slice (some ⟨g2, 0, none⟩) (q.s.names.length + 1) c2⟩]) w (W2.setCell ⟨g, qs.length * 3 + 1, none⟩ (.slice (some ⟨g2, 0, none⟩) (q.s.names.length + 1) c2))
    ∧ W2.heap[g]? = w.heap[g]? := by
  have hq := h.each q (by simp)
  have hr := h.rules
  rw [List.length_append, List.length_singleton] at hr
  have hgb := hr.lt g rfl
  obtain ⟨gc, hgr⟩ := own_row hr (g := g) rfl
  have hty : ∀ k, q.v.ownBlock = some k → ∃ cur, RowAt w k 102 cur := fun k hk => own_row hq hk
  have hlo : ∀ k, k < base → q.v.ownBlock ≠ some k := fun k hk e => by have := (hq.lt k e).1; omega
  have hng : q.v.ownBlock ≠ some g := fun e => by
    obtain ⟨cur, hc⟩ := hty g e
    exact hc.ne hgr (by decide) rfl
  have hg0 : W2.heap[g]? = w.heap[g]? := grown_far hg hgb.2 hng
  have hr2 : W2.ownsRow base 88 3 (.slice (some ⟨g, 0, none⟩) (qs.length + 1) c) (qs.length + 1) (cellsR ns (qs ++ [q])) := own_block hr (fun k hk => by
    have e : g = k := by simpa [Value.ownBlock] using hk
    rw [← e]; exact hg0)
  obtain ⟨s1, s2⟩ := hr2.stored (qs.length * 3 + 1) (.slice (some ⟨g2, 0, none⟩) (q.s.names.length + 1) c2)
  have far : ∀ k, k < w.heap.size → k ≠ g → q.v.ownBlock ≠ some k → (W2.setCell ⟨g, qs.length * 3 + 1, none⟩ (.slice (some ⟨g2, 0, none⟩) (q.s.names.length + 1) c2)).heap[k]? = w.heap[k]? := fun k hk hn hw =>
    (Below.heap_setCell _ _ _ _ hn).trans (grown_far hg hk hw)
  have hrl := h.rlt
  have hml := h.mlt
  have hbl := h.blt
  have hgs := hg.size
  rw [World.size_alloc] at hgs
  have hg2 : g2 ≠ g := fun e => by
    rcases hat with h1 | h1
    · exact hng (e ▸ h1)
    · omega
  obtain ⟨e1, e2, e3, e4, e5, e6⟩ := h.heads (w' := W2.setCell ⟨g, qs.length * 3 + 1, none⟩ (.slice (some ⟨g2, 0, none⟩) (q.s.names.length + 1) c2)) (fun k hk hc => by
    rcases hc with rfl | rfl | ⟨h1, h2⟩
    · exact far _ hk (by omega) (hlo _ hbl)
    · exact far _ hk (by omega) (hlo _ hml)
    · refine far k hk (fun e => h.n.not_row (e ▸ hgr) (by decide) h2) (fun e => ?_)
      obtain ⟨cur, hc⟩ := hty k e
      exact h.n.not_row hc (by decide) h2)
  have hf := h.far
  rw [List.pairwise_append] at hf
  refine ⟨⟨(far rb h.box.lt (by omega) (hlo rb hrl)).trans h.box, e1, e2, e3, e4, e5, e6, h.map, ?_, ?_, ?_, ?_, h.rlt, h.mlt, h.rbb, h.mbb⟩, ⟨hg.os, hg.tape, hg.output, by simp; omega, fun k hk _ _ _ => far k (by omega) (by omega) (hlo k hk), ?_, ?_⟩, hg0⟩
  · rw [List.length_append, List.length_singleton]
    have e : (cellsR ns (qs ++ [q])).set (qs.length * 3 + 1) (.slice (some ⟨g2, 0, none⟩) (q.s.names.length + 1) c2) = cellsR ns (qs ++ [⟨⟨q.s.left, q.s.names ++ [x], q.s.at_⟩, .slice (some ⟨g2, 0, none⟩) (q.s.names.length + 1) c2⟩]) := by
      rw [cellsR_app, cellsR_app, List.set_append_right _ _ (by rw [cellsR_len]; omega), cellsR_len, Nat.add_sub_cancel_left]
      rfl
    rw [← e]
    exact s1
  · intro p hp
    rcases List.mem_append.1 hp with hp | hp
    · have hpe := h.each p (List.mem_append_left _ hp)
      refine own_block hpe (fun k hk => far k (hpe.lt k hk).2 (fun e => ?_) (fun e => hf.2.2 p hp q (by simp) k hk e))
      obtain ⟨cur, hc⟩ := own_row hpe hk
      exact hc.ne hgr (by decide) e
    · rw [List.mem_singleton.1 hp]
      show World.ownsRow _ _ _ _ _ (q.s.names ++ [x]).length (cellsW (q.s.names ++ [x]))
      rw [List.length_append, List.length_singleton, cellsW, List.flatMap_append, List.flatMap_cons, List.flatMap_nil, List.append_nil]
      exact own_block hown (fun k hk => Below.heap_setCell _ _ _ _ (show k ≠ g by
        have e : g2 = k := by simpa [Value.ownBlock] using hk
        omega))
  · rw [List.pairwise_append]
    refine ⟨hf.1, List.pairwise_singleton _ _, fun a ha b hb k hk => ?_⟩
    rw [List.mem_singleton.1 hb]
    intro e
    have e : g2 = k := by simpa [Value.ownBlock] using e
    subst e
    rcases hat with h1 | h1
    · exact hf.2.2 a ha q (by simp) _ hk h1
    · have := ((h.each a (List.mem_append_left _ ha)).lt _ hk).2
      omega
  · intro p hp
    rcases List.mem_append.1 hp with hp | hp
    · exact h.known p (List.mem_append_left _ hp)
    · rw [List.mem_singleton.1 hp]
      exact h.known q (by simp)
  · intro b t C _ _ ht hno hb
    refine (far b hb.lt (hb.ne hgr ht) (fun e => ?_)).trans hb
    by_cases htw : t = 102
    · exact hno htw ⟨q, by simp, e⟩
    · obtain ⟨cur, hc⟩ := hty b e
      exact hb.ne hc htw rfl
  · intro k hk
    obtain ⟨p, hp, hv⟩ := hk
    rw [List.getLast?_append] at hp
    simp at hp
    rw [← hp] at hv
    have e : g2 = k := by simpa [Value.ownBlock] using hv
    subst e
    rcases hat with h1 | h1
    · exact .inl ⟨q, by simp, h1⟩
    · exact .inr (by omega)
end

end Go.Proofs.YtjblkgephboajaaGreatDoor.SpecMem
