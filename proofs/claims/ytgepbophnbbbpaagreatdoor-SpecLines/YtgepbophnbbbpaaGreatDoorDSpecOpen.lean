/-
  Texts that stand together: SpecOpen.
-/
import Derived.Test.YtgepbophnbbbpaaGreatDoorDagSpecSt1
import Derived.BigQuiet
namespace Go.Proofs.YtgepbophnbbbpaaGreatDoor.SpecMem
open Go.RowKit Go.Maps Go.WideMaps Go.Proofs.YtgepbophnbbbpaaGreatDoor.GramMath Go.Proofs.YtgepbophnbbbpaaGreatDoor.GramRow Go.Proofs.YtgepbophnbbbpaaGreatDoor.GramOne Go.Proofs.YtgepbophnbbbpaaGreatDoor.GramApart Go.Proofs.YtgepbophnbbbpaaGreatDoor.GramRoll Go.Proofs.YtgepbophnbbbpaaGreatDoor.GramCopy Go.Proofs.YtgepbophnbbbpaaGreatDoor.LineMath Go.Proofs.YtgepbophnbbbpaaGreatDoor.SpecLn Go.Proofs.YtgepbophnbbbpaaGreatDoor.SpecMd Go.Proofs.YtgepbophnbbbpaaGreatDoor.WordsBytes
set_option linter.unusedVariables false
set_option linter.unusedSimpArgs false

theorem drew_keep (W : World) : Below W.heap.size W W.drew := ⟨rfl, rfl, rfl, Nat.le_refl W.heap.size, fun _ _ => rfl⟩
theorem makeFn (fn : Fn) (first cap : Array Value) (w : World) : (Instr.makeFunc fn first cap).run Tryz.prog w = .ok (.func fn first cap) w := rfl

set_option maxRecDepth 100000 in
set_option maxHeartbeats 4000000 in
theorem open_any (rb bb mb base start : Nat) (nx : Value) (ln : Int) (ns : List ByteArray) (qs : List Qr) (D : DataW Unit) (rv nv mv : Value) (left : List UInt8) (x : Wd) (w : World) (h : RdN w rb bb mb base nx start ln ns qs D rv nv mv) (hlt : base ≤ w.heap.size) (hln : ln = idx ns (bt left)) (hmem : memB (bt left) ns = true) (hx : x.text.length ≤ 1048576) (hs : start + x.place + x.text.length ≤ 4611686018427387904) (hq : qs.length ≤ 1073741824) :
    Calls Tryz.prog 97 #[.pointer (some ⟨rb, 0, none⟩), .agg #[.string ⟨x.text.toArray⟩, .bool x.quoted, .int .i64 (x.place : Int)]] w fun e w' => e = .returned (stV rb .nam) ∧ ∃ rv', RdN w' rb bb mb base nx start ln ns (qs ++ [⟨⟨left, [], start + x.place + x.text.length⟩, .slice none 0 0⟩]) D rv' nv mv ∧ Chg base rb bb mb qs (qs ++ [⟨⟨left, [], start + x.place + x.text.length⟩, .slice none 0 0⟩]) w w' := by
  obtain ⟨i0, hi, hz0, hz1, hz2⟩ := info_parts infoRl
  have hmf := makeFn
  obtain ⟨ra, rc, rfl⟩ : ∃ a c, rv = .slice a qs.length c := by
    obtain ⟨_, ⟨rfl, h2⟩ | ⟨g, cap, cur, rfl, _⟩⟩ := h.rules
    · exact ⟨none, 0, by rw [h2]⟩
    · exact ⟨_, _, rfl⟩
  obtain ⟨W1, hW1⟩ : ∃ W1, W1 = w.alloc (.cells #[.string ⟨x.text.toArray⟩, .bool x.quoted, .int .i64 (x.place : Int)] 102) := ⟨_, rfl⟩
  have hB1 : Below w.heap.size w W1 := by rw [hW1]; exact (Below.refl _ _).alloc (Nat.le_refl _) _
  have hz : W1.heap.size = w.heap.size + 1 := by rw [hW1]; simp
  obtain ⟨Wd, hWd⟩ : ∃ Wd, W1.drew = Wd := ⟨_, rfl⟩
  have hBd : Below w.heap.size w Wd := by rw [← hWd]; exact hB1.drew
  have hd := h.below hBd
  have hzd : Wd.heap.size = w.heap.size + 1 := by rw [← hWd]; exact hz
  have hxb : RowAt Wd w.heap.size 102 #[.string ⟨x.text.toArray⟩, .bool x.quoted, .int .i64 (x.place : Int)] := by rw [← hWd, hW1]; exact World.alloc_heap_new w _
  have HWd : Hid (W1.drew = Wd) := hWd
  have hC1 : Chg base rb bb mb qs qs w Wd := .of_below qs hBd hlt
  have hb0 : base ≤ w.heap.size := hlt
  have hsz : (⟨x.text.toArray⟩ : ByteArray).size = x.text.length := by simp [ByteArray.size]
  have hsm2 : (start : Int) + (x.place : Int) + (x.text.length : Int) ≤ 4611686018427387904 := by omega
  have hbox := hd.box
  have Hln : Hid (ln = idx ns (bt left)) := hln
  have hbz : base ≤ Wd.heap.size := by omega
  subst hW1
  clear hB1 hz hWd h hln hzd
  go_enter Tryz.func97, Tryz.ntmps97
  go_wp2
  refine wp_region_noPanic ?_
  refine OrdersZ.region_Z (S := (fun w9 => RowAt w9 rb 85 #[nx, .int .i64 (start : Int), .int .i64 ln, .pointer (some ⟨bb, 0, none⟩), .map (some mb), .slice ra qs.length rc] ∧ RowAt w9 w.heap.size 102 #[.string ⟨x.text.toArray⟩, .bool x.quoted, .int .i64 (x.place : Int)])) 25 (by kernel_rfl) (by rw [HWd.out]; exact ⟨hbox, hxb⟩) (fun hHeld => ?_)
  rw [HWd.out]
  replace hHeld : RowAt Wd rb 85 #[nx, .int .i64 (start : Int), .int .i64 ln, .pointer (some ⟨bb, 0, none⟩), .map (some mb), .slice ra qs.length rc] ∧ RowAt Wd w.heap.size 102 #[.string ⟨x.text.toArray⟩, .bool x.quoted, .int .i64 (x.place : Int)] := ⟨hbox, hxb⟩
  clear HWd
  refine OrdersZ.takeZ (i := 0) (v := .pointer (some ⟨rb, 0, none⟩)) rfl (by kernel_rfl) (by kernel_rfl) (by kernel_rfl) (by kernel_rfl) (by kernel_rfl) (fun _ _ _ h => h) (Or.inl ⟨by rfl, fun w9 hSw => ?_⟩) hHeld ?_
  · obtain ⟨s0, s1⟩ := hSw
    go_simp
  simp only [List.getElem_toArray, List.getElem_cons_zero, List.getElem_cons_succ, Act.put, List.setIfInBounds_toArray, List.set_cons_zero, List.set_cons_succ]
  refine OrdersZ.takeZ (i := 1) (v := .pointer (some ⟨rb, 0, none⟩)) rfl (by kernel_rfl) (by kernel_rfl) (by kernel_rfl) (by kernel_rfl) (by kernel_rfl) (fun _ _ _ h => h) (Or.inl ⟨by rfl, fun w9 hSw => ?_⟩) hHeld ?_
  · obtain ⟨s0, s1⟩ := hSw
    go_simp
  simp only [List.getElem_toArray, List.getElem_cons_zero, List.getElem_cons_succ, Act.put, List.setIfInBounds_toArray, List.set_cons_zero, List.set_cons_succ]
  refine OrdersZ.takeZ (i := 2) (v := .pointer (some ⟨rb, 0, none⟩)) rfl (by kernel_rfl) (by kernel_rfl) (by kernel_rfl) (by kernel_rfl) (by kernel_rfl) (fun _ _ _ h => h) (Or.inl ⟨by rfl, fun w9 hSw => ?_⟩) hHeld ?_
  · obtain ⟨s0, s1⟩ := hSw
    go_simp
  simp only [List.getElem_toArray, List.getElem_cons_zero, List.getElem_cons_succ, Act.put, List.setIfInBounds_toArray, List.set_cons_zero, List.set_cons_succ]
  refine OrdersZ.takeZ (i := 3) (v := .pointer (some ⟨rb, 5, none⟩)) rfl (by kernel_rfl) (by kernel_rfl) (by kernel_rfl) (by kernel_rfl) (by kernel_rfl) (fun _ _ _ h => h) (Or.inl ⟨by rfl, fun w9 hSw => ?_⟩) hHeld ?_
  · obtain ⟨s0, s1⟩ := hSw
    go_simp
  simp only [List.getElem_toArray, List.getElem_cons_zero, List.getElem_cons_succ, Act.put, List.setIfInBounds_toArray, List.set_cons_zero, List.set_cons_succ]
  refine OrdersZ.takeZ (i := 4) (v := .slice ra qs.length rc) rfl (by kernel_rfl) (by kernel_rfl) (by kernel_rfl) (by kernel_rfl) (by kernel_rfl) (fun _ _ _ h => h) (Or.inl ⟨by rfl, fun w9 hSw => ?_⟩) hHeld ?_
  · obtain ⟨s0, s1⟩ := hSw
    go_simp
    (have q := s0.cell (q := 5) rfl; go_simp)
  simp only [List.getElem_toArray, List.getElem_cons_zero, List.getElem_cons_succ, Act.put, List.setIfInBounds_toArray, List.set_cons_zero, List.set_cons_succ]
  refine OrdersZ.takeZ (i := 5) (v := .pointer (some ⟨rb, 0, none⟩)) rfl (by kernel_rfl) (by kernel_rfl) (by kernel_rfl) (by kernel_rfl) (by kernel_rfl) (fun _ _ _ h => h) (Or.inl ⟨by rfl, fun w9 hSw => ?_⟩) hHeld ?_
  · obtain ⟨s0, s1⟩ := hSw
    go_simp
  simp only [List.getElem_toArray, List.getElem_cons_zero, List.getElem_cons_succ, Act.put, List.setIfInBounds_toArray, List.set_cons_zero, List.set_cons_succ]
  refine OrdersZ.takeZ (i := 6) (v := .pointer (some ⟨rb, 0, none⟩)) rfl (by kernel_rfl) (by kernel_rfl) (by kernel_rfl) (by kernel_rfl) (by kernel_rfl) (fun _ _ _ h => h) (Or.inl ⟨by rfl, fun w9 hSw => ?_⟩) hHeld ?_
  · obtain ⟨s0, s1⟩ := hSw
    go_simp
  simp only [List.getElem_toArray, List.getElem_cons_zero, List.getElem_cons_succ, Act.put, List.setIfInBounds_toArray, List.set_cons_zero, List.set_cons_succ]
  refine OrdersZ.takeZ (i := 7) (v := .pointer (some ⟨rb, 2, none⟩)) rfl (by kernel_rfl) (by kernel_rfl) (by kernel_rfl) (by kernel_rfl) (by kernel_rfl) (fun _ _ _ h => h) (Or.inl ⟨by rfl, fun w9 hSw => ?_⟩) hHeld ?_
  · obtain ⟨s0, s1⟩ := hSw
    go_simp
  simp only [List.getElem_toArray, List.getElem_cons_zero, List.getElem_cons_succ, Act.put, List.setIfInBounds_toArray, List.set_cons_zero, List.set_cons_succ]
  refine OrdersZ.takeZ (i := 8) (v := .int .i64 ln) rfl (by kernel_rfl) (by kernel_rfl) (by kernel_rfl) (by kernel_rfl) (by kernel_rfl) (fun _ _ _ h => h) (Or.inl ⟨by rfl, fun w9 hSw => ?_⟩) hHeld ?_
  · obtain ⟨s0, s1⟩ := hSw
    go_simp
    (have q := s0.cell (q := 2) rfl; go_simp)
  simp only [List.getElem_toArray, List.getElem_cons_zero, List.getElem_cons_succ, Act.put, List.setIfInBounds_toArray, List.set_cons_zero, List.set_cons_succ]
  refine OrdersZ.takeZ (i := 9) (v := .pointer (some ⟨rb, 0, none⟩)) rfl (by kernel_rfl) (by kernel_rfl) (by kernel_rfl) (by kernel_rfl) (by kernel_rfl) (fun _ _ _ h => h) (Or.inl ⟨by rfl, fun w9 hSw => ?_⟩) hHeld ?_
  · obtain ⟨s0, s1⟩ := hSw
    go_simp
  simp only [List.getElem_toArray, List.getElem_cons_zero, List.getElem_cons_succ, Act.put, List.setIfInBounds_toArray, List.set_cons_zero, List.set_cons_succ]
  refine OrdersZ.takeZ (i := 10) (v := .pointer (some ⟨rb, 0, none⟩)) rfl (by kernel_rfl) (by kernel_rfl) (by kernel_rfl) (by kernel_rfl) (by kernel_rfl) (fun _ _ _ h => h) (Or.inl ⟨by rfl, fun w9 hSw => ?_⟩) hHeld ?_
  · obtain ⟨s0, s1⟩ := hSw
    go_simp
  simp only [List.getElem_toArray, List.getElem_cons_zero, List.getElem_cons_succ, Act.put, List.setIfInBounds_toArray, List.set_cons_zero, List.set_cons_succ]
  refine OrdersZ.takeZ (i := 11) (v := .pointer (some ⟨rb, 1, none⟩)) rfl (by kernel_rfl) (by kernel_rfl) (by kernel_rfl) (by kernel_rfl) (by kernel_rfl) (fun _ _ _ h => h) (Or.inl ⟨by rfl, fun w9 hSw => ?_⟩) hHeld ?_
  · obtain ⟨s0, s1⟩ := hSw
    go_simp
  simp only [List.getElem_toArray, List.getElem_cons_zero, List.getElem_cons_succ, Act.put, List.setIfInBounds_toArray, List.set_cons_zero, List.set_cons_succ]
  refine OrdersZ.takeZ (i := 12) (v := .int .i64 (start : Int)) rfl (by kernel_rfl) (by kernel_rfl) (by kernel_rfl) (by kernel_rfl) (by kernel_rfl) (fun _ _ _ h => h) (Or.inl ⟨by rfl, fun w9 hSw => ?_⟩) hHeld ?_
  · obtain ⟨s0, s1⟩ := hSw
    go_simp
    (have q := s0.cell (q := 1) rfl; go_simp)
  simp only [List.getElem_toArray, List.getElem_cons_zero, List.getElem_cons_succ, Act.put, List.setIfInBounds_toArray, List.set_cons_zero, List.set_cons_succ]
  refine OrdersZ.takeZ (i := 13) (v := .pointer (some ⟨w.heap.size, 2, none⟩)) rfl (by kernel_rfl) (by kernel_rfl) (by kernel_rfl) (by kernel_rfl) (by kernel_rfl) (fun _ _ _ h => h) (Or.inl ⟨by rfl, fun w9 hSw => ?_⟩) hHeld ?_
  · obtain ⟨s0, s1⟩ := hSw
    go_simp
  simp only [List.getElem_toArray, List.getElem_cons_zero, List.getElem_cons_succ, Act.put, List.setIfInBounds_toArray, List.set_cons_zero, List.set_cons_succ]
  refine OrdersZ.takeZ (i := 14) (v := .int .i64 (x.place : Int)) rfl (by kernel_rfl) (by kernel_rfl) (by kernel_rfl) (by kernel_rfl) (by kernel_rfl) (fun _ _ _ h => h) (Or.inl ⟨by rfl, fun w9 hSw => ?_⟩) hHeld ?_
  · obtain ⟨s0, s1⟩ := hSw
    go_simp
    (have q := s1.cell (q := 2) rfl; go_simp)
  simp only [List.getElem_toArray, List.getElem_cons_zero, List.getElem_cons_succ, Act.put, List.setIfInBounds_toArray, List.set_cons_zero, List.set_cons_succ]
  refine OrdersZ.takeZ (i := 15) (v := .int .i64 ((start : Int) + (x.place : Int))) rfl (by kernel_rfl) (by kernel_rfl) (by kernel_rfl) (by kernel_rfl) (by kernel_rfl) (fun _ _ _ h => h) (Or.inl ⟨by rfl, fun w9 hSw => ?_⟩) hHeld ?_
  · obtain ⟨s0, s1⟩ := hSw
    go_simp
    (rw [IntKind.wrap_i64]; omega)
  simp only [List.getElem_toArray, List.getElem_cons_zero, List.getElem_cons_succ, Act.put, List.setIfInBounds_toArray, List.set_cons_zero, List.set_cons_succ]
  refine OrdersZ.takeZ (i := 16) (v := .pointer (some ⟨w.heap.size, 0, none⟩)) rfl (by kernel_rfl) (by kernel_rfl) (by kernel_rfl) (by kernel_rfl) (by kernel_rfl) (fun _ _ _ h => h) (Or.inl ⟨by rfl, fun w9 hSw => ?_⟩) hHeld ?_
  · obtain ⟨s0, s1⟩ := hSw
    go_simp
  simp only [List.getElem_toArray, List.getElem_cons_zero, List.getElem_cons_succ, Act.put, List.setIfInBounds_toArray, List.set_cons_zero, List.set_cons_succ]
  refine OrdersZ.takeZ (i := 17) (v := .string ⟨x.text.toArray⟩) rfl (by kernel_rfl) (by kernel_rfl) (by kernel_rfl) (by kernel_rfl) (by kernel_rfl) (fun _ _ _ h => h) (Or.inl ⟨by rfl, fun w9 hSw => ?_⟩) hHeld ?_
  · obtain ⟨s0, s1⟩ := hSw
    go_simp
    (have q := s1.cell (q := 0) rfl; go_simp)
  simp only [List.getElem_toArray, List.getElem_cons_zero, List.getElem_cons_succ, Act.put, List.setIfInBounds_toArray, List.set_cons_zero, List.set_cons_succ]
  refine OrdersZ.takeZ (i := 18) (v := .int .i64 (x.text.length : Int)) rfl (by kernel_rfl) (by kernel_rfl) (by kernel_rfl) (by kernel_rfl) (by kernel_rfl) (fun _ _ _ h => h) (Or.inl ⟨by rfl, fun w9 hSw => ?_⟩) hHeld ?_
  · obtain ⟨s0, s1⟩ := hSw
    go_simp
  simp only [List.getElem_toArray, List.getElem_cons_zero, List.getElem_cons_succ, Act.put, List.setIfInBounds_toArray, List.set_cons_zero, List.set_cons_succ]
  refine OrdersZ.takeZ (i := 19) (v := .int .i64 ((start + x.place + x.text.length : Nat) : Int)) rfl (by kernel_rfl) (by kernel_rfl) (by kernel_rfl) (by kernel_rfl) (by kernel_rfl) (fun _ _ _ h => h) (Or.inl ⟨by rfl, fun w9 hSw => ?_⟩) hHeld ?_
  · obtain ⟨s0, s1⟩ := hSw
    go_simp
    (rw [IntKind.wrap_i64]; omega)
  simp only [List.getElem_toArray, List.getElem_cons_zero, List.getElem_cons_succ, Act.put, List.setIfInBounds_toArray, List.set_cons_zero, List.set_cons_succ]
  refine OrdersZ.takeZ (i := 20) (v := .agg #[.int .i64 ln, .slice none 0 0, .int .i64 ((start + x.place + x.text.length : Nat) : Int)]) rfl (by kernel_rfl) (by kernel_rfl) (by kernel_rfl) (by kernel_rfl) (by kernel_rfl) (fun _ _ _ h => h) (Or.inl ⟨by rfl, fun w9 hSw => ?_⟩) hHeld ?_
  · obtain ⟨s0, s1⟩ := hSw
    go_simp
  simp only [List.getElem_toArray, List.getElem_cons_zero, List.getElem_cons_succ, Act.put, List.setIfInBounds_toArray, List.set_cons_zero, List.set_cons_succ]
  generalize hat : start + x.place + x.text.length = at_ at *
  have Hat : Hid (_) := hat
  clear hat
  refine OrdersZ.readyZ (i := 21) (by kernel_rfl) rfl (fun K hK => ?_)
  go_simp
  have hB7 : Below Wd.heap.size Wd (Wd.alloc (.cells #[.int .i64 ln, .slice none 0 0, .int .i64 (at_ : Int)] 88)) := (Below.refl _ _).alloc (Nat.le_refl _) _
  refine hK.out _ _ ⟨hbox.below hB7 hbox.lt, hxb.below hB7 hxb.lt⟩ (fun hHeld => ?_)
  clear hK K
  refine OrdersZ.readyZ (i := 22) (by kernel_rfl) rfl (fun K hK => ?_)
  refine step_append_lies _ rfl (.tmp 9) (.tmp 26) 83 rfl base 88 i0 (.agg #[.int .i64 0, .slice none 0 0, .int .i64 0]) 3 40 Tryz.underlying83 hi hz0 hz1 hz2 rfl (by decide) (.slice ra qs.length rc) qs.length (cellsR ns qs) (by rfl) (hd.rules.alloc _) ⟨Wd.heap.size, 0, none⟩ 1 1 [.int .i64 ln, .slice none 0 0, .int .i64 (at_ : Int)] (by rfl) rfl (WordsBytes.cells_new _ #[_, _, _] _) (by simp [Value.oneCell']) (by omega) (by unfold maxLen; omega) (by omega) (by simp; omega) (Wd.heap.size + 1) (by simp) ?_
  intro g6 c6 w6 hown6 hgrow6 hat6 hlt6
  obtain ⟨hR8, hC8, hbx⟩ := hd.more (at_ := at_) (by omega) hgrow6 hown6 Hln.out hmem
  have hpx := (hxb.below hB7 hxb.lt).grown hgrow6 (hxb.not_own (by decide) hd.rules)
  refine hK.out _ _ ⟨hbx, hpx⟩ (fun hHeld => ?_)
  clear hK K
  simp only [List.getElem_toArray, List.getElem_cons_zero, List.getElem_cons_succ, Act.put, List.setIfInBounds_toArray, List.set_cons_zero, List.set_cons_succ]
  refine OrdersZ.readyZ (i := 23) (by kernel_rfl) rfl (fun K hK => ?_)
  go_simp
  refine hK.out _ _ ⟨hbx, hpx⟩ (fun hHeld => ?_)
  clear hK K
  refine OrdersZ.takeZ (i := 24) (v := .pointer (some ⟨rb, 5, none⟩)) rfl (by kernel_rfl) (by kernel_rfl) (by kernel_rfl) (by kernel_rfl) (by kernel_rfl) (fun _ _ _ h => h) (Or.inl ⟨by rfl, fun w9 hSw => ?_⟩) hHeld ?_
  · obtain ⟨s0, s1⟩ := hSw
    go_simp
  simp only [List.getElem_toArray, List.getElem_cons_zero, List.getElem_cons_succ, Act.put, List.setIfInBounds_toArray, List.set_cons_zero, List.set_cons_succ]
  have q5 := hbx.cell (q := 5) rfl
  have f5 := hbx.frozen 5
  refine OrdersZ.lastZ (by kernel_rfl) rfl (fun K hK => ?_)
  go_simp
  refine hK.out _ _ ?_
  clear hK K
  refine OrdersZ.doneZ (by kernel_rfl) (NoPanic.normal ?_) _
  have hCf := hC1.trans hC8
  clear hown6 hgrow6 hat6 hlt6 hbx hpx q5 f5 hB7 hd hxb hbox hC8 hC1
  go_wp2
  go_ret
  obtain rfl := Hat.out
  exact ⟨rfl, _, hR8, hCf⟩

end Go.Proofs.YtgepbophnbbbpaaGreatDoor.SpecMem
