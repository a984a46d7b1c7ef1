/-
  Texts that stand together: SpecFns3.
-/
import Derived.Test.YtgepbophnbbbpaaGreatDoorDagSpecFns1
import Derived.Test.YtgepbophnbbbpaaGreatDoorDagSpecSt1
import Derived.Maps.AppendAt
import Derived.Deep.AppendLies
namespace Go.Proofs.YtgepbophnbbbpaaGreatDoor.SpecFn
open Go.RowKit Go.Maps Go.Proofs.YtgepbophnbbbpaaGreatDoor.GramLess Go.Proofs.YtgepbophnbbbpaaGreatDoor.GramApart Go.Proofs.YtgepbophnbbbpaaGreatDoor.WordsMath Go.Proofs.YtgepbophnbbbpaaGreatDoor.WordsOne Go.Proofs.YtgepbophnbbbpaaGreatDoor.WordsBytes Go.Proofs.YtgepbophnbbbpaaGreatDoor.SpecLn Go.Proofs.YtgepbophnbbbpaaGreatDoor.SpecTx Go.Proofs.YtgepbophnbbbpaaGreatDoor.GramRow Go.Proofs.YtgepbophnbbbpaaGreatDoor.SpecMem
set_option linter.unusedVariables false
set_option linter.unusedSimpArgs false

theorem infoSt : (Tryz.prog.info? 9).map (fun i => (i.zero, i.size, i.bytes)) = some (some (.string ⟨#[]⟩), 1, 16) := by kernel_rfl
def encB (x : List UInt8) : Value := .string ⟨x.toArray⟩
theorem own_set1 {w : World} {base n g c q : Nat} {e : TypeId} {x : Value} {xs : List Value} (h : w.ownsRow base e 1 (.slice (some ⟨g, 0, none⟩) n c) n xs) : (w.setCell ⟨g, q, none⟩ x).ownsRow base e 1 (.slice (some ⟨g, 0, none⟩) n c) n (xs.set q x) := by
  obtain ⟨hl, ⟨e2, _⟩ | ⟨g', cap, cur, e2, h1, h2, h3, h4, h5, h6⟩⟩ := h
  · cases e2
  · cases e2
    have hr : RowAt w g e cur := h2
    refine ⟨by simpa using hl, .inr ⟨g, c, cur.setIfInBounds q x, rfl, h1, hr.set q x, h3, h4, by simpa using h5, ?_⟩⟩
    rw [← h6]
    simp [List.take_set]
theorem own_row1 {w : World} {base n g c : Nat} {e : TypeId} {xs : List Value} (h : w.ownsRow base e 1 (.slice (some ⟨g, 0, none⟩) n c) n xs) : ∃ cur, RowAt w g e cur ∧ base ≤ g ∧ g < w.heap.size := by
  obtain ⟨hl, ⟨e2, _⟩ | ⟨g', cap, cur, e2, h1, h2, h3, h4, h5, h6⟩⟩ := h
  · cases e2
  · cases e2
    have hr : RowAt w g e cur := h2
    exact ⟨cur, hr, h1, hr.lt⟩
theorem one_cut (s : List UInt8) (k : Nat) (c : UInt8) (h : s[k]? = some c) : (⟨s.toArray⟩ : ByteArray).extract k (k + 1) = ⟨#[c]⟩ := by
  obtain ⟨hk, e⟩ := List.getElem?_eq_some_iff.1 h
  apply ByteArray.ext
  apply Array.ext'
  simp [ByteArray.data_extract]
  rw [List.drop_eq_getElem_cons hk, e]
  simp

set_option maxRecDepth 100000 in
set_option maxHeartbeats 4000000 in
theorem split_any (l : List UInt8) (w : World) (hl : l.length ≤ 1048576) :
    Calls Tryz.prog 24 #[.string ⟨l.toArray⟩] w fun e w' => (∃ v, e = .returned v ∧ w'.ownsRow w.heap.size 9 1 v (splitGo [] l).length ((splitGo [] l).map encB)) ∧ Below w.heap.size w w' := by
  obtain ⟨i0, hi, hz0, hz1, hz2⟩ := info_parts infoSt
  have hsz : (⟨l.toArray⟩ : ByteArray).size = l.length := by simp [ByteArray.size]
  have hown0 : (w.alloc (.cells #[.string ⟨#[]⟩] 9)).ownsRow w.heap.size 9 1 (.slice (some ⟨w.heap.size, 0, none⟩) 1 1) 1 [.string ⟨#[]⟩] := ⟨rfl, .inr ⟨w.heap.size, 1, _, rfl, Nat.le_refl _, World.alloc_heap_new _ _, Nat.le_refl _, by decide, rfl, rfl⟩⟩
  have hB0 : Below w.heap.size w (w.alloc (.cells #[.string ⟨#[]⟩] 9)) := (Below.refl _ _).alloc (Nat.le_refl _) _
  go_enter Tryz.func24, Tryz.ntmps24
  go_wp2
  go_loopw [3, 4] (fun v i W => ∃ (k m : Nat) (done : List (List UInt8)) (cur : List UInt8), k ≤ l.length ∧ i = .int .i64 k ∧ m = done.length ∧ m ≤ k ∧ cur.length ≤ k ∧ Hid (splitGo [] l = done ++ splitGo cur (l.drop k)) ∧ W.ownsRow w.heap.size 9 1 v (m + 1) ((done ++ [cur]).map encB) ∧ Below w.heap.size w W) (fun _ i _ => l.length - (intOf i).toNat)
  case atStart => exact ⟨0, 0, [], [], by omega, rfl, rfl, by omega, by simp, (by show _ = _; simp), hown0, hB0⟩
  case round =>
    clear hown0 hB0
    obtain ⟨k, m, done, cur, hk, rfl, hm, hmk, hcu, hS, hown, hB⟩ := hrel
    have HM : Hid (m = done.length) := hm
    clear hm
    obtain ⟨V, rfl⟩ : ∃ V, V = wr := ⟨_, rfl⟩
    obtain ⟨g, cap, rfl, _, _⟩ := hown.form (by omega)
    have hsB := hB.size
    by_cases hlt : k < l.length
    · have hlt2 : (k : Int) < (l.length : Int) := by omega
      obtain ⟨c, hc⟩ : ∃ c, l[k] = c := ⟨_, rfl⟩
      have hck : ∀ (h : k < (⟨l.toArray⟩ : ByteArray).size), (⟨l.toArray⟩ : ByteArray)[k]'h = c := fun _ => hc
      have hS2 := hS.out
      rw [List.drop_eq_getElem_cons hlt, hc] at hS2
      rw [show splitGo cur (c :: l.drop (k + 1)) = if c = 10 then cur :: splitGo [] (l.drop (k + 1)) else splitGo (cur ++ [c]) (l.drop (k + 1)) from by rw [splitGo]] at hS2
      by_cases h10 : c = 10
      · rw [if_pos h10] at hS2
        have S3 : Hid (splitGo [] l = (done ++ [cur]) ++ splitGo [] (l.drop (k + 1))) := by
          show _ = _
          rw [hS2]
          simp
        have k1 : ((c.toNat : Int) == 10) = true := by rw [h10]; rfl
        clear hS hS2 h10
        go_wp2_with (at_builtin; refine wpList_append_own _ rfl _ _ 22 rfl w.heap.size 9 i0 (.string ⟨#[]⟩) 1 16 Tryz.underlying22 hi hz0 hz1 hz2 rfl (by decide) _ _ _ rfl (hown.alloc _) ⟨V.heap.size, 0, none⟩ 1 1 [.string ⟨#[]⟩] rfl rfl (cell_one_new _ _ _) (by simp [Value.oneCell']) (by unfold maxLen; omega) (by omega) (by simp; omega) ?_; intro u1 w3 hown1 hgrow1 _)
        have hB3 : Below w.heap.size w w3 := by
          have hgs := hgrow1.size
          rw [World.size_alloc] at hgs
          have h1 : Below w.heap.size V w3 := ⟨hgrow1.os, hgrow1.tape, hgrow1.output, by omega, fun j hj => grown_far hgrow1 (by omega) (fun e => by have := (hown.lt j e).1; omega)⟩
          exact hB.trans h1
        have hown3 : w3.ownsRow w.heap.size 9 1 u1 (m + 1 + 1) (((done ++ [cur]) ++ [[]]).map encB) := by
          rw [List.map_append]
          exact hown1
        clear hown1 hgrow1 hown hB
        go_wp2
        go_roundw
        case rel => exact ⟨k + 1, m + 1, done ++ [cur], [], by omega, by go_num, by have := HM.out; simp; omega, by omega, by simp, S3, hown3, hB3⟩
        case measure => simp [intOf]; omega
      · rw [if_neg h10] at hS2
        have S3 : Hid (splitGo [] l = done ++ splitGo (cur ++ [c]) (l.drop (k + 1))) := hS2
        have k1 : ((c.toNat : Int) == 10) = false := by
          have : c.toNat ≠ 10 := fun e => h10 (by apply UInt8.toNat.inj; simpa using e)
          simp
          omega
        have hcut := one_cut l k c (by rw [List.getElem?_eq_getElem hlt, hc])
        obtain ⟨n, hn⟩ : ∃ n, n = m + 1 := ⟨_, rfl⟩
        rw [← hn]
        rw [← hn] at hown
        have hcell : V.cell? ⟨g, m, none⟩ = some (.string ⟨cur.toArray⟩) := by
          rw [hown.cellAt m (by omega), HM.out]
          simp [encB]
        obtain ⟨row, hrow, hbg, hgl⟩ := own_row1 hown
        obtain ⟨Wd, hWd⟩ : ∃ Wd, V.drew = Wd := ⟨_, rfl⟩
        have hbd : Below V.heap.size V Wd := by rw [← hWd]; exact ⟨rfl, rfl, rfl, Nat.le_refl _, fun _ _ => rfl⟩
        have hownd := GramApart.own_below hown hbd
        have hcd : Wd.cell? ⟨g, m, none⟩ = some (.string ⟨cur.toArray⟩) := by rw [← hWd]; exact hcell
        have hrd := hrow.below hbd hgl
        have hBd := hB.trans (hbd.mono hsB)
        clear hS hS2 h10 hown hrow hB hcell
        go_wp2_with fail
        refine wp_region_noPanic ?_
        refine OrdersZ.region_Z (S := (fun w9 => w9.cell? ⟨g, m, none⟩ = some (.string ⟨cur.toArray⟩))) 17 (by kernel_rfl) (by rw [hWd]; exact hcd) (fun hHeld => ?_)
        rw [hWd] at hHeld ⊢
        clear hWd hbd
        refine OrdersZ.takeZ (i := 0) (v := .slice (some ⟨g, 0, none⟩) n cap) rfl (by kernel_rfl) (by kernel_rfl) (by kernel_rfl) (by kernel_rfl) (by kernel_rfl) (fun _ _ _ h => h) (Or.inl ⟨by rfl, fun w9 hSw => ?_⟩) hHeld ?_
        · obtain s0 := hSw
          go_simp
        simp only [List.getElem_toArray, List.getElem_cons_zero, List.getElem_cons_succ, Act.put, List.setIfInBounds_toArray, List.set_cons_zero, List.set_cons_succ]
        refine OrdersZ.takeZ (i := 1) (v := .slice (some ⟨g, 0, none⟩) n cap) rfl (by kernel_rfl) (by kernel_rfl) (by kernel_rfl) (by kernel_rfl) (by kernel_rfl) (fun _ _ _ h => h) (Or.inl ⟨by rfl, fun w9 hSw => ?_⟩) hHeld ?_
        · obtain s0 := hSw
          go_simp
        simp only [List.getElem_toArray, List.getElem_cons_zero, List.getElem_cons_succ, Act.put, List.setIfInBounds_toArray, List.set_cons_zero, List.set_cons_succ]
        refine OrdersZ.takeZ (i := 2) (v := .int .i64 (n : Int)) rfl (by kernel_rfl) (by kernel_rfl) (by kernel_rfl) (by kernel_rfl) (by kernel_rfl) (fun _ _ _ h => h) (Or.inl ⟨by rfl, fun w9 hSw => ?_⟩) hHeld ?_
        · obtain s0 := hSw
          go_simp
        simp only [List.getElem_toArray, List.getElem_cons_zero, List.getElem_cons_succ, Act.put, List.setIfInBounds_toArray, List.set_cons_zero, List.set_cons_succ]
        refine OrdersZ.takeZ (i := 3) (v := .int .i64 (m : Int)) rfl (by kernel_rfl) (by kernel_rfl) (by kernel_rfl) (by kernel_rfl) (by kernel_rfl) (fun _ _ _ h => h) (Or.inl ⟨by rfl, fun w9 hSw => ?_⟩) hHeld ?_
        · obtain s0 := hSw
          go_simp
          all_goals (first | rfl | omega | (rw [if_neg (by omega)]; refine congrArg (fun x => Result.ok (Next.value (Value.string x)) w9) ?_; apply ByteArray.ext; simp [ByteArray.data_append]; done) | (rw [if_pos (by omega), if_pos (by omega)]; done) | (rw [IntKind.wrap_i64]; omega) | (trace_state; sorry))
        simp only [List.getElem_toArray, List.getElem_cons_zero, List.getElem_cons_succ, Act.put, List.setIfInBounds_toArray, List.set_cons_zero, List.set_cons_succ]
        refine OrdersZ.takeZ (i := 4) (v := .slice (some ⟨g, 0, none⟩) n cap) rfl (by kernel_rfl) (by kernel_rfl) (by kernel_rfl) (by kernel_rfl) (by kernel_rfl) (fun _ _ _ h => h) (Or.inl ⟨by rfl, fun w9 hSw => ?_⟩) hHeld ?_
        · obtain s0 := hSw
          go_simp
        simp only [List.getElem_toArray, List.getElem_cons_zero, List.getElem_cons_succ, Act.put, List.setIfInBounds_toArray, List.set_cons_zero, List.set_cons_succ]
        refine OrdersZ.takeZ (i := 5) (v := .slice (some ⟨g, 0, none⟩) n cap) rfl (by kernel_rfl) (by kernel_rfl) (by kernel_rfl) (by kernel_rfl) (by kernel_rfl) (fun _ _ _ h => h) (Or.inl ⟨by rfl, fun w9 hSw => ?_⟩) hHeld ?_
        · obtain s0 := hSw
          go_simp
        simp only [List.getElem_toArray, List.getElem_cons_zero, List.getElem_cons_succ, Act.put, List.setIfInBounds_toArray, List.set_cons_zero, List.set_cons_succ]
        refine OrdersZ.takeZ (i := 6) (v := .int .i64 (n : Int)) rfl (by kernel_rfl) (by kernel_rfl) (by kernel_rfl) (by kernel_rfl) (by kernel_rfl) (fun _ _ _ h => h) (Or.inl ⟨by rfl, fun w9 hSw => ?_⟩) hHeld ?_
        · obtain s0 := hSw
          go_simp
        simp only [List.getElem_toArray, List.getElem_cons_zero, List.getElem_cons_succ, Act.put, List.setIfInBounds_toArray, List.set_cons_zero, List.set_cons_succ]
        refine OrdersZ.takeZ (i := 7) (v := .int .i64 (m : Int)) rfl (by kernel_rfl) (by kernel_rfl) (by kernel_rfl) (by kernel_rfl) (by kernel_rfl) (fun _ _ _ h => h) (Or.inl ⟨by rfl, fun w9 hSw => ?_⟩) hHeld ?_
        · obtain s0 := hSw
          go_simp
          all_goals (first | rfl | omega | (rw [if_neg (by omega)]; refine congrArg (fun x => Result.ok (Next.value (Value.string x)) w9) ?_; apply ByteArray.ext; simp [ByteArray.data_append]; done) | (rw [if_pos (by omega), if_pos (by omega)]; done) | (rw [IntKind.wrap_i64]; omega) | (trace_state; sorry))
        simp only [List.getElem_toArray, List.getElem_cons_zero, List.getElem_cons_succ, Act.put, List.setIfInBounds_toArray, List.set_cons_zero, List.set_cons_succ]
        refine OrdersZ.takeZ (i := 8) (v := .pointer (some ⟨g, m, none⟩)) rfl (by kernel_rfl) (by kernel_rfl) (by kernel_rfl) (by kernel_rfl) (by kernel_rfl) (fun _ _ _ h => h) (Or.inl ⟨by rfl, fun w9 hSw => ?_⟩) hHeld ?_
        · obtain s0 := hSw
          go_simp
          all_goals (first | rfl | omega | (rw [if_neg (by omega)]; refine congrArg (fun x => Result.ok (Next.value (Value.string x)) w9) ?_; apply ByteArray.ext; simp [ByteArray.data_append]; done) | (rw [if_pos (by omega), if_pos (by omega)]; done) | (rw [IntKind.wrap_i64]; omega) | (trace_state; sorry))
        simp only [List.getElem_toArray, List.getElem_cons_zero, List.getElem_cons_succ, Act.put, List.setIfInBounds_toArray, List.set_cons_zero, List.set_cons_succ]
        refine OrdersZ.takeZ (i := 9) (v := .string ⟨cur.toArray⟩) rfl (by kernel_rfl) (by kernel_rfl) (by kernel_rfl) (by kernel_rfl) (by kernel_rfl) (fun _ _ _ h => h) (Or.inl ⟨by rfl, fun w9 hSw => ?_⟩) hHeld ?_
        · obtain s0 := hSw
          go_simp
        simp only [List.getElem_toArray, List.getElem_cons_zero, List.getElem_cons_succ, Act.put, List.setIfInBounds_toArray, List.set_cons_zero, List.set_cons_succ]
        refine OrdersZ.takeZ (i := 10) (v := .string ⟨l.toArray⟩) rfl (by kernel_rfl) (by kernel_rfl) (by kernel_rfl) (by kernel_rfl) (by kernel_rfl) (fun _ _ _ h => h) (Or.inl ⟨by rfl, fun w9 hSw => ?_⟩) hHeld ?_
        · obtain s0 := hSw
          go_simp
        simp only [List.getElem_toArray, List.getElem_cons_zero, List.getElem_cons_succ, Act.put, List.setIfInBounds_toArray, List.set_cons_zero, List.set_cons_succ]
        refine OrdersZ.takeZ (i := 11) (v := .int .i64 (k : Int)) rfl (by kernel_rfl) (by kernel_rfl) (by kernel_rfl) (by kernel_rfl) (by kernel_rfl) (fun _ _ _ h => h) (Or.inl ⟨by rfl, fun w9 hSw => ?_⟩) hHeld ?_
        · obtain s0 := hSw
          go_simp
        simp only [List.getElem_toArray, List.getElem_cons_zero, List.getElem_cons_succ, Act.put, List.setIfInBounds_toArray, List.set_cons_zero, List.set_cons_succ]
        refine OrdersZ.takeZ (i := 12) (v := .int .i64 (k : Int)) rfl (by kernel_rfl) (by kernel_rfl) (by kernel_rfl) (by kernel_rfl) (by kernel_rfl) (fun _ _ _ h => h) (Or.inl ⟨by rfl, fun w9 hSw => ?_⟩) hHeld ?_
        · obtain s0 := hSw
          go_simp
        simp only [List.getElem_toArray, List.getElem_cons_zero, List.getElem_cons_succ, Act.put, List.setIfInBounds_toArray, List.set_cons_zero, List.set_cons_succ]
        refine OrdersZ.takeZ (i := 13) (v := .int .i64 ((k + 1 : Nat) : Int)) rfl (by kernel_rfl) (by kernel_rfl) (by kernel_rfl) (by kernel_rfl) (by kernel_rfl) (fun _ _ _ h => h) (Or.inl ⟨by rfl, fun w9 hSw => ?_⟩) hHeld ?_
        · obtain s0 := hSw
          go_simp
          all_goals (first | rfl | omega | (rw [if_neg (by omega)]; refine congrArg (fun x => Result.ok (Next.value (Value.string x)) w9) ?_; apply ByteArray.ext; simp [ByteArray.data_append]; done) | (rw [if_pos (by omega), if_pos (by omega)]; done) | (rw [IntKind.wrap_i64]; omega) | (trace_state; sorry))
        simp only [List.getElem_toArray, List.getElem_cons_zero, List.getElem_cons_succ, Act.put, List.setIfInBounds_toArray, List.set_cons_zero, List.set_cons_succ]
        refine OrdersZ.takeZ (i := 14) (v := .string ⟨#[c]⟩) rfl (by kernel_rfl) (by kernel_rfl) (by kernel_rfl) (by kernel_rfl) (by kernel_rfl) (fun _ _ _ h => h) (Or.inl ⟨by rfl, fun w9 hSw => ?_⟩) hHeld ?_
        · obtain s0 := hSw
          go_simp
          all_goals (first | rfl | omega | (rw [if_neg (by omega)]; refine congrArg (fun x => Result.ok (Next.value (Value.string x)) w9) ?_; apply ByteArray.ext; simp [ByteArray.data_append]; done) | (rw [if_pos (by omega), if_pos (by omega)]; done) | (rw [IntKind.wrap_i64]; omega) | (trace_state; sorry))
        simp only [List.getElem_toArray, List.getElem_cons_zero, List.getElem_cons_succ, Act.put, List.setIfInBounds_toArray, List.set_cons_zero, List.set_cons_succ]
        refine OrdersZ.takeZ (i := 15) (v := .string ⟨(cur ++ [c]).toArray⟩) rfl (by kernel_rfl) (by kernel_rfl) (by kernel_rfl) (by kernel_rfl) (by kernel_rfl) (fun _ _ _ h => h) (Or.inl ⟨by rfl, fun w9 hSw => ?_⟩) hHeld ?_
        · obtain s0 := hSw
          go_simp
          all_goals (first | rfl | omega | (rw [if_neg (by omega)]; refine congrArg (fun x => Result.ok (Next.value (Value.string x)) w9) ?_; apply ByteArray.ext; simp [ByteArray.data_append]; done) | (rw [if_pos (by omega), if_pos (by omega)]; done) | (rw [IntKind.wrap_i64]; omega) | (trace_state; sorry))
        simp only [List.getElem_toArray, List.getElem_cons_zero, List.getElem_cons_succ, Act.put, List.setIfInBounds_toArray, List.set_cons_zero, List.set_cons_succ]
        refine OrdersZ.takeZ (i := 16) (v := .pointer (some ⟨g, m, none⟩)) rfl (by kernel_rfl) (by kernel_rfl) (by kernel_rfl) (by kernel_rfl) (by kernel_rfl) (fun _ _ _ h => h) (Or.inl ⟨by rfl, fun w9 hSw => ?_⟩) hHeld ?_
        · obtain s0 := hSw
          go_simp
          all_goals (first | rfl | omega | (rw [if_neg (by omega)]; refine congrArg (fun x => Result.ok (Next.value (Value.string x)) w9) ?_; apply ByteArray.ext; simp [ByteArray.data_append]; done) | (rw [if_pos (by omega), if_pos (by omega)]; done) | (rw [IntKind.wrap_i64]; omega) | (trace_state; sorry))
        simp only [List.getElem_toArray, List.getElem_cons_zero, List.getElem_cons_succ, Act.put, List.setIfInBounds_toArray, List.set_cons_zero, List.set_cons_succ]
        have f0 := hrd.frozen m
        refine OrdersZ.lastZ (by kernel_rfl) rfl (fun K hK => ?_)
        go_simp
        refine hK.out _ _ ?_
        clear hK K
        refine OrdersZ.doneZ (by kernel_rfl) (NoPanic.normal ?_) _
        have hownf : (Wd.setCell ⟨g, m, none⟩ (.string ⟨(cur ++ [c]).toArray⟩)).ownsRow w.heap.size 9 1 (.slice (some ⟨g, 0, none⟩) (m + 1) cap) (m + 1) ((done ++ [cur ++ [c]]).map encB) := by
          have := own_set1 (q := m) (x := .string ⟨(cur ++ [c]).toArray⟩) hownd
          rw [← hn]
          rw [show (done ++ [cur ++ [c]]).map encB = ((done ++ [cur]).map encB).set m (.string ⟨(cur ++ [c]).toArray⟩) by rw [HM.out]; simp [encB, List.set_append]]
          exact this
        have hBf := hBd.setCell (p := ⟨g, m, none⟩) hbg (.string ⟨(cur ++ [c]).toArray⟩)
        clear hownd hcd hrd hBd f0 hHeld
        go_wp2
        go_roundw
        case rel => exact ⟨k + 1, m, done, cur ++ [c], by omega, by go_num, HM.out, by omega, by simp; omega, S3, hownf, hBf⟩
        case measure => simp [intOf]; omega
    · obtain rfl : k = l.length := by omega
      have hlt2 : ¬ (l.length : Int) < (l.length : Int) := by omega
      have S3 : Hid (splitGo [] l = done ++ [cur]) := by
        show _ = _
        rw [hS.out, List.drop_length]
        rfl
      clear hS
      go_wp2
      go_ret
      refine ⟨⟨_, rfl, ?_⟩, hB⟩
      rw [S3.out]
      have : (done ++ [cur]).length = m + 1 := by have := HM.out; simp; omega
      rw [this]
      exact hown

end Go.Proofs.YtgepbophnbbbpaaGreatDoor.SpecFn
