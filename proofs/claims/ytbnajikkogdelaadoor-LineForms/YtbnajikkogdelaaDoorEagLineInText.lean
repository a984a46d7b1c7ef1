/-
  Texts that stand together: LineInText, WordsTrim.
-/
import Derived.Test.YtbnajikkogdelaaDoorEagWordsMath2
import Derived.Test.YtbnajikkogdelaaDoorEWordsKind
import Derived.Test.YtbnajikkogdelaaDoorEagLineSt
import Derived.Test.YtbnajikkogdelaaDoorEagShelf
namespace Go.Proofs.YtbnajikkogdelaaDoor.LineRead
open Go.RowKit Go.Maps Go.WideMaps Go.Proofs.YtbnajikkogdelaaDoor.GramMath Go.Proofs.YtbnajikkogdelaaDoor.GramRow Go.Proofs.YtbnajikkogdelaaDoor.GramOne Go.Proofs.YtbnajikkogdelaaDoor.GramApart Go.Proofs.YtbnajikkogdelaaDoor.LineMath Go.Proofs.YtbnajikkogdelaaDoor.GramErrs
set_option linter.unusedVariables false
set_option linter.unusedSimpArgs false

set_option maxRecDepth 100000 in
set_option maxHeartbeats 4000000 in
theorem inText_any (aS : Addr) (base pl start : Nat) (v : Value) (w : World) (hg : ErrType w) (hv : WordsBytes.ErrAt base aS pl w v) (hs : start + pl ≤ 4611686018427387904) :
    Calls Tryd.prog 44 #[v, .int .i64 (start : Int)] w fun e w' => (∃ v', e = .returned v' ∧ WordsBytes.ErrAt w.heap.size aS (start + pl) w' v') ∧ Below w.heap.size w w' := by
  obtain ⟨blk, _, rfl, hblk⟩ := hv
  have hlt := (Array.getElem?_eq_some_iff.1 hblk).1
  have hB0 : Below w.heap.size w (w.alloc (.cells #[.pointer none] 72)) := (Below.refl _ _).alloc (Nat.le_refl _) _
  have hg0 := hg.below hB0 (Nat.le_refl _)
  have hf0 : (w.alloc (.cells #[.pointer none] 72)).frozen? ⟨w.heap.size, 0, none⟩ = false := by simp
  have ht0 : (w.alloc (.cells #[.pointer none] 72)).cell? ⟨w.heap.size, 0, none⟩ = some (.pointer none) := by simp
  go_enter Tryd.func44, Tryd.ntmps44
  go_wp2_with fail
  refine (WordsBytes.as_at ⟨blk, 0, none⟩ ⟨w.heap.size, 0, none⟩ _ _ hg0 ht0 hf0).mono ?_
  rintro e w1 ⟨rfl, hc1, hb1⟩
  have hB1 := hB0.trans hb1
  have hblk1 : RowAt w1 blk 76 #[.int .i64 (pl : Int), .iface 162 (.pointer (some aS))] := (hB1.block blk hlt).trans hblk
  have hsz1 : w.heap.size < w1.heap.size := by
    unfold World.cell? at hc1
    cases hh : w1.heap[w.heap.size]? with
    | none => rw [hh] at hc1; cases hc1
    | some o => exact (Array.getElem?_eq_some_iff.1 hh).1
  have hc1d : w1.drew.cell? ⟨w.heap.size, 0, none⟩ = some (.pointer (some ⟨blk, 0, none⟩)) := hc1
  have hblkd := hblk1.below (drew_below w1 1) hblk1.lt
  change RowAt w1.drew _ _ _ at hblkd
  have hBd : Below w.heap.size w w1.drew := hB1.drew
  have hszd : w.heap.size < w1.drew.heap.size := hsz1
  clear hg0 hf0 ht0 hb1 hB0
  go_wp2
  refine wp_region_noPanic ?_
  refine wp_region_held_drew (S := (fun w' => w'.cell? ⟨w.heap.size, 0, none⟩ = some (.pointer (some ⟨blk, 0, none⟩)) ∧ w'.cell? ⟨blk, 0, none⟩ = some (.int .i64 (pl : Int)) ∧ w'.cell? ⟨blk, 1, none⟩ = some (.iface 162 (.pointer (some aS))))) (by kernel_rfl) ⟨hc1d, hblkd.cell (q := 0) rfl, hblkd.cell (q := 1) rfl⟩ (fun hHeld => ?_)
  clear hc1 hblk1 hB1 hsz1
  generalize w1.drew = Wd at *
  have c0 := hblkd.cell (q := 0) rfl
  have c1 := hblkd.cell (q := 1) rfl
  have HS : Hid (∀ W', Below Wd.heap.size Wd W' → W'.cell? ⟨w.heap.size, 0, none⟩ = some (.pointer (some ⟨blk, 0, none⟩)) ∧ W'.cell? ⟨blk, 0, none⟩ = some (.int .i64 (pl : Int)) ∧ W'.cell? ⟨blk, 1, none⟩ = some (.iface 162 (.pointer (some aS)))) := fun W' h => ⟨(h.cell (p := ⟨w.heap.size, 0, none⟩) hszd).trans hc1d, (h.cell (p := ⟨blk, 0, none⟩) hblkd.lt).trans c0, (h.cell (p := ⟨blk, 1, none⟩) hblkd.lt).trans c1⟩
  refine wpAnyH_take (i := 0) (v := .int .i64 (start : Int)) rfl (by kernel_rfl) (by kernel_rfl) (by kernel_rfl) (fun _ _ _ h => h) (Or.inl ⟨by rfl, fun w9 hSw => ?_⟩) hHeld ?_
  · obtain ⟨s0, s1, s2⟩ := hSw
    go_simp
  simp only [List.getElem_toArray, List.getElem_cons_zero, List.getElem_cons_succ, Act.put, List.setIfInBounds_toArray, List.set_cons_zero, List.set_cons_succ]
  refine wpAnyH_take (i := 1) (v := .pointer (some ⟨blk, 0, none⟩)) rfl (by kernel_rfl) (by kernel_rfl) (by kernel_rfl) (fun _ _ _ h => h) (Or.inl ⟨by rfl, fun w9 hSw => ?_⟩) hHeld ?_
  · obtain ⟨s0, s1, s2⟩ := hSw
    go_simp
  simp only [List.getElem_toArray, List.getElem_cons_zero, List.getElem_cons_succ, Act.put, List.setIfInBounds_toArray, List.set_cons_zero, List.set_cons_succ]
  refine wpAnyH_take (i := 2) (v := .pointer (some ⟨blk, 0, none⟩)) rfl (by kernel_rfl) (by kernel_rfl) (by kernel_rfl) (fun _ _ _ h => h) (Or.inl ⟨by rfl, fun w9 hSw => ?_⟩) hHeld ?_
  · obtain ⟨s0, s1, s2⟩ := hSw
    go_simp
  simp only [List.getElem_toArray, List.getElem_cons_zero, List.getElem_cons_succ, Act.put, List.setIfInBounds_toArray, List.set_cons_zero, List.set_cons_succ]
  refine wpAnyH_take (i := 3) (v := .pointer (some ⟨blk, 0, none⟩)) rfl (by kernel_rfl) (by kernel_rfl) (by kernel_rfl) (fun _ _ _ h => h) (Or.inl ⟨by rfl, fun w9 hSw => ?_⟩) hHeld ?_
  · obtain ⟨s0, s1, s2⟩ := hSw
    go_simp
  simp only [List.getElem_toArray, List.getElem_cons_zero, List.getElem_cons_succ, Act.put, List.setIfInBounds_toArray, List.set_cons_zero, List.set_cons_succ]
  refine wpAnyH_take (i := 4) (v := .int .i64 (pl : Int)) rfl (by kernel_rfl) (by kernel_rfl) (by kernel_rfl) (fun _ _ _ h => h) (Or.inl ⟨by rfl, fun w9 hSw => ?_⟩) hHeld ?_
  · obtain ⟨s0, s1, s2⟩ := hSw
    go_simp
  simp only [List.getElem_toArray, List.getElem_cons_zero, List.getElem_cons_succ, Act.put, List.setIfInBounds_toArray, List.set_cons_zero, List.set_cons_succ]
  refine wpAnyH_take (i := 5) (v := .int .i64 ((start + pl : Nat) : Int)) rfl (by kernel_rfl) (by kernel_rfl) (by kernel_rfl) (fun _ _ _ h => h) (Or.inl ⟨by rfl, fun w9 hSw => ?_⟩) hHeld ?_
  · obtain ⟨s0, s1, s2⟩ := hSw
    go_simp
    (rw [IntKind.wrap_i64]; omega)
  simp only [List.getElem_toArray, List.getElem_cons_zero, List.getElem_cons_succ, Act.put, List.setIfInBounds_toArray, List.set_cons_zero, List.set_cons_succ]
  refine wpAnyH_take (i := 6) (v := .pointer (some ⟨blk, 0, none⟩)) rfl (by kernel_rfl) (by kernel_rfl) (by kernel_rfl) (fun _ _ _ h => h) (Or.inl ⟨by rfl, fun w9 hSw => ?_⟩) hHeld ?_
  · obtain ⟨s0, s1, s2⟩ := hSw
    go_simp
  simp only [List.getElem_toArray, List.getElem_cons_zero, List.getElem_cons_succ, Act.put, List.setIfInBounds_toArray, List.set_cons_zero, List.set_cons_succ]
  refine wpAnyH_take (i := 7) (v := .pointer (some ⟨blk, 0, none⟩)) rfl (by kernel_rfl) (by kernel_rfl) (by kernel_rfl) (fun _ _ _ h => h) (Or.inl ⟨by rfl, fun w9 hSw => ?_⟩) hHeld ?_
  · obtain ⟨s0, s1, s2⟩ := hSw
    go_simp
  simp only [List.getElem_toArray, List.getElem_cons_zero, List.getElem_cons_succ, Act.put, List.setIfInBounds_toArray, List.set_cons_zero, List.set_cons_succ]
  refine wpAnyH_take (i := 8) (v := .pointer (some ⟨blk, 1, none⟩)) rfl (by kernel_rfl) (by kernel_rfl) (by kernel_rfl) (fun _ _ _ h => h) (Or.inl ⟨by rfl, fun w9 hSw => ?_⟩) hHeld ?_
  · obtain ⟨s0, s1, s2⟩ := hSw
    go_simp
  simp only [List.getElem_toArray, List.getElem_cons_zero, List.getElem_cons_succ, Act.put, List.setIfInBounds_toArray, List.set_cons_zero, List.set_cons_succ]
  refine wpAnyH_take (i := 9) (v := .iface 162 (.pointer (some aS))) rfl (by kernel_rfl) (by kernel_rfl) (by kernel_rfl) (fun _ _ _ h => h) (Or.inl ⟨by rfl, fun w9 hSw => ?_⟩) hHeld ?_
  · obtain ⟨s0, s1, s2⟩ := hSw
    go_simp
  simp only [List.getElem_toArray, List.getElem_cons_zero, List.getElem_cons_succ, Act.put, List.setIfInBounds_toArray, List.set_cons_zero, List.set_cons_succ]
  refine wpAnyH_take (i := 10) (v := .agg #[.int .i64 ((start + pl : Nat) : Int), .iface 162 (.pointer (some aS))]) rfl (by kernel_rfl) (by kernel_rfl) (by kernel_rfl) (fun _ _ _ h => h) (Or.inl ⟨by rfl, fun w9 hSw => ?_⟩) hHeld ?_
  · obtain ⟨s0, s1, s2⟩ := hSw
    go_simp
  simp only [List.getElem_toArray, List.getElem_cons_zero, List.getElem_cons_succ, Act.put, List.setIfInBounds_toArray, List.set_cons_zero, List.set_cons_succ]
  have hB2 : Below Wd.heap.size Wd (Wd.alloc (.cells #[.int .i64 ((start + pl : Nat) : Int), .iface 162 (.pointer (some aS))] 76)) := (Below.refl _ _).alloc (Nat.le_refl _) _
  have hbk := heap_alloc_new Wd (.cells #[.int .i64 ((start + pl : Nat) : Int), .iface 162 (.pointer (some aS))] 76)
  refine wpAnyH_ready (rs := [11]) (by kernel_rfl) (by simp) ?_
  refine AllReadyH.cons rfl (fun K hK => ?_) AllReadyH.nil
  go_simp
  refine hK.out _ _ ((HS.out _ hB2)) (fun hHeld => ?_)
  clear hK K
  refine wpAnyH_ready (rs := [12]) (by kernel_rfl) (by simp) ?_
  refine AllReadyH.cons rfl (fun K hK => ?_) AllReadyH.nil
  go_simp
  refine hK.out _ _ ((HS.out _ hB2)) (fun hHeld => ?_)
  clear hK K
  refine wpAnyH_ready (rs := [13]) (by kernel_rfl) (by simp) ?_
  refine AllReadyH.cons rfl (fun K hK => ?_) AllReadyH.nil
  go_simp
  refine hK.out _ _ ((HS.out _ hB2)) (fun hHeld => ?_)
  clear hK K
  refine wpAnyH_done (by kernel_rfl) (NoPanic.normal ?_) _
  go_wp2
  go_ret
  exact ⟨⟨_, rfl, ⟨_, by omega, rfl, hbk⟩⟩, hBd.trans (hB2.mono (by omega))⟩

end Go.Proofs.YtbnajikkogdelaaDoor.LineRead

namespace Go.Proofs.YtbnajikkogdelaaDoor.WordsCutM
open Go.RowKit Go.Proofs.YtbnajikkogdelaaDoor.WordsMath Go.Proofs.YtbnajikkogdelaaDoor.WordsOne Go.Proofs.YtbnajikkogdelaaDoor.WordsBytes

theorem size_mk (l : List UInt8) : (⟨l.toArray⟩ : ByteArray).size = l.length := by simp [ByteArray.size]

theorem copy_any (s : ByteArray) (w : World) (hs : s.size ≤ 281474976710656) : Calls Tryd.prog 65 #[.string s] w fun e w' => e = .returned (.string s) ∧ Below w.heap.size w w' := by
  go_enter Tryd.func65, Tryd.ntmps65
  go_wp2_with fail
  refine (Tryd.stringslite_Clone s w hs).mono ?_
  rintro e w1 ⟨rfl, hb⟩
  go_wp2
  go_ret
  exact ⟨rfl, hb⟩

theorem trim_line {l : List UInt8} {i : Nat} (h : Lib.indexByte l 10 = (i : Int)) (w : World) (hl : l.length ≤ 1048576) : Calls Tryd.prog 66 #[.string ⟨(l.take (i + 1)).toArray⟩, .string ⟨#[10]⟩] w fun e w' => e = .returned (.string ⟨(l.take i).toArray⟩) ∧ w' = w := by
  have h1 := Tryd.strings_TrimSuffix ⟨(l.take (i + 1)).toArray⟩ ⟨#[10]⟩ w (by rw [size_mk, List.length_take]; omega)
  have h2 : Lib.trimSuffix (⟨(l.take (i + 1)).toArray⟩ : ByteArray).data.toList (⟨#[10]⟩ : ByteArray).data.toList = l.take i := by
    show Lib.trimSuffix (l.take (i + 1)).toArray.toList [10] = _
    rw [List.toList_toArray, trim_at h]
  rw [h2] at h1
  exact h1

theorem trim_rest {l : List UInt8} (h : Lib.indexByte l 10 = -1) (w : World) (hl : l.length ≤ 1048576) : Calls Tryd.prog 66 #[.string ⟨l.toArray⟩, .string ⟨#[10]⟩] w fun e w' => e = .returned (.string ⟨l.toArray⟩) ∧ w' = w := by
  have h1 := Tryd.strings_TrimSuffix ⟨l.toArray⟩ ⟨#[10]⟩ w (by rw [size_mk]; omega)
  have h2 : Lib.trimSuffix (⟨l.toArray⟩ : ByteArray).data.toList (⟨#[10]⟩ : ByteArray).data.toList = l := by
    show Lib.trimSuffix l.toArray.toList [10] = _
    rw [List.toList_toArray, trim_none h]
  rw [h2] at h1
  exact h1

end Go.Proofs.YtbnajikkogdelaaDoor.WordsCutM
