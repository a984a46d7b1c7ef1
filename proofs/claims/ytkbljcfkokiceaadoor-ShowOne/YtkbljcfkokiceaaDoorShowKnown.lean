/-
  The texts that the document names.
-/
import Derived.Test.YtkbljcfkokiceaaDoorShowText
import Derived.Test.YtkbljcfkokiceaaDoorGramAwake
import Derived.Test.YtkbljcfkokiceaaDoorGramRuleOf
namespace Go.Proofs.YtkbljcfkokiceaaDoor.ShowTxt
open Go.RowKit Go.Proofs.YtkbljcfkokiceaaDoor.GramMath Go.Proofs.YtkbljcfkokiceaaDoor.GramRow Go.Proofs.YtkbljcfkokiceaaDoor.GramOne Go.Proofs.YtkbljcfkokiceaaDoor.GramCheck Go.Proofs.YtkbljcfkokiceaaDoor.GramApart Go.Proofs.YtkbljcfkokiceaaDoor.GramCopy Go.Proofs.YtkbljcfkokiceaaDoor.GramErrs Go.Proofs.YtkbljcfkokiceaaDoor.GramAwake Go.Proofs.YtkbljcfkokiceaaDoor.ShowMath Go.Proofs.YtkbljcfkokiceaaDoor.ShowWord Go.Proofs.YtkbljcfkokiceaaDoor.ShowSym Go.Proofs.YtkbljcfkokiceaaDoor.ShowOrd
set_option linter.unusedVariables false

def knownG : G := ⟨[⟨#[43]⟩, ⟨#[105]⟩], [⟨#[69]⟩, ⟨#[84]⟩], 0, [⟨0, [-1, 0, -2]⟩, ⟨0, [-2]⟩, ⟨1, [1]⟩]⟩

theorem known_ok : okG knownG := by
  refine ⟨by decide, by decide, by decide, ⟨by decide, by decide⟩, ?_, ?_, ?_⟩
  · intro r hr
    simp only [knownG, List.mem_cons, List.not_mem_nil, or_false] at hr
    rcases hr with rfl | rfl | rfl
    · exact ⟨⟨by decide, by decide⟩, by intro x hx; simp only [List.mem_cons, List.not_mem_nil, or_false] at hx; rcases hx with rfl | rfl | rfl <;> exact ⟨by decide, by decide⟩, by decide⟩
    · exact ⟨⟨by decide, by decide⟩, by intro x hx; simp only [List.mem_cons, List.not_mem_nil, or_false] at hx; subst hx; exact ⟨by decide, by decide⟩, by decide⟩
    · exact ⟨⟨by decide, by decide⟩, by intro x hx; simp only [List.mem_cons, List.not_mem_nil, or_false] at hx; subst hx; exact ⟨by decide, by decide⟩, by decide⟩
  · intro s hs
    simp only [knownG, List.mem_cons, List.not_mem_nil, or_false] at hs
    rcases hs with rfl | rfl <;> decide
  · intro s hs
    simp only [knownG, List.mem_cons, List.not_mem_nil, or_false] at hs
    rcases hs with rfl | rfl <;> decide

theorem known_check : checkG knownG = (0, none) := by decide +kernel
theorem known_rd : rdZ knownG = (0, none) := by kernel_rfl
theorem known_text : txT knownG = ⟨#[69, 32, 58, 32, 69, 32, 43, 32, 84, 32, 124, 32, 84, 10, 84, 32, 58, 32, 105, 10]⟩ := by kernel_rfl
theorem known_r0 : ruT knownG 0 = ⟨#[69, 32, 58, 32, 69, 32, 43, 32, 84]⟩ ∧ ruZ knownG 0 = (0, none) := ⟨by kernel_rfl, by kernel_rfl⟩
theorem known_r3 : ruZ knownG 3 = (1, none) := by kernel_rfl
theorem known_s : symsS knownG [0, -1, 2, 3, -3] = ⟨#[43, 32, 69, 32, 36, 32, 63, 32, 63]⟩ := by kernel_rfl

set_option maxRecDepth 100000 in
set_option maxHeartbeats 4000000 in
theorem known_any (p : Nat → Addr) (w : World) (hE : Errs w p) :
    Calls Tryd.prog 22 #[] w fun e w' => e = .returned (.bool true) ∧ Below w.heap.size w w' := by
  have hG : GRow (((((((w.alloc (.cells #[.string ⟨#[43]⟩, .string ⟨#[105]⟩] 9)).alloc (.cells #[.string ⟨#[69]⟩, .string ⟨#[84]⟩] 9)).alloc (.cells #[.int .i64 (-1), .int .i64 0, .int .i64 (-2)] 3)).alloc (.cells #[.int .i64 (-2)] 3)).alloc (.cells #[.int .i64 1] 3)).alloc (.cells #[.int .i64 0, .slice (some ⟨w.heap.size + 1 + 1, 0, none⟩) 3 3, .int .i64 0, .slice (some ⟨w.heap.size + 1 + 1 + 1, 0, none⟩) 1 1, .int .i64 1, .slice (some ⟨w.heap.size + 1 + 1 + 1 + 1, 0, none⟩) 1 1] 49)).alloc (.cells #[.slice (some ⟨w.heap.size, 0, none⟩) 2 2, .slice (some ⟨w.heap.size + 1, 0, none⟩) 2 2, .int .i64 0, .slice (some ⟨w.heap.size + 1 + 1 + 1 + 1 + 1, 0, none⟩) 3 3] 25)) (some ⟨w.heap.size, 0, none⟩) (some ⟨w.heap.size + 1, 0, none⟩) (some ⟨w.heap.size + 1 + 1 + 1 + 1 + 1, 0, none⟩) knownG :=
    ⟨two_str rfl (by simp [go_sem]) (by simp [go_sem]), two_str rfl (by simp [go_sem]) (by simp [go_sem]), three_rule (x := ⟨0, [-1, 0, -2]⟩) (z := ⟨0, [-2]⟩) (u := ⟨1, [1]⟩) (b := w.heap.size + 1 + 1 + 1 + 1 + 1) (qa := (some ⟨w.heap.size + 1 + 1, 0, none⟩)) (ca := 3) (qb := (some ⟨w.heap.size + 1 + 1 + 1, 0, none⟩)) (cb := 1) (qc := (some ⟨w.heap.size + 1 + 1 + 1 + 1, 0, none⟩)) (cc := 1) rfl (by simp [go_sem]) (by simp [go_sem]) (three_int (by simp [go_sem]) (by simp [go_sem]) (by simp [go_sem])) (by simp [go_sem]) (by simp [go_sem]) (one_int (by simp [go_sem])) (by simp [go_sem]) (by simp [go_sem]) (one_int (by simp [go_sem]))⟩
  have hbx : GBox (((((((w.alloc (.cells #[.string ⟨#[43]⟩, .string ⟨#[105]⟩] 9)).alloc (.cells #[.string ⟨#[69]⟩, .string ⟨#[84]⟩] 9)).alloc (.cells #[.int .i64 (-1), .int .i64 0, .int .i64 (-2)] 3)).alloc (.cells #[.int .i64 (-2)] 3)).alloc (.cells #[.int .i64 1] 3)).alloc (.cells #[.int .i64 0, .slice (some ⟨w.heap.size + 1 + 1, 0, none⟩) 3 3, .int .i64 0, .slice (some ⟨w.heap.size + 1 + 1 + 1, 0, none⟩) 1 1, .int .i64 1, .slice (some ⟨w.heap.size + 1 + 1 + 1 + 1, 0, none⟩) 1 1] 49)).alloc (.cells #[.slice (some ⟨w.heap.size, 0, none⟩) 2 2, .slice (some ⟨w.heap.size + 1, 0, none⟩) 2 2, .int .i64 0, .slice (some ⟨w.heap.size + 1 + 1 + 1 + 1 + 1, 0, none⟩) 3 3] 25)) (w.heap.size + 1 + 1 + 1 + 1 + 1 + 1) (some ⟨w.heap.size, 0, none⟩) (some ⟨w.heap.size + 1, 0, none⟩) (some ⟨w.heap.size + 1 + 1 + 1 + 1 + 1, 0, none⟩) 2 2 3 knownG := by
    refine ⟨?_, ?_, ?_, ?_⟩ <;> simp [go_sem, knownG]
  have hB : Below w.heap.size w (((((((w.alloc (.cells #[.string ⟨#[43]⟩, .string ⟨#[105]⟩] 9)).alloc (.cells #[.string ⟨#[69]⟩, .string ⟨#[84]⟩] 9)).alloc (.cells #[.int .i64 (-1), .int .i64 0, .int .i64 (-2)] 3)).alloc (.cells #[.int .i64 (-2)] 3)).alloc (.cells #[.int .i64 1] 3)).alloc (.cells #[.int .i64 0, .slice (some ⟨w.heap.size + 1 + 1, 0, none⟩) 3 3, .int .i64 0, .slice (some ⟨w.heap.size + 1 + 1 + 1, 0, none⟩) 1 1, .int .i64 1, .slice (some ⟨w.heap.size + 1 + 1 + 1 + 1, 0, none⟩) 1 1] 49)).alloc (.cells #[.slice (some ⟨w.heap.size, 0, none⟩) 2 2, .slice (some ⟨w.heap.size + 1, 0, none⟩) 2 2, .int .i64 0, .slice (some ⟨w.heap.size + 1 + 1 + 1 + 1 + 1, 0, none⟩) 3 3] 25)) := (((((((Below.refl _ _).alloc (Nat.le_refl _) _).alloc (by simp) _).alloc (by simp; omega) _).alloc (by simp; omega) _).alloc (by simp; omega) _).alloc (by simp; omega) _).alloc (by simp; omega) _
  have hE1 := hE.below hB (Nat.le_refl _)
  have hnil := eql_nil
  clear hE
  go_enter Tryd.func22, Tryd.ntmps22
  go_wp2_with fail
  generalize (((((((w.alloc (.cells #[.string ⟨#[43]⟩, .string ⟨#[105]⟩] 9)).alloc (.cells #[.string ⟨#[69]⟩, .string ⟨#[84]⟩] 9)).alloc (.cells #[.int .i64 (-1), .int .i64 0, .int .i64 (-2)] 3)).alloc (.cells #[.int .i64 (-2)] 3)).alloc (.cells #[.int .i64 1] 3)).alloc (.cells #[.int .i64 0, .slice (some ⟨w.heap.size + 1 + 1, 0, none⟩) 3 3, .int .i64 0, .slice (some ⟨w.heap.size + 1 + 1 + 1, 0, none⟩) 1 1, .int .i64 1, .slice (some ⟨w.heap.size + 1 + 1 + 1 + 1, 0, none⟩) 1 1] 49)).alloc (.cells #[.slice (some ⟨w.heap.size, 0, none⟩) 2 2, .slice (some ⟨w.heap.size + 1, 0, none⟩) 2 2, .int .i64 0, .slice (some ⟨w.heap.size + 1 + 1 + 1 + 1 + 1, 0, none⟩) 3 3] 25)) = W at *
  have ht := text_any (some ⟨w.heap.size, 0, none⟩) (some ⟨w.heap.size + 1, 0, none⟩) (some ⟨w.heap.size + 1 + 1 + 1 + 1 + 1, 0, none⟩) 2 2 3 knownG p W hG known_ok (by decide) (by decide) hE1
  rw [known_text, known_rd] at ht
  refine ht.mono ?_
  rintro e w1 ⟨⟨v, rfl, hv⟩, hb1⟩
  obtain rfl : v = .nilIface := hv
  have hG1 := hG.below hb1 (Nat.le_refl _)
  have hbx1 := hbx.below hb1 (Nat.le_refl _)
  have hE2 := hE1.below hb1 (Nat.le_refl _)
  have hB1 := hB.trans (hb1.mono hB.size)
  clear ht hG hbx hE1 hB hb1
  obtain ⟨c0, c1, c2, c3⟩ := id hbx1
  have d0 : w1.cell? ⟨w.heap.size + 1 + 1 + 1 + 1 + 1 + 1, 0, none⟩ = some (.slice (some ⟨w.heap.size, 0, none⟩) 2 2) := c0
  have d1 : w1.cell? ⟨w.heap.size + 1 + 1 + 1 + 1 + 1 + 1, 1, none⟩ = some (.slice (some ⟨w.heap.size + 1, 0, none⟩) 2 2) := c1
  have d2 : w1.cell? ⟨w.heap.size + 1 + 1 + 1 + 1 + 1 + 1, 2, none⟩ = some (.int .i64 0) := c2
  have d3 : w1.cell? ⟨w.heap.size + 1 + 1 + 1 + 1 + 1 + 1, 3, none⟩ = some (.slice (some ⟨w.heap.size + 1 + 1 + 1 + 1 + 1, 0, none⟩) 3 3) := c3
  clear c0 c1 c2 c3
  go_wp2_with fail
  have hr := rule_any (some ⟨w.heap.size, 0, none⟩) (some ⟨w.heap.size + 1, 0, none⟩) (some ⟨w.heap.size + 1 + 1 + 1 + 1 + 1, 0, none⟩) 2 2 3 knownG 0 p w1 hG1 known_ok (by decide) (by decide) hE2.sents ⟨by decide, by decide⟩
  rw [known_r0.1, known_r0.2] at hr
  refine hr.mono ?_
  rintro e w2 ⟨⟨v, rfl, hv⟩, hb2⟩
  obtain rfl : v = .nilIface := hv
  have hG2 := hG1.below hb2 (Nat.le_refl _)
  have hbx2 := hbx1.below hb2 (Nat.le_refl _)
  have hE3 := hE2.below hb2 (Nat.le_refl _)
  have hB2 := hB1.trans (hb2.mono hB1.size)
  clear hr hG1 hbx1 hE2 hB1 hb2 d0 d1 d2 d3
  obtain ⟨c0, c1, c2, c3⟩ := id hbx2
  have d0 : w2.cell? ⟨w.heap.size + 1 + 1 + 1 + 1 + 1 + 1, 0, none⟩ = some (.slice (some ⟨w.heap.size, 0, none⟩) 2 2) := c0
  have d1 : w2.cell? ⟨w.heap.size + 1 + 1 + 1 + 1 + 1 + 1, 1, none⟩ = some (.slice (some ⟨w.heap.size + 1, 0, none⟩) 2 2) := c1
  have d2 : w2.cell? ⟨w.heap.size + 1 + 1 + 1 + 1 + 1 + 1, 2, none⟩ = some (.int .i64 0) := c2
  have d3 : w2.cell? ⟨w.heap.size + 1 + 1 + 1 + 1 + 1 + 1, 3, none⟩ = some (.slice (some ⟨w.heap.size + 1 + 1 + 1 + 1 + 1, 0, none⟩) 3 3) := c3
  clear c0 c1 c2 c3
  go_wp2_with fail
  have hr := rule_any (some ⟨w.heap.size, 0, none⟩) (some ⟨w.heap.size + 1, 0, none⟩) (some ⟨w.heap.size + 1 + 1 + 1 + 1 + 1, 0, none⟩) 2 2 3 knownG 3 p w2 hG2 known_ok (by decide) (by decide) hE3.sents ⟨by decide, by decide⟩
  rw [known_r3] at hr
  refine hr.mono ?_
  rintro e w3 ⟨⟨v, rfl, hv⟩, hb3⟩
  have hG3 := hG2.below hb3 (Nat.le_refl _)
  have hbx3 := hbx2.below hb3 (Nat.le_refl _)
  have hE4 := hE3.below hb3 (Nat.le_refl _)
  have hB3 := hB2.trans (hb3.mono hB2.size)
  clear hr hG2 hbx2 hE3 hB2 hb3 d0 d1 d2 d3
  go_wp2_with fail
  have hk := kind_ck _ p (1, none) w3 v hE4 (by decide) hv
  refine hk.mono ?_
  rintro e w4 ⟨rfl, hb4⟩
  have hG4 := hG3.below hb4 (Nat.le_refl _)
  have hbx4 := hbx3.below hb4 (Nat.le_refl _)
  have hB4 := hB3.trans (hb4.mono hB3.size)
  clear hk hG3 hbx3 hE4 hB3 hb4 hv
  obtain ⟨c0, c1, c2, c3⟩ := id hbx4
  have d0 : w4.cell? ⟨w.heap.size + 1 + 1 + 1 + 1 + 1 + 1, 0, none⟩ = some (.slice (some ⟨w.heap.size, 0, none⟩) 2 2) := c0
  have d1 : w4.cell? ⟨w.heap.size + 1 + 1 + 1 + 1 + 1 + 1, 1, none⟩ = some (.slice (some ⟨w.heap.size + 1, 0, none⟩) 2 2) := c1
  have d2 : w4.cell? ⟨w.heap.size + 1 + 1 + 1 + 1 + 1 + 1, 2, none⟩ = some (.int .i64 0) := c2
  have d3 : w4.cell? ⟨w.heap.size + 1 + 1 + 1 + 1 + 1 + 1, 3, none⟩ = some (.slice (some ⟨w.heap.size + 1 + 1 + 1 + 1 + 1, 0, none⟩) 3 3) := c3
  clear c0 c1 c2 c3
  have hba : Below w4.heap.size w4 (w4.alloc (.cells #[.int .i64 0, .int .i64 (-1), .int .i64 2, .int .i64 3, .int .i64 (-3)] 3)) := (Below.refl _ _).alloc (Nat.le_refl _) _
  have hI : IRow (w4.alloc (.cells #[.int .i64 0, .int .i64 (-1), .int .i64 2, .int .i64 3, .int .i64 (-3)] 3)) (some ⟨w4.heap.size, 0, none⟩) [0, -1, 2, 3, -3] := intsA_row (heap_new _ _)
  have hs := symbols_any (some ⟨w.heap.size, 0, none⟩) (some ⟨w.heap.size + 1, 0, none⟩) (some ⟨w.heap.size + 1 + 1 + 1 + 1 + 1, 0, none⟩) (some ⟨w4.heap.size, 0, none⟩) 2 2 3 5 knownG [0, -1, 2, 3, -3] _ (hG4.1.below hba (Nat.le_refl _)) (hG4.2.1.below hba (Nat.le_refl _)) known_ok hI (by intro x hx; simp only [List.mem_cons, List.not_mem_nil, or_false] at hx; rcases hx with rfl | rfl | rfl | rfl | rfl <;> exact ⟨by decide, by decide⟩) (Short.of_good (good_of (by rw [known_check]))) (by decide) (by rw [← symsS_size, known_s]; decide)
  rw [known_s] at hs
  go_wp2_with fail
  refine hs.mono ?_
  rintro e w5 ⟨rfl, hb5⟩
  clear hs
  go_wp2
  go_ret
  exact ⟨rfl, (hB4.trans (hba.mono hB4.size)).trans (hb5.mono (Nat.le_trans hB4.size hba.size))⟩

end Go.Proofs.YtkbljcfkokiceaaDoor.ShowTxt
