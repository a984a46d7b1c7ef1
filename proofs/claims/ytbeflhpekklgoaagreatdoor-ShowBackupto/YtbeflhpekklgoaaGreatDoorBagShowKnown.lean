/-
  Texts that stand together: ShowKnown, GramCopyG.
-/
import Derived.Test.YtbeflhpekklgoaaGreatDoorBagShowBuilder
import Derived.Test.YtbeflhpekklgoaaGreatDoorBagGramAboveFn
import Derived.Test.YtbeflhpekklgoaaGreatDoorBGramKinds
import Derived.Test.YtbeflhpekklgoaaGreatDoorBagShowSym
namespace Go.Proofs.YtbeflhpekklgoaaGreatDoor.ShowTxt
open Go.RowKit Go.Proofs.YtbeflhpekklgoaaGreatDoor.GramMath Go.Proofs.YtbeflhpekklgoaaGreatDoor.GramRow Go.Proofs.YtbeflhpekklgoaaGreatDoor.GramOne Go.Proofs.YtbeflhpekklgoaaGreatDoor.GramCheck Go.Proofs.YtbeflhpekklgoaaGreatDoor.GramApart Go.Proofs.YtbeflhpekklgoaaGreatDoor.GramCopy Go.Proofs.YtbeflhpekklgoaaGreatDoor.GramErrs Go.Proofs.YtbeflhpekklgoaaGreatDoor.GramAwake Go.Proofs.YtbeflhpekklgoaaGreatDoor.ShowMath Go.Proofs.YtbeflhpekklgoaaGreatDoor.ShowWord Go.Proofs.YtbeflhpekklgoaaGreatDoor.ShowSym Go.Proofs.YtbeflhpekklgoaaGreatDoor.ShowOrd
set_option linter.unusedVariables false

def knownG : G := ⟨[⟨#[43]⟩, ⟨#[105]⟩], [⟨#[69]⟩, ⟨#[84]⟩], 0, [⟨0, [-1, 0, -2]⟩, ⟨0, [-2]⟩, ⟨1, [1]⟩]⟩

theorem known_ok : okG knownG := by
  refine ⟨by decide, by decide, by decide, ⟨by decide, by decide⟩, ?_, ?_, ?_⟩
  · intro r hr
    simp only [knownG, List.mem_cons, List.not_mem_nil, or_false] at hr
    rcases hr with rfl | rfl | rfl
    · exact ⟨⟨by decide, by decide⟩, by intro x hx; simp only [List.mem_cons, List.not_mem_nil, or_false] at hx; rcases hx with rfl | rfl | rfl <;> exact ⟨by decide, by decide⟩, by decide⟩
    · exact ⟨⟨by decide, by decide⟩, by intro x hx; simp only [List.mem_cons, List.not_mem_nil, or_false] at hx; subst hx; exact ⟨by decide, by decide⟩, by decide⟩
    · exact ⟨⟨by decide, by decide⟩, by intro x hx; simp only [List.mem_cons, List.not_mem_nil, or_false] at hx; subst hx; exact ⟨by decide, by decide⟩, by decide⟩
  · intro s hs
    simp only [knownG, List.mem_cons, List.not_mem_nil, or_false] at hs
    rcases hs with rfl | rfl <;> decide
  · intro s hs
    simp only [knownG, List.mem_cons, List.not_mem_nil, or_false] at hs
    rcases hs with rfl | rfl <;> decide

theorem known_check : checkG knownG = (0, none) := by decide +kernel
theorem known_rd : rdZ knownG = (0, none) := by kernel_rfl
theorem known_text : txT knownG = ⟨#[69, 32, 58, 32, 69, 32, 43, 32, 84, 32, 124, 32, 84, 10, 84, 32, 58, 32, 105, 10]⟩ := by kernel_rfl
theorem known_r0 : ruT knownG 0 = ⟨#[69, 32, 58, 32, 69, 32, 43, 32, 84]⟩ ∧ ruZ knownG 0 = (0, none) := ⟨by kernel_rfl, by kernel_rfl⟩
theorem known_r3 : ruZ knownG 3 = (1, none) := by kernel_rfl
theorem known_s : symsS knownG [0, -1, 2, 3, -3] = ⟨#[43, 32, 69, 32, 36, 32, 63, 32, 63]⟩ := by kernel_rfl

set_option maxRecDepth 100000 in
set_option maxHeartbeats 4000000 in
theorem known_any (p : Nat → Addr) (w : World) (hE : Errs w p) :
    Calls Tryz.prog 4 #[] w fun e w' => e = .returned (.bool true) ∧ Below w.heap.size w w' := by
  have hG : GRow (((((((w.alloc (.cells #[.string ⟨#[43]⟩, .string ⟨#[105]⟩] 9)).alloc (.cells #[.string ⟨#[69]⟩, .string ⟨#[84]⟩] 9)).alloc (.cells #[.int .i64 (-1), .int .i64 0, .int .i64 (-2)] 3)).alloc (.cells #[.int .i64 (-2)] 3)).alloc (.cells #[.int .i64 1] 3)).alloc (.cells #[.int .i64 0, .slice (some ⟨w.heap.size + 1 + 1, 0, none⟩) 3 3, .int .i64 0, .slice (some ⟨w.heap.size + 1 + 1 + 1, 0, none⟩) 1 1, .int .i64 1, .slice (some ⟨w.heap.size + 1 + 1 + 1 + 1, 0, none⟩) 1 1] 40)).alloc (.cells #[.slice (some ⟨w.heap.size, 0, none⟩) 2 2, .slice (some ⟨w.heap.size + 1, 0, none⟩) 2 2, .int .i64 0, .slice (some ⟨w.heap.size + 1 + 1 + 1 + 1 + 1, 0, none⟩) 3 3] 25)) (some ⟨w.heap.size, 0, none⟩) (some ⟨w.heap.size + 1, 0, none⟩) (some ⟨w.heap.size + 1 + 1 + 1 + 1 + 1, 0, none⟩) knownG :=
    ⟨two_str rfl (by simp [go_sem]) (by simp [go_sem]), two_str rfl (by simp [go_sem]) (by simp [go_sem]), three_rule (x := ⟨0, [-1, 0, -2]⟩) (z := ⟨0, [-2]⟩) (u := ⟨1, [1]⟩) (b := w.heap.size + 1 + 1 + 1 + 1 + 1) (qa := (some ⟨w.heap.size + 1 + 1, 0, none⟩)) (ca := 3) (qb := (some ⟨w.heap.size + 1 + 1 + 1, 0, none⟩)) (cb := 1) (qc := (some ⟨w.heap.size + 1 + 1 + 1 + 1, 0, none⟩)) (cc := 1) rfl (by simp [go_sem]) (by simp [go_sem]) (three_int (by simp [go_sem]) (by simp [go_sem]) (by simp [go_sem])) (by simp [go_sem]) (by simp [go_sem]) (one_int (by simp [go_sem])) (by simp [go_sem]) (by simp [go_sem]) (one_int (by simp [go_sem]))⟩
  have hbx : GBox (((((((w.alloc (.cells #[.string ⟨#[43]⟩, .string ⟨#[105]⟩] 9)).alloc (.cells #[.string ⟨#[69]⟩, .string ⟨#[84]⟩] 9)).alloc (.cells #[.int .i64 (-1), .int .i64 0, .int .i64 (-2)] 3)).alloc (.cells #[.int .i64 (-2)] 3)).alloc (.cells #[.int .i64 1] 3)).alloc (.cells #[.int .i64 0, .slice (some ⟨w.heap.size + 1 + 1, 0, none⟩) 3 3, .int .i64 0, .slice (some ⟨w.heap.size + 1 + 1 + 1, 0, none⟩) 1 1, .int .i64 1, .slice (some ⟨w.heap.size + 1 + 1 + 1 + 1, 0, none⟩) 1 1] 40)).alloc (.cells #[.slice (some ⟨w.heap.size, 0, none⟩) 2 2, .slice (some ⟨w.heap.size + 1, 0, none⟩) 2 2, .int .i64 0, .slice (some ⟨w.heap.size + 1 + 1 + 1 + 1 + 1, 0, none⟩) 3 3] 25)) (w.heap.size + 1 + 1 + 1 + 1 + 1 + 1) (some ⟨w.heap.size, 0, none⟩) (some ⟨w.heap.size + 1, 0, none⟩) (some ⟨w.heap.size + 1 + 1 + 1 + 1 + 1, 0, none⟩) 2 2 3 knownG := by
    refine ⟨?_, ?_, ?_, ?_⟩ <;> simp [go_sem, knownG]
  have hB : Below w.heap.size w (((((((w.alloc (.cells #[.string ⟨#[43]⟩, .string ⟨#[105]⟩] 9)).alloc (.cells #[.string ⟨#[69]⟩, .string ⟨#[84]⟩] 9)).alloc (.cells #[.int .i64 (-1), .int .i64 0, .int .i64 (-2)] 3)).alloc (.cells #[.int .i64 (-2)] 3)).alloc (.cells #[.int .i64 1] 3)).alloc (.cells #[.int .i64 0, .slice (some ⟨w.heap.size + 1 + 1, 0, none⟩) 3 3, .int .i64 0, .slice (some ⟨w.heap.size + 1 + 1 + 1, 0, none⟩) 1 1, .int .i64 1, .slice (some ⟨w.heap.size + 1 + 1 + 1 + 1, 0, none⟩) 1 1] 40)).alloc (.cells #[.slice (some ⟨w.heap.size, 0, none⟩) 2 2, .slice (some ⟨w.heap.size + 1, 0, none⟩) 2 2, .int .i64 0, .slice (some ⟨w.heap.size + 1 + 1 + 1 + 1 + 1, 0, none⟩) 3 3] 25)) := (((((((Below.refl _ _).alloc (Nat.le_refl _) _).alloc (by simp) _).alloc (by simp; omega) _).alloc (by simp; omega) _).alloc (by simp; omega) _).alloc (by simp; omega) _).alloc (by simp; omega) _
  have hE1 := hE.below hB (Nat.le_refl _)
  have hnil := eql_nil
  clear hE
  go_enter Tryz.func4, Tryz.ntmps4
  go_wp2_with fail
  generalize (((((((w.alloc (.cells #[.string ⟨#[43]⟩, .string ⟨#[105]⟩] 9)).alloc (.cells #[.string ⟨#[69]⟩, .string ⟨#[84]⟩] 9)).alloc (.cells #[.int .i64 (-1), .int .i64 0, .int .i64 (-2)] 3)).alloc (.cells #[.int .i64 (-2)] 3)).alloc (.cells #[.int .i64 1] 3)).alloc (.cells #[.int .i64 0, .slice (some ⟨w.heap.size + 1 + 1, 0, none⟩) 3 3, .int .i64 0, .slice (some ⟨w.heap.size + 1 + 1 + 1, 0, none⟩) 1 1, .int .i64 1, .slice (some ⟨w.heap.size + 1 + 1 + 1 + 1, 0, none⟩) 1 1] 40)).alloc (.cells #[.slice (some ⟨w.heap.size, 0, none⟩) 2 2, .slice (some ⟨w.heap.size + 1, 0, none⟩) 2 2, .int .i64 0, .slice (some ⟨w.heap.size + 1 + 1 + 1 + 1 + 1, 0, none⟩) 3 3] 25)) = W at *
  have ht := text_any (some ⟨w.heap.size, 0, none⟩) (some ⟨w.heap.size + 1, 0, none⟩) (some ⟨w.heap.size + 1 + 1 + 1 + 1 + 1, 0, none⟩) 2 2 3 knownG p W hG known_ok (by decide) (by decide) hE1
  rw [known_text, known_rd] at ht
  refine ht.mono ?_
  rintro e w1 ⟨⟨v, rfl, hv⟩, hb1⟩
  obtain rfl : v = .nilIface := hv
  have hG1 := hG.below hb1 (Nat.le_refl _)
  have hbx1 := hbx.below hb1 (Nat.le_refl _)
  have hE2 := hE1.below hb1 (Nat.le_refl _)
  have hB1 := hB.trans (hb1.mono hB.size)
  clear ht hG hbx hE1 hB hb1
  obtain ⟨c0, c1, c2, c3⟩ := id hbx1
  have d0 : w1.cell? ⟨w.heap.size + 1 + 1 + 1 + 1 + 1 + 1, 0, none⟩ = some (.slice (some ⟨w.heap.size, 0, none⟩) 2 2) := c0
  have d1 : w1.cell? ⟨w.heap.size + 1 + 1 + 1 + 1 + 1 + 1, 1, none⟩ = some (.slice (some ⟨w.heap.size + 1, 0, none⟩) 2 2) := c1
  have d2 : w1.cell? ⟨w.heap.size + 1 + 1 + 1 + 1 + 1 + 1, 2, none⟩ = some (.int .i64 0) := c2
  have d3 : w1.cell? ⟨w.heap.size + 1 + 1 + 1 + 1 + 1 + 1, 3, none⟩ = some (.slice (some ⟨w.heap.size + 1 + 1 + 1 + 1 + 1, 0, none⟩) 3 3) := c3
  clear c0 c1 c2 c3
  go_wp2_with fail
  have hr := rule_any (some ⟨w.heap.size, 0, none⟩) (some ⟨w.heap.size + 1, 0, none⟩) (some ⟨w.heap.size + 1 + 1 + 1 + 1 + 1, 0, none⟩) 2 2 3 knownG 0 p w1 hG1 known_ok (by decide) (by decide) hE2.sents ⟨by decide, by decide⟩
  rw [known_r0.1, known_r0.2] at hr
  refine hr.mono ?_
  rintro e w2 ⟨⟨v, rfl, hv⟩, hb2⟩
  obtain rfl : v = .nilIface := hv
  have hG2 := hG1.below hb2 (Nat.le_refl _)
  have hbx2 := hbx1.below hb2 (Nat.le_refl _)
  have hE3 := hE2.below hb2 (Nat.le_refl _)
  have hB2 := hB1.trans (hb2.mono hB1.size)
  clear hr hG1 hbx1 hE2 hB1 hb2 d0 d1 d2 d3
  obtain ⟨c0, c1, c2, c3⟩ := id hbx2
  have d0 : w2.cell? ⟨w.heap.size + 1 + 1 + 1 + 1 + 1 + 1, 0, none⟩ = some (.slice (some ⟨w.heap.size, 0, none⟩) 2 2) := c0
  have d1 : w2.cell? ⟨w.heap.size + 1 + 1 + 1 + 1 + 1 + 1, 1, none⟩ = some (.slice (some ⟨w.heap.size + 1, 0, none⟩) 2 2) := c1
  have d2 : w2.cell? ⟨w.heap.size + 1 + 1 + 1 + 1 + 1 + 1, 2, none⟩ = some (.int .i64 0) := c2
  have d3 : w2.cell? ⟨w.heap.size + 1 + 1 + 1 + 1 + 1 + 1, 3, none⟩ = some (.slice (some ⟨w.heap.size + 1 + 1 + 1 + 1 + 1, 0, none⟩) 3 3) := c3
  clear c0 c1 c2 c3
  go_wp2_with fail
  have hr := rule_any (some ⟨w.heap.size, 0, none⟩) (some ⟨w.heap.size + 1, 0, none⟩) (some ⟨w.heap.size + 1 + 1 + 1 + 1 + 1, 0, none⟩) 2 2 3 knownG 3 p w2 hG2 known_ok (by decide) (by decide) hE3.sents ⟨by decide, by decide⟩
  rw [known_r3] at hr
  refine hr.mono ?_
  rintro e w3 ⟨⟨v, rfl, hv⟩, hb3⟩
  have hG3 := hG2.below hb3 (Nat.le_refl _)
  have hbx3 := hbx2.below hb3 (Nat.le_refl _)
  have hE4 := hE3.below hb3 (Nat.le_refl _)
  have hB3 := hB2.trans (hb3.mono hB2.size)
  clear hr hG2 hbx2 hE3 hB2 hb3 d0 d1 d2 d3
  go_wp2_with fail
  have hk := kind_ck _ p (1, none) w3 v hE4 (by decide) hv
  refine hk.mono ?_
  rintro e w4 ⟨rfl, hb4⟩
  have hG4 := hG3.below hb4 (Nat.le_refl _)
  have hbx4 := hbx3.below hb4 (Nat.le_refl _)
  have hB4 := hB3.trans (hb4.mono hB3.size)
  clear hk hG3 hbx3 hE4 hB3 hb4 hv
  obtain ⟨c0, c1, c2, c3⟩ := id hbx4
  have d0 : w4.cell? ⟨w.heap.size + 1 + 1 + 1 + 1 + 1 + 1, 0, none⟩ = some (.slice (some ⟨w.heap.size, 0, none⟩) 2 2) := c0
  have d1 : w4.cell? ⟨w.heap.size + 1 + 1 + 1 + 1 + 1 + 1, 1, none⟩ = some (.slice (some ⟨w.heap.size + 1, 0, none⟩) 2 2) := c1
  have d2 : w4.cell? ⟨w.heap.size + 1 + 1 + 1 + 1 + 1 + 1, 2, none⟩ = some (.int .i64 0) := c2
  have d3 : w4.cell? ⟨w.heap.size + 1 + 1 + 1 + 1 + 1 + 1, 3, none⟩ = some (.slice (some ⟨w.heap.size + 1 + 1 + 1 + 1 + 1, 0, none⟩) 3 3) := c3
  clear c0 c1 c2 c3
  have hba : Below w4.heap.size w4 (w4.alloc (.cells #[.int .i64 0, .int .i64 (-1), .int .i64 2, .int .i64 3, .int .i64 (-3)] 3)) := (Below.refl _ _).alloc (Nat.le_refl _) _
  have hI : IRow (w4.alloc (.cells #[.int .i64 0, .int .i64 (-1), .int .i64 2, .int .i64 3, .int .i64 (-3)] 3)) (some ⟨w4.heap.size, 0, none⟩) [0, -1, 2, 3, -3] := intsA_row (heap_new _ _)
  have hs := symbols_any (some ⟨w.heap.size, 0, none⟩) (some ⟨w.heap.size + 1, 0, none⟩) (some ⟨w.heap.size + 1 + 1 + 1 + 1 + 1, 0, none⟩) (some ⟨w4.heap.size, 0, none⟩) 2 2 3 5 knownG [0, -1, 2, 3, -3] _ (hG4.1.below hba (Nat.le_refl _)) (hG4.2.1.below hba (Nat.le_refl _)) known_ok hI (by intro x hx; simp only [List.mem_cons, List.not_mem_nil, or_false] at hx; rcases hx with rfl | rfl | rfl | rfl | rfl <;> exact ⟨by decide, by decide⟩) (Short.of_good (good_of (by rw [known_check]))) (by decide) (by rw [← symsS_size, known_s]; decide)
  rw [known_s] at hs
  go_wp2_with fail
  refine hs.mono ?_
  rintro e w5 ⟨rfl, hb5⟩
  clear hs
  go_wp2
  go_ret
  exact ⟨rfl, (hB4.trans (hba.mono hB4.size)).trans (hb5.mono (Nat.le_trans hB4.size hba.size))⟩

end Go.Proofs.YtbeflhpekklgoaaGreatDoor.ShowTxt

namespace Go.Proofs.YtbeflhpekklgoaaGreatDoor.GramCopy
open Go.RowKit Go.Proofs.YtbeflhpekklgoaaGreatDoor.GramMath Go.Proofs.YtbeflhpekklgoaaGreatDoor.GramRow Go.Proofs.YtbeflhpekklgoaaGreatDoor.GramApart Go.Proofs.YtbeflhpekklgoaaGreatDoor.GramLent Go.Proofs.YtbeflhpekklgoaaGreatDoor.GramName
set_option linter.unusedVariables false

/-- The first k rules of a copy, each with a right side of its own, and room for the others. -/
structure RulesAt (w : World) (b : Nat) (bs : List Nat) (rs : List R) (k : Nat) : Prop where
  room : ∀ q, q < rs.length * 2 → w.frozen? ⟨b, q, none⟩ = false ∧ ∃ v, w.cell? ⟨b, q, none⟩ = some v
  len : bs.length = k
  each : ∀ i r x, rs[i]? = some r → bs[i]? = some x → w.cell? ⟨b, i * 2, none⟩ = some (.int .i64 r.left) ∧ w.cell? ⟨b, i * 2 + 1, none⟩ = some (.slice (some ⟨x, 0, none⟩) r.right.length r.right.length) ∧ RowAt w x 3 (intsA r.right)
  inc : bs.Pairwise (· < ·)
  lo : ∀ x ∈ bs, b < x
  hi : ∀ x ∈ bs, x < w.heap.size

theorem RulesAt.below {w w' : World} {b k B : Nat} {bs : List Nat} {rs : List R} (h : RulesAt w b bs rs k) (hb : Below B w w') (hB : w.heap.size ≤ B) (hlt : b < w.heap.size) : RulesAt w' b bs rs k where
  room q hq := by
    obtain ⟨h1, v, h2⟩ := h.room q hq
    exact ⟨(hb.frozen (p := ⟨b, q, none⟩) (Nat.lt_of_lt_of_le hlt hB)).trans h1, v, (hb.cell (p := ⟨b, q, none⟩) (Nat.lt_of_lt_of_le hlt hB)).trans h2⟩
  len := h.len
  each i r x hr hx := by
    obtain ⟨h1, h2, h3⟩ := h.each i r x hr hx
    exact ⟨(hb.cell (p := ⟨b, i * 2, none⟩) (Nat.lt_of_lt_of_le hlt hB)).trans h1, (hb.cell (p := ⟨b, i * 2 + 1, none⟩) (Nat.lt_of_lt_of_le hlt hB)).trans h2, h3.below hb (Nat.lt_of_lt_of_le h3.lt hB)⟩
  inc := h.inc
  lo := h.lo
  hi x hx := Nat.lt_of_lt_of_le (h.hi x hx) hb.size

/-- The next rule is put in its place. -/
theorem RulesAt.put {w : World} {b k x : Nat} {bs : List Nat} {rs : List R} {r : R} (h : RulesAt w b bs rs k) (hr : rs[k]? = some r) (hrow : RowAt w x 3 (intsA r.right)) (hbx : b < x) (hall : ∀ y ∈ bs, y < x) :
    RulesAt ((w.setCell ⟨b, k * 2, none⟩ (.int .i64 r.left)).setCell ⟨b, k * 2 + 1, none⟩ (.slice (some ⟨x, 0, none⟩) r.right.length r.right.length)) b (bs ++ [x]) rs (k + 1) := by
  have hk : k < rs.length := (List.getElem?_eq_some_iff.1 hr).1
  have hother : ∀ q, q ≠ k * 2 → q ≠ k * 2 + 1 → ((w.setCell ⟨b, k * 2, none⟩ (.int .i64 r.left)).setCell ⟨b, k * 2 + 1, none⟩ (.slice (some ⟨x, 0, none⟩) r.right.length r.right.length)).cell? ⟨b, q, none⟩ = w.cell? ⟨b, q, none⟩ := fun q h1 h2 => by
    rw [World.cell?_setCell_other (h := show (⟨b, k * 2 + 1, none⟩ : Addr) ≠ ⟨b, q, none⟩ from fun h => h2 (by cases h; rfl)), World.cell?_setCell_other (h := show (⟨b, k * 2, none⟩ : Addr) ≠ ⟨b, q, none⟩ from fun h => h1 (by cases h; rfl))]
  obtain ⟨_, v0, e0⟩ := h.room (k * 2) (by omega)
  obtain ⟨_, v1, e1⟩ := h.room (k * 2 + 1) (by omega)
  have c0 : ((w.setCell ⟨b, k * 2, none⟩ (.int .i64 r.left)).setCell ⟨b, k * 2 + 1, none⟩ (.slice (some ⟨x, 0, none⟩) r.right.length r.right.length)).cell? ⟨b, k * 2, none⟩ = some (.int .i64 r.left) := by
    rw [World.cell?_setCell_other (h := show (⟨b, k * 2 + 1, none⟩ : Addr) ≠ ⟨b, k * 2, none⟩ from fun h => by have h2 : k * 2 + 1 = k * 2 := congrArg Addr.off h; omega)]
    exact World.cell?_setCell_same (h := e0) ..
  have c1 : ((w.setCell ⟨b, k * 2, none⟩ (.int .i64 r.left)).setCell ⟨b, k * 2 + 1, none⟩ (.slice (some ⟨x, 0, none⟩) r.right.length r.right.length)).cell? ⟨b, k * 2 + 1, none⟩ = some (.slice (some ⟨x, 0, none⟩) r.right.length r.right.length) := by
    have e2 : (w.setCell ⟨b, k * 2, none⟩ (.int .i64 r.left)).cell? ⟨b, k * 2 + 1, none⟩ = some v1 := by
      rw [World.cell?_setCell_other (h := show (⟨b, k * 2, none⟩ : Addr) ≠ ⟨b, k * 2 + 1, none⟩ from fun h => by have h2 : k * 2 = k * 2 + 1 := congrArg Addr.off h; omega)]
      exact e1
    exact World.cell?_setCell_same (h := e2) ..
  refine ⟨fun q hq => ?_, by simp [h.len], fun i r' y hr' hy => ?_, ?_, ?_, ?_⟩
  · obtain ⟨h1, v, h2⟩ := h.room q hq
    refine ⟨by rw [World.frozen?_setCell, World.frozen?_setCell]; exact h1, ?_⟩
    by_cases q0 : q = k * 2
    · subst q0; exact ⟨_, c0⟩
    · by_cases q1 : q = k * 2 + 1
      · subst q1; exact ⟨_, c1⟩
      · exact ⟨v, by rw [hother q q0 q1]; exact h2⟩
  · by_cases hi : i < bs.length
    · rw [List.getElem?_append_left hi] at hy
      obtain ⟨h1, h2, h3⟩ := h.each i r' y hr' hy
      have hl := h.len
      have hym := h.lo y (List.mem_of_getElem? hy)
      exact ⟨by rw [hother _ (by omega) (by omega)]; exact h1, by rw [hother _ (by omega) (by omega)]; exact h2, (h3.other (by omega) _ _).other (by omega) _ _⟩
    · rw [List.getElem?_append_right (by omega)] at hy
      have hz : i - bs.length = 0 := by
        have := (List.getElem?_eq_some_iff.1 hy).1
        simp at this
        omega
      rw [hz] at hy
      obtain rfl : x = y := by simpa using hy
      obtain rfl : i = k := by have := h.len; omega
      rw [hr] at hr'
      obtain rfl := Option.some.inj hr'
      exact ⟨c0, c1, (hrow.other (by omega) _ _).other (by omega) _ _⟩
  · rw [List.pairwise_append]
    exact ⟨h.inc, by simp, fun y hy z hz => by obtain rfl : z = x := by simpa using hz
                                               exact hall y hy⟩
  · intro y hy
    rcases List.mem_append.1 hy with hy | hy
    · exact h.lo y hy
    · obtain rfl : y = x := by simpa using hy
      exact hbx
  · intro y hy
    have hz : ((w.setCell ⟨b, k * 2, none⟩ (.int .i64 r.left)).setCell ⟨b, k * 2 + 1, none⟩ (.slice (some ⟨x, 0, none⟩) r.right.length r.right.length)).heap.size = w.heap.size := by simp
    rw [hz]
    rcases List.mem_append.1 hy with hy | hy
    · exact h.hi y hy
    · obtain rfl : y = x := by simpa using hy
      exact hrow.lt

theorem madeR_any (n : Nat) (hn : n * 32 ≤ 140737488351232) (w : World) : (Instr.makeSlice 23 (.int .i64 (n : Int)) (.int .i64 (n : Int))).run Tryz.prog w = .ok (.slice (some ⟨w.heap.size, 0, none⟩) n n) (w.alloc (.cells (madeCells #[.int .i64 0, .slice none 0 0] (n * 2)) 40)) := by
  obtain ⟨i0, hi, hz0, hz1, hz2⟩ := info_parts infoR
  have h := run_make (P := Tryz.prog) w 23 40 i0 (.agg #[.int .i64 0, .slice none 0 0]) Tryz.underlying23 hi hz0 .i64 .i64 (n : Int) (n : Int) (by omega) (by omega) (by rw [hz2]; omega) (by omega)
  rw [hz1] at h
  simpa [Value.cells] using h

theorem rules_new (w : World) (rs : List R) : RulesAt (w.alloc (.cells (madeCells #[.int .i64 0, .slice none 0 0] (rs.length * 2)) 40)) w.heap.size [] rs 0 where
  room q hq := by
    refine ⟨by simp, ?_⟩
    have h := World.cell?_alloc_mark w (madeCells #[.int .i64 0, .slice none 0 0] (rs.length * 2)) 40 (0, 0) q
    refine ⟨(madeCells #[.int .i64 0, .slice none 0 0] (rs.length * 2))[q]'(by rw [size_madeCells]; exact hq), ?_⟩
    rw [show (w.alloc (.cells (madeCells #[.int .i64 0, .slice none 0 0] (rs.length * 2)) 40)).cell? ⟨w.heap.size, q, none⟩ = (madeCells #[.int .i64 0, .slice none 0 0] (rs.length * 2))[q]? from h]
    exact Array.getElem?_eq_getElem _
  len := rfl
  each i r x _ hx := by simp at hx
  inc := by simp
  lo x hx := by cases hx
  hi x hx := by cases hx

/-- A copy of a grammar. -/
structure CopyAt (w : World) (B b1 b2 b3 : Nat) (bs : List Nat) (g : G) : Prop where
  ts : RowAt w b1 9 (strsA g.ts)
  ns : RowAt w b2 9 (strsA g.ns)
  rs : RulesAt w b3 bs g.rs g.rs.length
  l1 : B ≤ b1
  l2 : B ≤ b2
  l3 : B ≤ b3
  ne : b1 < b2
  l4 : b3 < b1
  lt : b3 < w.heap.size

theorem srow_of {w : World} {b : Nat} {ss : List ByteArray} (h : RowAt w b 9 (strsA ss)) : SRow w (some ⟨b, 0, none⟩) ss := fun i x hx => ⟨b, 0, rfl, by
  rw [Nat.zero_add]
  exact h.cell (by simp [strsA, hx])⟩
theorem irow_of {w : World} {b : Nat} {zs : List Int} (h : RowAt w b 3 (intsA zs)) : IRow w (some ⟨b, 0, none⟩) zs := fun i x hx => ⟨b, 0, rfl, by
  rw [Nat.zero_add]
  exact h.cell (by simp [intsA, hx])⟩

theorem CopyAt.row {w : World} {B b1 b2 b3 : Nat} {bs : List Nat} {g : G} (h : CopyAt w B b1 b2 b3 bs g) : GRow w (some ⟨b1, 0, none⟩) (some ⟨b2, 0, none⟩) (some ⟨b3, 0, none⟩) g := by
  refine ⟨srow_of h.ts, srow_of h.ns, fun i r hr => ?_⟩
  have hi := (List.getElem?_eq_some_iff.1 hr).1
  have hl := h.rs.len
  obtain ⟨h1, h2, h3⟩ := h.rs.each i r bs[i] hr (List.getElem?_eq_getElem (by omega))
  exact ⟨b3, 0, _, _, rfl, by rw [Nat.zero_add]; exact h1, by rw [Nat.zero_add]; exact h2, irow_of h3⟩

theorem CopyAt.below {w w' : World} {B b1 b2 b3 C : Nat} {bs : List Nat} {g : G} (h : CopyAt w B b1 b2 b3 bs g) (hb : Below C w w') (hC : w.heap.size ≤ C) : CopyAt w' B b1 b2 b3 bs g :=
  ⟨h.ts.below hb (Nat.lt_of_lt_of_le h.ts.lt hC), h.ns.below hb (Nat.lt_of_lt_of_le h.ns.lt hC), h.rs.below hb hC h.lt, h.l1, h.l2, h.l3, h.ne, h.l4, Nat.lt_of_lt_of_le h.lt hb.size⟩

end Go.Proofs.YtbeflhpekklgoaaGreatDoor.GramCopy
