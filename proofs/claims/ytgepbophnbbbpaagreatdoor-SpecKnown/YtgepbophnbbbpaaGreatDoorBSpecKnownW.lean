/-
  Texts that stand together: SpecKnownW.
-/
import Derived.Test.YtgepbophnbbbpaaGreatDoorBagSpecSpreadM
namespace Go.Proofs.YtgepbophnbbbpaaGreatDoor.SpecKn
open Go.Proofs.YtgepbophnbbbpaaGreatDoor.GramLess Go.RowKit Go.Maps Go.WideMaps Go.Proofs.YtgepbophnbbbpaaGreatDoor.GramMath Go.Proofs.YtgepbophnbbbpaaGreatDoor.GramRow Go.Proofs.YtgepbophnbbbpaaGreatDoor.GramOne Go.Proofs.YtgepbophnbbbpaaGreatDoor.GramApart Go.Proofs.YtgepbophnbbbpaaGreatDoor.GramCopy Go.Proofs.YtgepbophnbbbpaaGreatDoor.LineMath Go.Proofs.YtgepbophnbbbpaaGreatDoor.SpecLn Go.Proofs.YtgepbophnbbbpaaGreatDoor.SpecMd Go.Proofs.YtgepbophnbbbpaaGreatDoor.SpecTx Go.Proofs.YtgepbophnbbbpaaGreatDoor.SpecRun Go.Proofs.YtgepbophnbbbpaaGreatDoor.SpecMem Go.Proofs.YtgepbophnbbbpaaGreatDoor.SpecFn
set_option linter.unusedVariables false
set_option linter.unusedSimpArgs false

set_option maxRecDepth 100000 in
set_option maxHeartbeats 16000000 in
theorem walk (p : Nat → Addr) (w : World) (h : St4 w p) : Calls Tryz.prog 4 #[] w fun e w' => e = .returned (.bool true) ∧ Below w.heap.size w w' := by
  have q6 : ∀ W : World, (binOp .neq 49 (.agg #[.int .i64 2, .int .i64 6]) (.agg #[.int .i64 2, .int .i64 6])).run Tryz.prog W = .ok (.bool false) W := fun W => by kernel_rfl
  have q0 : ∀ W : World, (binOp .neq 49 (.agg #[.int .i64 2, .int .i64 0]) (.agg #[.int .i64 2, .int .i64 0])).run Tryz.prog W = .ok (.bool false) W := fun W => by kernel_rfl
  have q1 : ∀ W : World, (binOp .neq 49 (.agg #[.int .i64 2, .int .i64 1]) (.agg #[.int .i64 2, .int .i64 1])).run Tryz.prog W = .ok (.bool false) W := fun W => by kernel_rfl
  have q2 : ∀ W : World, (binOp .neq 49 (.agg #[.int .i64 2, .int .i64 2]) (.agg #[.int .i64 2, .int .i64 2])).run Tryz.prog W = .ok (.bool false) W := fun W => by kernel_rfl
  have q4 : ∀ W : World, (binOp .neq 49 (.agg #[.int .i64 2, .int .i64 4]) (.agg #[.int .i64 2, .int .i64 4])).run Tryz.prog W = .ok (.bool false) W := fun W => by kernel_rfl
  have heq : ∀ W : World, (binOp .eql 27 .nilIface .nilIface).run Tryz.prog W = .ok (.bool true) W := fun W => by kernel_rfl
  have hBw : Below w.heap.size w w := Below.refl _ _
  obtain ⟨W1, hW1⟩ : ∃ W1, W1 = (((((((w.alloc (.cells #[.string ⟨#[43]⟩, .string ⟨#[105]⟩, .string ⟨#[69]⟩] 9)).alloc (.cells #[.string ⟨#[69]⟩, .string ⟨#[84]⟩] 9)).alloc (.cells #[.int .i64 (-1), .int .i64 0, .int .i64 (-2)] 3)).alloc (.cells #[.int .i64 (-2)] 3)).alloc (.cells #[.int .i64 1] 3)).alloc (.cells #[.int .i64 2] 3)).alloc (.cells #[.int .i64 0, .slice (some ⟨w.heap.size + 1 + 1, 0, none⟩) 3 3, .int .i64 0, .slice (some ⟨w.heap.size + 1 + 1 + 1, 0, none⟩) 1 1, .int .i64 1, .slice (some ⟨w.heap.size + 1 + 1 + 1 + 1, 0, none⟩) 1 1, .int .i64 1, .slice (some ⟨w.heap.size + 1 + 1 + 1 + 1 + 1, 0, none⟩) 1 1] 46)).alloc (.cells #[.slice (some ⟨w.heap.size, 0, none⟩) 3 3, .slice (some ⟨w.heap.size + 1, 0, none⟩) 2 2, .int .i64 0, .slice (some ⟨w.heap.size + 1 + 1 + 1 + 1 + 1 + 1, 0, none⟩) 4 4] 25) := ⟨_, rfl⟩
  have HW1 : Hid (_) := hW1
  have hbW1 : Below w.heap.size w W1 := by rw [hW1]; exact ((((((((Below.refl _ _).alloc (Nat.le_refl _) _).alloc (by simp only [World.size_alloc]; omega) _).alloc (by simp only [World.size_alloc]; omega) _).alloc (by simp only [World.size_alloc]; omega) _).alloc (by simp only [World.size_alloc]; omega) _).alloc (by simp only [World.size_alloc]; omega) _).alloc (by simp only [World.size_alloc]; omega) _).alloc (by simp only [World.size_alloc]; omega) _
  have rW1_0 : RowAt W1 (w.heap.size) 9 #[.string ⟨#[43]⟩, .string ⟨#[105]⟩, .string ⟨#[69]⟩] := by
    rw [hW1]
    have := (RowAt.alloc (RowAt.alloc (RowAt.alloc (RowAt.alloc (RowAt.alloc (RowAt.alloc (RowAt.alloc (World.alloc_heap_new w (.cells #[.string ⟨#[43]⟩, .string ⟨#[105]⟩, .string ⟨#[69]⟩] 9)) (.cells #[.string ⟨#[69]⟩, .string ⟨#[84]⟩] 9)) (.cells #[.int .i64 (-1), .int .i64 0, .int .i64 (-2)] 3)) (.cells #[.int .i64 (-2)] 3)) (.cells #[.int .i64 1] 3)) (.cells #[.int .i64 2] 3)) (.cells #[.int .i64 0, .slice (some ⟨w.heap.size + 1 + 1, 0, none⟩) 3 3, .int .i64 0, .slice (some ⟨w.heap.size + 1 + 1 + 1, 0, none⟩) 1 1, .int .i64 1, .slice (some ⟨w.heap.size + 1 + 1 + 1 + 1, 0, none⟩) 1 1, .int .i64 1, .slice (some ⟨w.heap.size + 1 + 1 + 1 + 1 + 1, 0, none⟩) 1 1] 46)) (.cells #[.slice (some ⟨w.heap.size, 0, none⟩) 3 3, .slice (some ⟨w.heap.size + 1, 0, none⟩) 2 2, .int .i64 0, .slice (some ⟨w.heap.size + 1 + 1 + 1 + 1 + 1 + 1, 0, none⟩) 4 4] 25))
    try simp only [World.size_alloc] at this
    exact this
  have rW1_1 : RowAt W1 (w.heap.size + 1) 9 #[.string ⟨#[69]⟩, .string ⟨#[84]⟩] := by
    rw [hW1]
    have := (RowAt.alloc (RowAt.alloc (RowAt.alloc (RowAt.alloc (RowAt.alloc (RowAt.alloc (World.alloc_heap_new (w.alloc (.cells #[.string ⟨#[43]⟩, .string ⟨#[105]⟩, .string ⟨#[69]⟩] 9)) (.cells #[.string ⟨#[69]⟩, .string ⟨#[84]⟩] 9)) (.cells #[.int .i64 (-1), .int .i64 0, .int .i64 (-2)] 3)) (.cells #[.int .i64 (-2)] 3)) (.cells #[.int .i64 1] 3)) (.cells #[.int .i64 2] 3)) (.cells #[.int .i64 0, .slice (some ⟨w.heap.size + 1 + 1, 0, none⟩) 3 3, .int .i64 0, .slice (some ⟨w.heap.size + 1 + 1 + 1, 0, none⟩) 1 1, .int .i64 1, .slice (some ⟨w.heap.size + 1 + 1 + 1 + 1, 0, none⟩) 1 1, .int .i64 1, .slice (some ⟨w.heap.size + 1 + 1 + 1 + 1 + 1, 0, none⟩) 1 1] 46)) (.cells #[.slice (some ⟨w.heap.size, 0, none⟩) 3 3, .slice (some ⟨w.heap.size + 1, 0, none⟩) 2 2, .int .i64 0, .slice (some ⟨w.heap.size + 1 + 1 + 1 + 1 + 1 + 1, 0, none⟩) 4 4] 25))
    try simp only [World.size_alloc] at this
    exact this
  have rW1_2 : RowAt W1 (w.heap.size + 1 + 1) 3 #[.int .i64 (-1), .int .i64 0, .int .i64 (-2)] := by
    rw [hW1]
    have := (RowAt.alloc (RowAt.alloc (RowAt.alloc (RowAt.alloc (RowAt.alloc (World.alloc_heap_new ((w.alloc (.cells #[.string ⟨#[43]⟩, .string ⟨#[105]⟩, .string ⟨#[69]⟩] 9)).alloc (.cells #[.string ⟨#[69]⟩, .string ⟨#[84]⟩] 9)) (.cells #[.int .i64 (-1), .int .i64 0, .int .i64 (-2)] 3)) (.cells #[.int .i64 (-2)] 3)) (.cells #[.int .i64 1] 3)) (.cells #[.int .i64 2] 3)) (.cells #[.int .i64 0, .slice (some ⟨w.heap.size + 1 + 1, 0, none⟩) 3 3, .int .i64 0, .slice (some ⟨w.heap.size + 1 + 1 + 1, 0, none⟩) 1 1, .int .i64 1, .slice (some ⟨w.heap.size + 1 + 1 + 1 + 1, 0, none⟩) 1 1, .int .i64 1, .slice (some ⟨w.heap.size + 1 + 1 + 1 + 1 + 1, 0, none⟩) 1 1] 46)) (.cells #[.slice (some ⟨w.heap.size, 0, none⟩) 3 3, .slice (some ⟨w.heap.size + 1, 0, none⟩) 2 2, .int .i64 0, .slice (some ⟨w.heap.size + 1 + 1 + 1 + 1 + 1 + 1, 0, none⟩) 4 4] 25))
    try simp only [World.size_alloc] at this
    exact this
  have rW1_3 : RowAt W1 (w.heap.size + 1 + 1 + 1) 3 #[.int .i64 (-2)] := by
    rw [hW1]
    have := (RowAt.alloc (RowAt.alloc (RowAt.alloc (RowAt.alloc (World.alloc_heap_new (((w.alloc (.cells #[.string ⟨#[43]⟩, .string ⟨#[105]⟩, .string ⟨#[69]⟩] 9)).alloc (.cells #[.string ⟨#[69]⟩, .string ⟨#[84]⟩] 9)).alloc (.cells #[.int .i64 (-1), .int .i64 0, .int .i64 (-2)] 3)) (.cells #[.int .i64 (-2)] 3)) (.cells #[.int .i64 1] 3)) (.cells #[.int .i64 2] 3)) (.cells #[.int .i64 0, .slice (some ⟨w.heap.size + 1 + 1, 0, none⟩) 3 3, .int .i64 0, .slice (some ⟨w.heap.size + 1 + 1 + 1, 0, none⟩) 1 1, .int .i64 1, .slice (some ⟨w.heap.size + 1 + 1 + 1 + 1, 0, none⟩) 1 1, .int .i64 1, .slice (some ⟨w.heap.size + 1 + 1 + 1 + 1 + 1, 0, none⟩) 1 1] 46)) (.cells #[.slice (some ⟨w.heap.size, 0, none⟩) 3 3, .slice (some ⟨w.heap.size + 1, 0, none⟩) 2 2, .int .i64 0, .slice (some ⟨w.heap.size + 1 + 1 + 1 + 1 + 1 + 1, 0, none⟩) 4 4] 25))
    try simp only [World.size_alloc] at this
    exact this
  have rW1_4 : RowAt W1 (w.heap.size + 1 + 1 + 1 + 1) 3 #[.int .i64 1] := by
    rw [hW1]
    have := (RowAt.alloc (RowAt.alloc (RowAt.alloc (World.alloc_heap_new ((((w.alloc (.cells #[.string ⟨#[43]⟩, .string ⟨#[105]⟩, .string ⟨#[69]⟩] 9)).alloc (.cells #[.string ⟨#[69]⟩, .string ⟨#[84]⟩] 9)).alloc (.cells #[.int .i64 (-1), .int .i64 0, .int .i64 (-2)] 3)).alloc (.cells #[.int .i64 (-2)] 3)) (.cells #[.int .i64 1] 3)) (.cells #[.int .i64 2] 3)) (.cells #[.int .i64 0, .slice (some ⟨w.heap.size + 1 + 1, 0, none⟩) 3 3, .int .i64 0, .slice (some ⟨w.heap.size + 1 + 1 + 1, 0, none⟩) 1 1, .int .i64 1, .slice (some ⟨w.heap.size + 1 + 1 + 1 + 1, 0, none⟩) 1 1, .int .i64 1, .slice (some ⟨w.heap.size + 1 + 1 + 1 + 1 + 1, 0, none⟩) 1 1] 46)) (.cells #[.slice (some ⟨w.heap.size, 0, none⟩) 3 3, .slice (some ⟨w.heap.size + 1, 0, none⟩) 2 2, .int .i64 0, .slice (some ⟨w.heap.size + 1 + 1 + 1 + 1 + 1 + 1, 0, none⟩) 4 4] 25))
    try simp only [World.size_alloc] at this
    exact this
  have rW1_5 : RowAt W1 (w.heap.size + 1 + 1 + 1 + 1 + 1) 3 #[.int .i64 2] := by
    rw [hW1]
    have := (RowAt.alloc (RowAt.alloc (World.alloc_heap_new (((((w.alloc (.cells #[.string ⟨#[43]⟩, .string ⟨#[105]⟩, .string ⟨#[69]⟩] 9)).alloc (.cells #[.string ⟨#[69]⟩, .string ⟨#[84]⟩] 9)).alloc (.cells #[.int .i64 (-1), .int .i64 0, .int .i64 (-2)] 3)).alloc (.cells #[.int .i64 (-2)] 3)).alloc (.cells #[.int .i64 1] 3)) (.cells #[.int .i64 2] 3)) (.cells #[.int .i64 0, .slice (some ⟨w.heap.size + 1 + 1, 0, none⟩) 3 3, .int .i64 0, .slice (some ⟨w.heap.size + 1 + 1 + 1, 0, none⟩) 1 1, .int .i64 1, .slice (some ⟨w.heap.size + 1 + 1 + 1 + 1, 0, none⟩) 1 1, .int .i64 1, .slice (some ⟨w.heap.size + 1 + 1 + 1 + 1 + 1, 0, none⟩) 1 1] 46)) (.cells #[.slice (some ⟨w.heap.size, 0, none⟩) 3 3, .slice (some ⟨w.heap.size + 1, 0, none⟩) 2 2, .int .i64 0, .slice (some ⟨w.heap.size + 1 + 1 + 1 + 1 + 1 + 1, 0, none⟩) 4 4] 25))
    try simp only [World.size_alloc] at this
    exact this
  have rW1_6 : RowAt W1 (w.heap.size + 1 + 1 + 1 + 1 + 1 + 1) 46 #[.int .i64 0, .slice (some ⟨w.heap.size + 1 + 1, 0, none⟩) 3 3, .int .i64 0, .slice (some ⟨w.heap.size + 1 + 1 + 1, 0, none⟩) 1 1, .int .i64 1, .slice (some ⟨w.heap.size + 1 + 1 + 1 + 1, 0, none⟩) 1 1, .int .i64 1, .slice (some ⟨w.heap.size + 1 + 1 + 1 + 1 + 1, 0, none⟩) 1 1] := by
    rw [hW1]
    have := (RowAt.alloc (World.alloc_heap_new ((((((w.alloc (.cells #[.string ⟨#[43]⟩, .string ⟨#[105]⟩, .string ⟨#[69]⟩] 9)).alloc (.cells #[.string ⟨#[69]⟩, .string ⟨#[84]⟩] 9)).alloc (.cells #[.int .i64 (-1), .int .i64 0, .int .i64 (-2)] 3)).alloc (.cells #[.int .i64 (-2)] 3)).alloc (.cells #[.int .i64 1] 3)).alloc (.cells #[.int .i64 2] 3)) (.cells #[.int .i64 0, .slice (some ⟨w.heap.size + 1 + 1, 0, none⟩) 3 3, .int .i64 0, .slice (some ⟨w.heap.size + 1 + 1 + 1, 0, none⟩) 1 1, .int .i64 1, .slice (some ⟨w.heap.size + 1 + 1 + 1 + 1, 0, none⟩) 1 1, .int .i64 1, .slice (some ⟨w.heap.size + 1 + 1 + 1 + 1 + 1, 0, none⟩) 1 1] 46)) (.cells #[.slice (some ⟨w.heap.size, 0, none⟩) 3 3, .slice (some ⟨w.heap.size + 1, 0, none⟩) 2 2, .int .i64 0, .slice (some ⟨w.heap.size + 1 + 1 + 1 + 1 + 1 + 1, 0, none⟩) 4 4] 25))
    try simp only [World.size_alloc] at this
    exact this
  have rW1_7 : RowAt W1 (w.heap.size + 1 + 1 + 1 + 1 + 1 + 1 + 1) 25 #[.slice (some ⟨w.heap.size, 0, none⟩) 3 3, .slice (some ⟨w.heap.size + 1, 0, none⟩) 2 2, .int .i64 0, .slice (some ⟨w.heap.size + 1 + 1 + 1 + 1 + 1 + 1, 0, none⟩) 4 4] := by
    rw [hW1]
    have := (World.alloc_heap_new (((((((w.alloc (.cells #[.string ⟨#[43]⟩, .string ⟨#[105]⟩, .string ⟨#[69]⟩] 9)).alloc (.cells #[.string ⟨#[69]⟩, .string ⟨#[84]⟩] 9)).alloc (.cells #[.int .i64 (-1), .int .i64 0, .int .i64 (-2)] 3)).alloc (.cells #[.int .i64 (-2)] 3)).alloc (.cells #[.int .i64 1] 3)).alloc (.cells #[.int .i64 2] 3)).alloc (.cells #[.int .i64 0, .slice (some ⟨w.heap.size + 1 + 1, 0, none⟩) 3 3, .int .i64 0, .slice (some ⟨w.heap.size + 1 + 1 + 1, 0, none⟩) 1 1, .int .i64 1, .slice (some ⟨w.heap.size + 1 + 1 + 1 + 1, 0, none⟩) 1 1, .int .i64 1, .slice (some ⟨w.heap.size + 1 + 1 + 1 + 1 + 1, 0, none⟩) 1 1] 46)) (.cells #[.slice (some ⟨w.heap.size, 0, none⟩) 3 3, .slice (some ⟨w.heap.size + 1, 0, none⟩) 2 2, .int .i64 0, .slice (some ⟨w.heap.size + 1 + 1 + 1 + 1 + 1 + 1, 0, none⟩) 4 4] 25))
    try simp only [World.size_alloc] at this
    exact this
  have hBW1 := hBw.trans (hbW1.mono hBw.size)
  clear hW1
  have gr1 : GRow W1 (some ⟨w.heap.size, 0, none⟩) (some ⟨w.heap.size + 1, 0, none⟩) (some ⟨w.heap.size + 1 + 1 + 1 + 1 + 1 + 1, 0, none⟩) g1 := by
    refine ⟨fun i x hx => ⟨_, 0, rfl, ?_⟩, fun i x hx => ⟨_, 0, rfl, ?_⟩, fun i r hr => ?_⟩
    · match i, hx with
      | 0, hx => cases hx; exact rW1_0.cell (q := 0) rfl
      | 1, hx => cases hx; exact rW1_0.cell (q := 1) rfl
      | 2, hx => cases hx; exact rW1_0.cell (q := 2) rfl
    · match i, hx with
      | 0, hx => cases hx; exact rW1_1.cell (q := 0) rfl
      | 1, hx => cases hx; exact rW1_1.cell (q := 1) rfl
    · match i, hr with
      | 0, hr => cases hr; exact ⟨_, 0, _, 3, rfl, rW1_6.cell (q := 0) rfl, rW1_6.cell (q := 1) rfl, fun i x hx => ⟨_, 0, rfl, by
          rw [Nat.zero_add]
          match i, hx with
          | 0, hx => cases hx; exact rW1_2.cell (q := 0) rfl
          | 1, hx => cases hx; exact rW1_2.cell (q := 1) rfl
          | 2, hx => cases hx; exact rW1_2.cell (q := 2) rfl⟩⟩
      | 1, hr => cases hr; exact ⟨_, 0, _, 1, rfl, rW1_6.cell (q := 2) rfl, rW1_6.cell (q := 3) rfl, fun i x hx => ⟨_, 0, rfl, by
          rw [Nat.zero_add]
          match i, hx with
          | 0, hx => cases hx; exact rW1_3.cell (q := 0) rfl⟩⟩
      | 2, hr => cases hr; exact ⟨_, 0, _, 1, rfl, rW1_6.cell (q := 4) rfl, rW1_6.cell (q := 5) rfl, fun i x hx => ⟨_, 0, rfl, by
          rw [Nat.zero_add]
          match i, hx with
          | 0, hx => cases hx; exact rW1_4.cell (q := 0) rfl⟩⟩
      | 3, hr => cases hr; exact ⟨_, 0, _, 1, rfl, rW1_6.cell (q := 6) rfl, rW1_6.cell (q := 7) rfl, fun i x hx => ⟨_, 0, rfl, by
          rw [Nat.zero_add]
          match i, hx with
          | 0, hx => cases hx; exact rW1_5.cell (q := 0) rfl⟩⟩
  have x1 := rW1_7
  clear rW1_0 rW1_1 rW1_2 rW1_3 rW1_4 rW1_5 rW1_6 rW1_7
  go_enter Tryz.func4, Tryz.ntmps4
  obtain ⟨Y2, hY2⟩ : ∃ Y2, Y2 = W1.alloc (.cells #[.slice none 0 0] 34) := ⟨_, rfl⟩
  have HY2 : Hid (_) := hY2
  have hbY2 : Below W1.heap.size W1 Y2 := by rw [hY2]; exact (Below.refl _ _).alloc (Nat.le_refl _) _
  have rY2_0 : RowAt Y2 (W1.heap.size) 34 #[.slice none 0 0] := by
    rw [hY2]
    have := (World.alloc_heap_new W1 (.cells #[.slice none 0 0] 34))
    try simp only [World.size_alloc] at this
    exact this
  have hBY2 := hBW1.trans (hbY2.mono hBW1.size)
  clear hY2
  replace gr1 := gr1.below hbY2 (Nat.le_refl _)
  replace x1 := x1.below hbY2 x1.lt
  have hone := one_any [⟨⟨0, []⟩, none, 0⟩] (W1.heap.size) 1 Y2 (by simp) (fun i x hx => by
      match i, hx with
      | 0, hx => cases hx; exact rY2_0.cell (q := 0) rfl) (fun x hx => by
      simp at hx
      subst hx
      · exact ⟨rfl, fun i x hx => by cases hx⟩)
  clear rY2_0
  go_wp2_with (first | rw [← HW1.out] | rw [← HY2.out])
  refine hone.mono ?_
  rintro e z2 ⟨⟨ta2, na2, ra2, rc2, rfl, gg2⟩, hbz2⟩
  have hBz2 := hBY2.trans (hbz2.mono hBY2.size)
  replace gr1 := gr1.below hbz2 (Nat.le_refl _)
  replace x1 := x1.below hbz2 x1.lt
  clear hone hbz2
  obtain ⟨V2, hV2⟩ : ∃ V2, V2 = z2.alloc (.cells #[.slice ta2 2 2, .slice na2 1 1, .int .i64 0, .slice ra2 1 rc2] 25) := ⟨_, rfl⟩
  have HV2 : Hid (_) := hV2
  have hbV2 : Below z2.heap.size z2 V2 := by rw [hV2]; exact (Below.refl _ _).alloc (Nat.le_refl _) _
  have rV2_0 : RowAt V2 (z2.heap.size) 25 #[.slice ta2 2 2, .slice na2 1 1, .int .i64 0, .slice ra2 1 rc2] := by
    rw [hV2]
    have := (World.alloc_heap_new z2 (.cells #[.slice ta2 2 2, .slice na2 1 1, .int .i64 0, .slice ra2 1 rc2] 25))
    try simp only [World.size_alloc] at this
    exact this
  have hBV2 := hBz2.trans (hbV2.mono hBz2.size)
  clear hV2
  obtain ⟨U2, hU2⟩ : ∃ U2, U2 = V2.setCell ⟨z2.heap.size, 0, none⟩ (.slice none 0 0) := ⟨_, rfl⟩
  have HU2 : Hid (_) := hU2
  have f2 := rV2_0.frozen 0
  have y2 := rV2_0.cell (q := 0) rfl
  have hbU2 : Below z2.heap.size z2 U2 := by rw [hU2]; exact hbV2.setCell (p := ⟨z2.heap.size, 0, none⟩) (Nat.le_refl _) _
  have hBU2 := hBz2.trans (hbU2.mono hBz2.size)
  replace gr1 := gr1.below hbU2 (Nat.le_refl _)
  replace x1 := x1.below hbU2 x1.lt
  replace gg2 := gg2.below hbU2 (Nat.le_refl _)
  have x2 : RowAt U2 z2.heap.size 25 #[.slice none 0 0, .slice na2 1 1, .int .i64 0, .slice ra2 1 rc2] := by rw [hU2]; exact rV2_0.set 0 _
  have gr2 : GRow U2 none na2 ra2 g2 := ⟨(fun i x hx => by cases hx), gg2.2.1, gg2.2.2⟩
  clear hU2 gg2 hbU2 hbV2 rV2_0 hBV2 hBz2
  obtain ⟨Y3, hY3⟩ : ∃ Y3, Y3 = (U2.alloc (.cells #[.int .i64 0] 3)).alloc (.cells #[.slice (some ⟨U2.heap.size, 0, none⟩) 1 1, .slice none 0 0] 34) := ⟨_, rfl⟩
  have HY3 : Hid (_) := hY3
  have hbY3 : Below U2.heap.size U2 Y3 := by rw [hY3]; exact ((Below.refl _ _).alloc (Nat.le_refl _) _).alloc (by simp only [World.size_alloc]; omega) _
  have rY3_0 : RowAt Y3 (U2.heap.size) 3 #[.int .i64 0] := by
    rw [hY3]
    have := (RowAt.alloc (World.alloc_heap_new U2 (.cells #[.int .i64 0] 3)) (.cells #[.slice (some ⟨U2.heap.size, 0, none⟩) 1 1, .slice none 0 0] 34))
    try simp only [World.size_alloc] at this
    exact this
  have rY3_1 : RowAt Y3 (U2.heap.size + 1) 34 #[.slice (some ⟨U2.heap.size, 0, none⟩) 1 1, .slice none 0 0] := by
    rw [hY3]
    have := (World.alloc_heap_new (U2.alloc (.cells #[.int .i64 0] 3)) (.cells #[.slice (some ⟨U2.heap.size, 0, none⟩) 1 1, .slice none 0 0] 34))
    try simp only [World.size_alloc] at this
    exact this
  have hBY3 := hBU2.trans (hbY3.mono hBU2.size)
  clear hY3
  replace gr1 := gr1.below hbY3 (Nat.le_refl _)
  replace x1 := x1.below hbY3 x1.lt
  replace gr2 := gr2.below hbY3 (Nat.le_refl _)
  replace x2 := x2.below hbY3 x2.lt
  have hone := one_any [⟨⟨0, [0]⟩, some ⟨U2.heap.size, 0, none⟩, 1⟩, ⟨⟨0, []⟩, none, 0⟩] (U2.heap.size + 1) 2 Y3 (by simp) (fun i x hx => by
      match i, hx with
      | 0, hx => cases hx; exact rY3_1.cell (q := 0) rfl
      | 1, hx => cases hx; exact rY3_1.cell (q := 1) rfl) (fun x hx => by
      simp at hx
      rcases hx with rfl | rfl
      · exact ⟨rfl, fun i x hx => ⟨_, 0, rfl, by
          rw [Nat.zero_add]
          match i, hx with
          | 0, hx => cases hx; exact rY3_0.cell (q := 0) rfl⟩⟩
      · exact ⟨rfl, fun i x hx => by cases hx⟩)
  clear rY3_0 rY3_1
  go_wp2_with (first | rw [← HW1.out] | rw [← HY2.out] | rw [← HV2.out] | rw [← HU2.out] | rw [← HY3.out])
  refine hone.mono ?_
  rintro e z3 ⟨⟨ta3, na3, ra3, rc3, rfl, gg3⟩, hbz3⟩
  have hBz3 := hBY3.trans (hbz3.mono hBY3.size)
  replace gr1 := gr1.below hbz3 (Nat.le_refl _)
  replace x1 := x1.below hbz3 x1.lt
  replace gr2 := gr2.below hbz3 (Nat.le_refl _)
  replace x2 := x2.below hbz3 x2.lt
  clear hone hbz3
  obtain ⟨V3, hV3⟩ : ∃ V3, V3 = (z3.alloc (.cells #[.slice ta3 2 2, .slice na3 1 1, .int .i64 0, .slice ra3 2 rc3] 25)).alloc (.cells #[.string ⟨#[97]⟩] 9) := ⟨_, rfl⟩
  have HV3 : Hid (_) := hV3
  have hbV3 : Below z3.heap.size z3 V3 := by rw [hV3]; exact ((Below.refl _ _).alloc (Nat.le_refl _) _).alloc (by simp only [World.size_alloc]; omega) _
  have rV3_0 : RowAt V3 (z3.heap.size) 25 #[.slice ta3 2 2, .slice na3 1 1, .int .i64 0, .slice ra3 2 rc3] := by
    rw [hV3]
    have := (RowAt.alloc (World.alloc_heap_new z3 (.cells #[.slice ta3 2 2, .slice na3 1 1, .int .i64 0, .slice ra3 2 rc3] 25)) (.cells #[.string ⟨#[97]⟩] 9))
    try simp only [World.size_alloc] at this
    exact this
  have rV3_1 : RowAt V3 (z3.heap.size + 1) 9 #[.string ⟨#[97]⟩] := by
    rw [hV3]
    have := (World.alloc_heap_new (z3.alloc (.cells #[.slice ta3 2 2, .slice na3 1 1, .int .i64 0, .slice ra3 2 rc3] 25)) (.cells #[.string ⟨#[97]⟩] 9))
    try simp only [World.size_alloc] at this
    exact this
  have hBV3 := hBz3.trans (hbV3.mono hBz3.size)
  clear hV3
  obtain ⟨U3, hU3⟩ : ∃ U3, U3 = V3.setCell ⟨z3.heap.size, 0, none⟩ (.slice (some ⟨z3.heap.size + 1, 0, none⟩) 1 1) := ⟨_, rfl⟩
  have HU3 : Hid (_) := hU3
  have f3 := rV3_0.frozen 0
  have y3 := rV3_0.cell (q := 0) rfl
  have hbU3 : Below z3.heap.size z3 U3 := by rw [hU3]; exact hbV3.setCell (p := ⟨z3.heap.size, 0, none⟩) (Nat.le_refl _) _
  have hBU3 := hBz3.trans (hbU3.mono hBz3.size)
  replace gr1 := gr1.below hbU3 (Nat.le_refl _)
  replace x1 := x1.below hbU3 x1.lt
  replace gr2 := gr2.below hbU3 (Nat.le_refl _)
  replace x2 := x2.below hbU3 x2.lt
  replace gg3 := gg3.below hbU3 (Nat.le_refl _)
  have x3 : RowAt U3 z3.heap.size 25 #[.slice (some ⟨z3.heap.size + 1, 0, none⟩) 1 1, .slice na3 1 1, .int .i64 0, .slice ra3 2 rc3] := by rw [hU3]; exact rV3_0.set 0 _
  have t3 : RowAt U3 (z3.heap.size + 1) 9 #[.string ⟨#[97]⟩] := by rw [hU3]; exact (Below.heap_setCell _ _ _ _ (show z3.heap.size + 1 ≠ z3.heap.size by omega)).trans rV3_1
  have gr3 : GRow U3 (some ⟨z3.heap.size + 1, 0, none⟩) na3 ra3 g3 := ⟨fun i x hx => ⟨_, 0, rfl, by
    match i, hx with
    | 0, hx => cases hx; exact t3.cell (q := 0) rfl⟩, gg3.2.1, gg3.2.2⟩
  clear hU3 gg3 hbU3 hbV3 rV3_0 hBV3 hBz3 rV3_1 t3
  obtain ⟨Y4, hY4⟩ : ∃ Y4, Y4 = (U3.alloc (.cells #[.int .i64 0] 3)).alloc (.cells #[.slice none 0 0, .slice (some ⟨U3.heap.size, 0, none⟩) 1 1] 34) := ⟨_, rfl⟩
  have HY4 : Hid (_) := hY4
  have hbY4 : Below U3.heap.size U3 Y4 := by rw [hY4]; exact ((Below.refl _ _).alloc (Nat.le_refl _) _).alloc (by simp only [World.size_alloc]; omega) _
  have rY4_0 : RowAt Y4 (U3.heap.size) 3 #[.int .i64 0] := by
    rw [hY4]
    have := (RowAt.alloc (World.alloc_heap_new U3 (.cells #[.int .i64 0] 3)) (.cells #[.slice none 0 0, .slice (some ⟨U3.heap.size, 0, none⟩) 1 1] 34))
    try simp only [World.size_alloc] at this
    exact this
  have rY4_1 : RowAt Y4 (U3.heap.size + 1) 34 #[.slice none 0 0, .slice (some ⟨U3.heap.size, 0, none⟩) 1 1] := by
    rw [hY4]
    have := (World.alloc_heap_new (U3.alloc (.cells #[.int .i64 0] 3)) (.cells #[.slice none 0 0, .slice (some ⟨U3.heap.size, 0, none⟩) 1 1] 34))
    try simp only [World.size_alloc] at this
    exact this
  have hBY4 := hBU3.trans (hbY4.mono hBU3.size)
  clear hY4
  replace gr1 := gr1.below hbY4 (Nat.le_refl _)
  replace x1 := x1.below hbY4 x1.lt
  replace gr2 := gr2.below hbY4 (Nat.le_refl _)
  replace x2 := x2.below hbY4 x2.lt
  replace gr3 := gr3.below hbY4 (Nat.le_refl _)
  replace x3 := x3.below hbY4 x3.lt
  have hone := one_any [⟨⟨0, []⟩, none, 0⟩, ⟨⟨0, [0]⟩, some ⟨U3.heap.size, 0, none⟩, 1⟩] (U3.heap.size + 1) 2 Y4 (by simp) (fun i x hx => by
      match i, hx with
      | 0, hx => cases hx; exact rY4_1.cell (q := 0) rfl
      | 1, hx => cases hx; exact rY4_1.cell (q := 1) rfl) (fun x hx => by
      simp at hx
      rcases hx with rfl | rfl
      · exact ⟨rfl, fun i x hx => by cases hx⟩
      · exact ⟨rfl, fun i x hx => ⟨_, 0, rfl, by
          rw [Nat.zero_add]
          match i, hx with
          | 0, hx => cases hx; exact rY4_0.cell (q := 0) rfl⟩⟩)
  clear rY4_0 rY4_1
  go_wp2_with (first | rw [← HW1.out] | rw [← HY2.out] | rw [← HV2.out] | rw [← HU2.out] | rw [← HY3.out] | rw [← HV3.out] | rw [← HU3.out] | rw [← HY4.out])
  refine hone.mono ?_
  rintro e z4 ⟨⟨ta4, na4, ra4, rc4, rfl, gg4⟩, hbz4⟩
  have hBz4 := hBY4.trans (hbz4.mono hBY4.size)
  replace gr1 := gr1.below hbz4 (Nat.le_refl _)
  replace x1 := x1.below hbz4 x1.lt
  replace gr2 := gr2.below hbz4 (Nat.le_refl _)
  replace x2 := x2.below hbz4 x2.lt
  replace gr3 := gr3.below hbz4 (Nat.le_refl _)
  replace x3 := x3.below hbz4 x3.lt
  clear hone hbz4
  obtain ⟨V4, hV4⟩ : ∃ V4, V4 = (z4.alloc (.cells #[.slice ta4 2 2, .slice na4 1 1, .int .i64 0, .slice ra4 2 rc4] 25)).alloc (.cells #[.string ⟨#[97]⟩] 9) := ⟨_, rfl⟩
  have HV4 : Hid (_) := hV4
  have hbV4 : Below z4.heap.size z4 V4 := by rw [hV4]; exact ((Below.refl _ _).alloc (Nat.le_refl _) _).alloc (by simp only [World.size_alloc]; omega) _
  have rV4_0 : RowAt V4 (z4.heap.size) 25 #[.slice ta4 2 2, .slice na4 1 1, .int .i64 0, .slice ra4 2 rc4] := by
    rw [hV4]
    have := (RowAt.alloc (World.alloc_heap_new z4 (.cells #[.slice ta4 2 2, .slice na4 1 1, .int .i64 0, .slice ra4 2 rc4] 25)) (.cells #[.string ⟨#[97]⟩] 9))
    try simp only [World.size_alloc] at this
    exact this
  have rV4_1 : RowAt V4 (z4.heap.size + 1) 9 #[.string ⟨#[97]⟩] := by
    rw [hV4]
    have := (World.alloc_heap_new (z4.alloc (.cells #[.slice ta4 2 2, .slice na4 1 1, .int .i64 0, .slice ra4 2 rc4] 25)) (.cells #[.string ⟨#[97]⟩] 9))
    try simp only [World.size_alloc] at this
    exact this
  have hBV4 := hBz4.trans (hbV4.mono hBz4.size)
  clear hV4
  obtain ⟨U4, hU4⟩ : ∃ U4, U4 = V4.setCell ⟨z4.heap.size, 0, none⟩ (.slice (some ⟨z4.heap.size + 1, 0, none⟩) 1 1) := ⟨_, rfl⟩
  have HU4 : Hid (_) := hU4
  have f4 := rV4_0.frozen 0
  have y4 := rV4_0.cell (q := 0) rfl
  have hbU4 : Below z4.heap.size z4 U4 := by rw [hU4]; exact hbV4.setCell (p := ⟨z4.heap.size, 0, none⟩) (Nat.le_refl _) _
  have hBU4 := hBz4.trans (hbU4.mono hBz4.size)
  replace gr1 := gr1.below hbU4 (Nat.le_refl _)
  replace x1 := x1.below hbU4 x1.lt
  replace gr2 := gr2.below hbU4 (Nat.le_refl _)
  replace x2 := x2.below hbU4 x2.lt
  replace gr3 := gr3.below hbU4 (Nat.le_refl _)
  replace x3 := x3.below hbU4 x3.lt
  replace gg4 := gg4.below hbU4 (Nat.le_refl _)
  have x4 : RowAt U4 z4.heap.size 25 #[.slice (some ⟨z4.heap.size + 1, 0, none⟩) 1 1, .slice na4 1 1, .int .i64 0, .slice ra4 2 rc4] := by rw [hU4]; exact rV4_0.set 0 _
  have t4 : RowAt U4 (z4.heap.size + 1) 9 #[.string ⟨#[97]⟩] := by rw [hU4]; exact (Below.heap_setCell _ _ _ _ (show z4.heap.size + 1 ≠ z4.heap.size by omega)).trans rV4_1
  have gr4 : GRow U4 (some ⟨z4.heap.size + 1, 0, none⟩) na4 ra4 g4 := ⟨fun i x hx => ⟨_, 0, rfl, by
    match i, hx with
    | 0, hx => cases hx; exact t4.cell (q := 0) rfl⟩, gg4.2.1, gg4.2.2⟩
  clear hU4 gg4 hbU4 hbV4 rV4_0 hBV4 hBz4 rV4_1 t4
  have haw := awake_any p U4 (h.below hBU4)
  go_wp2_with (first | rw [← HW1.out] | rw [← HY2.out] | rw [← HV2.out] | rw [← HU2.out] | rw [← HY3.out] | rw [← HV3.out] | rw [← HU3.out] | rw [← HY4.out] | rw [← HV4.out] | rw [← HU4.out])
  refine haw.mono ?_
  rintro e w1 ⟨rfl, hbw1⟩
  have hBw1 := hBU4.trans (hbw1.mono hBU4.size)
  replace gr1 := gr1.below hbw1 (Nat.le_refl _)
  replace x1 := x1.below hbw1 x1.lt
  replace gr2 := gr2.below hbw1 (Nat.le_refl _)
  replace x2 := x2.below hbw1 x2.lt
  replace gr3 := gr3.below hbw1 (Nat.le_refl _)
  replace x3 := x3.below hbw1 x3.lt
  replace gr4 := gr4.below hbw1 (Nat.le_refl _)
  replace x4 := x4.below hbw1 x4.lt
  clear haw hbw1 hBU4
  have his := is_true t1 (some ⟨w.heap.size, 0, none⟩) (some ⟨w.heap.size + 1, 0, none⟩) (some ⟨w.heap.size + 1 + 1 + 1 + 1 + 1 + 1, 0, none⟩) 3 2 4 g1 p w1 (by decide) (short_split _ (by decide)) (h.below hBw1) gr1 k1 (okL (sidesZ t1)) s1 m1 c1 (GramSame.eqG_refl g1)
  have y0 := x1.cell (q := 0) rfl
  have y1 := x1.cell (q := 1) rfl
  have y2 := x1.cell (q := 2) rfl
  have y3 := x1.cell (q := 3) rfl
  go_wp2_with (first | rw [← HW1.out] | rw [← HY2.out] | rw [← HV2.out] | rw [← HU2.out] | rw [← HY3.out] | rw [← HV3.out] | rw [← HU3.out] | rw [← HY4.out] | rw [← HV4.out] | rw [← HU4.out])
  refine his.mono ?_
  rintro e w2 ⟨rfl, hbw2⟩
  have hBw2 := hBw1.trans (hbw2.mono hBw1.size)
  replace gr2 := gr2.below hbw2 (Nat.le_refl _)
  replace x2 := x2.below hbw2 x2.lt
  replace gr3 := gr3.below hbw2 (Nat.le_refl _)
  replace x3 := x3.below hbw2 x3.lt
  replace gr4 := gr4.below hbw2 (Nat.le_refl _)
  replace x4 := x4.below hbw2 x4.lt
  clear x1 gr1 y0 y1 y2 y3
  clear his hbw2 hBw1
  have his := is_true t2 none na2 ra2 0 1 rc2 g2 p w2 (by decide) (short_split _ (by decide)) (h.below hBw2) gr2 k2 (okL (sidesZ t2)) s2 m2 c2 (GramSame.eqG_refl g2)
  have y0 := x2.cell (q := 0) rfl
  have y1 := x2.cell (q := 1) rfl
  have y2 := x2.cell (q := 2) rfl
  have y3 := x2.cell (q := 3) rfl
  go_wp2_with (first | rw [← HW1.out] | rw [← HY2.out] | rw [← HV2.out] | rw [← HU2.out] | rw [← HY3.out] | rw [← HV3.out] | rw [← HU3.out] | rw [← HY4.out] | rw [← HV4.out] | rw [← HU4.out])
  refine his.mono ?_
  rintro e w3 ⟨rfl, hbw3⟩
  have hBw3 := hBw2.trans (hbw3.mono hBw2.size)
  replace gr3 := gr3.below hbw3 (Nat.le_refl _)
  replace x3 := x3.below hbw3 x3.lt
  replace gr4 := gr4.below hbw3 (Nat.le_refl _)
  replace x4 := x4.below hbw3 x4.lt
  clear x2 gr2 y0 y1 y2 y3
  clear his hbw3 hBw2
  have his := is_true t3 (some ⟨z3.heap.size + 1, 0, none⟩) na3 ra3 1 1 rc3 g3 p w3 (by decide) (short_split _ (by decide)) (h.below hBw3) gr3 k3 (okL (sidesZ t3)) s3 m3 c3 (GramSame.eqG_refl g3)
  have y0 := x3.cell (q := 0) rfl
  have y1 := x3.cell (q := 1) rfl
  have y2 := x3.cell (q := 2) rfl
  have y3 := x3.cell (q := 3) rfl
  go_wp2_with (first | rw [← HW1.out] | rw [← HY2.out] | rw [← HV2.out] | rw [← HU2.out] | rw [← HY3.out] | rw [← HV3.out] | rw [← HU3.out] | rw [← HY4.out] | rw [← HV4.out] | rw [← HU4.out])
  refine his.mono ?_
  rintro e w4 ⟨rfl, hbw4⟩
  have hBw4 := hBw3.trans (hbw4.mono hBw3.size)
  replace gr4 := gr4.below hbw4 (Nat.le_refl _)
  replace x4 := x4.below hbw4 x4.lt
  clear x3 gr3 y0 y1 y2 y3
  clear his hbw4 hBw3
  have his := is_true t4 (some ⟨z4.heap.size + 1, 0, none⟩) na4 ra4 1 1 rc4 g4 p w4 (by decide) (short_split _ (by decide)) (h.below hBw4) gr4 k4 (okL (sidesZ t4)) s4 m4 c4 (GramSame.eqG_refl g4)
  have y0 := x4.cell (q := 0) rfl
  have y1 := x4.cell (q := 1) rfl
  have y2 := x4.cell (q := 2) rfl
  have y3 := x4.cell (q := 3) rfl
  go_wp2_with (first | rw [← HW1.out] | rw [← HY2.out] | rw [← HV2.out] | rw [← HU2.out] | rw [← HY3.out] | rw [← HV3.out] | rw [← HU3.out] | rw [← HY4.out] | rw [← HV4.out] | rw [← HU4.out])
  refine his.mono ?_
  rintro e w5 ⟨rfl, hbw5⟩
  have hBw5 := hBw4.trans (hbw5.mono hBw4.size)
  clear x4 gr4 y0 y1 y2 y3
  clear his hbw5 hBw4
  have hwr := wrong_any u0 p w5 (by decide) (short_split _ (by decide)) (h.below hBw5)
  rw [e0, show ((kZ (.error 6 : Except Nat (List Sd)) : Nat) : Int) = 2 from rfl, show pZ (.error 6 : Except Nat (List Sd)) = 6 from rfl] at hwr
  go_wp2_with (first | rw [← HW1.out] | rw [← HY2.out] | rw [← HV2.out] | rw [← HU2.out] | rw [← HY3.out] | rw [← HV3.out] | rw [← HU3.out] | rw [← HY4.out] | rw [← HV4.out] | rw [← HU4.out])
  refine hwr.mono ?_
  rintro e w6 ⟨rfl, hbw6⟩
  have hBw6 := hBw5.trans (hbw6.mono hBw5.size)
  clear hwr hbw6 hBw5
  have hwr := wrong_any u1 p w6 (by decide) (short_split _ (by decide)) (h.below hBw6)
  rw [e1, show ((kZ (.error 0 : Except Nat (List Sd)) : Nat) : Int) = 2 from rfl, show pZ (.error 0 : Except Nat (List Sd)) = 0 from rfl] at hwr
  go_wp2_with (first | rw [← HW1.out] | rw [← HY2.out] | rw [← HV2.out] | rw [← HU2.out] | rw [← HY3.out] | rw [← HV3.out] | rw [← HU3.out] | rw [← HY4.out] | rw [← HV4.out] | rw [← HU4.out])
  refine hwr.mono ?_
  rintro e w7 ⟨rfl, hbw7⟩
  have hBw7 := hBw6.trans (hbw7.mono hBw6.size)
  clear hwr hbw7 hBw6
  have hwr := wrong_any u2 p w7 (by decide) (short_split _ (by decide)) (h.below hBw7)
  rw [e2, show ((kZ (.error 1 : Except Nat (List Sd)) : Nat) : Int) = 2 from rfl, show pZ (.error 1 : Except Nat (List Sd)) = 1 from rfl] at hwr
  go_wp2_with (first | rw [← HW1.out] | rw [← HY2.out] | rw [← HV2.out] | rw [← HU2.out] | rw [← HY3.out] | rw [← HV3.out] | rw [← HU3.out] | rw [← HY4.out] | rw [← HV4.out] | rw [← HU4.out])
  refine hwr.mono ?_
  rintro e w8 ⟨rfl, hbw8⟩
  have hBw8 := hBw7.trans (hbw8.mono hBw7.size)
  clear hwr hbw8 hBw7
  have hwr := wrong_any u3 p w8 (by decide) (short_split _ (by decide)) (h.below hBw8)
  rw [e3, show ((kZ (.error 0 : Except Nat (List Sd)) : Nat) : Int) = 2 from rfl, show pZ (.error 0 : Except Nat (List Sd)) = 0 from rfl] at hwr
  go_wp2_with (first | rw [← HW1.out] | rw [← HY2.out] | rw [← HV2.out] | rw [← HU2.out] | rw [← HY3.out] | rw [← HV3.out] | rw [← HU3.out] | rw [← HY4.out] | rw [← HV4.out] | rw [← HU4.out])
  refine hwr.mono ?_
  rintro e w9 ⟨rfl, hbw9⟩
  have hBw9 := hBw8.trans (hbw9.mono hBw8.size)
  clear hwr hbw9 hBw8
  have hwr := wrong_any u4 p w9 (by decide) (short_split _ (by decide)) (h.below hBw9)
  rw [e4, show ((kZ (.error 0 : Except Nat (List Sd)) : Nat) : Int) = 2 from rfl, show pZ (.error 0 : Except Nat (List Sd)) = 0 from rfl] at hwr
  go_wp2_with (first | rw [← HW1.out] | rw [← HY2.out] | rw [← HV2.out] | rw [← HU2.out] | rw [← HY3.out] | rw [← HV3.out] | rw [← HU3.out] | rw [← HY4.out] | rw [← HV4.out] | rw [← HU4.out])
  refine hwr.mono ?_
  rintro e w10 ⟨rfl, hbw10⟩
  have hBw10 := hBw9.trans (hbw10.mono hBw9.size)
  clear hwr hbw10 hBw9
  have hwr := wrong_any u5 p w10 (by decide) (short_split _ (by decide)) (h.below hBw10)
  rw [e5, show ((kZ (.error 2 : Except Nat (List Sd)) : Nat) : Int) = 2 from rfl, show pZ (.error 2 : Except Nat (List Sd)) = 2 from rfl] at hwr
  go_wp2_with (first | rw [← HW1.out] | rw [← HY2.out] | rw [← HV2.out] | rw [← HU2.out] | rw [← HY3.out] | rw [← HV3.out] | rw [← HU3.out] | rw [← HY4.out] | rw [← HV4.out] | rw [← HU4.out])
  refine hwr.mono ?_
  rintro e w11 ⟨rfl, hbw11⟩
  have hBw11 := hBw10.trans (hbw11.mono hBw10.size)
  clear hwr hbw11 hBw10
  have hwr := wrong_any u6 p w11 (by decide) (short_split _ (by decide)) (h.below hBw11)
  rw [e6, show ((kZ (.error 4 : Except Nat (List Sd)) : Nat) : Int) = 2 from rfl, show pZ (.error 4 : Except Nat (List Sd)) = 4 from rfl] at hwr
  go_wp2_with (first | rw [← HW1.out] | rw [← HY2.out] | rw [← HV2.out] | rw [← HU2.out] | rw [← HY3.out] | rw [← HV3.out] | rw [← HU3.out] | rw [← HY4.out] | rw [← HV4.out] | rw [← HU4.out])
  refine hwr.mono ?_
  rintro e w12 ⟨rfl, hbw12⟩
  have hBw12 := hBw11.trans (hbw12.mono hBw11.size)
  clear hwr hbw12 hBw11
  have hrd := read_st rd p w12 (by decide) (short_split _ (by decide)) (h.below hBw12)
  go_wp2_with (first | rw [← HW1.out] | rw [← HY2.out] | rw [← HV2.out] | rw [← HU2.out] | rw [← HY3.out] | rw [← HV3.out] | rw [← HU3.out] | rw [← HY4.out] | rw [← HV4.out] | rw [← HU4.out])
  refine hrd.mono ?_
  rintro e w13 ⟨hr, hbw13⟩
  obtain ⟨x0d, n0d, c0d, x1d, n1d, c1d, axd, x3d, n3d, c3d, vd, rfl, vvd⟩ := read_tells hr
  have hBw13 := hBw12.trans (hbw13.mono hBw12.size)
  clear hrd hr hbw13 hBw12
  obtain ⟨Xd, hXd⟩ : ∃ Xd, Xd = w13.alloc (.cells #[.slice x0d n0d c0d, .slice x1d n1d c1d, .int .i64 axd, .slice x3d n3d c3d] 25) := ⟨_, rfl⟩
  have HXd : Hid (_) := hXd
  have hbXd : Below w13.heap.size w13 Xd := by rw [hXd]; exact (Below.refl _ _).alloc (Nat.le_refl _) _
  have rXd_0 : RowAt Xd (w13.heap.size) 25 #[.slice x0d n0d c0d, .slice x1d n1d c1d, .int .i64 axd, .slice x3d n3d c3d] := by
    rw [hXd]
    have := (World.alloc_heap_new w13 (.cells #[.slice x0d n0d c0d, .slice x1d n1d c1d, .int .i64 axd, .slice x3d n3d c3d] 25))
    try simp only [World.size_alloc] at this
    exact this
  have hBXd := hBw13.trans (hbXd.mono hBw13.size)
  clear hXd
  replace vvd := vvd.below hbXd
  clear hbXd rXd_0 hBw13
  have hmn : Calls Tryz.prog 22 #[.string ⟨#[32, 97]⟩, .int .i64 32] Xd _ := many_any [32, 97] 32 Xd (by omega) (by decide)
  go_wp2_with (first | rw [← HW1.out] | rw [← HY2.out] | rw [← HV2.out] | rw [← HU2.out] | rw [← HY3.out] | rw [← HV3.out] | rw [← HU3.out] | rw [← HY4.out] | rw [← HV4.out] | rw [← HU4.out] | rw [← HXd.out])
  refine hmn.mono ?_
  rintro e w14 ⟨rfl, hbw14⟩
  have hBw14 := hBXd.trans (hbw14.mono hBXd.size)
  replace vvd := vvd.below hbw14
  clear hmn hbw14 hBXd
  obtain ⟨Se, hSe⟩ : ∃ S, S = (⟨(manyL [32, 97] 32).toArray⟩ : ByteArray) := ⟨_, rfl⟩
  rw [← hSe]
  have hze : Se.size = 64 := by rw [hSe]; kernel_rfl
  have hce : Hid ((⟨#[83, 32, 58]⟩ : ByteArray) ++ Se = ⟨re.toArray⟩) := by
    show _ = _
    rw [hSe]
    exact bytes_app [83, 32, 58] (manyL [32, 97] 32)
  clear hSe
  have hrd := read_st re p w14 (by decide) (short_split _ (by decide)) (h.below hBw14)
  go_wp2_with (first | rw [hce.out] | rw [← HW1.out] | rw [← HY2.out] | rw [← HV2.out] | rw [← HU2.out] | rw [← HY3.out] | rw [← HV3.out] | rw [← HU3.out] | rw [← HY4.out] | rw [← HV4.out] | rw [← HU4.out] | rw [← HXd.out])
  refine hrd.mono ?_
  rintro e w15 ⟨hr, hbw15⟩
  obtain ⟨x0e, n0e, c0e, x1e, n1e, c1e, axe, x3e, n3e, c3e, ve, rfl, vve⟩ := read_tells hr
  have hBw15 := hBw14.trans (hbw15.mono hBw14.size)
  replace vvd := vvd.below hbw15
  obtain rfl := erv_nil vve re_k
  clear vve
  clear hrd hr hbw15 hBw14 hze hce
  obtain ⟨Xe, hXe⟩ : ∃ Xe, Xe = w15.alloc (.cells #[.slice x0e n0e c0e, .slice x1e n1e c1e, .int .i64 axe, .slice x3e n3e c3e] 25) := ⟨_, rfl⟩
  have HXe : Hid (_) := hXe
  have hbXe : Below w15.heap.size w15 Xe := by rw [hXe]; exact (Below.refl _ _).alloc (Nat.le_refl _) _
  have rXe_0 : RowAt Xe (w15.heap.size) 25 #[.slice x0e n0e c0e, .slice x1e n1e c1e, .int .i64 axe, .slice x3e n3e c3e] := by
    rw [hXe]
    have := (World.alloc_heap_new w15 (.cells #[.slice x0e n0e c0e, .slice x1e n1e c1e, .int .i64 axe, .slice x3e n3e c3e] 25))
    try simp only [World.size_alloc] at this
    exact this
  have hBXe := hBw15.trans (hbXe.mono hBw15.size)
  clear hXe
  replace vvd := vvd.below hbXe
  clear hbXe rXe_0 hBw15
  have hmn : Calls Tryz.prog 22 #[.string ⟨#[32, 97]⟩, .int .i64 33] Xe _ := many_any [32, 97] 33 Xe (by omega) (by decide)
  go_wp2_with (first | rw [← HW1.out] | rw [← HY2.out] | rw [← HV2.out] | rw [← HU2.out] | rw [← HY3.out] | rw [← HV3.out] | rw [← HU3.out] | rw [← HY4.out] | rw [← HV4.out] | rw [← HU4.out] | rw [← HXd.out] | rw [← HXe.out])
  refine hmn.mono ?_
  rintro e w16 ⟨rfl, hbw16⟩
  have hBw16 := hBXe.trans (hbw16.mono hBXe.size)
  replace vvd := vvd.below hbw16
  clear hmn hbw16 hBXe
  obtain ⟨Sf, hSf⟩ : ∃ S, S = (⟨(manyL [32, 97] 33).toArray⟩ : ByteArray) := ⟨_, rfl⟩
  rw [← hSf]
  have hzf : Sf.size = 66 := by rw [hSf]; kernel_rfl
  have hcf : Hid ((⟨#[83, 32, 58, 32, 97, 10, 83, 32, 58]⟩ : ByteArray) ++ Sf = ⟨rf.toArray⟩) := by
    show _ = _
    rw [hSf]
    exact bytes_app [83, 32, 58, 32, 97, 10, 83, 32, 58] (manyL [32, 97] 33)
  clear hSf
  have hrd := read_st rf p w16 (by decide) (short_split _ (by decide)) (h.below hBw16)
  go_wp2_with (first | rw [hcf.out] | rw [← HW1.out] | rw [← HY2.out] | rw [← HV2.out] | rw [← HU2.out] | rw [← HY3.out] | rw [← HV3.out] | rw [← HU3.out] | rw [← HY4.out] | rw [← HV4.out] | rw [← HU4.out] | rw [← HXd.out] | rw [← HXe.out])
  refine hrd.mono ?_
  rintro e w17 ⟨hr, hbw17⟩
  obtain ⟨x0f, n0f, c0f, x1f, n1f, c1f, axf, x3f, n3f, c3f, vf, rfl, vvf⟩ := read_tells hr
  have hBw17 := hBw16.trans (hbw17.mono hBw16.size)
  replace vvd := vvd.below hbw17
  clear hrd hr hbw17 hBw16 hzf hcf
  obtain ⟨Xf, hXf⟩ : ∃ Xf, Xf = w17.alloc (.cells #[.slice x0f n0f c0f, .slice x1f n1f c1f, .int .i64 axf, .slice x3f n3f c3f] 25) := ⟨_, rfl⟩
  have HXf : Hid (_) := hXf
  have hbXf : Below w17.heap.size w17 Xf := by rw [hXf]; exact (Below.refl _ _).alloc (Nat.le_refl _) _
  have rXf_0 : RowAt Xf (w17.heap.size) 25 #[.slice x0f n0f c0f, .slice x1f n1f c1f, .int .i64 axf, .slice x3f n3f c3f] := by
    rw [hXf]
    have := (World.alloc_heap_new w17 (.cells #[.slice x0f n0f c0f, .slice x1f n1f c1f, .int .i64 axf, .slice x3f n3f c3f] 25))
    try simp only [World.size_alloc] at this
    exact this
  have hBXf := hBw17.trans (hbXf.mono hBw17.size)
  clear hXf
  replace vvd := vvd.below hbXf
  replace vvf := vvf.below hbXf
  clear hbXf rXf_0 hBw17
  have hmn : Calls Tryz.prog 22 #[.string ⟨#[32, 124]⟩, .int .i64 119] Xf _ := many_any [32, 124] 119 Xf (by omega) (by decide)
  go_wp2_with (first | rw [← HW1.out] | rw [← HY2.out] | rw [← HV2.out] | rw [← HU2.out] | rw [← HY3.out] | rw [← HV3.out] | rw [← HU3.out] | rw [← HY4.out] | rw [← HV4.out] | rw [← HU4.out] | rw [← HXd.out] | rw [← HXe.out] | rw [← HXf.out])
  refine hmn.mono ?_
  rintro e w18 ⟨rfl, hbw18⟩
  have hBw18 := hBXf.trans (hbw18.mono hBXf.size)
  replace vvd := vvd.below hbw18
  replace vvf := vvf.below hbw18
  clear hmn hbw18 hBXf
  obtain ⟨Sh, hSh⟩ : ∃ S, S = (⟨(manyL [32, 124] 119).toArray⟩ : ByteArray) := ⟨_, rfl⟩
  rw [← hSh]
  have hzh : Sh.size = 238 := by rw [hSh]; kernel_rfl
  have hch : Hid ((⟨#[83, 32, 58]⟩ : ByteArray) ++ Sh = ⟨rh.toArray⟩) := by
    show _ = _
    rw [hSh]
    exact bytes_app [83, 32, 58] (manyL [32, 124] 119)
  clear hSh
  have hrd := read_st rh p w18 (by decide) (short_split _ (by decide)) (h.below hBw18)
  go_wp2_with (first | rw [hch.out] | rw [← HW1.out] | rw [← HY2.out] | rw [← HV2.out] | rw [← HU2.out] | rw [← HY3.out] | rw [← HV3.out] | rw [← HU3.out] | rw [← HY4.out] | rw [← HV4.out] | rw [← HU4.out] | rw [← HXd.out] | rw [← HXe.out] | rw [← HXf.out])
  refine hrd.mono ?_
  rintro e w19 ⟨hr, hbw19⟩
  obtain ⟨x0h, n0h, c0h, x1h, n1h, c1h, axh, x3h, n3h, c3h, vh, rfl, vvh⟩ := read_tells hr
  have hBw19 := hBw18.trans (hbw19.mono hBw18.size)
  replace vvd := vvd.below hbw19
  replace vvf := vvf.below hbw19
  obtain rfl := erv_nil vvh rh_k
  clear vvh
  clear hrd hr hbw19 hBw18 hzh hch
  obtain ⟨Xh, hXh⟩ : ∃ Xh, Xh = w19.alloc (.cells #[.slice x0h n0h c0h, .slice x1h n1h c1h, .int .i64 axh, .slice x3h n3h c3h] 25) := ⟨_, rfl⟩
  have HXh : Hid (_) := hXh
  have hbXh : Below w19.heap.size w19 Xh := by rw [hXh]; exact (Below.refl _ _).alloc (Nat.le_refl _) _
  have rXh_0 : RowAt Xh (w19.heap.size) 25 #[.slice x0h n0h c0h, .slice x1h n1h c1h, .int .i64 axh, .slice x3h n3h c3h] := by
    rw [hXh]
    have := (World.alloc_heap_new w19 (.cells #[.slice x0h n0h c0h, .slice x1h n1h c1h, .int .i64 axh, .slice x3h n3h c3h] 25))
    try simp only [World.size_alloc] at this
    exact this
  have hBXh := hBw19.trans (hbXh.mono hBw19.size)
  clear hXh
  replace vvd := vvd.below hbXh
  replace vvf := vvf.below hbXh
  clear hbXh rXh_0 hBw19
  have hmn : Calls Tryz.prog 22 #[.string ⟨#[32, 124]⟩, .int .i64 120] Xh _ := many_any [32, 124] 120 Xh (by omega) (by decide)
  go_wp2_with (first | rw [← HW1.out] | rw [← HY2.out] | rw [← HV2.out] | rw [← HU2.out] | rw [← HY3.out] | rw [← HV3.out] | rw [← HU3.out] | rw [← HY4.out] | rw [← HV4.out] | rw [← HU4.out] | rw [← HXd.out] | rw [← HXe.out] | rw [← HXf.out] | rw [← HXh.out])
  refine hmn.mono ?_
  rintro e w20 ⟨rfl, hbw20⟩
  have hBw20 := hBXh.trans (hbw20.mono hBXh.size)
  replace vvd := vvd.below hbw20
  replace vvf := vvf.below hbw20
  clear hmn hbw20 hBXh
  obtain ⟨Si, hSi⟩ : ∃ S, S = (⟨(manyL [32, 124] 120).toArray⟩ : ByteArray) := ⟨_, rfl⟩
  rw [← hSi]
  have hzi : Si.size = 240 := by rw [hSi]; kernel_rfl
  have hci : Hid ((⟨#[83, 32, 58]⟩ : ByteArray) ++ Si = ⟨ri.toArray⟩) := by
    show _ = _
    rw [hSi]
    exact bytes_app [83, 32, 58] (manyL [32, 124] 120)
  clear hSi
  have hrd := read_st ri p w20 (by decide) (short_split _ (by decide)) (h.below hBw20)
  go_wp2_with (first | rw [hci.out] | rw [← HW1.out] | rw [← HY2.out] | rw [← HV2.out] | rw [← HU2.out] | rw [← HY3.out] | rw [← HV3.out] | rw [← HU3.out] | rw [← HY4.out] | rw [← HV4.out] | rw [← HU4.out] | rw [← HXd.out] | rw [← HXe.out] | rw [← HXf.out] | rw [← HXh.out])
  refine hrd.mono ?_
  rintro e w21 ⟨hr, hbw21⟩
  obtain ⟨x0i, n0i, c0i, x1i, n1i, c1i, axi, x3i, n3i, c3i, vi, rfl, vvi⟩ := read_tells hr
  have hBw21 := hBw20.trans (hbw21.mono hBw20.size)
  replace vvd := vvd.below hbw21
  replace vvf := vvf.below hbw21
  clear hrd hr hbw21 hBw20 hzi hci
  obtain ⟨Xi, hXi⟩ : ∃ Xi, Xi = w21.alloc (.cells #[.slice x0i n0i c0i, .slice x1i n1i c1i, .int .i64 axi, .slice x3i n3i c3i] 25) := ⟨_, rfl⟩
  have HXi : Hid (_) := hXi
  have hbXi : Below w21.heap.size w21 Xi := by rw [hXi]; exact (Below.refl _ _).alloc (Nat.le_refl _) _
  have rXi_0 : RowAt Xi (w21.heap.size) 25 #[.slice x0i n0i c0i, .slice x1i n1i c1i, .int .i64 axi, .slice x3i n3i c3i] := by
    rw [hXi]
    have := (World.alloc_heap_new w21 (.cells #[.slice x0i n0i c0i, .slice x1i n1i c1i, .int .i64 axi, .slice x3i n3i c3i] 25))
    try simp only [World.size_alloc] at this
    exact this
  have hBXi := hBw21.trans (hbXi.mono hBw21.size)
  clear hXi
  replace vvd := vvd.below hbXi
  replace vvf := vvf.below hbXi
  replace vvi := vvi.below hbXi
  clear hbXi rXi_0 hBw21
  have hmn : Calls Tryz.prog 22 #[.string ⟨#[97]⟩, .int .i64 32] Xi _ := many_any [97] 32 Xi (by omega) (by decide)
  go_wp2_with (first | rw [← HW1.out] | rw [← HY2.out] | rw [← HV2.out] | rw [← HU2.out] | rw [← HY3.out] | rw [← HV3.out] | rw [← HU3.out] | rw [← HY4.out] | rw [← HV4.out] | rw [← HU4.out] | rw [← HXd.out] | rw [← HXe.out] | rw [← HXf.out] | rw [← HXh.out] | rw [← HXi.out])
  refine hmn.mono ?_
  rintro e w22 ⟨rfl, hbw22⟩
  have hBw22 := hBXi.trans (hbw22.mono hBXi.size)
  replace vvd := vvd.below hbw22
  replace vvf := vvf.below hbw22
  replace vvi := vvi.below hbw22
  clear hmn hbw22 hBXi
  obtain ⟨Sj, hSj⟩ : ∃ S, S = (⟨(manyL [97] 32).toArray⟩ : ByteArray) := ⟨_, rfl⟩
  rw [← hSj]
  have hzj : Sj.size = 32 := by rw [hSj]; kernel_rfl
  have hcj : Hid ((⟨#[83, 32, 58, 32]⟩ : ByteArray) ++ Sj = ⟨rj.toArray⟩) := by
    show _ = _
    rw [hSj]
    exact bytes_app [83, 32, 58, 32] (manyL [97] 32)
  clear hSj
  have hrd := read_st rj p w22 (by decide) (short_split _ (by decide)) (h.below hBw22)
  go_wp2_with (first | rw [hcj.out] | rw [← HW1.out] | rw [← HY2.out] | rw [← HV2.out] | rw [← HU2.out] | rw [← HY3.out] | rw [← HV3.out] | rw [← HU3.out] | rw [← HY4.out] | rw [← HV4.out] | rw [← HU4.out] | rw [← HXd.out] | rw [← HXe.out] | rw [← HXf.out] | rw [← HXh.out] | rw [← HXi.out])
  refine hrd.mono ?_
  rintro e w23 ⟨hr, hbw23⟩
  obtain ⟨x0j, n0j, c0j, x1j, n1j, c1j, axj, x3j, n3j, c3j, vj, rfl, vvj⟩ := read_tells hr
  have hBw23 := hBw22.trans (hbw23.mono hBw22.size)
  replace vvd := vvd.below hbw23
  replace vvf := vvf.below hbw23
  replace vvi := vvi.below hbw23
  obtain rfl := erv_nil vvj rj_k
  clear vvj
  clear hrd hr hbw23 hBw22 hzj hcj
  obtain ⟨Xj, hXj⟩ : ∃ Xj, Xj = w23.alloc (.cells #[.slice x0j n0j c0j, .slice x1j n1j c1j, .int .i64 axj, .slice x3j n3j c3j] 25) := ⟨_, rfl⟩
  have HXj : Hid (_) := hXj
  have hbXj : Below w23.heap.size w23 Xj := by rw [hXj]; exact (Below.refl _ _).alloc (Nat.le_refl _) _
  have rXj_0 : RowAt Xj (w23.heap.size) 25 #[.slice x0j n0j c0j, .slice x1j n1j c1j, .int .i64 axj, .slice x3j n3j c3j] := by
    rw [hXj]
    have := (World.alloc_heap_new w23 (.cells #[.slice x0j n0j c0j, .slice x1j n1j c1j, .int .i64 axj, .slice x3j n3j c3j] 25))
    try simp only [World.size_alloc] at this
    exact this
  have hBXj := hBw23.trans (hbXj.mono hBw23.size)
  clear hXj
  replace vvd := vvd.below hbXj
  replace vvf := vvf.below hbXj
  replace vvi := vvi.below hbXj
  clear hbXj rXj_0 hBw23
  have hmn : Calls Tryz.prog 22 #[.string ⟨#[97]⟩, .int .i64 33] Xj _ := many_any [97] 33 Xj (by omega) (by decide)
  go_wp2_with (first | rw [← HW1.out] | rw [← HY2.out] | rw [← HV2.out] | rw [← HU2.out] | rw [← HY3.out] | rw [← HV3.out] | rw [← HU3.out] | rw [← HY4.out] | rw [← HV4.out] | rw [← HU4.out] | rw [← HXd.out] | rw [← HXe.out] | rw [← HXf.out] | rw [← HXh.out] | rw [← HXi.out] | rw [← HXj.out])
  refine hmn.mono ?_
  rintro e w24 ⟨rfl, hbw24⟩
  have hBw24 := hBXj.trans (hbw24.mono hBXj.size)
  replace vvd := vvd.below hbw24
  replace vvf := vvf.below hbw24
  replace vvi := vvi.below hbw24
  clear hmn hbw24 hBXj
  obtain ⟨Sk, hSk⟩ : ∃ S, S = (⟨(manyL [97] 33).toArray⟩ : ByteArray) := ⟨_, rfl⟩
  rw [← hSk]
  have hzk : Sk.size = 33 := by rw [hSk]; kernel_rfl
  have hck : Hid ((⟨#[83, 32, 58, 32, 98, 32]⟩ : ByteArray) ++ Sk = ⟨rk.toArray⟩) := by
    show _ = _
    rw [hSk]
    exact bytes_app [83, 32, 58, 32, 98, 32] (manyL [97] 33)
  clear hSk
  have hrd := read_st rk p w24 (by decide) (short_split _ (by decide)) (h.below hBw24)
  go_wp2_with (first | rw [hck.out] | rw [← HW1.out] | rw [← HY2.out] | rw [← HV2.out] | rw [← HU2.out] | rw [← HY3.out] | rw [← HV3.out] | rw [← HU3.out] | rw [← HY4.out] | rw [← HV4.out] | rw [← HU4.out] | rw [← HXd.out] | rw [← HXe.out] | rw [← HXf.out] | rw [← HXh.out] | rw [← HXi.out] | rw [← HXj.out])
  refine hrd.mono ?_
  rintro e w25 ⟨hr, hbw25⟩
  obtain ⟨x0k, n0k, c0k, x1k, n1k, c1k, axk, x3k, n3k, c3k, vk, rfl, vvk⟩ := read_tells hr
  have hBw25 := hBw24.trans (hbw25.mono hBw24.size)
  replace vvd := vvd.below hbw25
  replace vvf := vvf.below hbw25
  replace vvi := vvi.below hbw25
  clear hrd hr hbw25 hBw24 hzk hck
  obtain ⟨Xk, hXk⟩ : ∃ Xk, Xk = w25.alloc (.cells #[.slice x0k n0k c0k, .slice x1k n1k c1k, .int .i64 axk, .slice x3k n3k c3k] 25) := ⟨_, rfl⟩
  have HXk : Hid (_) := hXk
  have hbXk : Below w25.heap.size w25 Xk := by rw [hXk]; exact (Below.refl _ _).alloc (Nat.le_refl _) _
  have rXk_0 : RowAt Xk (w25.heap.size) 25 #[.slice x0k n0k c0k, .slice x1k n1k c1k, .int .i64 axk, .slice x3k n3k c3k] := by
    rw [hXk]
    have := (World.alloc_heap_new w25 (.cells #[.slice x0k n0k c0k, .slice x1k n1k c1k, .int .i64 axk, .slice x3k n3k c3k] 25))
    try simp only [World.size_alloc] at this
    exact this
  have hBXk := hBw25.trans (hbXk.mono hBw25.size)
  clear hXk
  replace vvd := vvd.below hbXk
  replace vvf := vvf.below hbXk
  replace vvi := vvi.below hbXk
  replace vvk := vvk.below hbXk
  clear hbXk rXk_0 hBw25
  have hpl := places_any pl p Xk (by decide) (short_split _ (by decide)) (h.below hBXk).syn (h.below hBXk).errs.sents (h.below hBXk).type
  rw [pl_s] at hpl
  go_wp2_with (first | rw [← HW1.out] | rw [← HY2.out] | rw [← HV2.out] | rw [← HU2.out] | rw [← HY3.out] | rw [← HV3.out] | rw [← HU3.out] | rw [← HY4.out] | rw [← HV4.out] | rw [← HU4.out] | rw [← HXd.out] | rw [← HXe.out] | rw [← HXf.out] | rw [← HXh.out] | rw [← HXi.out] | rw [← HXj.out] | rw [← HXk.out])
  refine hpl.mono ?_
  rintro e w26 ⟨⟨_, pbl, hpbl, rfl, hprl⟩ | ⟨hc, _⟩, hbw26⟩
  rotate_left
  · exact absurd pl_k hc
  have hBw26 := hBXk.trans (hbw26.mono hBXk.size)
  replace vvd := vvd.below hbw26
  replace vvf := vvf.below hbw26
  replace vvi := vvi.below hbw26
  replace vvk := vvk.below hbw26
  clear hpl hbw26 hBXk
  rw [pl_p] at hprl
  rw [pl_n]
  have hpl := places_any pn p w26 (by decide) (short_split _ (by decide)) (h.below hBw26).syn (h.below hBw26).errs.sents (h.below hBw26).type
  rw [pn_s] at hpl
  go_wp2_with (first | rw [← HW1.out] | rw [← HY2.out] | rw [← HV2.out] | rw [← HU2.out] | rw [← HY3.out] | rw [← HV3.out] | rw [← HU3.out] | rw [← HY4.out] | rw [← HV4.out] | rw [← HU4.out] | rw [← HXd.out] | rw [← HXe.out] | rw [← HXf.out] | rw [← HXh.out] | rw [← HXi.out] | rw [← HXj.out] | rw [← HXk.out])
  refine hpl.mono ?_
  rintro e w27 ⟨⟨_, pbn, hpbn, rfl, hprn⟩ | ⟨hc, _⟩, hbw27⟩
  rotate_left
  · exact absurd pn_k hc
  have hBw27 := hBw26.trans (hbw27.mono hBw26.size)
  replace vvd := vvd.below hbw27
  replace vvf := vvf.below hbw27
  replace vvi := vvi.below hbw27
  replace vvk := vvk.below hbw27
  replace hprl := hprl.below hbw27 hprl.lt
  clear hpl hbw27 hBw26
  rw [pn_p] at hprn
  rw [pn_n]
  have hkd := kind_any (h.below hBw27).errs vvd
  rw [show ((kZ (sidesZ rd) : Nat) : Int) = 2 from by rw [rd_k]; rfl] at hkd
  go_wp2_with (first | rw [← HW1.out] | rw [← HY2.out] | rw [← HV2.out] | rw [← HU2.out] | rw [← HY3.out] | rw [← HV3.out] | rw [← HU3.out] | rw [← HY4.out] | rw [← HV4.out] | rw [← HU4.out] | rw [← HXd.out] | rw [← HXe.out] | rw [← HXf.out] | rw [← HXh.out] | rw [← HXi.out] | rw [← HXj.out] | rw [← HXk.out])
  refine hkd.mono ?_
  rintro e w28 ⟨rfl, hbw28⟩
  have hBw28 := hBw27.trans (hbw28.mono hBw27.size)
  replace vvd := vvd.below hbw28
  replace vvf := vvf.below hbw28
  replace vvi := vvi.below hbw28
  replace vvk := vvk.below hbw28
  replace hprl := hprl.below hbw28 hprl.lt
  replace hprn := hprn.below hbw28 hprn.lt
  clear hkd hbw28 hBw27
  have hkd := kind_any (h.below hBw28).errs vvf
  rw [show ((kZ (sidesZ rf) : Nat) : Int) = 3 from by rw [rf_k]; rfl] at hkd
  go_wp2_with (first | rw [← HW1.out] | rw [← HY2.out] | rw [← HV2.out] | rw [← HU2.out] | rw [← HY3.out] | rw [← HV3.out] | rw [← HU3.out] | rw [← HY4.out] | rw [← HV4.out] | rw [← HU4.out] | rw [← HXd.out] | rw [← HXe.out] | rw [← HXf.out] | rw [← HXh.out] | rw [← HXi.out] | rw [← HXj.out] | rw [← HXk.out])
  refine hkd.mono ?_
  rintro e w29 ⟨rfl, hbw29⟩
  have hBw29 := hBw28.trans (hbw29.mono hBw28.size)
  replace vvd := vvd.below hbw29
  replace vvf := vvf.below hbw29
  replace vvi := vvi.below hbw29
  replace vvk := vvk.below hbw29
  replace hprl := hprl.below hbw29 hprl.lt
  replace hprn := hprn.below hbw29 hprn.lt
  clear hkd hbw29 hBw28
  have hru := rule_any (h.below hBw29).type vvf
  rw [rf_r] at hru
  go_wp2_with (first | rw [← HW1.out] | rw [← HY2.out] | rw [← HV2.out] | rw [← HU2.out] | rw [← HY3.out] | rw [← HV3.out] | rw [← HU3.out] | rw [← HY4.out] | rw [← HV4.out] | rw [← HU4.out] | rw [← HXd.out] | rw [← HXe.out] | rw [← HXf.out] | rw [← HXh.out] | rw [← HXi.out] | rw [← HXj.out] | rw [← HXk.out])
  refine hru.mono ?_
  rintro e w30 ⟨rfl, hbw30⟩
  have hBw30 := hBw29.trans (hbw30.mono hBw29.size)
  replace vvd := vvd.below hbw30
  replace vvf := vvf.below hbw30
  replace vvi := vvi.below hbw30
  replace vvk := vvk.below hbw30
  replace hprl := hprl.below hbw30 hprl.lt
  replace hprn := hprn.below hbw30 hprn.lt
  clear hru hbw30 hBw29
  have hkd := kind_any (h.below hBw30).errs vvi
  rw [show ((kZ (sidesZ ri) : Nat) : Int) = 3 from by rw [ri_k]; rfl] at hkd
  go_wp2_with (first | rw [← HW1.out] | rw [← HY2.out] | rw [← HV2.out] | rw [← HU2.out] | rw [← HY3.out] | rw [← HV3.out] | rw [← HU3.out] | rw [← HY4.out] | rw [← HV4.out] | rw [← HU4.out] | rw [← HXd.out] | rw [← HXe.out] | rw [← HXf.out] | rw [← HXh.out] | rw [← HXi.out] | rw [← HXj.out] | rw [← HXk.out])
  refine hkd.mono ?_
  rintro e w31 ⟨rfl, hbw31⟩
  have hBw31 := hBw30.trans (hbw31.mono hBw30.size)
  replace vvd := vvd.below hbw31
  replace vvf := vvf.below hbw31
  replace vvi := vvi.below hbw31
  replace vvk := vvk.below hbw31
  replace hprl := hprl.below hbw31 hprl.lt
  replace hprn := hprn.below hbw31 hprn.lt
  clear hkd hbw31 hBw30
  have hru := rule_any (h.below hBw31).type vvi
  rw [ri_r] at hru
  go_wp2_with (first | rw [← HW1.out] | rw [← HY2.out] | rw [← HV2.out] | rw [← HU2.out] | rw [← HY3.out] | rw [← HV3.out] | rw [← HU3.out] | rw [← HY4.out] | rw [← HV4.out] | rw [← HU4.out] | rw [← HXd.out] | rw [← HXe.out] | rw [← HXf.out] | rw [← HXh.out] | rw [← HXi.out] | rw [← HXj.out] | rw [← HXk.out])
  refine hru.mono ?_
  rintro e w32 ⟨rfl, hbw32⟩
  have hBw32 := hBw31.trans (hbw32.mono hBw31.size)
  replace vvd := vvd.below hbw32
  replace vvf := vvf.below hbw32
  replace vvi := vvi.below hbw32
  replace vvk := vvk.below hbw32
  replace hprl := hprl.below hbw32 hprl.lt
  replace hprn := hprn.below hbw32 hprn.lt
  clear hru hbw32 hBw31
  have hkd := kind_any (h.below hBw32).errs vvk
  rw [show ((kZ (sidesZ rk) : Nat) : Int) = 2 from by rw [rk_k]; rfl] at hkd
  go_wp2_with (first | rw [← HW1.out] | rw [← HY2.out] | rw [← HV2.out] | rw [← HU2.out] | rw [← HY3.out] | rw [← HV3.out] | rw [← HU3.out] | rw [← HY4.out] | rw [← HV4.out] | rw [← HU4.out] | rw [← HXd.out] | rw [← HXe.out] | rw [← HXf.out] | rw [← HXh.out] | rw [← HXi.out] | rw [← HXj.out] | rw [← HXk.out])
  refine hkd.mono ?_
  rintro e w33 ⟨rfl, hbw33⟩
  have hBw33 := hBw32.trans (hbw33.mono hBw32.size)
  replace vvd := vvd.below hbw33
  replace vvf := vvf.below hbw33
  replace vvi := vvi.below hbw33
  replace vvk := vvk.below hbw33
  replace hprl := hprl.below hbw33 hprl.lt
  replace hprn := hprn.below hbw33 hprn.lt
  clear hkd hbw33 hBw32
  have hpq := place_any (h.below hBw33).type vvk
  rw [rk_p] at hpq
  go_wp2_with (first | rw [← HW1.out] | rw [← HY2.out] | rw [← HV2.out] | rw [← HU2.out] | rw [← HY3.out] | rw [← HV3.out] | rw [← HU3.out] | rw [← HY4.out] | rw [← HV4.out] | rw [← HU4.out] | rw [← HXd.out] | rw [← HXe.out] | rw [← HXf.out] | rw [← HXh.out] | rw [← HXi.out] | rw [← HXj.out] | rw [← HXk.out])
  refine hpq.mono ?_
  rintro e w34 ⟨rfl, hbw34⟩
  have hBw34 := hBw33.trans (hbw34.mono hBw33.size)
  replace vvd := vvd.below hbw34
  replace vvf := vvf.below hbw34
  replace vvi := vvi.below hbw34
  replace vvk := vvk.below hbw34
  replace hprl := hprl.below hbw34 hprl.lt
  replace hprn := hprn.below hbw34 hprn.lt
  clear hpq hbw34 hBw33
  obtain ⟨Ql, hQl⟩ : ∃ Ql, Ql = w34.alloc (.cells #[.int .i64 4, .int .i64 8] 3) := ⟨_, rfl⟩
  have HQl : Hid (_) := hQl
  have hbQl : Below w34.heap.size w34 Ql := by rw [hQl]; exact (Below.refl _ _).alloc (Nat.le_refl _) _
  have rQl_0 : RowAt Ql (w34.heap.size) 3 #[.int .i64 4, .int .i64 8] := by
    rw [hQl]
    have := (World.alloc_heap_new w34 (.cells #[.int .i64 4, .int .i64 8] 3))
    try simp only [World.size_alloc] at this
    exact this
  have hBQl := hBw34.trans (hbQl.mono hBw34.size)
  clear hQl
  replace vvd := vvd.below hbQl
  replace vvf := vvf.below hbQl
  replace vvi := vvi.below hbQl
  replace vvk := vvk.below hbQl
  replace hprl := hprl.below hbQl hprl.lt
  replace hprn := hprn.below hbQl hprn.lt
  have hin : Calls Tryz.prog 15 #[.slice (some ⟨pbl, 0, none⟩) 2 2, .slice (some ⟨w34.heap.size, 0, none⟩) 2 2] Ql _ := GramSame.ints_any _ _ 2 2 [4, 8] [4, 8] Ql (fun i x hx => ⟨_, 0, rfl, by
    rw [Nat.zero_add]
    match i, hx with
    | 0, hx => cases hx; exact hprl.cell (q := 0) rfl
    | 1, hx => cases hx; exact hprl.cell (q := 1) rfl⟩) (fun i x hx => ⟨_, 0, rfl, by
    rw [Nat.zero_add]
    match i, hx with
    | 0, hx => cases hx; exact rQl_0.cell (q := 0) rfl
    | 1, hx => cases hx; exact rQl_0.cell (q := 1) rfl⟩) (by decide) (by decide)
  rw [show GramSame.eqI [4, 8] [4, 8] = true from rfl] at hin
  clear rQl_0 hbQl
  go_wp2_with (first | rw [← HW1.out] | rw [← HY2.out] | rw [← HV2.out] | rw [← HU2.out] | rw [← HY3.out] | rw [← HV3.out] | rw [← HU3.out] | rw [← HY4.out] | rw [← HV4.out] | rw [← HU4.out] | rw [← HXd.out] | rw [← HXe.out] | rw [← HXf.out] | rw [← HXh.out] | rw [← HXi.out] | rw [← HXj.out] | rw [← HXk.out] | rw [← HQl.out])
  refine hin.mono ?_
  rintro e w35 ⟨rfl, qq, rfl⟩
  obtain ⟨w35, hhw35⟩ : ∃ w35, w35 = Ql.drewN qq := ⟨_, rfl⟩
  rw [← hhw35]
  have hbw35 : Below Ql.heap.size Ql w35 := by rw [hhw35]; exact bdrew (Below.refl _ _) _
  have hBw35 := hBQl.trans (hbw35.mono hBQl.size)
  replace vvd := vvd.below hbw35
  replace vvf := vvf.below hbw35
  replace vvi := vvi.below hbw35
  replace vvk := vvk.below hbw35
  replace hprl := hprl.below hbw35 hprl.lt
  replace hprn := hprn.below hbw35 hprn.lt
  clear hin hhw35 hbw35 hBQl
  clear hprl
  obtain ⟨Qn, hQn⟩ : ∃ Qn, Qn = w35.alloc (.cells #[.int .i64 3, .int .i64 6, .int .i64 10] 3) := ⟨_, rfl⟩
  have HQn : Hid (_) := hQn
  have hbQn : Below w35.heap.size w35 Qn := by rw [hQn]; exact (Below.refl _ _).alloc (Nat.le_refl _) _
  have rQn_0 : RowAt Qn (w35.heap.size) 3 #[.int .i64 3, .int .i64 6, .int .i64 10] := by
    rw [hQn]
    have := (World.alloc_heap_new w35 (.cells #[.int .i64 3, .int .i64 6, .int .i64 10] 3))
    try simp only [World.size_alloc] at this
    exact this
  have hBQn := hBw35.trans (hbQn.mono hBw35.size)
  clear hQn
  replace vvd := vvd.below hbQn
  replace vvf := vvf.below hbQn
  replace vvi := vvi.below hbQn
  replace vvk := vvk.below hbQn
  replace hprn := hprn.below hbQn hprn.lt
  have hin : Calls Tryz.prog 15 #[.slice (some ⟨pbn, 0, none⟩) 3 3, .slice (some ⟨w35.heap.size, 0, none⟩) 3 3] Qn _ := GramSame.ints_any _ _ 3 3 [3, 6, 10] [3, 6, 10] Qn (fun i x hx => ⟨_, 0, rfl, by
    rw [Nat.zero_add]
    match i, hx with
    | 0, hx => cases hx; exact hprn.cell (q := 0) rfl
    | 1, hx => cases hx; exact hprn.cell (q := 1) rfl
    | 2, hx => cases hx; exact hprn.cell (q := 2) rfl⟩) (fun i x hx => ⟨_, 0, rfl, by
    rw [Nat.zero_add]
    match i, hx with
    | 0, hx => cases hx; exact rQn_0.cell (q := 0) rfl
    | 1, hx => cases hx; exact rQn_0.cell (q := 1) rfl
    | 2, hx => cases hx; exact rQn_0.cell (q := 2) rfl⟩) (by decide) (by decide)
  rw [show GramSame.eqI [3, 6, 10] [3, 6, 10] = true from rfl] at hin
  clear rQn_0 hbQn
  go_wp2_with (first | rw [← HW1.out] | rw [← HY2.out] | rw [← HV2.out] | rw [← HU2.out] | rw [← HY3.out] | rw [← HV3.out] | rw [← HU3.out] | rw [← HY4.out] | rw [← HV4.out] | rw [← HU4.out] | rw [← HXd.out] | rw [← HXe.out] | rw [← HXf.out] | rw [← HXh.out] | rw [← HXi.out] | rw [← HXj.out] | rw [← HXk.out] | rw [← HQl.out] | rw [← HQn.out])
  refine hin.mono ?_
  rintro e w36 ⟨rfl, qq, rfl⟩
  obtain ⟨w36, hhw36⟩ : ∃ w36, w36 = Qn.drewN qq := ⟨_, rfl⟩
  rw [← hhw36]
  have hbw36 : Below Qn.heap.size Qn w36 := by rw [hhw36]; exact bdrew (Below.refl _ _) _
  have hBw36 := hBQn.trans (hbw36.mono hBQn.size)
  replace vvd := vvd.below hbw36
  replace vvf := vvf.below hbw36
  replace vvi := vvi.below hbw36
  replace vvk := vvk.below hbw36
  replace hprn := hprn.below hbw36 hprn.lt
  clear hin hhw36 hbw36 hBQn
  go_wp2
  go_ret
  exact ⟨rfl, hBw36⟩

end Go.Proofs.YtgepbophnbbbpaaGreatDoor.SpecKn
