/-
  Texts that stand together: SpecSt1.
-/
import Derived.Test.YtaieeclobokflaaDoorBagSpecPlM
namespace Go.Proofs.YtaieeclobokflaaDoor.SpecMem
open Go.RowKit Go.Maps Go.WideMaps Go.Proofs.YtaieeclobokflaaDoor.GramMath Go.Proofs.YtaieeclobokflaaDoor.GramRow Go.Proofs.YtaieeclobokflaaDoor.GramOne Go.Proofs.YtaieeclobokflaaDoor.GramApart Go.Proofs.YtaieeclobokflaaDoor.GramRoll Go.Proofs.YtaieeclobokflaaDoor.GramCopy Go.Proofs.YtaieeclobokflaaDoor.LineMath Go.Proofs.YtaieeclobokflaaDoor.SpecLn Go.Proofs.YtaieeclobokflaaDoor.SpecMd Go.Proofs.YtaieeclobokflaaDoor.WordsBytes
set_option linter.unusedVariables false
set_option linter.unusedSimpArgs false

def wA (x : Wd) : Value := .agg #[.string ⟨x.text.toArray⟩, .bool x.quoted, .int .i64 (x.place : Int)]

set_option maxRecDepth 100000 in
set_option maxHeartbeats 400000 in
theorem isMark_any (x : Wd) (c : UInt8) (w : World) : Calls Tryd.prog 46 #[.agg #[.string ⟨x.text.toArray⟩, .bool x.quoted, .int .i64 (x.place : Int)], .string ⟨#[c]⟩] w fun e w' => e = .returned (.bool (mk x c)) ∧ w' = w.alloc (.cells #[.string ⟨x.text.toArray⟩, .bool x.quoted, .int .i64 (x.place : Int)] 67) := by
  have E : Hid (mk x c = (!x.quoted && (x.text == [c]))) := rfl
  cases ht : (x.text == [c]) with
  | true =>
    rw [ht] at E
    go_enter Tryd.func46, Tryd.ntmps46
    go_wp2
    go_ret
    rw [E.out]
    simp
  | false =>
    rw [ht] at E
    go_enter Tryd.func46, Tryd.ntmps46
    go_wp2
    go_ret
    rw [E.out]
    simp

set_option maxRecDepth 100000 in
set_option maxHeartbeats 400000 in
theorem isEnd_any (x : Wd) (w : World) : Calls Tryd.prog 45 #[.agg #[.string ⟨x.text.toArray⟩, .bool x.quoted, .int .i64 (x.place : Int)]] w fun e w' => e = .returned (.bool (isEnd x)) ∧ w' = w.alloc (.cells #[.string ⟨x.text.toArray⟩, .bool x.quoted, .int .i64 (x.place : Int)] 67) := by
  have E : Hid (isEnd x = (!x.quoted && x.text.isEmpty)) := by show _ = _; unfold isEnd; cases x.text <;> rfl
  cases ht : x.text.isEmpty with
  | true =>
    rw [ht] at E
    go_enter Tryd.func45, Tryd.ntmps45
    go_wp2
    go_ret
    rw [E.out]
    simp
  | false =>
    rw [ht] at E
    go_enter Tryd.func45, Tryd.ntmps45
    go_wp2
    go_ret
    rw [E.out]
    simp

set_option maxRecDepth 100000 in
set_option maxHeartbeats 400000 in
theorem wrongS_any (p : Nat) (aS : Addr) (w : World) (hS : WordsBytes.Sent w 1 aS) : Calls Tryd.prog 19 #[.int .i64 (p : Int)] w fun e w' =>
    e = .returned (.iface 37 (.pointer (some ⟨w.heap.size, 0, none⟩))) ∧ w' = w.alloc (.cells #[.int .i64 (p : Int), .iface 157 (.pointer (some aS))] 41) := by
  have h : w.cell? ⟨1, 0, none⟩ = some (.iface 157 (.pointer (some aS))) := hS
  go_enter Tryd.func19, Tryd.ntmps19
  go_wp2
  go_ret
  exact ⟨rfl, rfl⟩

theorem lenB_cases (x : Wd) : (mk x 58 = true ∧ lenB x = false) ∨ (mk x 58 = false ∧ x.text = [] ∧ lenB x = false) ∨ (mk x 58 = false ∧ x.text ≠ [] ∧ 32 < x.text.length ∧ lenB x = false) ∨ (mk x 58 = false ∧ x.text ≠ [] ∧ x.text.length ≤ 32 ∧ lenB x = true) := by
  unfold lenB
  cases mk x 58 with
  | true => exact .inl ⟨rfl, rfl⟩
  | false =>
    by_cases h : x.text = []
    · exact .inr (.inl ⟨rfl, h, by simp [h]⟩)
    · have hp := List.length_pos_iff.2 h
      by_cases h2 : x.text.length ≤ 32
      · exact .inr (.inr (.inr ⟨rfl, h, h2, by simp [h2, hp]⟩))
      · exact .inr (.inr (.inl ⟨rfl, h, by omega, by simp [h2, hp]⟩))

/-- Names: nothing, or a panic at the word's place. -/
def NameR (aS : Addr) (x : Wd) (w : World) (e : Ending) (w' : World) : Prop :=
  ((lenB x = true ∧ e = .returned (.tuple #[])) ∨ (lenB x = false ∧ ∃ v, e = .panicked [{ v := v, recovered := false }] ∧ ErrAt w.heap.size aS x.place w' v)) ∧ Below w.heap.size w w'

set_option maxRecDepth 100000 in
set_option maxHeartbeats 4000000 in
theorem checkName_any (x : Wd) (aS : Addr) (w : World) (hS : WordsBytes.Sent w 1 aS) (hx : x.text.length ≤ 1048576) : Calls Tryd.prog 48 #[.agg #[.string ⟨x.text.toArray⟩, .bool x.quoted, .int .i64 (x.place : Int)]] w fun e w' => NameR aS x w e w' := by
  have hsz : ((⟨x.text.toArray⟩ : ByteArray).size : Int) = (x.text.length : Int) := by simp [ByteArray.size]
  obtain ⟨o, ho⟩ : ∃ o : Obj, o = .cells #[.string ⟨x.text.toArray⟩, .bool x.quoted, .int .i64 (x.place : Int)] 67 := ⟨_, rfl⟩
  have B1 : Below w.heap.size w (w.alloc o) := (Below.refl _ _).alloc (Nat.le_refl _) _
  have B2 : Below w.heap.size w ((w.alloc o).alloc o) := B1.alloc (by simp) _
  have hw2 := wrongS_any x.place aS ((w.alloc o).alloc o) (hS.below B2 (Nat.le_refl _))
  have hmk := isMark_any x 58 (w.alloc o)
  have B3 := B2.alloc (by simp; omega) (.cells #[.int .i64 (x.place : Int), .iface 157 (.pointer (some aS))] 41)
  have E3 : ErrAt w.heap.size aS x.place (((w.alloc o).alloc o).alloc (.cells #[.int .i64 (x.place : Int), .iface 157 (.pointer (some aS))] 41)) (.iface 37 (.pointer (some ⟨((w.alloc o).alloc o).heap.size, 0, none⟩))) := ErrAt.new (by simp; omega)
  rw [World.size_alloc, World.size_alloc] at E3
  rw [ho] at hmk hw2 B1 B2 B3 E3
  rcases lenB_cases x with ⟨h1, h2⟩ | ⟨h1, h3, h2⟩ | ⟨h1, h3, h4, h2⟩ | ⟨h1, h3, h4, h2⟩
  · rw [h1] at hmk
    have F : Hid (lenB x = false) := h2
    go_enter Tryd.func48, Tryd.ntmps48
    go_wp2_with fail
    refine hmk.mono ?_
    rintro e w1 ⟨rfl, hw1⟩
    obtain rfl := hw1
    go_wp2_with fail
    refine hw2.mono ?_
    rintro e w1 ⟨rfl, hw1⟩
    obtain rfl := hw1
    clear hmk hw2
    go_wp2
    exact ⟨rfl, .inr ⟨F.out, _, rfl, E3⟩, B3⟩
  · rw [h1] at hmk
    have hs' : x.text.isEmpty = true := by rw [h3]; rfl
    clear h3
    have F : Hid (lenB x = false) := h2
    go_enter Tryd.func48, Tryd.ntmps48
    go_wp2_with fail
    refine hmk.mono ?_
    rintro e w1 ⟨rfl, hw1⟩
    obtain rfl := hw1
    go_wp2_with fail
    refine hw2.mono ?_
    rintro e w1 ⟨rfl, hw1⟩
    obtain rfl := hw1
    clear hmk hw2
    go_wp2
    exact ⟨rfl, .inr ⟨F.out, _, rfl, E3⟩, B3⟩
  · rw [h1] at hmk
    have hs' : x.text.isEmpty = false := by simpa using h3
    have F : Hid (lenB x = false) := h2
    have h5 : (32 : Int) < ((⟨x.text.toArray⟩ : ByteArray).size : Int) := by omega
    go_enter Tryd.func48, Tryd.ntmps48
    go_wp2_with fail
    refine hmk.mono ?_
    rintro e w1 ⟨rfl, hw1⟩
    obtain rfl := hw1
    go_wp2_with fail
    refine hw2.mono ?_
    rintro e w1 ⟨rfl, hw1⟩
    obtain rfl := hw1
    clear hmk hw2
    go_wp2
    exact ⟨rfl, .inr ⟨F.out, _, rfl, E3⟩, B3⟩
  · rw [h1] at hmk
    have hs' : x.text.isEmpty = false := by simpa using h3
    have F : Hid (lenB x = true) := h2
    have h5 : ¬ (32 : Int) < ((⟨x.text.toArray⟩ : ByteArray).size : Int) := by omega
    go_enter Tryd.func48, Tryd.ntmps48
    go_wp2_with fail
    refine hmk.mono ?_
    rintro e w1 ⟨rfl, hw1⟩
    obtain rfl := hw1
    clear hmk hw2
    go_wp2
    go_end0
    exact ⟨.inl ⟨F.out, rfl⟩, B2⟩

end Go.Proofs.YtaieeclobokflaaDoor.SpecMem
