/-
  Texts that stand together: MatrixRT.
-/
import Derived.Test.YtigepihinflkdaaGreatDoorBMatrixClashes
import Derived.Test.YtigepihinflkdaaGreatDoorBagEndsSearch
namespace Go.Proofs.YtigepihinflkdaaGreatDoor.MatrixRT
open Go.RowKit Go.Proofs.YtigepihinflkdaaGreatDoor.GramMath Go.Proofs.YtigepihinflkdaaGreatDoor.GramRow Go.Proofs.YtigepihinflkdaaGreatDoor.SetsAlg Go.Proofs.YtigepihinflkdaaGreatDoor.MatrixMath Go.Proofs.YtigepihinflkdaaGreatDoor.MatrixPut Go.Proofs.YtigepihinflkdaaGreatDoor.GramApart Go.Proofs.YtigepihinflkdaaGreatDoor.MatrixClash
set_option linter.unusedVariables false
set_option linter.unusedSimpArgs false

structure RMatAt (w : World) (R n : Nat) (F : Nat → Nat → Nat) : Prop where
  c0 : w.cell? ⟨R, 0, none⟩ = some (.int .i64 (n : Int))
  bits : ∃ gb cap, w.cell? ⟨R, 1, none⟩ = some (.slice (some ⟨gb, 0, none⟩) n cap) ∧ ∀ a, a < n → ∃ rb, w.cell? ⟨gb, a, none⟩ = some (.slice (some ⟨rb, 0, none⟩) n n) ∧ ∀ b, b < n → w.cell? ⟨rb, b, none⟩ = some (.int .i64 (F a b : Int))

theorem RMatAt.below {w w' : World} {R n : Nat} {F : Nat → Nat → Nat} {B : Nat} (h : RMatAt w R n F) (hb : Below B w w') (hB : w.heap.size ≤ B) : RMatAt w' R n F := by
  have key : ∀ b o v, w.cell? ⟨b, o, none⟩ = some v → w'.cell? ⟨b, o, none⟩ = some v := fun b o v hc => (hb.cell (p := ⟨b, o, none⟩) (Nat.lt_of_lt_of_le (cell_lt hc) hB)).trans hc
  obtain ⟨h1, gb, cap, h2, h3⟩ := h
  refine ⟨key _ _ _ h1, gb, cap, key _ _ _ h2, fun a ha => ?_⟩
  obtain ⟨rb, h4, h5⟩ := h3 a ha
  exact ⟨rb, key _ _ _ h4, fun b hb => key _ _ _ (h5 b hb)⟩

def RMatV (w : World) (ro : Option Addr) (n : Nat) (F : Nat → Nat → Nat) : Prop := (ro = none ∧ n = 0) ∨ ∃ R, ro = some ⟨R, 0, none⟩ ∧ RMatAt w R n F

theorem RMatV.below {w w' : World} {ro : Option Addr} {n : Nat} {F : Nat → Nat → Nat} {B : Nat} (h : RMatV w ro n F) (hb : Below B w w') (hB : w.heap.size ≤ B) : RMatV w' ro n F := by
  rcases h with h | ⟨R, rfl, h⟩
  · exact .inl h
  · exact .inr ⟨R, rfl, h.below hb hB⟩

def rholdsB (n : Nat) (F : Nat → Nat → Nat) (a b x : Int) : Bool :=
  decide (0 ≤ a ∧ a < n ∧ 0 ≤ b ∧ b < n ∧ 0 ≤ x ∧ x ≤ 3) && (if x = 0 then F a.toNat b.toNat == 0 else F a.toNat b.toNat / 2 ^ (x.toNat - 1) % 2 == 1)

theorem rholds_out {n : Nat} {F : Nat → Nat → Nat} {a b x : Int} (h : ¬ (0 ≤ a ∧ a < n ∧ 0 ≤ b ∧ b < n ∧ 0 ≤ x ∧ x ≤ 3)) : rholdsB n F a b x = false := by
  unfold rholdsB
  rw [decide_eq_false h, Bool.false_and]

theorem and1 : ∀ f : Nat, f < 8 → (bits .and .i64 (f : Int) 1 == 1) = (f / 2 ^ 0 % 2 == 1) := by decide +kernel
theorem and2 : ∀ f : Nat, f < 8 → (bits .and .i64 ((f : Int) / 2) 1 == 1) = (f / 2 ^ 1 % 2 == 1) := by decide +kernel
theorem and3 : ∀ f : Nat, f < 8 → (bits .and .i64 ((f : Int) / 4) 1 == 1) = (f / 2 ^ 2 % 2 == 1) := by decide +kernel

set_option maxRecDepth 100000 in
set_option maxHeartbeats 4000000 in
theorem rholds_v (ro : Option Addr) (n : Nat) (F : Nat → Nat → Nat) (a b x : Int) (w : World) (hm : RMatV w ro n F) (hn : n ≤ 60) (hF : ∀ i j, F i j < 8) :
    Calls Tryz.prog 50 #[.pointer ro, .int .i64 a, .int .i64 b, .int .i64 x] w fun e w' => e = .returned (.bool (rholdsB n F a b x)) ∧ w' = w := by
  have hp0 : ∀ W : World, (binOp .eql 33 (.pointer none) (.pointer none)).run Tryz.prog W = .ok (.bool true) W := fun W => by kernel_rfl
  have hp1 : ∀ (W : World) (A : Addr), (binOp .eql 33 (.pointer (some A)) (.pointer none)).run Tryz.prog W = .ok (.bool false) W := fun W A => by kernel_rfl
  by_cases hin : 0 ≤ a ∧ a < n ∧ 0 ≤ b ∧ b < n ∧ 0 ≤ x ∧ x ≤ 3
  · obtain ⟨h1, h2, h3, h4, h5, h6⟩ := id hin
    rcases hm with ⟨rfl, rfl⟩ | ⟨R, rfl, hm⟩
    · omega
    obtain ⟨i, rfl⟩ := Int.eq_ofNat_of_zero_le h1
    obtain ⟨j, rfl⟩ := Int.eq_ofNat_of_zero_le h3
    have c0 := hm.c0
    obtain ⟨gb, cap, c1, hrow⟩ := hm.bits
    obtain ⟨rb, c2, hc⟩ := hrow i (by omega)
    have c3 := hc j (by omega)
    have hf := hF i j
    obtain ⟨f, hfe⟩ : ∃ f, f = F i j := ⟨_, rfl⟩
    have E : Hid (rholdsB n F (i : Int) (j : Int) x = if x = 0 then f == 0 else f / 2 ^ (x.toNat - 1) % 2 == 1) := by
      show _ = _
      unfold rholdsB
      rw [decide_eq_true hin, Bool.true_and, hfe]
      rfl
    rw [← hfe] at c3 hf
    clear hfe hrow hc hm hF hin
    have n1 : ¬ (i : Int) < 0 := by omega
    have n2 : ¬ (n : Int) ≤ (i : Int) := by omega
    have n3 : ¬ (j : Int) < 0 := by omega
    have n4 : ¬ (n : Int) ≤ (j : Int) := by omega
    have n5 : ¬ x < 0 := by omega
    have n6 : ¬ 3 < x := by omega
    rcases (by omega : x = 0 ∨ x = 1 ∨ x = 2 ∨ x = 3) with rfl | rfl | rfl | rfl
    · have e0 : ((f : Int) == 0) = (f == 0) := by cases f <;> simp <;> omega
      go_enter Tryz.func50, Tryz.ntmps50
      go_wp2
      go_ret
      exact ⟨by rw [E.out]; rfl, rfl⟩
    · have e1 := and1 f hf
      go_enter Tryz.func50, Tryz.ntmps50
      go_wp2
      go_ret
      exact ⟨by rw [E.out]; show Ending.returned (Value.bool (f % 2 == 1)) = Ending.returned (Value.bool (f / 1 % 2 == 1)); rw [Nat.div_one], rfl⟩
    · have e1 := and2 f hf
      go_enter Tryz.func50, Tryz.ntmps50
      go_wp2
      go_ret
      exact ⟨by rw [E.out]; rfl, rfl⟩
    · have e1 := and3 f hf
      go_enter Tryz.func50, Tryz.ntmps50
      go_wp2
      go_ret
      exact ⟨by rw [E.out]; rfl, rfl⟩
  · rw [rholds_out hin]
    rcases hm with ⟨rfl, rfl⟩ | ⟨R, rfl, hm⟩
    · go_enter Tryz.func50, Tryz.ntmps50
      go_wp2
      go_ret
      exact ⟨rfl, rfl⟩
    · have c0 := hm.c0
      clear hm hF
      go_enter Tryz.func50, Tryz.ntmps50
      by_cases k1 : a < 0
      · go_wp2
        go_ret
        exact ⟨rfl, rfl⟩
      by_cases k2 : (n : Int) ≤ a
      · go_wp2
        go_ret
        exact ⟨rfl, rfl⟩
      by_cases k3 : b < 0
      · go_wp2
        go_ret
        exact ⟨rfl, rfl⟩
      by_cases k4 : (n : Int) ≤ b
      · go_wp2
        go_ret
        exact ⟨rfl, rfl⟩
      by_cases k5 : x < 0
      · go_wp2
        go_ret
        exact ⟨rfl, rfl⟩
      by_cases k6 : 3 < x
      · go_wp2
        go_ret
        exact ⟨rfl, rfl⟩
      omega

/-- Both tell the same. -/
def Alike (n : Nat) (F : Nat → Nat → Nat) (S : Nat → Nat → Int) : Prop := ∀ a b x : Int, rholdsB n F a b x = holdsB (n : Int) S a b x

theorem rholds_s (ro : Option Addr) (n : Nat) (F : Nat → Nat → Nat) (S : Nat → Nat → Int) (a b x : Int) (w : World) (hm : RMatV w ro n F) (hn : n ≤ 60) (hF : ∀ i j, F i j < 8) (hE : Alike n F S) :
    Calls Tryz.prog 50 #[.pointer ro, .int .i64 a, .int .i64 b, .int .i64 x] w fun e w' => e = .returned (.bool (holdsB (n : Int) S a b x)) ∧ w' = w := by
  rw [← hE a b x]
  exact rholds_v ro n F a b x w hm hn hF

end Go.Proofs.YtigepihinflkdaaGreatDoor.MatrixRT
