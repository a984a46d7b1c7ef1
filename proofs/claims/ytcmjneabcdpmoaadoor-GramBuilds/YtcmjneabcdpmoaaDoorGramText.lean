/-
  Numbers as texts of four bytes, and back.
-/
import Derived.Test.YtcmjneabcdpmoaaDoorGramBut
import Derived.Laws.BytesString
namespace Go.Proofs.YtcmjneabcdpmoaaDoor.GramApart
open Go.RowKit Go.Proofs.YtcmjneabcdpmoaaDoor.GramMath Go.Proofs.YtcmjneabcdpmoaaDoor.GramRow
set_option linter.unusedVariables false

def textB (n : Nat) : ByteArray := ⟨#[UInt8.ofNat (n % 256), UInt8.ofNat (n / 256 % 256), UInt8.ofNat (n / 65536), 77]⟩

theorem conv4 (a b c d : Int) (W : World) : (convert 107 9 (.slice (some ⟨W.heap.size, 0, none⟩) 4 4)).run Tryd.prog (W.alloc (.cells #[.int .u8 a, .int .u8 b, .int .u8 c, .int .u8 d] 5)) = .ok (.string ⟨#[UInt8.ofNat a.toNat, UInt8.ofNat b.toNat, UInt8.ofNat c.toNat, UInt8.ofNat d.toNat]⟩) (W.alloc (.cells #[.int .u8 a, .int .u8 b, .int .u8 c, .int .u8 d] 5)) := by
  rw [run_convert_bytes_string _ 107 9 5 _ _ _ Tryd.underlying107 Tryd.underlying5 Tryd.underlying9, run_bytesToString _ _ 4 4 [a, b, c, d] (by simp [loadCells, go_sem])]
  rfl

set_option maxRecDepth 100000 in
set_option maxHeartbeats 1000000 in
theorem text_any (n : Nat) (w : World) (hn : n < 16777216) :
    Calls Tryd.prog 49 #[.int .i64 (n : Int)] w fun e w' => e = .returned (.string (textB n)) ∧ Below w.heap.size w w' := by
  have hc := fun a b c d W => conv4 a b c d W
  go_enter Tryd.func49, Tryd.ntmps49
  go_wp2
  go_ret
  exact ⟨rfl, (Below.refl _ _).alloc (Nat.le_refl _) _⟩

set_option maxHeartbeats 1000000 in
theorem value_any (n : Nat) (w : World) (hn : n < 16777216) :
    Calls Tryd.prog 50 #[.string (textB n)] w fun e w' => e = .returned (.int .i64 (n : Int)) ∧ ∃ q, w' = w.drewN q := by
  obtain ⟨s, hs0⟩ : ∃ s, s = textB n := ⟨_, rfl⟩
  have hs : s.size = 4 := by rw [hs0]; rfl
  have h0 : ∀ h, (s[0]'h).toNat = n % 256 := fun h => by subst hs0; show (UInt8.ofNat (n % 256)).toNat = _; simp
  have h1 : ∀ h, (s[1]'h).toNat = n / 256 % 256 := fun h => by subst hs0; show (UInt8.ofNat (n / 256 % 256)).toNat = _; simp
  have h2 : ∀ h, (s[2]'h).toNat = n / 65536 := fun h => by subst hs0; show (UInt8.ofNat (n / 65536)).toNat = _; simp; omega
  have h3 : ∀ h, (s[3]'h).toNat = 77 := fun h => by subst hs0; rfl
  rw [← hs0]
  clear hs0
  have b0 : n % 256 < 256 := by omega
  have b1 : n / 256 % 256 < 256 := by omega
  have b2 : n / 65536 < 256 := by omega
  have hE : Hid (((n % 256 : Nat) : Int) + ((n / 256 % 256 : Nat) : Int) * 256 + ((n / 65536 : Nat) : Int) * 65536 = (n : Int)) := by show _ = _; omega
  generalize n % 256 = x0 at *
  generalize n / 256 % 256 = x1 at *
  generalize n / 65536 = x2 at *
  go_enter Tryd.func50, Tryd.ntmps50
  go_wp2
  go_quiet (fail)
  go_wp2
  go_ret
  exact ⟨ret_num hE.out, _, rfl⟩

end Go.Proofs.YtcmjneabcdpmoaaDoor.GramApart
