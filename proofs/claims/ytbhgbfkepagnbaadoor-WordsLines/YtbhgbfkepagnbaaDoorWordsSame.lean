/-
  Two lists of the same words are the same.
-/
import Derived.Test.YtbhgbfkepagnbaaDoorWordsRow
import Derived.Deep.QuietTactic
import Derived.BigQuiet
namespace Go.Proofs.YtbhgbfkepagnbaaDoor.WordsBytes
open Go.RowKit Go.Proofs.YtbhgbfkepagnbaaDoor.WordsMath Go.Proofs.YtbhgbfkepagnbaaDoor.WordsOne

set_option maxRecDepth 100000 in
set_option maxHeartbeats 4000000 in
theorem same_any (a b : Option Addr) (ca cb : Nat) (ws : List W) (w : World) (ha : WRow w a ws) (hb : WRow w b ws) (hm : ws.length ≤ 4611686018427387904) :
    Calls Tryd.prog 10 #[.slice a ws.length ca, .slice b ws.length cb] w fun e w' => e = .returned (.bool true) ∧ ∃ q, w' = w.drewN q := by
  go_enter Tryd.func10, Tryd.ntmps10
  go_wp2
  go_loopw [5] (fun i wr => ∃ k q : Nat, k ≤ ws.length ∧ i = .int .i64 k ∧ wr = w.drewN q) (fun i _ => ws.length - (intOf i).toNat)
  case atStart => exact ⟨0, 0, by omega, rfl, rfl⟩
  case round =>
    obtain ⟨k, q, hk, rfl, rfl⟩ := hrel
    by_cases hlt : k < ws.length
    · obtain ⟨x, hx⟩ : ∃ x, ws[k]? = some x := ⟨ws[k], List.getElem?_eq_getElem hlt⟩
      obtain ⟨b1, off1, rfl, c1, c2, c3⟩ := ha k x hx
      obtain ⟨b2, off2, rfl, d1, d2, d3⟩ := hb k x hx
      have hlt2 : (k : Int) < (ws.length : Int) := by omega
      clear ha hb hx
      obtain ⟨t, qd, p⟩ := x
      dsimp only at c1 c2 c3 d1 d2 d3
      generalize (⟨t.toArray⟩ : ByteArray) = T at *
      go_wp2
      go_quiet (fail)
      go_wp2
      go_roundw
      case rel => exact ⟨k + 1, _, by omega, by go_num, rfl⟩
      case measure => simp [intOf]; omega
    · go_wp2
      go_ret
      exact ⟨rfl, _, rfl⟩

end Go.Proofs.YtbhgbfkepagnbaaDoor.WordsBytes
