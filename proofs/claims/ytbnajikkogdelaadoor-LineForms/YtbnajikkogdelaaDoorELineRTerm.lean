/-
  Texts that stand together: LineRTerm.
-/
import Derived.Test.YtbnajikkogdelaaDoorEagLineReadM
import Derived.Test.YtbnajikkogdelaaDoorEWordsRLine
import Derived.Test.YtbnajikkogdelaaDoorEagWordsRLines
import Derived.BigQuiet
namespace Go.Proofs.YtbnajikkogdelaaDoor.LineRead
open Go.RowKit Go.Proofs.YtbnajikkogdelaaDoor.GramMath Go.Proofs.YtbnajikkogdelaaDoor.GramRow Go.Proofs.YtbnajikkogdelaaDoor.GramOne Go.Proofs.YtbnajikkogdelaaDoor.GramCheck Go.Proofs.YtbnajikkogdelaaDoor.GramApart Go.Proofs.YtbnajikkogdelaaDoor.GramRef Go.Proofs.YtbnajikkogdelaaDoor.LineMath
set_option linter.unusedVariables false
set_option linter.unusedSimpArgs false

set_option maxRecDepth 100000 in
set_option maxHeartbeats 1000000 in
theorem rnum_any (ta na ra : Option Addr) (tc nc rc : Nat) (g : G) (s : ByteArray) (w : World) (hr : SRow w ta g.ts) (hm : g.ts.length ≤ 1125899906842624) :
    Calls Tryd.prog 29 #[.agg #[.slice ta g.ts.length tc, .slice na g.ns.length nc, .int .i64 g.ax, .slice ra g.rs.length rc], .string s] w fun e w' => e = .returned (.int .i64 (idx g.ts s)) ∧ Below w.heap.size w w' := by
  have hB1 : Below w.heap.size w (w.alloc (.cells #[.slice ta g.ts.length tc, .slice na g.ns.length nc, .int .i64 g.ax, .slice ra g.rs.length rc] 25)) := (Below.refl _ _).alloc (Nat.le_refl _) _
  have hr1 := hr.below hB1 (Nat.le_refl _)
  have g0 : (w.alloc (.cells #[.slice ta g.ts.length tc, .slice na g.ns.length nc, .int .i64 g.ax, .slice ra g.rs.length rc] 25)).cell? ⟨w.heap.size, 0, none⟩ = some (.slice ta g.ts.length tc) := by simp [go_sem]
  go_enter Tryd.func29, Tryd.ntmps29
  go_wp2
  generalize w.alloc (.cells #[.slice ta g.ts.length tc, .slice na g.ns.length nc, .int .i64 g.ax, .slice ra g.rs.length rc] 25) = w1 at *
  go_loopw [5] (fun i wr => ∃ k : Nat, k ≤ g.ts.length ∧ i = .int .i64 k ∧ (∀ j, j < k → g.ts[j]? ≠ some s) ∧ wr = w1) (fun i _ => g.ts.length - (intOf i).toNat)
  case atStart => exact ⟨0, by omega, rfl, (fun j hj => by omega), rfl⟩
  case round =>
    obtain ⟨k, hk, rfl, hno, hw⟩ := hrel
    obtain rfl := hw.symm
    by_cases hlt : k < g.ts.length
    · obtain ⟨x, hx⟩ : ∃ x, g.ts[k]? = some x := ⟨g.ts[k], List.getElem?_eq_getElem hlt⟩
      obtain ⟨b, off, rfl, hc⟩ := hr1 k x hx
      have hlt2 : (k : Int) < (g.ts.length : Int) := by omega
      by_cases hs : x = s
      · subst hs
        have E : Hid (idx g.ts x = (k : Int)) := idx_hit hx hno
        clear hr hr1 hno hx
        go_wp2
        go_ret
        exact ⟨ret_num E.out.symm, hB1⟩
      · have hs1 := str_ne hs
        have hno2 : Hid (∀ j, j < k + 1 → g.ts[j]? ≠ some s) := fun j hj => by
          by_cases hjk : j = k
          · subst hjk; rw [hx]; intro e; exact hs (Option.some.inj e)
          · exact hno j (by omega)
        clear hno hx
        go_wp2
        go_roundw
        case rel => exact ⟨k + 1, by omega, by go_num, hno2.out, by trivial⟩
        case measure => simp [intOf]; omega
    · have E : Hid (idx g.ts s = -1) := idx_miss (fun j hj => hno j (by omega))
      clear hr hr1 hno
      go_wp2
      go_ret
      exact ⟨ret_num E.out.symm, hB1⟩

end Go.Proofs.YtbnajikkogdelaaDoor.LineRead
