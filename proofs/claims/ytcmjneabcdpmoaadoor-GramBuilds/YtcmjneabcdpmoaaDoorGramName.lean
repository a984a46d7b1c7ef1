/-
  Name: the name of a symbol, by the program; and the statements' own look at renamings.
-/
import Derived.Test.YtcmjneabcdpmoaaDoorGramAwakes
import Derived.Test.YtcmjneabcdpmoaaDoorShelf
namespace Go.Proofs.YtcmjneabcdpmoaaDoor.GramName
open Go.RowKit Go.Proofs.YtcmjneabcdpmoaaDoor.GramMath Go.Proofs.YtcmjneabcdpmoaaDoor.GramRow Go.Proofs.YtcmjneabcdpmoaaDoor.GramOne Go.Proofs.YtcmjneabcdpmoaaDoor.GramCheck Go.Proofs.YtcmjneabcdpmoaaDoor.GramAboveFn Go.Proofs.YtcmjneabcdpmoaaDoor.GramAwake
set_option linter.unusedVariables false

theorem clone_any (s : ByteArray) (w : World) (hs : s.size ≤ 281474976710656) : Calls Tryd.prog 26 #[.string s] w fun e w' => e = .returned (.string s) ∧ Below w.heap.size w w' := by
  go_enter Tryd.func26, Tryd.ntmps26
  go_wp2_with fail
  refine (Tryd.stringslite_Clone s w hs).mono ?_
  rintro e w1 ⟨rfl, hb⟩
  go_wp2
  go_ret
  exact ⟨rfl, hb⟩

def nameS (g : G) (s : Int) : ByteArray := if leftB g.ts.length s = true then g.ts.getD s.toNat ⟨#[]⟩ else if leftB g.ns.length (-1 - s) = true then g.ns.getD (-1 - s).toNat ⟨#[]⟩ else ⟨#[]⟩
def nameB (g : G) (s : Int) : Bool := leftB g.ts.length s || leftB g.ns.length (-1 - s)

def b2i (b : Bool) : Int := if b = true then 1 else 0

theorem bit_eq {v : Nat} (k : Nat) (hv : v < 1152921504606846976) : bits .and .u64 ((v : Int) / 2 ^ k) 1 = b2i (v.testBit k) := by
  have e : (v : Int) / 2 ^ k = ((v / 2 ^ k : Nat) : Int) := by simp
  rw [e, Nat.testBit_eq_decide_div_mod_eq]
  have h := Nat.div_le_self v (2 ^ k)
  generalize v / 2 ^ k = m at *
  rw [show (1 : Int) = ((1 : Nat) : Int) from rfl, u64_and_nat m 1 (by omega) (by omega), Nat.and_one_is_mod]
  unfold b2i
  by_cases h1 : m % 2 = 1
  · rw [decide_eq_true h1]; simp; omega
  · rw [decide_eq_false h1]; simp; omega

theorem bit_one {v k : Nat} (hv : v < 1152921504606846976) (h : v.testBit k = true) : bits .and .u64 ((v : Int) / 2 ^ k) 1 = 1 := by rw [bit_eq k hv, h]; rfl
theorem bit_zero {v k : Nat} (hv : v < 1152921504606846976) (h : v.testBit k = false) : bits .and .u64 ((v : Int) / 2 ^ k) 1 = 0 := by rw [bit_eq k hv, h]; rfl

end Go.Proofs.YtcmjneabcdpmoaaDoor.GramName
