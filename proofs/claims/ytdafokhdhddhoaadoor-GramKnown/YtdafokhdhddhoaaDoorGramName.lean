/-
  Name: the name of a symbol, by the program; and the statements' own look at renamings.
-/
import Derived.Test.YtdafokhdhddhoaaDoorGramAwakes
import Derived.Test.YtdafokhdhddhoaaDoorShelf
namespace Go.Proofs.YtdafokhdhddhoaaDoor.GramName
open Go.RowKit Go.Proofs.YtdafokhdhddhoaaDoor.GramMath Go.Proofs.YtdafokhdhddhoaaDoor.GramRow Go.Proofs.YtdafokhdhddhoaaDoor.GramOne Go.Proofs.YtdafokhdhddhoaaDoor.GramCheck Go.Proofs.YtdafokhdhddhoaaDoor.GramAboveFn Go.Proofs.YtdafokhdhddhoaaDoor.GramAwake
set_option linter.unusedVariables false

theorem clone_any (s : ByteArray) (w : World) (hs : s.size ≤ 281474976710656) : Calls Tryd.prog 42 #[.string s] w fun e w' => e = .returned (.string s) ∧ Below w.heap.size w w' := by
  go_enter Tryd.func42, Tryd.ntmps42
  go_wp2_with fail
  refine (Tryd.stringslite_Clone s w hs).mono ?_
  rintro e w1 ⟨rfl, hb⟩
  go_wp2
  go_ret
  exact ⟨rfl, hb⟩

def nameS (g : G) (s : Int) : ByteArray := if leftB g.ts.length s = true then g.ts.getD s.toNat ⟨#[]⟩ else if leftB g.ns.length (-1 - s) = true then g.ns.getD (-1 - s).toNat ⟨#[]⟩ else ⟨#[]⟩
def nameB (g : G) (s : Int) : Bool := leftB g.ts.length s || leftB g.ns.length (-1 - s)

set_option maxRecDepth 100000 in
set_option maxHeartbeats 2000000 in
theorem name_any (ta na ra : Option Addr) (tc nc rc : Nat) (g : G) (s : Int) (w : World) (hT : SRow w ta g.ts) (hN : SRow w na g.ns) (ho : okG g) (hs : I64 s) :
    Calls Tryd.prog 23 #[.agg #[.slice ta g.ts.length tc, .slice na g.ns.length nc, .int .i64 g.ax, .slice ra g.rs.length rc], .int .i64 s] w fun e w' => e = .returned (.tuple #[.string (nameS g s), .bool (nameB g s)]) ∧ Below w.heap.size w w' := by
  obtain ⟨g1, g2, _, _, _, g6, g7⟩ := id ho
  have hB1 : Below w.heap.size w (w.alloc (.cells #[.slice ta g.ts.length tc, .slice na g.ns.length nc, .int .i64 g.ax, .slice ra g.rs.length rc] 35)) := (Below.refl _ _).alloc (Nat.le_refl _) _
  have hT1 := hT.below hB1 (Nat.le_refl _)
  have hN1 := hN.below hB1 (Nat.le_refl _)
  have ht := fun W => has_any ta g.ts.length tc s W g1
  have hn := fun W => has_any na g.ns.length nc (-1 - s) W g2
  have hnt := fun W => nonterm_any s W hs
  clear hT hN
  cases hL : leftB g.ts.length s with
  | true =>
    rw [hL] at ht
    have hL2 := hL
    simp only [leftB, Bool.and_eq_true, decide_eq_true_eq] at hL2
    obtain ⟨k, rfl⟩ : ∃ k : Nat, s = (k : Int) := ⟨s.toNat, by omega⟩
    have hk : k < g.ts.length := by omega
    obtain ⟨x, hx⟩ : ∃ x, g.ts[k]? = some x := ⟨g.ts[k], List.getElem?_eq_getElem hk⟩
    obtain ⟨b, off, rfl, hc⟩ := hT1 k x hx
    have E : Hid (nameS g (k : Int) = x) := by
      show _ = _
      unfold nameS
      rw [if_pos hL, Int.toNat_natCast, List.getD_eq_getElem?_getD, hx]
      rfl
    have E2 : Hid (nameB g (k : Int) = true) := by show _ = _; unfold nameB; rw [hL]; rfl
    have hxs := g6 x (List.mem_of_getElem? hx)
    have hk2 : (k : Int) < (g.ts.length : Int) := by omega
    clear hT1 hN1 hx hL hn hL2
    go_enter Tryd.func23, Tryd.ntmps23
    go_wp2_with fail
    refine (hnt _).mono ?_
    rintro e w1 ⟨rfl, hw1⟩
    obtain rfl := hw1.symm
    go_wp2_with fail
    refine (ht _).mono ?_
    rintro e w1 ⟨rfl, hw1⟩
    obtain rfl := hw1.symm
    go_wp2_with fail
    refine (clone_any x _ hxs).mono ?_
    rintro e w2 ⟨rfl, hb2⟩
    go_wp2
    go_ret2
    exact ⟨ret_sb E.out.symm E2.out.symm, hB1.trans (hb2.mono (by simp))⟩
  | false =>
    rw [hL] at ht
    cases hM : leftB g.ns.length (-1 - s) with
    | true =>
      rw [hM] at hn
      have hL2 := hM
      simp only [leftB, Bool.and_eq_true, decide_eq_true_eq] at hL2
      obtain ⟨k, hk0⟩ : ∃ k : Nat, -1 - s = (k : Int) := ⟨(-1 - s).toNat, by omega⟩
      rw [hk0] at hn hnt
      have hk : k < g.ns.length := by omega
      obtain ⟨x, hx⟩ : ∃ x, g.ns[k]? = some x := ⟨g.ns[k], List.getElem?_eq_getElem hk⟩
      obtain ⟨b, off, rfl, hc⟩ := hN1 k x hx
      have E : Hid (nameS g s = x) := by
        show _ = _
        unfold nameS
        rw [if_neg (by rw [hL]; decide), if_pos hM, hk0, Int.toNat_natCast, List.getD_eq_getElem?_getD, hx]
        rfl
      have E2 : Hid (nameB g s = true) := by show _ = _; unfold nameB; rw [hM]; simp
      have hxs := g7 x (List.mem_of_getElem? hx)
      have hk2 : (k : Int) < (g.ns.length : Int) := by omega
      clear hT1 hN1 hx hL hL2 hM hk0
      go_enter Tryd.func23, Tryd.ntmps23
      go_wp2_with fail
      refine (hnt _).mono ?_
      rintro e w1 ⟨rfl, hw1⟩
      obtain rfl := hw1.symm
      go_wp2_with fail
      refine (ht _).mono ?_
      rintro e w1 ⟨rfl, hw1⟩
      obtain rfl := hw1.symm
      go_wp2_with fail
      refine (hn _).mono ?_
      rintro e w1 ⟨rfl, hw1⟩
      obtain rfl := hw1.symm
      go_wp2_with fail
      refine (clone_any x _ hxs).mono ?_
      rintro e w2 ⟨rfl, hb2⟩
      go_wp2
      go_ret2
      exact ⟨ret_sb E.out.symm E2.out.symm, hB1.trans (hb2.mono (by simp))⟩
    | false =>
      rw [hM] at hn
      have E : Hid (nameS g s = ⟨#[]⟩) := by
        show _ = _
        unfold nameS
        rw [if_neg (by rw [hL]; decide), if_neg (by rw [hM]; decide)]
      have E2 : Hid (nameB g s = false) := by show _ = _; unfold nameB; rw [hL, hM]; rfl
      clear hT1 hN1 hL hM
      go_enter Tryd.func23, Tryd.ntmps23
      go_wp2_with fail
      refine (hnt _).mono ?_
      rintro e w1 ⟨rfl, hw1⟩
      obtain rfl := hw1.symm
      go_wp2_with fail
      refine (ht _).mono ?_
      rintro e w1 ⟨rfl, hw1⟩
      obtain rfl := hw1.symm
      go_wp2_with fail
      refine (hn _).mono ?_
      rintro e w1 ⟨rfl, hw1⟩
      obtain rfl := hw1.symm
      go_wp2
      go_ret2
      exact ⟨ret_sb E.out.symm E2.out.symm, hB1⟩

def b2i (b : Bool) : Int := if b = true then 1 else 0

theorem bit_eq {v : Nat} (k : Nat) (hv : v < 1152921504606846976) : bits .and .u64 ((v : Int) / 2 ^ k) 1 = b2i (v.testBit k) := by
  have e : (v : Int) / 2 ^ k = ((v / 2 ^ k : Nat) : Int) := by simp
  rw [e, Nat.testBit_eq_decide_div_mod_eq]
  have h := Nat.div_le_self v (2 ^ k)
  generalize v / 2 ^ k = m at *
  rw [show (1 : Int) = ((1 : Nat) : Int) from rfl, u64_and_nat m 1 (by omega) (by omega), Nat.and_one_is_mod]
  unfold b2i
  by_cases h1 : m % 2 = 1
  · rw [decide_eq_true h1]; simp; omega
  · rw [decide_eq_false h1]; simp; omega

theorem bit_one {v k : Nat} (hv : v < 1152921504606846976) (h : v.testBit k = true) : bits .and .u64 ((v : Int) / 2 ^ k) 1 = 1 := by rw [bit_eq k hv, h]; rfl
theorem bit_zero {v k : Nat} (hv : v < 1152921504606846976) (h : v.testBit k = false) : bits .and .u64 ((v : Int) / 2 ^ k) 1 = 0 := by rw [bit_eq k hv, h]; rfl

end Go.Proofs.YtdafokhdhddhoaaDoor.GramName
