/-
  Check, by the document's answer.
-/
import Derived.Test.YtkjmmoiickambaaDoorOpRFaults
import Derived.Test.YtkjmmoiickambaaDoorOpFormMath
import Derived.Test.YtkjmmoiickambaaDoorOpAwake
import Derived.Test.YtkjmmoiickambaaDoorGramRCheck
namespace Go.Proofs.YtkjmmoiickambaaDoor.OpForm
open Go.RowKit Go.Proofs.YtkjmmoiickambaaDoor.GramMath Go.Proofs.YtkjmmoiickambaaDoor.GramRow Go.Proofs.YtkjmmoiickambaaDoor.GramOne Go.Proofs.YtkjmmoiickambaaDoor.GramApart Go.Proofs.YtkjmmoiickambaaDoor.GramLent Go.Proofs.YtkjmmoiickambaaDoor.GramRef Go.Proofs.YtkjmmoiickambaaDoor.GramErrs Go.Proofs.YtkjmmoiickambaaDoor.OpRow Go.Proofs.YtkjmmoiickambaaDoor.OpSkel Go.Proofs.YtkjmmoiickambaaDoor.OpFault Go.Proofs.YtkjmmoiickambaaDoor.OpCheck
set_option linter.unusedVariables false

theorem rulesK_rule (t n : Nat) (l : List R) : ∀ i, (rulesK t n l i).1 ≠ 0 → ruI (rulesK t n l i).2 = ruleZ (rulesK t n l i) := by
  induction l with
  | nil => intro i h; exact absurd rfl h
  | cons r l ih =>
    intro i h
    unfold rulesK at h ⊢
    by_cases hk : ruleK t n r = 0
    · rw [if_pos hk] at h ⊢
      exact ih _ h
    · rw [if_neg hk]
      obtain ⟨m, hm⟩ : ∃ m, ruleK t n r = m + 1 := ⟨ruleK t n r - 1, by omega⟩
      rw [hm]
      rfl
theorem check_rule (g : G) (h : (checkG g).1 ≠ 0) : ruI (checkG g).2 = ruleZ (checkG g) := by
  unfold checkG at h ⊢
  by_cases h1 : 60 < g.ts.length + g.ns.length ∨ 120 < g.rs.length
  · rw [if_pos h1]; rfl
  · rw [if_neg h1] at h ⊢
    by_cases h2 : named g.ts = false ∨ named g.ns = false
    · rw [if_pos h2]; rfl
    · rw [if_neg h2] at h ⊢
      by_cases h3 : leftB g.ns.length g.ax = false
      · rw [if_pos h3]; rfl
      · rw [if_neg h3] at h ⊢
        exact rulesK_rule _ _ _ _ h

set_option maxRecDepth 100000 in
set_option maxHeartbeats 2000000 in
theorem oprcheck_any (ta na ra : Option Addr) (tc nc rc : Nat) (g : G) (w : World) (hG : GRow w ta na ra g) (hg : okG g) (hr8 : ∀ r ∈ g.rs, r.right.length * 8 ≤ 140737488351232) (hm : (fG g).length * 16 ≤ 140737488351232) :
    Calls Tryd.prog 10 #[.agg #[.slice ta g.ts.length tc, .slice na g.ns.length nc, .int .i64 g.ax, .slice ra g.rs.length rc]] w fun e w' => e = .returned (.tuple #[.int .i64 ((opG g).1 : Int), .int .i64 (ruleZ (opG g))]) ∧ Below w.heap.size w w' := by
  have hB1 : Below w.heap.size w (w.alloc (.cells #[.slice ta g.ts.length tc, .slice na g.ns.length nc, .int .i64 g.ax, .slice ra g.rs.length rc] 25)) := (Below.refl _ _).alloc (Nat.le_refl _) _
  have hbx := rowNew w #[.slice ta g.ts.length tc, .slice na g.ns.length nc, .int .i64 g.ax, .slice ra g.rs.length rc] 25
  have hck := rcheck_any ta na ra tc nc rc g _ (hG.below hB1 (Nat.le_refl _)) hg
  go_enter Tryd.func10, Tryd.ntmps10
  go_wp2_with fail
  refine hck.mono ?_
  rintro e w1 ⟨rfl, hb1⟩
  have hB2 := hB1.trans (hb1.mono hB1.size)
  have hbx1 := hbx.below hb1 hbx.lt
  clear hck hbx hB1 hb1
  by_cases hc : (checkG g).1 = 0
  · have hop : opG g = opRules (g.rs.drop 0) 0 := by unfold opG; rw [if_pos hc]; rfl
    have a0 := hbx1.cell (q := 0) rfl
    have a1 := hbx1.cell (q := 1) rfl
    have a2 := hbx1.cell (q := 2) rfl
    have a3 := hbx1.cell (q := 3) rfl
    have hfa := rfaults_any ta na ra tc nc rc g w1 (hG.2.2.below hB2 (Nat.le_refl _)) hr8 hg.2.2.1 hm
    rw [hc]
    clear hc
    go_wp2_with fail
    refine hfa.mono ?_
    rintro e w2 ⟨⟨v, rfl, ho⟩, hb2⟩
    have hB3 := hB2.trans (hb2.mono hB2.size)
    clear hfa a0 a1 a2 a3 hbx1
    rcases first_fault g.rs g.rs.length 0 (by omega) rfl with ⟨h1, h2, h3⟩ | ⟨i, x, rest, h1, h2⟩
    · have E : Hid (opG g = (0, none)) := by show _ = _; rw [hop, h1]
      have hl0 : ∃ la lc, v = .slice la 0 lc := by
        have : fG g = [] := h2
        rw [this] at ho
        obtain ⟨_, ⟨rfl, _⟩ | ⟨gg, cap, cur, rfl, _⟩⟩ := ho
        · exact ⟨_, _, rfl⟩
        · exact ⟨_, _, rfl⟩
      obtain ⟨la, lc, rfl⟩ := hl0
      clear ho h1 h2 h3 hop
      go_wp2
      go_ret2
      exact ⟨by rw [E.out]; rfl, hB3⟩
    · have E : Hid (opG g = (4, some i)) := by show _ = _; rw [hop, h1]
      have e2 : fG g = ((i : Int), x) :: rest := h2
      rw [e2] at ho
      obtain ⟨gl, cl, rfl⟩ := ownsRow_succ (k := rest.length) ho
      have hcl := ho.cellAt 0 (by simp)
      have hcl0 : w2.cell? ⟨gl, 0, none⟩ = some (.int .i64 (i : Int)) := hcl
      have hlp : (0 : Int) < (rest.length : Int) + 1 := by omega
      clear ho h1 h2 hop e2 hcl
      go_wp2_with fail
      go_quiet (fail)
      go_wp2
      go_ret2
      exact ⟨by rw [E.out]; rfl, bdrew hB3 _⟩
  · have E : Hid (opG g = checkG g) := by show _ = _; unfold opG; rw [if_neg hc]
    have E2 : Hid (ruI (checkG g).2 = ruleZ (checkG g)) := check_rule g hc
    have hne : (((checkG g).1 : Int) != 0) = true := by rw [bne_iff_ne]; omega
    clear hc hbx1
    go_wp2
    go_ret2
    exact ⟨by rw [E.out, ← E2.out]; rfl, hB2⟩

end Go.Proofs.YtkjmmoiickambaaDoor.OpForm
