/-
  Texts that stand together: ShowRule2, ShowRRule.
-/
import Derived.Test.YtbeflhpekklgoaaGreatDoorBagShowSyms
namespace Go.Proofs.YtbeflhpekklgoaaGreatDoor.ShowSym
open Go.RowKit Go.Proofs.YtbeflhpekklgoaaGreatDoor.GramMath Go.Proofs.YtbeflhpekklgoaaGreatDoor.GramRow Go.Proofs.YtbeflhpekklgoaaGreatDoor.GramOne Go.Proofs.YtbeflhpekklgoaaGreatDoor.GramCheck Go.Proofs.YtbeflhpekklgoaaGreatDoor.GramName Go.Proofs.YtbeflhpekklgoaaGreatDoor.GramApart Go.Proofs.YtbeflhpekklgoaaGreatDoor.GramCopy Go.Proofs.YtbeflhpekklgoaaGreatDoor.ShowMath Go.Proofs.YtbeflhpekklgoaaGreatDoor.ShowWord
set_option linter.unusedVariables false

/-- What Rule answers: what is wrong, and the text. -/
def ruZ (g : G) (n : Int) : Nat × Option Nat := if (checkG g).1 = 0 then (if leftB g.rs.length n = true then (0, none) else (1, none)) else checkG g
def ruT (g : G) (n : Int) : ByteArray := if (checkG g).1 = 0 then (match g.rs[n.toNat]? with | some r => if leftB g.rs.length n = true then ruleS g r else ⟨#[]⟩ | none => ⟨#[]⟩) else ⟨#[]⟩

theorem ruZ_bad {g : G} {n : Int} (h : (checkG g).1 ≠ 0) : ruZ g n = checkG g ∧ ruT g n = ⟨#[]⟩ := by
  unfold ruZ ruT
  rw [if_neg h, if_neg h]
  exact ⟨rfl, rfl⟩
theorem ruZ_out {g : G} {n : Int} (h : (checkG g).1 = 0) (h2 : leftB g.rs.length n = false) : ruZ g n = (1, none) ∧ ruT g n = ⟨#[]⟩ := by
  unfold ruZ ruT
  rw [if_pos h, if_pos h, h2]
  refine ⟨rfl, ?_⟩
  split <;> rfl
theorem ruZ_in {g : G} {n : Nat} {r : R} (h : (checkG g).1 = 0) (h2 : g.rs[n]? = some r) : ruZ g (n : Int) = (0, none) ∧ ruT g (n : Int) = ruleS g r := by
  have hk := (List.getElem?_eq_some_iff.1 h2).1
  have h3 : leftB g.rs.length (n : Int) = true := by simp [leftB]; omega
  unfold ruZ ruT
  rw [if_pos h, if_pos h, h3, Int.toNat_natCast, h2]
  exact ⟨rfl, rfl⟩

theorem ckv_ne {base : Nat} {p : Nat → Addr} {z : Nat × Option Nat} {w : World} {v : Value} (h : CkV base p z w v) (hz : z.1 ≠ 0) : ∃ t u, v = .iface t u := by
  match z, h with
  | (0, _), _ => exact absurd rfl hz
  | (k + 1, none), h => exact ⟨_, _, h⟩
  | (k + 1, some i), ⟨b, h1, h2, h3⟩ => exact ⟨_, _, h2⟩
theorem ckv_nil {base : Nat} {p : Nat → Addr} {z : Nat × Option Nat} {w : World} {v : Value} (h : CkV base p z w v) (hz : z.1 = 0) : v = .nilIface := by
  match z, h with
  | (0, _), h => exact h
  | (k + 1, _), _ => cases hz

theorem ret_se {a a' : ByteArray} {v : Value} (h : a = a') : Ending.returned (.tuple #[.string a, v]) = .returned (.tuple #[.string a', v]) := by rw [h]

set_option maxRecDepth 100000 in
set_option maxHeartbeats 4000000 in
theorem rule_any (ta na ra : Option Addr) (tc nc rc : Nat) (g : G) (n : Int) (p : Nat → Addr) (w : World) (hG : GRow w ta na ra g) (ho : okG g) (htc : g.ts.length ≤ tc) (hnc : g.ns.length ≤ nc) (hS : Sents w p) (hn : I64 n) :
    Calls Tryz.prog 11 #[.agg #[.slice ta g.ts.length tc, .slice na g.ns.length nc, .int .i64 g.ax, .slice ra g.rs.length rc], .int .i64 n] w fun e w' => (∃ v, e = .returned (.tuple #[.string (ruT g n), v]) ∧ CkV w.heap.size p (ruZ g n) w' v) ∧ Below w.heap.size w w' := by
  have hneq := neq_nil
  have hB1 : Below w.heap.size w (w.alloc (.cells #[.slice ta g.ts.length tc, .slice na g.ns.length nc, .int .i64 g.ax, .slice ra g.rs.length rc] 25)) := (Below.refl _ _).alloc (Nat.le_refl _) _
  have hck := check_any ta na ra tc nc rc g p _ (hG.below hB1 (Nat.le_refl _)) ho htc hnc (hS.below hB1 (Nat.le_refl _))
  have hbox := GBox.new w ta na ra tc nc rc g 25
  have hG1 := hG.below hB1 (Nat.le_refl _)
  have hS1 := hS.below hB1 (Nat.le_refl _)
  have hs1 : (w.alloc (.cells #[.slice ta g.ts.length tc, .slice na g.ns.length nc, .int .i64 g.ax, .slice ra g.rs.length rc] 25)).heap.size = w.heap.size + 1 := by simp
  by_cases hc : (checkG g).1 = 0
  · by_cases hin : leftB g.rs.length n = true
    · have hin2 := hin
      simp only [leftB, Bool.and_eq_true, decide_eq_true_eq] at hin2
      obtain ⟨k, rfl⟩ : ∃ k : Nat, n = (k : Int) := ⟨n.toNat, by omega⟩
      obtain ⟨r, hr⟩ : ∃ r, g.rs[k]? = some r := ⟨g.rs[k]'(by omega), List.getElem?_eq_getElem (by omega)⟩
      obtain ⟨E1, E2⟩ := ruZ_in hc hr
      have E1' : Hid (ruZ g (k : Int) = (0, none)) := E1
      have E2' : Hid (ruT g (k : Int) = ruleS g r) := E2
      have hgood := good_of hc
      have hmem := List.mem_of_getElem? hr
      have hrk := hgood.each r hmem
      have hr32 : r.right.length ≤ 32 := by
        unfold ruleK at hrk
        split at hrk
        · cases hrk
        · omega
      obtain ⟨r1, r2, r3⟩ := ho.2.2.2.2.1 r hmem
      have hsh := good_short hgood
      have hSh := Short.of_good hgood
      have hsl := symsL_len (g := g) r.right hsh.1 hsh.2
      have hls := symS_size (g := g) (-1 - r.left) hsh.1 hsh.2
      have hz1 : (symsL g r.right).length ≤ 4256 := Nat.le_trans hsl (by omega)
      have hz2 : (leftS g r).size ≤ 134 := by
        unfold leftS
        rw [ByteArray.size_append]
        show _ + 2 ≤ _
        omega
      have hz3 : (rightS g r).size ≤ 4257 := by
        unfold rightS
        split
        · exact Nat.zero_le _
        · rw [ByteArray.size_append, symsS_size]
          show 1 + _ ≤ _
          omega
      have a1 : ∀ W : World, (Op.stringOp .add (leftS g r) (rightS g r)).run Tryz.prog W = .ok (.string (ruleS g r)) W := fun W => run_string_add_sum W _ _ (by omega)
      have hk2 : (k : Int) < (g.rs.length : Int) := by omega
      have hk3 : ¬ (g.rs.length : Int) ≤ (k : Int) := by omega
      clear E1 E2 hsl hls hz2 hz3 hin hin2 hrk hn
      go_enter Tryz.func11, Tryz.ntmps11
      go_wp2_with fail
      refine hck.mono ?_
      rintro e w1 ⟨⟨v, rfl, hv⟩, hb1⟩
      obtain rfl := ckv_nil hv hc
      obtain ⟨c0, c1, c2, c3⟩ := hbox.below hb1 (Nat.le_refl _)
      have hG2 := hG1.below hb1 (Nat.le_refl _)
      obtain ⟨b, off, qa, qc, rfl, x0, x1, x2⟩ := hG2.2.2 k r hr
      clear hv hc hck hG hG1 hr
      go_wp2_with fail
      have hB3 : Below w1.heap.size w1 (w1.alloc (.cells #[.int .i64 r.left, .slice qa r.right.length qc] 40)) := (Below.refl _ _).alloc (Nat.le_refl _) _
      have hG3 := hG2.below hB3 (Nat.le_refl _)
      have x3 := x2.below hB3 (Nat.le_refl _)
      have c0' := In.cell ((hB3.cell (cell_lt c0)).trans c0)
      have c1' := In.cell ((hB3.cell (cell_lt c1)).trans c1)
      have c2' := In.cell ((hB3.cell (cell_lt c2)).trans c2)
      have c3' := In.cell ((hB3.cell (cell_lt c3)).trans c3)
      have y0 : (w1.alloc (.cells #[.int .i64 r.left, .slice qa r.right.length qc] 40)).cell? ⟨w1.heap.size, 0, none⟩ = some (.int .i64 r.left) := by simp [go_sem]
      have y1 : (w1.alloc (.cells #[.int .i64 r.left, .slice qa r.right.length qc] 40)).cell? ⟨w1.heap.size, 1, none⟩ = some (.slice qa r.right.length qc) := by simp [go_sem]
      have y0' := In.cell y0
      have y1' := In.cell y1
      have hBf : Below w.heap.size w (w1.alloc (.cells #[.int .i64 r.left, .slice qa r.right.length qc] 40)) := (hB1.trans (hb1.mono (by rw [hs1]; omega))).trans (hB3.mono (Nat.le_trans (by rw [hs1]; omega) hb1.size))
      generalize w1.alloc (.cells #[.int .i64 r.left, .slice qa r.right.length qc] 40) = W at *
      have hne : Nonempty (In W) := ⟨⟨W, Below.refl _ _⟩⟩
      clear c0 c1 c2 c3 x0 x1 x2 y0 y1 hG2 hB3
      refine wp_region_in (by kernel_rfl) (by kernel_rfl) ?_
      repeat (go_big_quiet_step ((first
        | (go_at_call 26; refine (left_any ta na _ qa tc nc rc qc g r _ (hG3.1.below (In.h _) (Nat.le_refl _)) (hG3.2.1.below (In.h _) (Nat.le_refl _)) ho r1 hSh).mono ?_; rintro e w6 ⟨rfl, hb6⟩; exact ⟨rfl, In.step _ hb6⟩)
        | (go_at_call 27; refine (right_any ta na _ qa tc nc rc qc g r _ (hG3.1.below (In.h _) (Nat.le_refl _)) (hG3.2.1.below (In.h _) (Nat.le_refl _)) (x3.below (In.h _) (Nat.le_refl _)) ho r2 hSh (by omega) (by omega)).mono ?_; rintro e w6 ⟨rfl, hb6⟩; exact ⟨rfl, In.step _ hb6⟩))))
      refine wpQuiet_nil ?_
      rintro _ ⟨u, rfl⟩
      go_wp2
      go_ret2
      exact ⟨⟨_, ret_se E2'.out.symm, by rw [E1'.out]; rfl⟩, hBf.trans (u.h.mono hBf.size)⟩
    · have hin0 : leftB g.rs.length n = false := by simpa using hin
      obtain ⟨E1, E2⟩ := ruZ_out hc hin0
      have E1' : Hid (ruZ g n = (1, none)) := E1
      have E2' : Hid (ruT g n = ⟨#[]⟩) := E2
      clear E1 E2 hin hn
      by_cases hneg : n < 0
      · clear hin0
        go_enter Tryz.func11, Tryz.ntmps11
        go_wp2_with fail
        refine hck.mono ?_
        rintro e w1 ⟨⟨v, rfl, hv⟩, hb1⟩
        obtain rfl := ckv_nil hv hc
        have hS2 := hS1.below hb1 (Nat.le_refl _)
        have e1 : w1.cell? ⟨3, 0, none⟩ = some (.iface 183 (.pointer (some (p 1)))) := hS2.1
        clear hv hc hck hG hG1 hS hS1
        go_wp2_with fail
        go_quiet (fail)
        go_wp2
        go_ret2
        refine ⟨⟨_, ret_se E2'.out.symm, by rw [E1'.out]; rfl⟩, bdrew (hB1.trans (hb1.mono (by rw [hs1]; omega))) _⟩
      · have hge : (g.rs.length : Int) ≤ n := by
          unfold leftB at hin0
          rw [Bool.and_eq_false_iff] at hin0
          rcases hin0 with h | h
          · exact absurd (of_decide_eq_false h) (by omega)
          · have := of_decide_eq_false h
            omega
        clear hin0
        go_enter Tryz.func11, Tryz.ntmps11
        go_wp2_with fail
        refine hck.mono ?_
        rintro e w1 ⟨⟨v, rfl, hv⟩, hb1⟩
        obtain rfl := ckv_nil hv hc
        have hS2 := hS1.below hb1 (Nat.le_refl _)
        have e1 : w1.cell? ⟨3, 0, none⟩ = some (.iface 183 (.pointer (some (p 1)))) := hS2.1
        obtain ⟨c0, c1, c2, c3⟩ := hbox.below hb1 (Nat.le_refl _)
        clear hv hc hck hG hG1 hS hS1
        go_wp2_with fail
        go_quiet (fail)
        go_wp2
        go_ret2
        refine ⟨⟨_, ret_se E2'.out.symm, by rw [E1'.out]; rfl⟩, bdrew (hB1.trans (hb1.mono (by rw [hs1]; omega))) _⟩
  · obtain ⟨E1, E2⟩ := ruZ_bad (n := n) hc
    have E1' : Hid (ruZ g n = checkG g) := E1
    have E2' : Hid (ruT g n = ⟨#[]⟩) := E2
    clear E1 E2 hn
    go_enter Tryz.func11, Tryz.ntmps11
    go_wp2_with fail
    refine hck.mono ?_
    rintro e w1 ⟨⟨v, rfl, hv⟩, hb1⟩
    obtain ⟨t, u, rfl⟩ := ckv_ne hv hc
    clear hc hck hG hG1 hS hS1
    go_wp2
    go_ret2
    exact ⟨⟨_, ret_se E2'.out.symm, by rw [E1'.out]; exact hv.mono (by rw [hs1]; omega)⟩, hB1.trans (hb1.mono (by rw [hs1]; omega))⟩

end Go.Proofs.YtbeflhpekklgoaaGreatDoor.ShowSym

namespace Go.Proofs.YtbeflhpekklgoaaGreatDoor.ShowSym
open Go.RowKit Go.Proofs.YtbeflhpekklgoaaGreatDoor.GramMath Go.Proofs.YtbeflhpekklgoaaGreatDoor.GramRow Go.Proofs.YtbeflhpekklgoaaGreatDoor.GramOne Go.Proofs.YtbeflhpekklgoaaGreatDoor.GramCheck Go.Proofs.YtbeflhpekklgoaaGreatDoor.GramName Go.Proofs.YtbeflhpekklgoaaGreatDoor.GramRef Go.Proofs.YtbeflhpekklgoaaGreatDoor.GramApart Go.Proofs.YtbeflhpekklgoaaGreatDoor.GramCopy Go.Proofs.YtbeflhpekklgoaaGreatDoor.ShowMath Go.Proofs.YtbeflhpekklgoaaGreatDoor.ShowWord
set_option linter.unusedVariables false

end Go.Proofs.YtbeflhpekklgoaaGreatDoor.ShowSym
