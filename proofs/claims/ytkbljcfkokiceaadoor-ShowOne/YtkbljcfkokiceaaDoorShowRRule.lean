/-
  Rule: the text of a rule of any grammar, or the error, by the document.
-/
import Derived.Test.YtkbljcfkokiceaaDoorShowRule2
namespace Go.Proofs.YtkbljcfkokiceaaDoor.ShowSym
open Go.RowKit Go.Proofs.YtkbljcfkokiceaaDoor.GramMath Go.Proofs.YtkbljcfkokiceaaDoor.GramRow Go.Proofs.YtkbljcfkokiceaaDoor.GramOne Go.Proofs.YtkbljcfkokiceaaDoor.GramCheck Go.Proofs.YtkbljcfkokiceaaDoor.GramName Go.Proofs.YtkbljcfkokiceaaDoor.GramRef Go.Proofs.YtkbljcfkokiceaaDoor.GramApart Go.Proofs.YtkbljcfkokiceaaDoor.GramCopy Go.Proofs.YtkbljcfkokiceaaDoor.ShowMath Go.Proofs.YtkbljcfkokiceaaDoor.ShowWord
set_option linter.unusedVariables false

theorem ret_si {a a' : ByteArray} {x y : Int} (h : a = a') (h2 : x = y) : Ending.returned (.tuple #[.string a, .int .i64 x]) = .returned (.tuple #[.string a', .int .i64 y]) := by rw [h, h2]

set_option maxRecDepth 100000 in
set_option maxHeartbeats 4000000 in
theorem rrule_any (ta na ra : Option Addr) (tc nc rc : Nat) (g : G) (n : Int) (w : World) (hG : GRow w ta na ra g) (ho : okG g) (hn : I64 n) :
    Calls Tryd.prog 16 #[.agg #[.slice ta g.ts.length tc, .slice na g.ns.length nc, .int .i64 g.ax, .slice ra g.rs.length rc], .int .i64 n] w fun e w' => e = .returned (.tuple #[.string (ruT g n), .int .i64 ((ruZ g n).1 : Int)]) ∧ Below w.heap.size w w' := by
  have hB1 : Below w.heap.size w (w.alloc (.cells #[.slice ta g.ts.length tc, .slice na g.ns.length nc, .int .i64 g.ax, .slice ra g.rs.length rc] 25)) := (Below.refl _ _).alloc (Nat.le_refl _) _
  have hck := rcheck_any ta na ra tc nc rc g _ (hG.below hB1 (Nat.le_refl _)) ho
  have hbox := GBox.new w ta na ra tc nc rc g 25
  have hG1 := hG.below hB1 (Nat.le_refl _)
  have hs1 : (w.alloc (.cells #[.slice ta g.ts.length tc, .slice na g.ns.length nc, .int .i64 g.ax, .slice ra g.rs.length rc] 25)).heap.size = w.heap.size + 1 := by simp
  by_cases hc : (checkG g).1 = 0
  · by_cases hin : leftB g.rs.length n = true
    · have hin2 := hin
      simp only [leftB, Bool.and_eq_true, decide_eq_true_eq] at hin2
      obtain ⟨k, rfl⟩ : ∃ k : Nat, n = (k : Int) := ⟨n.toNat, by omega⟩
      obtain ⟨r, hr⟩ : ∃ r, g.rs[k]? = some r := ⟨g.rs[k]'(by omega), List.getElem?_eq_getElem (by omega)⟩
      obtain ⟨E1, E2⟩ := ruZ_in hc hr
      have E1' : Hid ((ruZ g (k : Int)).1 = 0) := by show _ = _; rw [E1]
      have E2' : Hid (ruT g (k : Int) = ruleS g r) := E2
      have hgood := good_of hc
      have hmem := List.mem_of_getElem? hr
      have hrk := hgood.each r hmem
      have hr32 : r.right.length ≤ 32 := by
        unfold ruleK at hrk
        split at hrk
        · cases hrk
        · omega
      obtain ⟨r1, r2, r3⟩ := ho.2.2.2.2.1 r hmem
      have hx : I64 (-1 - r.left) := by obtain ⟨h1, h2⟩ := r1; exact ⟨by omega, by omega⟩
      obtain ⟨l1, l2⟩ := id r1
      have hsh := good_short hgood
      have hSh := Short.of_good hgood
      have hsl := symsL_len (g := g) r.right hsh.1 hsh.2
      have hls := symS_size (g := g) (-1 - r.left) hsh.1 hsh.2
      have hz1 : (symsL g r.right).length ≤ 4256 := Nat.le_trans hsl (by omega)
      have hz2 : (leftS g r).size ≤ 134 := by
        unfold leftS
        rw [ByteArray.size_append]
        show _ + 2 ≤ _
        omega
      have a1 : ∀ W : World, (Op.stringOp .add (symS g (-1 - r.left)) ⟨#[32, 58]⟩).run Tryd.prog W = .ok (.string (leftS g r)) W := fun W => run_string_add_sum W _ _ (by show _ + 2 ≤ _; omega)
      have a2 : ∀ W : World, (Op.stringOp .add (leftS g r) ⟨#[32]⟩).run Tryd.prog W = .ok (.string (leftS g r ++ ⟨#[32]⟩)) W := fun W => run_string_add_sum W _ _ (by show _ + 1 ≤ _; omega)
      have a3 : ∀ W : World, (Op.stringOp .add (leftS g r ++ ⟨#[32]⟩) (symsS g r.right)).run Tryd.prog W = .ok (.string (leftS g r ++ ⟨#[32]⟩ ++ symsS g r.right)) W := fun W => run_string_add_sum W _ _ (by rw [ByteArray.size_append, symsS_size]; show _ + 1 + _ ≤ _; omega)
      have hk2 : (k : Int) < (g.rs.length : Int) := by omega
      have hk3 : ¬ (g.rs.length : Int) ≤ (k : Int) := by omega
      rw [hc] at hck
      clear E1 E2 hsl hls hz2 hin hin2 hrk hn
      go_enter Tryd.func16, Tryd.ntmps16
      go_wp2_with fail
      refine hck.mono ?_
      rintro e w1 ⟨rfl, hb1⟩
      obtain ⟨c0, c1, c2, c3⟩ := hbox.below hb1 (Nat.le_refl _)
      have hG2 := hG1.below hb1 (Nat.le_refl _)
      obtain ⟨b, off, qa, qc, rfl, x0, x1, x2⟩ := hG2.2.2 k r hr
      clear hc hck hG hG1 hr
      go_wp2_with fail
      have c0' := In.cell c0
      have c1' := In.cell c1
      have c2' := In.cell c2
      have c3' := In.cell c3
      have x0' := In.cell x0
      have x1' := In.cell x1
      have hBf : Below w.heap.size w w1 := hB1.trans (hb1.mono (by rw [hs1]; omega))
      have hne : Nonempty (In w1) := ⟨⟨w1, Below.refl _ _⟩⟩
      clear c0 c1 c2 c3 x0 x1
      refine wp_region_in (by kernel_rfl) (by kernel_rfl) ?_
      repeat (go_big_quiet_step ((first
        | (go_at_call 18; refine (rsymbol_any ta na _ tc nc rc g _ _ (hG2.1.below (In.h _) (Nat.le_refl _)) (hG2.2.1.below (In.h _) (Nat.le_refl _)) ho hx hSh).mono ?_; rintro e w6 ⟨rfl, hb6⟩; exact ⟨rfl, In.step _ hb6⟩))))
      refine wpQuiet_nil ?_
      rintro _ ⟨u, rfl⟩
      by_cases h0 : r.right.length = 0
      · have h1 : ¬ (0 : Int) < (r.right.length : Int) := by omega
        have E3 : Hid (ruT g (k : Int) = leftS g r) := by
          show _ = _
          rw [E2'.out]
          unfold ruleS rightS
          rw [if_pos h0]
          exact ByteArray.append_empty
        clear h0
        go_wp2
        go_ret2
        exact ⟨ret_si E3.out.symm (by rw [E1'.out]; rfl), hBf.trans (u.h.mono hBf.size)⟩
      · have h1 : (0 : Int) < (r.right.length : Int) := by omega
        have E3 : Hid (ruT g (k : Int) = leftS g r ++ ⟨#[32]⟩ ++ symsS g r.right) := by
          show _ = _
          rw [E2'.out]
          unfold ruleS rightS
          rw [if_neg h0, ByteArray.append_assoc]
        clear h0
        go_wp2_with fail
        have c0'' := In.cell (c0' u)
        have c1'' := In.cell (c1' u)
        have c2'' := In.cell (c2' u)
        have c3'' := In.cell (c3' u)
        have x0'' := In.cell (x0' u)
        have x1'' := In.cell (x1' u)
        have hG4 := hG2.below u.h (Nat.le_refl _)
        have x4 := x2.below u.h (Nat.le_refl _)
        have hBg := hBf.trans (u.h.mono hBf.size)
        obtain ⟨W, hW⟩ := u
        clear c0' c1' c2' c3' x0' x1' hne
        dsimp only at c0'' c1'' c2'' c3'' x0'' x1'' hG4 x4 hBg ⊢
        have hne : Nonempty (In W) := ⟨⟨W, Below.refl _ _⟩⟩
        refine wp_region_in (by kernel_rfl) (by kernel_rfl) ?_
        repeat (go_big_quiet_step ((first
          | (go_at_call 20; refine (rsymbols_any ta na _ qa tc nc rc qc g r.right _ (hG4.1.below (In.h _) (Nat.le_refl _)) (hG4.2.1.below (In.h _) (Nat.le_refl _)) ho (x4.below (In.h _) (Nat.le_refl _)) r2 hSh (by omega) (by omega)).mono ?_; rintro e w6 ⟨rfl, hb6⟩; exact ⟨rfl, In.step _ hb6⟩))))
        refine wpQuiet_nil ?_
        rintro _ ⟨u, rfl⟩
        go_wp2
        go_ret2
        exact ⟨ret_si E3.out.symm (by rw [E1'.out]; rfl), hBg.trans (u.h.mono hBg.size)⟩
    · have hin0 : leftB g.rs.length n = false := by simpa using hin
      obtain ⟨E1, E2⟩ := ruZ_out hc hin0
      have E1' : Hid ((ruZ g n).1 = 1) := by show _ = _; rw [E1]
      have E2' : Hid (ruT g n = ⟨#[]⟩) := E2
      rw [hc] at hck
      clear E1 E2 hin hn
      by_cases hneg : n < 0
      · clear hin0
        go_enter Tryd.func16, Tryd.ntmps16
        go_wp2_with fail
        refine hck.mono ?_
        rintro e w1 ⟨rfl, hb1⟩
        clear hc hck hG hG1
        go_wp2
        go_ret2
        exact ⟨ret_si E2'.out.symm (by rw [E1'.out]; rfl), hB1.trans (hb1.mono (by rw [hs1]; omega))⟩
      · have hge : (g.rs.length : Int) ≤ n := by
          unfold leftB at hin0
          rw [Bool.and_eq_false_iff] at hin0
          rcases hin0 with h | h
          · exact absurd (of_decide_eq_false h) (by omega)
          · have := of_decide_eq_false h
            omega
        clear hin0
        go_enter Tryd.func16, Tryd.ntmps16
        go_wp2_with fail
        refine hck.mono ?_
        rintro e w1 ⟨rfl, hb1⟩
        obtain ⟨c0, c1, c2, c3⟩ := hbox.below hb1 (Nat.le_refl _)
        clear hc hck hG hG1
        go_wp2
        go_ret2
        exact ⟨ret_si E2'.out.symm (by rw [E1'.out]; rfl), hB1.trans (hb1.mono (by rw [hs1]; omega))⟩
  · obtain ⟨E1, E2⟩ := ruZ_bad (n := n) hc
    have E1' : Hid ((ruZ g n).1 = (checkG g).1) := by show _ = _; rw [E1]
    have E2' : Hid (ruT g n = ⟨#[]⟩) := E2
    have hcn : (((checkG g).1 : Int) == 0) = false := beq_eq_false_iff_ne.2 (by omega)
    clear E1 E2 hn
    generalize (checkG g).1 = z at *
    go_enter Tryd.func16, Tryd.ntmps16
    go_wp2_with fail
    refine hck.mono ?_
    rintro e w1 ⟨rfl, hb1⟩
    clear hc hck hG hG1
    go_wp2
    go_ret2
    exact ⟨ret_si E2'.out.symm (by rw [E1'.out]), hB1.trans (hb1.mono (by rw [hs1]; omega))⟩

end Go.Proofs.YtkbljcfkokiceaaDoor.ShowSym
