/-
  Check: what the program finds wrong first with a grammar, for every grammar.
-/
import Derived.Test.YtffdnpjkcchmnaaDoorGramOne
namespace Go.Proofs.YtffdnpjkcchmnaaDoor.GramCheck
open Go.RowKit Go.Proofs.YtffdnpjkcchmnaaDoor.GramMath Go.Proofs.YtffdnpjkcchmnaaDoor.GramRow Go.Proofs.YtffdnpjkcchmnaaDoor.GramOne
set_option linter.unusedVariables false

theorem size_zero {x : ByteArray} (h : x.size = 0) : x = ⟨#[]⟩ := by
  cases x with
  | mk d =>
    congr 1
    exact Array.eq_empty_of_size_eq_zero h

theorem ne_empty {x : ByteArray} (h : 0 < x.size) : (x.toList == []) = false := by
  rw [ByteArray.toList_eq, beq_eq_false_iff_ne]
  intro e
  have : x.data.toList.length = 0 := by rw [e]; rfl
  have h2 : x.data.toList.length = x.size := by cases x; simp [ByteArray.size]
  omega

set_option maxRecDepth 100000 in
set_option maxHeartbeats 1000000 in
theorem checkName_any (a : Option Addr) (c : Nat) (ss : List ByteArray) (k : Nat) (aN : Addr) (w : World) (hr : SRow w a ss) (hk : k < ss.length) (hc : ss.length ≤ c) (hm : ss.length ≤ 1125899906842624) (hS : Sent w 10 aN) :
    Calls Tryd.prog 94 #[.slice a ss.length c, .int .i64 (k : Int)] w fun e w' => e = .returned (ckN aN (nameAt ss k)) ∧ w' = w := by
  obtain ⟨x, hx⟩ : ∃ x, ss[k]? = some x := ⟨ss[k], List.getElem?_eq_getElem hk⟩
  obtain ⟨b, off, rfl, hcell⟩ := hr k x hx
  have hs : w.cell? ⟨10, 0, none⟩ = some (.iface 189 (.pointer (some aN))) := hS
  have hlt2 : (k : Int) < (ss.length : Int) := by omega
  have hkc : (k : Int) ≤ (c : Int) := by omega
  have hE : Hid (nameAt ss k = (decide (0 < x.size) && decide (x.size ≤ 32) && !memB x (ss.take k))) := by show _ = _; unfold nameAt; rw [hx]
  have hct := contains_any (some ⟨b, off, none⟩) c (ss.take k) x w (hr.take k) (by rw [List.length_take]; omega)
  rw [List.length_take, Nat.min_eq_left (Nat.le_of_lt hk)] at hct
  clear hr hx
  by_cases h0 : x.size = 0
  · obtain rfl := size_zero h0
    have E : Hid (nameAt ss k = false) := by show _ = _; rw [hE.out]; rfl
    clear hE hct
    go_enter Tryd.func94, Tryd.ntmps94
    go_wp2
    go_ret
    exact ⟨ret_ckN_false E.out, rfl⟩
  · have h1 := ne_empty (x := x) (by omega)
    by_cases h2 : 32 < x.size
    · have E : Hid (nameAt ss k = false) := by show _ = _; rw [hE.out, decide_eq_false (show ¬ x.size ≤ 32 by omega)]; simp
      have h3 : (32 : Int) < (x.size : Int) := by omega
      clear hE hct
      go_enter Tryd.func94, Tryd.ntmps94
      go_wp2
      go_ret
      exact ⟨ret_ckN_false E.out, rfl⟩
    · have h3 : ¬ (32 : Int) < (x.size : Int) := by omega
      have E : Hid (nameAt ss k = !memB x (ss.take k)) := by show _ = _; rw [hE.out, decide_eq_true (show 0 < x.size by omega), decide_eq_true (show x.size ≤ 32 by omega)]; simp
      clear hE
      cases hB : memB x (ss.take k) with
      | true =>
        rw [hB] at E hct
        go_enter Tryd.func94, Tryd.ntmps94
        go_wp2_with fail
        refine hct.mono ?_
        rintro e w1 ⟨rfl, hw1⟩
        obtain rfl := hw1.symm
        go_wp2
        go_ret
        exact ⟨ret_ckN_false E.out, rfl⟩
      | false =>
        rw [hB] at E hct
        go_enter Tryd.func94, Tryd.ntmps94
        go_wp2_with fail
        refine hct.mono ?_
        rintro e w1 ⟨rfl, hw1⟩
        obtain rfl := hw1.symm
        go_wp2
        go_ret
        exact ⟨ret_ckN_true E.out, rfl⟩

set_option maxRecDepth 100000 in
set_option maxHeartbeats 1000000 in
theorem checkNames_any (a : Option Addr) (c : Nat) (ss : List ByteArray) (aN : Addr) (w : World) (hr : SRow w a ss) (hc : ss.length ≤ c) (hm : ss.length ≤ 1125899906842624) (hS : Sent w 10 aN) :
    Calls Tryd.prog 78 #[.slice a ss.length c] w fun e w' => e = .returned (ckN aN (named ss)) ∧ w' = w := by
  have hneq := neq_nil
  go_enter Tryd.func78, Tryd.ntmps78
  go_wp2
  go_loop [7] (fun i => ∃ k : Nat, k ≤ ss.length ∧ i = .int .i64 k ∧ Hid (namedTo ss k = true)) (fun i => ss.length - (intOf i).toNat)
  case atStart => exact ⟨0, by omega, rfl, namedTo_zero ss⟩
  case round =>
    obtain ⟨k, hk, rfl, hno⟩ := hrel
    by_cases hlt : k < ss.length
    · have hcn := checkName_any a c ss k aN w hr hlt hc hm hS
      have hlt2 : (k : Int) < (ss.length : Int) := by omega
      cases hB : nameAt ss k with
      | true =>
        rw [hB, ckN_true] at hcn
        have hno2 : Hid (namedTo ss (k + 1) = true) := by show _ = _; rw [namedTo_succ, hno.out, hB]; rfl
        clear hB hno
        go_wp2_with fail
        refine hcn.mono ?_
        rintro e w1 ⟨rfl, hw1⟩
        obtain rfl := hw1.symm
        go_wp2
        go_round
        case rel => exact ⟨k + 1, by omega, by go_num, hno2⟩
        case measure => simp [intOf]; omega
      | false =>
        rw [hB, ckN_false] at hcn
        have E : Hid (named ss = false) := named_false hlt hB
        clear hB hno
        go_wp2_with fail
        refine hcn.mono ?_
        rintro e w1 ⟨rfl, hw1⟩
        obtain rfl := hw1.symm
        go_wp2
        go_ret
        exact ⟨ret_ckN_false E.out, rfl⟩
    · obtain rfl : k = ss.length := by omega
      have E : Hid (named ss = true) := hno
      clear hno
      go_wp2
      go_ret
      exact ⟨ret_ckN_true E.out, rfl⟩

set_option maxRecDepth 100000 in
set_option maxHeartbeats 1000000 in
theorem checkRule_any (ta na ra qa : Option Addr) (tc nc rc qc : Nat) (g : G) (r : R) (p : Nat → Addr) (w : World) (hr : IRow w qa r.right) (ho : okR r) (hg : okG g) (hS : Sents w p) :
    Calls Tryd.prog 80 #[.agg #[.slice ta g.ts.length tc, .slice na g.ns.length nc, .int .i64 g.ax, .slice ra g.rs.length rc], .agg #[.int .i64 r.left, .slice qa r.right.length qc]] w fun e w' => e = .returned (ckK p (ruleK g.ts.length g.ns.length r)) ∧ Below w.heap.size w w' := by
  obtain ⟨g1, g2, _⟩ := hg
  obtain ⟨_, o2, o3⟩ := ho
  obtain ⟨s1, s3, _⟩ := hS
  have e1 : w.cell? ⟨0, 0, none⟩ = some (.iface 189 (.pointer (some (p 1)))) := s1
  have e3 : w.cell? ⟨3, 0, none⟩ = some (.iface 189 (.pointer (some (p 3)))) := s3
  have l1 := cell_lt e1
  have l3 := cell_lt e3
  dsimp only at l1 l3
  have l0 : 0 < w.heap.size := by omega
  have hB2 : ∀ o1 o2, Below w.heap.size w ((w.alloc o1).alloc o2) := fun o1 o2 => ((Below.refl _ _).alloc (Nat.le_refl _) _).alloc (by simp) _
  by_cases h1 : 32 < r.right.length
  · have E : Hid (ruleK g.ts.length g.ns.length r = 3) := ruleK_long h1
    have h2 : (32 : Int) < (r.right.length : Int) := by omega
    go_enter Tryd.func80, Tryd.ntmps80
    go_wp2
    go_ret
    exact ⟨ret_ckK E.out, hB2 _ _⟩
  · have h2 : ¬ (32 : Int) < (r.right.length : Int) := by omega
    cases hL : leftB g.ns.length r.left with
    | false =>
      have E : Hid (ruleK g.ts.length g.ns.length r = 1) := ruleK_left h1 hL
      have hh := fun W => has_any na g.ns.length nc r.left W g2
      rw [hL] at hh
      go_enter Tryd.func80, Tryd.ntmps80
      go_wp2_with fail
      refine (hh _).mono ?_
      rintro e w1 ⟨rfl, hw1⟩
      obtain rfl := hw1.symm
      go_wp2
      go_ret
      exact ⟨ret_ckK E.out, hB2 _ _⟩
    | true =>
      have hh := fun W => has_any na g.ns.length nc r.left W g2
      rw [hL] at hh
      have hr2 : IRow ((w.alloc (.cells #[.slice ta g.ts.length tc, .slice na g.ns.length nc, .int .i64 g.ax, .slice ra g.rs.length rc] 25)).alloc (.cells #[.int .i64 r.left, .slice qa r.right.length qc] 62)) qa r.right := hr.below (hB2 _ _) (Nat.le_refl _)
      have hBW := hB2 (.cells #[.slice ta g.ts.length tc, .slice na g.ns.length nc, .int .i64 g.ax, .slice ra g.rs.length rc] 25) (.cells #[.int .i64 r.left, .slice qa r.right.length qc] 62)
      clear hB2 hr
      go_enter Tryd.func80, Tryd.ntmps80
      go_wp2_with fail
      refine (hh _).mono ?_
      rintro e w1 ⟨rfl, hw1⟩
      obtain rfl := hw1.symm
      clear hh
      go_wp2
      go_loopw [22] (fun i wr => ∃ k q : Nat, k ≤ r.right.length ∧ i = .int .i64 k ∧ wr = World.drewN ((w.alloc (.cells #[.slice ta g.ts.length tc, .slice na g.ns.length nc, .int .i64 g.ax, .slice ra g.rs.length rc] 25)).alloc (.cells #[.int .i64 r.left, .slice qa r.right.length qc] 62)) q ∧ Hid ((r.right.take k).all (symB g.ts.length g.ns.length) = true)) (fun i _ => r.right.length - (intOf i).toNat)
      case atStart => exact ⟨0, 0, by omega, rfl, rfl, rfl⟩
      case round =>
        obtain ⟨k, q, hk, rfl, rfl, hal⟩ := hrel
        by_cases hlt : k < r.right.length
        · obtain ⟨x, hx⟩ : ∃ x, r.right[k]? = some x := ⟨r.right[k], List.getElem?_eq_getElem hlt⟩
          obtain ⟨b, off, rfl, hc⟩ := hr2 k x hx
          have hlt2 : (k : Int) < (r.right.length : Int) := by omega
          have hx64 := o2 x (List.mem_of_getElem? hx)
          have ht := fun W => has_any ta g.ts.length tc x W g1
          have hn := fun W => has_any na g.ns.length nc (-1 - x) W g2
          have hnt := fun W => nonterm_any x W hx64
          have hor := symB_or g.ts.length g.ns.length x
          cases hT : leftB g.ts.length x with
          | true =>
            rw [hT] at ht hor
            have hal2 : Hid ((r.right.take (k + 1)).all (symB g.ts.length g.ns.length) = true) := all_take_succ hx hal.out (by rw [hor]; rfl)
            clear hor hal hr2 hx hL hT h1
            go_wp2
            go_quiet ((go_at_call 79; exact (ht _).mono (fun _ _ h => ⟨h.1, _, h.2⟩)))
            go_wp2
            go_roundw
            case rel => exact ⟨k + 1, _, by omega, by go_num, rfl, hal2⟩
            case measure => simp [intOf]; omega
          | false =>
            rw [hT] at ht hor
            cases hN : leftB g.ns.length (-1 - x) with
            | true =>
              rw [hN] at hn hor
              have hal2 : Hid ((r.right.take (k + 1)).all (symB g.ts.length g.ns.length) = true) := all_take_succ hx hal.out (by rw [hor]; rfl)
              clear hor hal hr2 hx hL h1 ht hn hnt
              go_wp2
              go_quiet ((first | (go_at_call 79; refine (has_any _ _ _ _ _ (by omega)).mono (fun _ _ h => ⟨h.1, _, h.2⟩)) | (go_at_call 95; refine (nonterm_any _ _ hx64).mono (fun _ _ h => ⟨h.1, _, h.2⟩))))
              go_wp2
              go_roundw
              case rel => exact ⟨k + 1, _, by omega, by go_num, rfl, hal2⟩
              case measure => simp [intOf]; omega
            | false =>
              rw [hN] at hn hor
              have E : Hid (ruleK g.ts.length g.ns.length r = 1) := ruleK_sym h1 hL hx (by rw [hor]; rfl)
              clear hor hal hr2 hx hL h1 ht hn hnt
              go_wp2
              go_quiet ((first | (go_at_call 79; refine (has_any _ _ _ _ _ (by omega)).mono (fun _ _ h => ⟨h.1, _, h.2⟩)) | (go_at_call 95; refine (nonterm_any _ _ hx64).mono (fun _ _ h => ⟨h.1, _, h.2⟩))))
              go_wp2
              go_ret
              exact ⟨ret_ckK E.out, hBW.os, hBW.tape, hBW.output, hBW.size, hBW.block⟩
        · obtain rfl : k = r.right.length := by omega
          have E : Hid (ruleK g.ts.length g.ns.length r = 0) := ruleK_good h1 hL hal.out
          clear hal hr2 hL h1
          go_wp2
          go_ret
          exact ⟨ret_ckK_zero E.out, hBW.os, hBW.tape, hBW.output, hBW.size, hBW.block⟩

end Go.Proofs.YtffdnpjkcchmnaaDoor.GramCheck
