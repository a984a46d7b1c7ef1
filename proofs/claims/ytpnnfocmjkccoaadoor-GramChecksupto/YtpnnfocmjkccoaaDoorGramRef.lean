/-
  The document's own answers: where a name is, the name of a symbol, renamings.
-/
import Derived.Test.YtpnnfocmjkccoaaDoorGramName
namespace Go.Proofs.YtpnnfocmjkccoaaDoor.GramRef
open Go.RowKit Go.Proofs.YtpnnfocmjkccoaaDoor.GramMath Go.Proofs.YtpnnfocmjkccoaaDoor.GramRow Go.Proofs.YtpnnfocmjkccoaaDoor.GramOne Go.Proofs.YtpnnfocmjkccoaaDoor.GramName
set_option linter.unusedVariables false

theorem idxN_hit {ss : List ByteArray} {s : ByteArray} {k : Nat} (h : idx ss s = (k : Int)) : idxN ss s = (k : Int) ∧ idxB ss s = true := by
  unfold idxN idxB
  rw [h]
  exact ⟨if_neg (by omega), by simp⟩
theorem idxN_miss {ss : List ByteArray} {s : ByteArray} (h : idx ss s = -1) : idxN ss s = 0 ∧ idxB ss s = false := by
  unfold idxN idxB
  rw [h]
  exact ⟨rfl, rfl⟩

set_option maxRecDepth 100000 in
set_option maxHeartbeats 1000000 in
theorem rfind_any (a : Option Addr) (c : Nat) (ss : List ByteArray) (s : ByteArray) (w : World) (hr : SRow w a ss) (hm : ss.length ≤ 1125899906842624) :
    Calls Tryd.prog 68 #[.slice a ss.length c, .string s] w fun e w' => e = .returned (.tuple #[.int .i64 (idxN ss s), .bool (idxB ss s)]) ∧ w' = w := by
  go_enter Tryd.func68, Tryd.ntmps68
  go_wp2
  go_loop [6] (fun i => ∃ k : Nat, k ≤ ss.length ∧ i = .int .i64 k ∧ ∀ j, j < k → ss[j]? ≠ some s) (fun i => ss.length - (intOf i).toNat)
  case atStart => exact ⟨0, by omega, rfl, fun j hj => by omega⟩
  case round =>
    obtain ⟨k, hk, rfl, hno⟩ := hrel
    by_cases hlt : k < ss.length
    · obtain ⟨x, hx⟩ : ∃ x, ss[k]? = some x := ⟨ss[k], List.getElem?_eq_getElem hlt⟩
      obtain ⟨b, off, rfl, hc⟩ := hr k x hx
      have hlt2 : (k : Int) < (ss.length : Int) := by omega
      by_cases hs : x = s
      · subst hs
        have E : Hid (idxN ss x = (k : Int) ∧ idxB ss x = true) := idxN_hit (idx_hit hx hno)
        clear hr hno hx
        go_wp2
        go_ret2
        exact ⟨ret_two E.out.1.symm E.out.2.symm, rfl⟩
      · have hs1 := str_ne hs
        have hno2 : Hid (∀ j, j < k + 1 → ss[j]? ≠ some s) := fun j hj => by
          by_cases hjk : j = k
          · subst hjk; rw [hx]; intro e; exact hs (Option.some.inj e)
          · exact hno j (by omega)
        clear hr hno hx
        go_wp2
        go_round
        case rel => exact ⟨k + 1, by omega, by go_num, hno2.out⟩
        case measure => simp [intOf]; omega
    · have E : Hid (idxN ss s = 0 ∧ idxB ss s = false) := idxN_miss (idx_miss (fun j hj => hno j (by omega)))
      clear hr hno
      go_wp2
      go_ret2
      exact ⟨ret_two E.out.1.symm E.out.2.symm, rfl⟩

set_option maxHeartbeats 400000 in
theorem rterm_any (ta na ra : Option Addr) (tc nc rc : Nat) (g : G) (s : ByteArray) (w : World) (hr : SRow w ta g.ts) (hm : g.ts.length ≤ 1125899906842624) :
    Calls Tryd.prog 19 #[.agg #[.slice ta g.ts.length tc, .slice na g.ns.length nc, .int .i64 g.ax, .slice ra g.rs.length rc], .string s] w fun e w' => e = .returned (.tuple #[.int .i64 (idxN g.ts s), .bool (idxB g.ts s)]) ∧ Below w.heap.size w w' := by
  go_enter Tryd.func19, Tryd.ntmps19
  go_wp2_with fail
  refine (rfind_any ta tc g.ts s _ (hr.below ((Below.refl w.heap.size _).alloc (Nat.le_refl _) _) (Nat.le_refl _)) hm).mono ?_
  rintro e w1 ⟨rfl, hw1⟩
  obtain rfl := hw1.symm
  go_wp2
  go_ret2
  exact ⟨rfl, (Below.refl _ _).alloc (Nat.le_refl _) _⟩

set_option maxHeartbeats 400000 in
theorem rnonterm_any (ta na ra : Option Addr) (tc nc rc : Nat) (g : G) (s : ByteArray) (w : World) (hr : SRow w na g.ns) (hm : g.ns.length ≤ 1125899906842624) :
    Calls Tryd.prog 21 #[.agg #[.slice ta g.ts.length tc, .slice na g.ns.length nc, .int .i64 g.ax, .slice ra g.rs.length rc], .string s] w fun e w' => e = .returned (.tuple #[.int .i64 (idxN g.ns s), .bool (idxB g.ns s)]) ∧ Below w.heap.size w w' := by
  go_enter Tryd.func21, Tryd.ntmps21
  go_wp2_with fail
  refine (rfind_any na nc g.ns s _ (hr.below ((Below.refl w.heap.size _).alloc (Nat.le_refl _) _) (Nat.le_refl _)) hm).mono ?_
  rintro e w1 ⟨rfl, hw1⟩
  obtain rfl := hw1.symm
  go_wp2
  go_ret2
  exact ⟨rfl, (Below.refl _ _).alloc (Nat.le_refl _) _⟩

set_option maxRecDepth 100000 in
set_option maxHeartbeats 2000000 in
theorem rname_any (ta na ra : Option Addr) (tc nc rc : Nat) (g : G) (s : Int) (w : World) (hT : SRow w ta g.ts) (hN : SRow w na g.ns) (ho : okG g) (hs : I64 s) :
    Calls Tryd.prog 23 #[.agg #[.slice ta g.ts.length tc, .slice na g.ns.length nc, .int .i64 g.ax, .slice ra g.rs.length rc], .int .i64 s] w fun e w' => e = .returned (.tuple #[.string (nameS g s), .bool (nameB g s)]) ∧ Below w.heap.size w w' := by
  obtain ⟨g1, g2, _, _, _, g6, g7⟩ := id ho
  obtain ⟨s1, s2⟩ := hs
  have hB1 : Below w.heap.size w (w.alloc (.cells #[.slice ta g.ts.length tc, .slice na g.ns.length nc, .int .i64 g.ax, .slice ra g.rs.length rc] 25)) := (Below.refl _ _).alloc (Nat.le_refl _) _
  have hT1 := hT.below hB1 (Nat.le_refl _)
  have hN1 := hN.below hB1 (Nat.le_refl _)
  have b0 : (w.alloc (.cells #[.slice ta g.ts.length tc, .slice na g.ns.length nc, .int .i64 g.ax, .slice ra g.rs.length rc] 25)).cell? ⟨w.heap.size, 0, none⟩ = some (.slice ta g.ts.length tc) := by simp [go_sem]
  have b1 : (w.alloc (.cells #[.slice ta g.ts.length tc, .slice na g.ns.length nc, .int .i64 g.ax, .slice ra g.rs.length rc] 25)).cell? ⟨w.heap.size, 1, none⟩ = some (.slice na g.ns.length nc) := by simp [go_sem]
  clear hT hN
  by_cases h0 : 0 ≤ s
  · have hM : leftB g.ns.length (-1 - s) = false := by simp [leftB]; omega
    by_cases h1 : s < (g.ts.length : Int)
    · obtain ⟨k, rfl⟩ : ∃ k : Nat, s = (k : Int) := ⟨s.toNat, by omega⟩
      have hL : leftB g.ts.length (k : Int) = true := by simp [leftB]; omega
      obtain ⟨x, hx⟩ : ∃ x, g.ts[k]? = some x := ⟨g.ts[k]'(by omega), List.getElem?_eq_getElem (by omega)⟩
      obtain ⟨b, off, rfl, hc⟩ := hT1 k x hx
      have E : Hid (nameS g (k : Int) = x) := by
        show _ = _
        unfold nameS
        rw [if_pos hL, Int.toNat_natCast, List.getD_eq_getElem?_getD, hx]
        rfl
      have E2 : Hid (nameB g (k : Int) = true) := by show _ = _; unfold nameB; rw [hL]; rfl
      clear hT1 hN1 hx hL hM
      go_enter Tryd.func23, Tryd.ntmps23
      go_wp2
      go_ret2
      exact ⟨ret_sb E.out.symm E2.out.symm, hB1⟩
    · have hL : leftB g.ts.length s = false := by simp [leftB]; omega
      have E : Hid (nameS g s = ⟨#[]⟩) := by
        show _ = _
        unfold nameS
        rw [if_neg (by rw [hL]; decide), if_neg (by rw [hM]; decide)]
      have E2 : Hid (nameB g s = false) := by show _ = _; unfold nameB; rw [hL, hM]; rfl
      clear hT1 hN1 hL hM
      go_enter Tryd.func23, Tryd.ntmps23
      go_wp2
      go_ret2
      exact ⟨ret_sb E.out.symm E2.out.symm, hB1⟩
  · have hL : leftB g.ts.length s = false := by simp [leftB]; omega
    obtain ⟨j, rfl⟩ : ∃ j : Nat, s = -1 - (j : Int) := ⟨(-1 - s).toNat, by omega⟩
    have E1 : Hid (∀ x, g.ns[j]? = some x → nameS g (-1 - (j : Int)) = x ∧ nameB g (-1 - (j : Int)) = true) := fun x hx => by
      have hj : j < g.ns.length := (List.getElem?_eq_some_iff.1 hx).1
      have hM : leftB g.ns.length (-1 - (-1 - (j : Int))) = true := by simp [leftB]; omega
      have hk0 : -1 - (-1 - (j : Int)) = (j : Int) := by omega
      constructor
      · unfold nameS
        rw [if_neg (by rw [hL]; decide), if_pos hM, hk0, Int.toNat_natCast, List.getD_eq_getElem?_getD, hx]
        rfl
      · unfold nameB; rw [hM]; simp
    have E2 : Hid (g.ns.length ≤ j → nameS g (-1 - (j : Int)) = ⟨#[]⟩ ∧ nameB g (-1 - (j : Int)) = false) := fun hj => by
      have hM : leftB g.ns.length (-1 - (-1 - (j : Int))) = false := by simp [leftB]; omega
      constructor
      · unfold nameS
        rw [if_neg (by rw [hL]; decide), if_neg (by rw [hM]; decide)]
      · unfold nameB; rw [hL, hM]; rfl
    clear hT1 hL b0
    go_enter Tryd.func23, Tryd.ntmps23
    go_wp2
    go_loop [6] (fun i => ∃ k : Nat, k ≤ g.ns.length ∧ i = .int .i64 k ∧ k ≤ j) (fun i => g.ns.length - (intOf i).toNat)
    case atStart => exact ⟨0, by omega, rfl, by omega⟩
    case round =>
      obtain ⟨k, hk, rfl, hkj⟩ := hrel
      by_cases hlt : k < g.ns.length
      · have hlt2 : (k : Int) < (g.ns.length : Int) := by omega
        by_cases e : k = j
        · subst e
          obtain ⟨x, hx⟩ : ∃ x, g.ns[k]? = some x := ⟨g.ns[k], List.getElem?_eq_getElem hlt⟩
          obtain ⟨b, off, rfl, hc⟩ := hN1 k x hx
          have E3 : Hid (nameS g (-1 - (k : Int)) = x ∧ nameB g (-1 - (k : Int)) = true) := E1.out x hx
          clear E1 E2 hN1 hx
          go_wp2
          go_ret2
          exact ⟨ret_sb E3.out.1.symm E3.out.2.symm, hB1⟩
        · have hne : (-1 - (j : Int) == -1 - (k : Int)) = false := by simp; omega
          clear E1 E2 hN1
          go_wp2
          go_round
          case rel => exact ⟨k + 1, by omega, by go_num, by omega⟩
          case measure => simp [intOf]; omega
      · have E3 : Hid (nameS g (-1 - (j : Int)) = ⟨#[]⟩ ∧ nameB g (-1 - (j : Int)) = false) := E2.out (by omega)
        clear E1 E2 hN1
        go_wp2
        go_ret2
        exact ⟨ret_sb E3.out.1.symm E3.out.2.symm, hB1⟩

set_option maxHeartbeats 1000000 in
theorem rren_any (ra : Option Addr) (rc : Nat) (r : R) (w : World) (hr : IRow w ra r.right) (ho : okR r) :
    Calls Tryd.prog 25 #[.agg #[.int .i64 r.left, .slice ra r.right.length rc]] w fun e w' => e = .returned (.tuple #[.int .i64 (renN r), .bool (renB r)]) ∧ Below w.heap.size w w' := by
  obtain ⟨_, hx, hl⟩ := ho
  obtain ⟨left, right⟩ := r
  dsimp only at hr hx hl ⊢
  match right, hr, hx, hl with
  | [], hr, hx, hl =>
    go_enter Tryd.func25, Tryd.ntmps25
    go_wp2
    go_ret2
    exact ⟨rfl, (Below.refl _ _).alloc (Nat.le_refl _) _⟩
  | [x], hr, hx, hl =>
    obtain ⟨b, off, rfl, hc⟩ := hr 0 x rfl
    have hi := hx x (by simp)
    have hc' : w.cell? ⟨b, off, none⟩ = some (.int .i64 x) := hc
    have hlt := cell_lt hc'
    obtain ⟨i1, i2⟩ := hi
    clear hr hc hx
    by_cases h0 : x < 0
    · have E1 : Hid (renN ⟨left, [x]⟩ = -1 - x) := by show _ = _; simp [renN, renB]; omega
      have E2 : Hid (renB ⟨left, [x]⟩ = true) := by show _ = _; simp [renB]; omega
      go_enter Tryd.func25, Tryd.ntmps25
      go_wp2
      go_ret2
      exact ⟨ret_two E1.out.symm E2.out.symm, (Below.refl _ _).alloc (Nat.le_refl _) _⟩
    · have E1 : Hid (renN ⟨left, [x]⟩ = 0) := by show _ = _; simp [renN, renB]; omega
      have E2 : Hid (renB ⟨left, [x]⟩ = false) := by show _ = _; simp [renB]; omega
      go_enter Tryd.func25, Tryd.ntmps25
      go_wp2
      go_ret2
      exact ⟨ret_two E1.out.symm E2.out.symm, (Below.refl _ _).alloc (Nat.le_refl _) _⟩
  | x :: y :: l, hr, hx, hl =>
    have E1 : Hid (renN ⟨left, x :: y :: l⟩ = 0) := rfl
    have E2 : Hid (renB ⟨left, x :: y :: l⟩ = false) := rfl
    have hne : ((((x :: y :: l).length : Nat) : Int) == 1) = false := by simp; omega
    generalize x :: y :: l = L at *
    go_enter Tryd.func25, Tryd.ntmps25
    go_wp2
    go_ret2
    exact ⟨ret_two E1.out.symm E2.out.symm, (Below.refl _ _).alloc (Nat.le_refl _) _⟩

end Go.Proofs.YtpnnfocmjkccoaaDoor.GramRef
