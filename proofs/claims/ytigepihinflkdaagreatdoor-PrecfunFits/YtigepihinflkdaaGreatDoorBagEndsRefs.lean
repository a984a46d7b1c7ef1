/-
  Texts that stand together: EndsRefs, GramName.
-/
import Derived.Test.YtigepihinflkdaaGreatDoorBEndsConcats
import Derived.Test.YtigepihinflkdaaGreatDoorBEndsOfs
import Derived.Test.YtigepihinflkdaaGreatDoorBagEndsSearch
import Derived.Laws.AppendOwnNone
import Derived.Test.YtigepihinflkdaaGreatDoorBagMatrixTabs
import Derived.Test.YtigepihinflkdaaGreatDoorBagShelf
namespace Go.Proofs.YtigepihinflkdaaGreatDoor.EndsRef
open Go.RowKit Go.Proofs.YtigepihinflkdaaGreatDoor.GramMath Go.Proofs.YtigepihinflkdaaGreatDoor.GramRow Go.Proofs.YtigepihinflkdaaGreatDoor.EndsMath Go.Proofs.YtigepihinflkdaaGreatDoor.EndsFn Go.Proofs.YtigepihinflkdaaGreatDoor.EndsConcat
set_option linter.unusedVariables false

theorem own_row {w : World} {base : Nat} {v : Value} {zs : List Int} {n : Nat} (hn : n = zs.length) (h : w.ownsRow base 3 1 v n (intsL zs)) : ∃ a c, v = .slice a zs.length c ∧ IRow w a zs := by
  subst hn
  rcases id h with ⟨_, ⟨rfl, h0⟩ | ⟨g, cap, cur, rfl, _⟩⟩
  · obtain rfl : zs = [] := List.length_eq_zero_iff.1 h0
    exact ⟨none, 0, rfl, fun i x hx => by simp at hx⟩
  · exact ⟨_, _, rfl, GramLent.lent_rowI h rfl⟩

set_option maxRecDepth 100000 in
set_option maxHeartbeats 2000000 in
theorem rturned_any (b : Bool) (ra : Option Addr) (rc : Nat) (zs : List Int) (w : World) (hI : IRow w ra zs) (hl : zs.length ≤ 4194304) :
    Calls Tryz.prog 123 #[.slice ra zs.length rc, .bool b] w fun e w' => (∃ a c, e = .returned (.slice a zs.length c) ∧ IRow w' a (vw b zs)) ∧ Below w.heap.size w w' := by
  obtain ⟨i0, hi, hz0, hz1, hz2⟩ := info_parts GramLent.infoI
  cases b with
  | false =>
    go_enter Tryz.func123, Tryz.ntmps123
    go_wp2
    go_ret
    exact ⟨⟨ra, rc, by simp, hI⟩, Below.refl _ _⟩
  | true =>
    go_enter Tryz.func123, Tryz.ntmps123
    go_wp2
    go_loopw [5, 6] (fun v i wr => ∃ k : Nat, k ≤ zs.length ∧ i = .int .i64 ((zs.length : Int) - 1 - k) ∧ wr.ownsRow w.heap.size 3 1 v k (intsL (zs.reverse.take k)) ∧ Below w.heap.size w wr) (fun _ i _ => (intOf i + 1).toNat)
    case atStart => exact ⟨0, by omega, by simp, World.ownsRow_nil _ _ _ _, Below.refl _ _⟩
    case round =>
      obtain ⟨k, hk, rfl, hown, hB⟩ := hrel
      have hIk := hI.below hB (Nat.le_refl _)
      have hsz := hB.size
      by_cases hlt : k < zs.length
      · obtain ⟨j, hj⟩ : ∃ j : Nat, zs.length - 1 - k = j := ⟨_, rfl⟩
        have hj2 : (zs.length : Int) - 1 - (k : Int) = (j : Int) := by omega
        obtain ⟨x, hx⟩ : ∃ x, zs[j]? = some x := ⟨zs[j]'(by omega), List.getElem?_eq_getElem _⟩
        obtain ⟨b', off, rfl, hc⟩ := hIk j x hx
        have hj3 : (j : Int) < (zs.length : Int) := by omega
        have htk : zs.reverse.take (k + 1) = zs.reverse.take k ++ [x] := by
          have hr : zs.reverse[k]? = some x := by rw [List.getElem?_reverse hlt, hj]; exact hx
          obtain ⟨h1, h2⟩ := List.getElem?_eq_some_iff.1 hr
          rw [List.take_succ_eq_append_getElem h1, h2]
        have hBn : Below wr.heap.size wr (wr.alloc (.cells #[.int .i64 x] 3)) := (Below.refl _ _).alloc (Nat.le_refl _) _
        have hown1 := GramLent.own_below hown hBn
        have HK : Hid (∀ (v2 : Value) (w2 : World), w2.ownsRow w.heap.size 3 1 v2 (k + 1) (intsL (zs.reverse.take k) ++ [.int .i64 x]) → w2.ownsRow w.heap.size 3 1 v2 (k + 1) (intsL (zs.reverse.take (k + 1)))) := fun v2 w2 h => by rw [htk]; simpa [intsL] using h
        rw [hj2]
        clear hI hIk hx htk hj
        go_wp2_with (at_builtin; refine wpList_append_own _ rfl _ _ 36 rfl w.heap.size 3 i0 (.int .i64 0) 1 8 Tryz.underlying36 hi hz0 hz1 hz2 rfl (by decide) _ _ _ rfl hown1 ⟨wr.heap.size, 0, none⟩ 1 1 [.int .i64 x] rfl rfl (cell_one_new _ _ _) (by simp [Value.oneCell']) (by unfold maxLen; omega) (by omega) (by simp; omega) ?_; intro v2 w2 hown2 hgrow2 _)
        have hown3 := HK.out _ _ hown2
        have hB2 := (hB.trans (hBn.mono hB.size)).grown hgrow2 (by simp; try omega) (fun j hj => (hown1.lt j hj).1)
        go_roundw
        case rel => exact ⟨k + 1, by omega, by go_num, hown3, hB2⟩
        case measure => simp [intOf]
      · obtain rfl : k = zs.length := by omega
        have hj2 : (zs.length : Int) - 1 - (zs.length : Int) = -1 := by omega
        rw [hj2]
        have htk : zs.reverse.take zs.length = zs.reverse := List.take_of_length_le (by simp)
        rw [htk] at hown
        obtain ⟨a, c, rfl, hrow⟩ := own_row (zs := zs.reverse) (by simp) hown
        rw [List.length_reverse]
        clear hI hIk hown htk
        go_wp2
        go_ret
        exact ⟨⟨a, c, by simp, hrow⟩, hB⟩

theorem vrow_at {w : World} {a : Option Addr} {b : Bool} {zs : List Int} (h : IRow w a (vw b zs)) {k : Nat} (hk : k < zs.length) : ∃ x off, a = some ⟨x, off, none⟩ ∧ w.cell? ⟨x, off + k, none⟩ = some (.int .i64 (lkN b zs k)) := irow_at h (by rw [vw_len]; exact hk)

def shQ (b : Bool) (r : R) (t : Nat) : Bool := shO b r == some t
def ldZ (b : Bool) (r : R) : Int := match ldO b r with | some m => (m : Int) | none => -1

theorem shQ_iff {b : Bool} {r : R} {t : Nat} : shQ b r t = true ↔ shO b r = some t := by unfold shQ; exact beq_iff_eq

theorem lkB_iff {b : Bool} {zs : List Int} {k : Nat} : lkB b zs k = true ↔ k < zs.length := by unfold lkB; simp

set_option maxRecDepth 100000 in
set_option maxHeartbeats 2000000 in
theorem rshows_any (b : Bool) (ra : Option Addr) (rc : Nat) (r : R) (t : Nat) (w : World) (hI : IRow w ra r.right) (ho : r.right.length ≤ 32) :
    Calls Tryz.prog 113 #[.agg #[.int .i64 r.left, .slice ra r.right.length rc], .int .i64 t, .bool b] w fun e w' => e = .returned (.bool (shQ b r t)) ∧ Below w.heap.size w w' := by
  have hB : Below w.heap.size w (w.alloc (.cells #[.int .i64 r.left, .slice ra r.right.length rc] 68)) := (Below.refl _ _).alloc (Nat.le_refl _) _
  have htu := rturned_any b ra rc r.right _ (hI.below hB (Nat.le_refl _)) (by omega)
  clear hI
  go_enter Tryz.func113, Tryz.ntmps113
  go_wp2_with fail
  refine htu.mono ?_
  rintro e w1 ⟨⟨a, c, rfl, hrow⟩, hb1⟩
  have hB1 := hB.trans (hb1.mono hB.size)
  clear htu hB hb1
  by_cases h1 : 0 < r.right.length
  · obtain ⟨x, off, rfl, c0⟩ := vrow_at hrow h1
    have c0 : w1.cell? ⟨x, off, none⟩ = some (.int .i64 (lkN b r.right 0)) := c0
    have h1' : (r.right.length : Int) > 0 := by omega
    have h1'' : decide ((r.right.length : Int) > 0) = true := by simpa using h1'
    have hd1 : decide (0 < r.right.length) = true := by simpa using h1
    by_cases h2 : 0 ≤ lkN b r.right 0
    · have E : Hid ((lkN b r.right 0 == (t : Int)) = shQ b r t) := by
        show _ = _
        rw [Bool.eq_iff_iff, shQ_iff, beq_iff_eq]
        unfold shO
        rw [sh_some (k := 0) (by omega) (fun j hj => by omega) ⟨lkB_iff.2 h1, h2⟩]
        constructor
        · intro h; rw [h]; simp
        · intro h; have := Option.some.inj h; omega
      have h2' : decide (lkN b r.right 0 ≥ 0) = true := by simpa using h2
      clear hrow
      generalize lkN b r.right 0 = z at *
      go_wp2
      go_ret
      exact ⟨ret_bool E.out, hB1⟩
    · have h2' : decide (lkN b r.right 0 ≥ 0) = false := by simpa using h2
      by_cases h3 : 1 < r.right.length
      · obtain ⟨x1, off1, hx1, c1⟩ := vrow_at hrow h3
        simp only [Option.some.injEq, Addr.mk.injEq] at hx1
        obtain ⟨rfl, rfl, _⟩ := hx1
        have h3' : (r.right.length : Int) > 1 := by omega
        have h3'' : decide ((r.right.length : Int) > 1) = true := by simpa using h3'
        have hd3 : decide (1 < r.right.length) = true := by simpa using h3
        have E : Hid ((lkN b r.right 1 == (t : Int)) = shQ b r t) := by
          show _ = _
          rw [Bool.eq_iff_iff, shQ_iff, beq_iff_eq]
          unfold shO
          by_cases h4 : 0 ≤ lkN b r.right 1
          · rw [sh_some (k := 1) (by omega) (fun j hj => by obtain rfl : j = 0 := (by omega); exact fun h => h2 h.2) ⟨lkB_iff.2 h3, h4⟩]
            constructor
            · intro h; rw [h]; simp
            · intro h; have := Option.some.inj h; omega
          · rw [sh_none (fun j hj => by
              match j, hj with
              | 0, _ => exact fun h => h2 h.2
              | 1, _ => exact fun h => h4 h.2)]
            constructor
            · intro h; omega
            · intro h; cases h
        clear hrow
        generalize lkN b r.right 0 = z at *
        generalize lkN b r.right 1 = z1 at *
        go_wp2
        go_ret
        exact ⟨ret_bool E.out, hB1⟩
      · have h3' : ¬ (r.right.length : Int) > 1 := by omega
        have h3'' : decide ((r.right.length : Int) > 1) = false := by simpa using h3'
        have hd3 : decide (1 < r.right.length) = false := by simpa using h3
        have E : Hid (false = shQ b r t) := by
          show _ = _
          symm
          rw [Bool.eq_false_iff, ne_eq, shQ_iff]
          unfold shO
          rw [sh_none (fun j hj => by
            match j, hj with
            | 0, _ => exact fun h => h2 h.2
            | 1, _ => exact fun h => h3 (lkB_iff.1 h.1))]
          intro h; cases h
        clear hrow
        generalize lkN b r.right 0 = z at *
        go_wp2
        go_ret
        exact ⟨ret_bool E.out, hB1⟩
  · have h1' : ¬ (r.right.length : Int) > 0 := by omega
    have h1'' : decide ((r.right.length : Int) > 0) = false := by simpa using h1'
    have hd1 : decide (0 < r.right.length) = false := by simpa using h1
    have h3' : ¬ (r.right.length : Int) > 1 := by omega
    have h3'' : decide ((r.right.length : Int) > 1) = false := by simp; omega
    have hd3 : decide (1 < r.right.length) = false := by simp; omega
    have E : Hid (false = shQ b r t) := by
      show _ = _
      symm
      rw [Bool.eq_false_iff, ne_eq, shQ_iff]
      unfold shO
      rw [sh_none (fun j hj => fun h => by have := lkB_iff.1 h.1; omega)]
      intro h; cases h
    clear hrow
    go_wp2
    go_ret
    exact ⟨ret_bool E.out, hB1⟩

set_option maxRecDepth 100000 in
set_option maxHeartbeats 2000000 in
theorem rleads_any (b : Bool) (ra : Option Addr) (rc : Nat) (r : R) (w : World) (hI : IRow w ra r.right) (ho : r.right.length ≤ 32) (hok : okR r) :
    Calls Tryz.prog 114 #[.agg #[.int .i64 r.left, .slice ra r.right.length rc], .bool b] w fun e w' => e = .returned (.int .i64 (ldZ b r)) ∧ Below w.heap.size w w' := by
  have hB : Below w.heap.size w (w.alloc (.cells #[.int .i64 r.left, .slice ra r.right.length rc] 68)) := (Below.refl _ _).alloc (Nat.le_refl _) _
  have htu := rturned_any b ra rc r.right _ (hI.below hB (Nat.le_refl _)) (by omega)
  obtain ⟨i1, i2⟩ := lkN_i64 (b := b) hok 0
  clear hI
  go_enter Tryz.func114, Tryz.ntmps114
  go_wp2_with fail
  refine htu.mono ?_
  rintro e w1 ⟨⟨a, c, rfl, hrow⟩, hb1⟩
  have hB1 := hB.trans (hb1.mono hB.size)
  clear htu hB hb1
  by_cases h1 : 0 < r.right.length
  · obtain ⟨x, off, rfl, c0⟩ := vrow_at hrow h1
    have c0 : w1.cell? ⟨x, off, none⟩ = some (.int .i64 (lkN b r.right 0)) := c0
    have h1' : (r.right.length : Int) > 0 := by omega
    have h1'' : decide ((r.right.length : Int) > 0) = true := by simpa using h1'
    have hd1 : decide (0 < r.right.length) = true := by simpa using h1
    by_cases h2 : lkN b r.right 0 < 0
    · have E : Hid (-1 - lkN b r.right 0 = ldZ b r) := by
        show _ = _
        unfold ldZ ldO
        rw [ld_some (lkB_iff.2 h1) h2]
        show _ = (((-1 - lkN b r.right 0).toNat : Nat) : Int)
        omega
      have h2' : decide (lkN b r.right 0 < 0) = true := by simpa using h2
      clear hrow
      generalize lkN b r.right 0 = z at *
      go_wp2
      go_ret
      exact ⟨ret_num E.out, hB1⟩
    · have E : Hid (-1 = ldZ b r) := by
        show _ = _
        unfold ldZ ldO
        rw [ld_none (fun h => h2 h.2)]
      have h2' : decide (lkN b r.right 0 < 0) = false := by simpa using h2
      clear hrow
      generalize lkN b r.right 0 = z at *
      go_wp2
      go_ret
      exact ⟨ret_num E.out, hB1⟩
  · have h1' : ¬ (r.right.length : Int) > 0 := by omega
    have h1'' : decide ((r.right.length : Int) > 0) = false := by simpa using h1'
    have hd1 : decide (0 < r.right.length) = false := by simpa using h1
    have E : Hid (-1 = ldZ b r) := by
      show _ = _
      unfold ldZ ldO
      rw [ld_none (fun h => h1 (lkB_iff.1 h.1))]
    clear hrow
    go_wp2
    go_ret
    exact ⟨ret_num E.out, hB1⟩

end Go.Proofs.YtigepihinflkdaaGreatDoor.EndsRef

namespace Go.Proofs.YtigepihinflkdaaGreatDoor.EndsRWith
open Go.RowKit Go.Proofs.YtigepihinflkdaaGreatDoor.GramMath Go.Proofs.YtigepihinflkdaaGreatDoor.GramRow Go.Proofs.YtigepihinflkdaaGreatDoor.GramLent Go.Proofs.YtigepihinflkdaaGreatDoor.EndsMath Go.Proofs.YtigepihinflkdaaGreatDoor.EndsSearch Go.Proofs.YtigepihinflkdaaGreatDoor.EndsConcat
set_option linter.unusedVariables false

end Go.Proofs.YtigepihinflkdaaGreatDoor.EndsRWith

namespace Go.Proofs.YtigepihinflkdaaGreatDoor.GramName
open Go.RowKit Go.Proofs.YtigepihinflkdaaGreatDoor.GramMath Go.Proofs.YtigepihinflkdaaGreatDoor.GramRow Go.Proofs.YtigepihinflkdaaGreatDoor.GramOne Go.Proofs.YtigepihinflkdaaGreatDoor.GramCheck Go.Proofs.YtigepihinflkdaaGreatDoor.GramAboveFn Go.Proofs.YtigepihinflkdaaGreatDoor.GramAwake
set_option linter.unusedVariables false

def nameS (g : G) (s : Int) : ByteArray := if leftB g.ts.length s = true then g.ts.getD s.toNat ⟨#[]⟩ else if leftB g.ns.length (-1 - s) = true then g.ns.getD (-1 - s).toNat ⟨#[]⟩ else ⟨#[]⟩
def nameB (g : G) (s : Int) : Bool := leftB g.ts.length s || leftB g.ns.length (-1 - s)

def b2i (b : Bool) : Int := if b = true then 1 else 0

end Go.Proofs.YtigepihinflkdaaGreatDoor.GramName
