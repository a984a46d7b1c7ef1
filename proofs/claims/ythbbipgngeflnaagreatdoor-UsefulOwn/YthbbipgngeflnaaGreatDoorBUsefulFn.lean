/-
  Texts that stand together: UsefulFn.
-/
import Derived.Test.YthbbipgngeflnaaGreatDoorBBaseMath
import Derived.Test.YthbbipgngeflnaaGreatDoorBagGramRoll2
import Derived.Test.YthbbipgngeflnaaGreatDoorBGramBase
import Derived.Test.YthbbipgngeflnaaGreatDoorBagUsefulRMath
namespace Go.Proofs.YthbbipgngeflnaaGreatDoor.UsefulFn
open Go.RowKit Go.Proofs.YthbbipgngeflnaaGreatDoor.GramMath Go.Proofs.YthbbipgngeflnaaGreatDoor.GramRow Go.Proofs.YthbbipgngeflnaaGreatDoor.SetsMath Go.Proofs.YthbbipgngeflnaaGreatDoor.UsefulMath
set_option linter.unusedVariables false

theorem ret_set {a b : Int} (h : a = b) : Ending.returned (.int .u64 a) = .returned (.int .u64 b) := by rw [h]

set_option maxHeartbeats 400000 in
theorem unonterm_any (x : Int) (w : World) (hx : I64 x) : Calls Tryz.prog 73 #[.int .i64 x] w fun e w' => e = .returned (.int .i64 (-1 - x)) ∧ w' = w := by
  obtain ⟨h1, h2⟩ := hx
  go_enter Tryz.func73, Tryz.ntmps73
  go_wp2
  go_ret
  exact ⟨rfl, rfl⟩

/-- The nonterminals of the first k symbols. -/
def ntTo (r : R) (k : Nat) : Int := ofI ((r.right.take k).map (fun x => -1 - x))
theorem ntTo_isSet (r : R) (k : Nat) : IsSet (ntTo r k) := ofI_isSet _ zero_isSet
theorem ntTo_succ {r : R} {k : Nat} {x : Int} (h : r.right[k]? = some x) : withI (ntTo r k) (-1 - x) = ntTo r (k + 1) := by
  obtain ⟨hk, he⟩ := List.getElem?_eq_some_iff.1 h
  unfold ntTo ofI
  rw [List.take_succ_eq_append_getElem hk, he, List.map_append, List.foldl_append]
  rfl
theorem ntTo_all (r : R) : ntTo r r.right.length = ntI r := by unfold ntTo; rw [List.take_length]; rfl

set_option maxRecDepth 100000 in
set_option maxHeartbeats 1000000 in
theorem nonterms_any (ra : Option Addr) (rc : Nat) (r : R) (w : World) (hI : IRow w ra r.right) (ho : okR r) :
    Calls Tryz.prog 42 #[.agg #[.int .i64 r.left, .slice ra r.right.length rc]] w fun e w' => e = .returned (.int .u64 (ntI r)) ∧ Below w.heap.size w w' := by
  obtain ⟨_, o2, o3⟩ := ho
  have hB : Below w.heap.size w (w.alloc (.cells #[.int .i64 r.left, .slice ra r.right.length rc] 38)) := (Below.refl _ _).alloc (Nat.le_refl _) _
  have hI1 := hI.below hB (Nat.le_refl _)
  clear hI
  go_enter Tryz.func42, Tryz.ntmps42
  go_wp2
  generalize w.alloc (.cells #[.int .i64 r.left, .slice ra r.right.length rc] 38) = W at *
  go_loop [3, 9] (fun f i => ∃ k : Nat, k ≤ r.right.length ∧ i = .int .i64 k ∧ f = .int .u64 (ntTo r k)) (fun _ i => r.right.length - (intOf i).toNat)
  case atStart => exact ⟨0, by omega, rfl, rfl⟩
  case round =>
    obtain ⟨k, hk, rfl, rfl⟩ := hrel
    by_cases hlt : k < r.right.length
    · obtain ⟨x, hx⟩ : ∃ x, r.right[k]? = some x := ⟨r.right[k], List.getElem?_eq_getElem hlt⟩
      obtain ⟨b, off, rfl, hc⟩ := hI1 k x hx
      have hlt2 : (k : Int) < (r.right.length : Int) := by omega
      have hx64 := o2 x (List.mem_of_getElem? hx)
      have E : Hid (_) := ntTo_succ hx
      have hs := ntTo_isSet r k
      clear hI1 hx
      go_wp2_with (first | (go_at_call 73; refine (unonterm_any _ _ hx64).mono ?_; rintro e w' ⟨rfl, rfl⟩) | (go_at_call 47; refine (SetsOne.with_any _ _ _ hs).mono ?_; rintro e w' ⟨rfl, rfl⟩))
      go_round
      case rel => exact ⟨k + 1, by omega, by go_num, by rw [E.out]⟩
      case measure => simp [intOf]; omega
    · have E : Hid (ntTo r k = ntI r) := by rw [show k = r.right.length by omega]; exact ntTo_all r
      clear hI1
      go_wp2
      go_ret
      exact ⟨ret_set E.out, hB⟩

theorem allI_two {a b : Int} (ha : IsSet a) : SetsMath.allI [a, b] = orI a b := by
  show orI (orI 0 a) b = orI a b
  congr 1
  unfold orI IsSet at *
  simp
  omega

theorem row_two (w : World) (a b : Int) (t : TypeId) : SetsMany.Row .u64 (w.alloc (.cells #[.int .u64 a, .int .u64 b] t)) (some ⟨w.heap.size, 0, none⟩) 2 [a, b] := fun i hi => by
  refine ⟨w.heap.size, 0, rfl, ?_⟩
  match i, hi with
  | 0, _ => simp
  | 1, _ => simp

theorem row_one (w : World) (a : Int) (t : TypeId) : SetsMany.Row .i64 (w.alloc (.cells #[.int .i64 a] t)) (some ⟨w.heap.size, 0, none⟩) 1 [a] := fun i hi => by
  refine ⟨w.heap.size, 0, rfl, ?_⟩
  match i, hi with
  | 0, _ => simp

set_option maxRecDepth 100000 in
set_option maxHeartbeats 1000000 in
theorem productive1_any (s : Int) (ra : Option Addr) (rc : Nat) (r : R) (w : World) (hs : IsSet s) (hI : IRow w ra r.right) (ho : okR r) :
    Calls Tryz.prog 40 #[.int .u64 s, .agg #[.int .i64 r.left, .slice ra r.right.length rc]] w fun e w' => e = .returned (.int .u64 (addP s r)) ∧ Below w.heap.size w w' := by
  have hB : Below w.heap.size w (w.alloc (.cells #[.int .i64 r.left, .slice ra r.right.length rc] 38)) := (Below.refl _ _).alloc (Nat.le_refl _) _
  have hn := nonterms_any ra rc r _ (hI.below hB (Nat.le_refl _)) ho
  have c0 : (w.alloc (.cells #[.int .i64 r.left, .slice ra r.right.length rc] 38)).cell? ⟨w.heap.size, 0, none⟩ = some (.int .i64 r.left) := by simp
  have hz : w.heap.size < (w.alloc (.cells #[.int .i64 r.left, .slice ra r.right.length rc] 38)).heap.size := by simp
  clear hI
  go_enter Tryz.func40, Tryz.ntmps40
  go_wp2_with fail
  refine hn.mono ?_
  rintro e w1 ⟨rfl, hb1⟩
  have hB1 := hB.trans (hb1.mono hB.size)
  have d0 := (hb1.cell (p := ⟨w.heap.size, 0, none⟩) hz).trans c0
  have hw := SetsAlg.within_any (ntI r) s w1 (ntI_isSet r) hs
  have E1 : Hid (addP s r = if nin s r = true then ofI [r.left] else 0) := rfl
  have E2 : Hid (nin s r = (minusI (ntI r) s == 0)) := rfl
  cases hm : (minusI (ntI r) s == 0) with
  | true =>
    rw [hm] at hw E2
    have E : Hid (ofI [r.left] = addP s r) := by show _ = _; rw [E1.out, if_pos E2.out]
    clear hn hB hb1 c0 hz hm E1 E2
    have hof := SetsMany.of_any (some ⟨w1.heap.size, 0, none⟩) 1 1 [r.left] _ (row_one w1 r.left 3) (by simp) (by omega)
    go_wp2_with fail
    refine hw.mono ?_
    rintro e w2 ⟨rfl, hw2⟩
    obtain rfl := hw2.symm
    go_wp2_with fail
    refine hof.mono ?_
    rintro e w2 ⟨rfl, hw2⟩
    obtain rfl := hw2.symm
    go_wp2
    go_ret
    exact ⟨ret_set E.out, hB1.alloc hB1.size _⟩
  | false =>
    rw [hm] at hw E2
    have E : Hid (0 = addP s r) := by show _ = _; rw [E1.out, if_neg (by rw [E2.out]; decide)]
    clear hn hB hb1 c0 hz hm E1 E2
    go_wp2_with fail
    refine hw.mono ?_
    rintro e w2 ⟨rfl, hw2⟩
    obtain rfl := hw2.symm
    go_wp2
    go_ret
    exact ⟨ret_set E.out, hB1⟩

set_option maxRecDepth 100000 in
set_option maxHeartbeats 1000000 in
theorem reached1_any (s : Int) (ra : Option Addr) (rc : Nat) (r : R) (w : World) (hs : IsSet s) (hI : IRow w ra r.right) (ho : okR r) :
    Calls Tryz.prog 50 #[.int .u64 s, .agg #[.int .i64 r.left, .slice ra r.right.length rc]] w fun e w' => e = .returned (.int .u64 (addR s r)) ∧ Below w.heap.size w w' := by
  have hB : Below w.heap.size w (w.alloc (.cells #[.int .i64 r.left, .slice ra r.right.length rc] 38)) := (Below.refl _ _).alloc (Nat.le_refl _) _
  have hn := nonterms_any ra rc r _ (hI.below hB (Nat.le_refl _)) ho
  have hh := SetsOne.has_any s r.left (w.alloc (.cells #[.int .i64 r.left, .slice ra r.right.length rc] 38)) hs
  have E1 : Hid (addR s r = if hasB s r.left = true then ntI r else 0) := rfl
  clear hI
  cases hm : hasB s r.left with
  | true =>
    rw [hm] at hh E1
    have E : Hid (ntI r = addR s r) := by show _ = _; rw [E1.out]; rfl
    clear hm E1
    go_enter Tryz.func50, Tryz.ntmps50
    go_wp2_with fail
    refine hh.mono ?_
    rintro e w2 ⟨rfl, hw2⟩
    obtain rfl := hw2.symm
    go_wp2_with fail
    refine hn.mono ?_
    rintro e w2 ⟨rfl, hb2⟩
    go_wp2
    go_ret
    exact ⟨ret_set E.out, hB.trans (hb2.mono hB.size)⟩
  | false =>
    rw [hm] at hh E1
    have E : Hid (0 = addR s r) := by show _ = _; rw [E1.out]; rfl
    clear hm E1 hn
    go_enter Tryz.func50, Tryz.ntmps50
    go_wp2_with fail
    refine hh.mono ?_
    rintro e w2 ⟨rfl, hw2⟩
    obtain rfl := hw2.symm
    go_wp2
    go_ret
    exact ⟨ret_set E.out, hB⟩

/-- How many numbers below 64 a set lacks. -/
def lacks (s : Int) : Nat := ((List.range 64).filter (fun i => !s.toNat.testBit i)).length

theorem lacks_lt {s t : Int} (hs : IsSet s) (ht : IsSet t) (h : orI s t ≠ s) : lacks (orI s t) < lacks s := by
  obtain ⟨j, hj, hj1, hj2⟩ : ∃ j : Nat, j < 64 ∧ hasB s j = false ∧ hasB (orI s t) j = true := by
    apply Classical.byContradiction
    intro hno
    apply h
    refine ext_set (orI_isSet hs ht) hs (fun j hj => ?_)
    cases h1 : hasB s j with
    | true => exact hasB_or.2 (.inl h1)
    | false =>
      cases h2 : hasB (orI s t) j with
      | false => rfl
      | true => exact absurd ⟨j, hj, h1, h2⟩ hno
  rw [hasB_nat _ hj] at hj1 hj2
  unfold lacks
  have hsub : ∀ i, (!(orI s t).toNat.testBit i) = true → (!s.toNat.testBit i) = true := fun i hi => by
    have e : (orI s t).toNat = s.toNat ||| t.toNat := by simp [orI]
    rw [e, Nat.testBit_or] at hi
    cases hc : s.toNat.testBit i with
    | false => rfl
    | true => rw [hc] at hi; simp at hi
  rw [← List.countP_eq_length_filter, ← List.countP_eq_length_filter]
  generalize (orI s t).toNat = x at *
  generalize s.toNat = y at *
  have key : ∀ (l : List Nat), j ∈ l → l.countP (fun i => !x.testBit i) < l.countP (fun i => !y.testBit i) := by
    intro l
    induction l with
    | nil => intro h; cases h
    | cons a l ih =>
      intro hm
      have hle : l.countP (fun i => !x.testBit i) ≤ l.countP (fun i => !y.testBit i) := List.countP_mono_left (fun i _ hi => hsub i hi)
      rw [List.countP_cons, List.countP_cons]
      rcases List.mem_cons.1 hm with rfl | hm
      · rw [hj1, hj2]
        simp
        omega
      · have := ih hm
        have h2 := hsub a
        cases hx : x.testBit a <;> cases hy : y.testBit a <;> simp [hx, hy] at h2 ⊢ <;> omega
  exact key _ (List.mem_range.2 hj)

end Go.Proofs.YthbbipgngeflnaaGreatDoor.UsefulFn
