/-
  Texts that stand together: UsefulTrimFn.
-/
import Derived.Test.YthbbipgngeflnaaGreatDoorBagGramRoll2
import Derived.Test.YthbbipgngeflnaaGreatDoorBUsefulGrow
import Derived.Test.YthbbipgngeflnaaGreatDoorBGramBuild4
namespace Go.Proofs.YthbbipgngeflnaaGreatDoor.UsefulTrim
open Go.RowKit Go.Proofs.YthbbipgngeflnaaGreatDoor.GramLess Go.Proofs.YthbbipgngeflnaaGreatDoor.GramMath Go.Proofs.YthbbipgngeflnaaGreatDoor.GramRow Go.Proofs.YthbbipgngeflnaaGreatDoor.GramOne Go.Proofs.YthbbipgngeflnaaGreatDoor.GramApart Go.Proofs.YthbbipgngeflnaaGreatDoor.GramCopy Go.Proofs.YthbbipgngeflnaaGreatDoor.GramRoll Go.Proofs.YthbbipgngeflnaaGreatDoor.SetsMath Go.Proofs.YthbbipgngeflnaaGreatDoor.UsefulMath Go.Proofs.YthbbipgngeflnaaGreatDoor.UsefulFn Go.Proofs.YthbbipgngeflnaaGreatDoor.UsefulTrimM
set_option linter.unusedVariables false
set_option linter.unusedSimpArgs false

def tmL (rs : List R) : List Int := rs.map (fun r => ofI r.right)
def tmI (rs : List R) : Int := allI (tmL rs)
theorem tmL_isSet (rs : List R) : ∀ x ∈ tmL rs, IsSet x := fun x hx => by
  obtain ⟨r, _, rfl⟩ := List.mem_map.1 hx
  exact ofI_isSet _ zero_isSet
theorem tmT_isSet (rs : List R) (k : Nat) : IsSet (allI ((tmL rs).take k)) := allI_isSet (fun x hx => tmL_isSet rs x (List.mem_of_mem_take hx))
theorem tmI_isSet (rs : List R) : IsSet (tmI rs) := allI_isSet (tmL_isSet rs)
theorem tmT_step {rs : List R} {k : Nat} {r : R} (h : rs[k]? = some r) : allI ((tmL rs).take (k + 1)) = orI (allI ((tmL rs).take k)) (ofI r.right) := by
  have hk := (List.getElem?_eq_some_iff.1 h).1
  rw [allI_take (by unfold tmL; rw [List.length_map]; exact hk)]
  congr 1
  unfold tmL
  rw [List.getD_eq_getElem?_getD, List.getElem?_map, h]
  rfl
theorem irow_row {w : World} {a : Option Addr} {zs : List Int} (h : IRow w a zs) : SetsMany.Row .i64 w a zs.length zs := fun i hi => by
  obtain ⟨b, off, e, hc⟩ := h i zs[i] (List.getElem?_eq_getElem hi)
  refine ⟨b, off, e, ?_⟩
  rw [hc, List.getD_eq_getElem?_getD, List.getElem?_eq_getElem hi]
  rfl

theorem hasB_all {j : Int} : ∀ (l : List Int) (s : Int), (hasB (l.foldl orI s) j = true ↔ hasB s j = true ∨ ∃ x ∈ l, hasB x j = true)
  | [], s => by simp
  | x :: l, s => by
    rw [List.foldl_cons, hasB_all l, hasB_or]
    simp only [List.mem_cons, exists_eq_or_imp]
    rw [or_assoc]
theorem hasB_tmI {rs : List R} {j : Int} : hasB (tmI rs) j = true ↔ ∃ r ∈ rs, j ∈ r.right ∧ 0 ≤ j ∧ j < 64 := by
  unfold tmI allI
  rw [hasB_all, hasB_zero]
  constructor
  · rintro (h | ⟨x, hx, hj⟩)
    · cases h
    · obtain ⟨r, hr, rfl⟩ := List.mem_map.1 hx
      exact ⟨r, hr, (hasB_ofI _).1 hj⟩
  · rintro ⟨r, hr, hj⟩
    exact .inr ⟨_, List.mem_map.2 ⟨r, hr, rfl⟩, (hasB_ofI _).2 hj⟩

set_option maxRecDepth 100000 in
set_option maxHeartbeats 2000000 in
theorem terms_any (ra : Option Addr) (rc : Nat) (rs : List R) (w : World) (hR : RRow w ra rs) (ho : ∀ r ∈ rs, okR r) (hl : rs.length ≤ 1125899906842624) :
    Calls Tryz.prog 60 #[.slice ra rs.length rc] w fun e w' => e = .returned (.int .u64 (tmI rs)) ∧ Below w.heap.size w w' := by
  go_enter Tryz.func60, Tryz.ntmps60
  go_wp2
  go_loopw [3, 8] (fun f i wr => ∃ k : Nat, k ≤ rs.length ∧ f = .int .u64 (allI ((tmL rs).take k)) ∧ i = .int .i64 k ∧ Below w.heap.size w wr) (fun _ i _ => rs.length - (intOf i).toNat)
  case atStart => exact ⟨0, by omega, rfl, rfl, Below.refl _ _⟩
  case round =>
    obtain ⟨k, hk, rfl, rfl, hB⟩ := hrel
    by_cases hlt : k < rs.length
    · obtain ⟨r, hr⟩ : ∃ r, rs[k]? = some r := ⟨rs[k], List.getElem?_eq_getElem hlt⟩
      obtain ⟨b, off, qa, qc, hra, d0, d1, hI⟩ := (hR.below hB (Nat.le_refl _)) k r hr
      subst hra
      have hlt2 : (k : Int) < (rs.length : Int) := by omega
      have hok := ho r (List.mem_of_getElem? hr)
      have hBn : Below wr.heap.size wr (wr.alloc (.cells #[.int .i64 r.left, .slice qa r.right.length qc] 38)) := (Below.refl _ _).alloc (Nat.le_refl _) _
      have hI2 := hI.below hBn (Nat.le_refl _)
      have hof := SetsMany.of_any qa r.right.length qc r.right _ (irow_row hI2) (Nat.le_refl _) (by have := hok.2.2; omega)
      rw [List.take_length] at hof
      have hs := tmT_isSet rs k
      have hs2 : IsSet (ofI r.right) := ofI_isSet _ zero_isSet
      have E : Hid (_) := tmT_step hr
      have hB2 := hB.trans (hBn.mono hB.size)
      clear hI hI2 hBn hr hB
      generalize ofI r.right = s2 at *
      generalize allI ((tmL rs).take k) = s1 at *
      go_wp2_with fail
      refine hof.mono ?_
      rintro e w2 ⟨rfl, hw2⟩
      have hB2' : Below w.heap.size w w2 := by rw [hw2]; exact hB2
      have hB3 := hB2'.alloc hB2'.size (.cells #[.int .u64 s1, .int .u64 s2] 47)
      clear hof hw2 hB2
      have hu := SetsAlg.union_any (some ⟨w2.heap.size, 0, none⟩) 2 2 [s1, s2] _ (row_two w2 s1 s2 47) (by simp) (by omega) (fun x hx => by rcases List.mem_cons.1 hx with rfl | hx; exact hs; rcases List.mem_cons.1 hx with rfl | hx; exact hs2; cases hx)
      rw [show [s1, s2].take 2 = [s1, s2] from rfl, allI_two hs] at hu
      go_wp2_with fail
      refine hu.mono ?_
      rintro e w3 ⟨rfl, hw3⟩
      obtain rfl := hw3.symm
      clear hu
      go_wp2
      go_roundw
      case rel => exact ⟨k + 1, by omega, by rw [E.out], by go_num, hB3⟩
      case measure => simp [intOf]; omega
    · have E : Hid (allI ((tmL rs).take k) = tmI rs) := by
        show _ = _
        rw [List.take_of_length_le (by unfold tmL; rw [List.length_map]; omega)]
        rfl
      go_wp2
      go_ret
      exact ⟨ret_set E.out, hB⟩

theorem numZ_in {ss : List ByteArray} {s : ByteArray} (h : memB s ss = true) : numZ ss s = idx ss s := by unfold numZ; rw [if_pos h]

set_option maxRecDepth 100000 in
set_option maxHeartbeats 400000 in
theorem bterm_hit (b base : Nat) (g : G) (nv mv nv2 mv2 rv : Value) (lq : List Q) (s : ByteArray) (w : World) (h : Build w b base g nv mv nv2 mv2 rv lq) (hs : s.size ≤ 281474976710656) (hl : g.ts.length ≤ 1000000000000) (hm : memB s g.ts = true) :
    Calls Tryz.prog 61 #[.pointer (some ⟨b, 0, none⟩), .string s] w fun e w' => e = .returned (.int .i64 (idx g.ts s)) ∧ w' = w := by
  have hnum := number_hit b 0 base g.ts s nv mv w h.t hs hm (by omega)
  rw [numZ_in hm] at hnum
  have hptr := ptr_some
  go_enter Tryz.func61, Tryz.ntmps61
  go_wp2_with fail
  refine hnum.mono ?_
  rintro e w1 ⟨rfl, hw1⟩
  obtain rfl := hw1.symm
  clear hnum
  go_wp2
  go_ret
  exact ⟨rfl, rfl⟩

set_option maxRecDepth 100000 in
set_option maxHeartbeats 400000 in
theorem bnonterm_hit (b base : Nat) (g : G) (nv mv nv2 mv2 rv : Value) (lq : List Q) (s : ByteArray) (w : World) (h : Build w b base g nv mv nv2 mv2 rv lq) (hs : s.size ≤ 281474976710656) (hl : g.ns.length ≤ 1000000000000) (hm : memB s g.ns = true) :
    Calls Tryz.prog 59 #[.pointer (some ⟨b, 0, none⟩), .string s] w fun e w' => e = .returned (.int .i64 (idx g.ns s)) ∧ w' = w := by
  have hnum := number_hit b 2 base g.ns s nv2 mv2 w h.n hs hm (by omega)
  rw [numZ_in hm] at hnum
  have hptr := ptr_some
  go_enter Tryz.func59, Tryz.ntmps59
  go_wp2_with fail
  refine hnum.mono ?_
  rintro e w1 ⟨rfl, hw1⟩
  obtain rfl := hw1.symm
  clear hnum
  go_wp2
  go_ret
  exact ⟨rfl, rfl⟩

end Go.Proofs.YthbbipgngeflnaaGreatDoor.UsefulTrim
