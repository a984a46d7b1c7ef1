/-
  Texts that stand together: UsefulGrow.
-/
import Derived.Test.YthbbipgngeflnaaGreatDoorBUsefulFn
import Derived.WalkMore
import Derived.Deep.LoopGhost
namespace Go.Proofs.YthbbipgngeflnaaGreatDoor.UsefulFn
open Go.RowKit Go.Proofs.YthbbipgngeflnaaGreatDoor.GramMath Go.Proofs.YthbbipgngeflnaaGreatDoor.GramRow Go.Proofs.YthbbipgngeflnaaGreatDoor.SetsMath Go.Proofs.YthbbipgngeflnaaGreatDoor.UsefulMath
set_option linter.unusedVariables false

/-- A set that has grown so far. -/
def Gone (f : Int → R → Int) (rs : List R) (s0 s : Int) : Prop := ∀ P : Int → Prop, P s0 → (∀ s, ∀ r ∈ rs, IsSet s → P s → P (orI s (f s r))) → P s
theorem Gone.next {f : Int → R → Int} {rs : List R} {s0 s : Int} (h : Gone f rs s0 s) (hs : IsSet s) {r : R} (hr : r ∈ rs) : Gone f rs s0 (orI s (f s r)) := fun P h0 hP => hP s r hr hs (h P h0 hP)
def Done (f : Int → R → Int) (rs : List R) (s : Int) (k : Nat) : Prop := ∀ j r, j < k → rs[j]? = some r → orI s (f s r) = s
theorem Done.next {f : Int → R → Int} {rs : List R} {s : Int} {k : Nat} {r : R} (h : Done f rs s k) (hr : rs[k]? = some r) (he : orI s (f s r) = s) : Done f rs s (k + 1) := fun j r' hj hj2 => by
  by_cases e : j = k
  · subst e
    rw [hr] at hj2
    cases hj2
    exact he
  · exact h j r' (by omega) hj2
theorem Done.grown {f : Int → R → Int} {rs : List R} {s0 s : Int} {k : Nat} (h : Done f rs s k) (hk : rs.length ≤ k) (hs : IsSet s) (hg : Gone f rs s0 s) : Grown f rs s0 s :=
  ⟨hs, fun r hr => by
    obtain ⟨j, hj, he⟩ := List.mem_iff_getElem.1 hr
    exact h j r (by omega) (by rw [List.getElem?_eq_getElem hj, he]), hg⟩

set_option maxRecDepth 100000 in
set_option maxHeartbeats 2000000 in
theorem grow_P (s0 : Int) (ra : Option Addr) (rc : Nat) (rs : List R) (w : World) (hs0 : IsSet s0) (hR : RRow w ra rs) (ho : ∀ r ∈ rs, okR r) (hl : rs.length ≤ 1125899906842624) :
    Calls Tryz.prog 39 #[.int .u64 s0, .slice ra rs.length rc, .func (.func 40) #[] #[]] w fun e w' => (∃ S, e = .returned (.int .u64 S) ∧ Grown addP rs s0 S) ∧ Below w.heap.size w w' := by
  go_enter Tryz.func39, Tryz.ntmps39
  go_wp2
  go_step3
  go_wp2
  go_step3
  go_wp2
  go_loopw [0] (fun f wr => ∃ s, f = .int .u64 s ∧ IsSet s ∧ Hid (Gone addP rs s0 s) ∧ Below w.heap.size w wr) (fun f _ => lacks (intOf f))
  case atStart => exact ⟨s0, rfl, hs0, fun P h _ => h, Below.refl _ _⟩
  case round =>
    obtain ⟨s, rfl, hs, hg, hBw⟩ := hrel
    go_wp2
    go_loopw [0, 12] (fun f i wr => ∃ k : Nat, k ≤ rs.length ∧ f = .int .u64 s ∧ i = .int .i64 k ∧ Hid (Done addP rs s k) ∧ Below w.heap.size w wr) (fun _ i _ => rs.length - (intOf i).toNat)
    case atStart => exact ⟨0, by omega, rfl, rfl, fun j r hj => absurd hj (by omega), hBw⟩
    case round =>
      clear hBw
      obtain ⟨k, hk, rfl, rfl, hd, hB⟩ := hrel
      have hRk := hR.below hB (Nat.le_refl _)
      by_cases hlt : k < rs.length
      · obtain ⟨r, hr⟩ : ∃ r, rs[k]? = some r := ⟨rs[k], List.getElem?_eq_getElem hlt⟩
        obtain ⟨b, off, qa, qc, hra, d0, d1, hI⟩ := hRk k r hr
        subst hra
        have hlt2 : (k : Int) < (rs.length : Int) := by omega
        have hrm := List.mem_of_getElem? hr
        have hok := ho r hrm
        have hBn : Below wr.heap.size wr (wr.alloc (.cells #[.int .i64 r.left, .slice qa r.right.length qc] 38)) := (Below.refl _ _).alloc (Nat.le_refl _) _
        have hI2 := hI.below hBn (Nat.le_refl _)
        have hp := productive1_any s qa qc r _ hs hI2 hok
        have hBn2 := hB.trans (hBn.mono hB.size)
        clear hI hI2 hRk hB hBn
        go_wp2_with fail
        refine hp.mono ?_
        rintro e w2 ⟨rfl, hb2⟩
        have hB2 := hBn2.trans (hb2.mono hBn2.size)
        have hu := SetsAlg.union_any (some ⟨w2.heap.size, 0, none⟩) 2 2 [s, addP s r] _ (row_two w2 s (addP s r) 47) (by simp) (by omega) (fun x hx => by rcases List.mem_cons.1 hx with rfl | hx; exact hs; rcases List.mem_cons.1 hx with rfl | hx; exact addP_isSet s r; cases hx)
        rw [show [s, addP s r].take 2 = [s, addP s r] from rfl, allI_two hs] at hu
        have hB3 := hB2.alloc hB2.size (.cells #[.int .u64 s, .int .u64 (addP s r)] 47)
        have hos := orI_isSet hs (addP_isSet s r)
        have hgn : Hid (_) := hg.out.next hs hrm
        clear hp hBn2 hb2 hB2
        by_cases hne : orI s (addP s r) = s
        · have hd2 : Hid (_) := hd.out.next hr hne
          rw [hne] at hu
          have hf : (s != s) = false := by simp
          clear hd hne hgn hr hrm
          go_wp2_with fail
          refine hu.mono ?_
          rintro e w3 ⟨rfl, hw3⟩
          obtain rfl := hw3.symm
          go_wp2
          go_roundw
          case rel => exact ⟨k + 1, by omega, rfl, by go_num, hd2, hB3⟩
          case measure => simp [intOf]; omega
        · have hlk := lacks_lt hs (addP_isSet s r) hne
          have hf : (orI s (addP s r) != s) = true := by simpa using hne
          clear hd hne hr hrm
          generalize orI s (addP s r) = s2 at *
          go_wp2_with fail
          refine hu.mono ?_
          rintro e w3 ⟨rfl, hw3⟩
          obtain rfl := hw3.symm
          go_wp2
          go_roundw
          case rel => exact ⟨s2, rfl, hos, hgn, hB3⟩
          case measure => simpa [intOf] using hlk
      · have E := hd.out.grown (by omega) hs hg.out
        clear hd hRk
        go_wp2
        try rw [Exit.noGoto_ret]
        go_ret
        exact ⟨⟨s, rfl, E⟩, hB⟩

set_option maxRecDepth 100000 in
set_option maxHeartbeats 2000000 in
theorem grow_R (s0 : Int) (ra : Option Addr) (rc : Nat) (rs : List R) (w : World) (hs0 : IsSet s0) (hR : RRow w ra rs) (ho : ∀ r ∈ rs, okR r) (hl : rs.length ≤ 1125899906842624) :
    Calls Tryz.prog 39 #[.int .u64 s0, .slice ra rs.length rc, .func (.func 50) #[] #[]] w fun e w' => (∃ S, e = .returned (.int .u64 S) ∧ Grown addR rs s0 S) ∧ Below w.heap.size w w' := by
  go_enter Tryz.func39, Tryz.ntmps39
  go_wp2
  go_step3
  go_wp2
  go_step3
  go_wp2
  go_loopw [0] (fun f wr => ∃ s, f = .int .u64 s ∧ IsSet s ∧ Hid (Gone addR rs s0 s) ∧ Below w.heap.size w wr) (fun f _ => lacks (intOf f))
  case atStart => exact ⟨s0, rfl, hs0, fun P h _ => h, Below.refl _ _⟩
  case round =>
    obtain ⟨s, rfl, hs, hg, hBw⟩ := hrel
    go_wp2
    go_loopw [0, 12] (fun f i wr => ∃ k : Nat, k ≤ rs.length ∧ f = .int .u64 s ∧ i = .int .i64 k ∧ Hid (Done addR rs s k) ∧ Below w.heap.size w wr) (fun _ i _ => rs.length - (intOf i).toNat)
    case atStart => exact ⟨0, by omega, rfl, rfl, fun j r hj => absurd hj (by omega), hBw⟩
    case round =>
      clear hBw
      obtain ⟨k, hk, rfl, rfl, hd, hB⟩ := hrel
      have hRk := hR.below hB (Nat.le_refl _)
      by_cases hlt : k < rs.length
      · obtain ⟨r, hr⟩ : ∃ r, rs[k]? = some r := ⟨rs[k], List.getElem?_eq_getElem hlt⟩
        obtain ⟨b, off, qa, qc, hra, d0, d1, hI⟩ := hRk k r hr
        subst hra
        have hlt2 : (k : Int) < (rs.length : Int) := by omega
        have hrm := List.mem_of_getElem? hr
        have hok := ho r hrm
        have hBn : Below wr.heap.size wr (wr.alloc (.cells #[.int .i64 r.left, .slice qa r.right.length qc] 38)) := (Below.refl _ _).alloc (Nat.le_refl _) _
        have hI2 := hI.below hBn (Nat.le_refl _)
        have hp := reached1_any s qa qc r _ hs hI2 hok
        have hBn2 := hB.trans (hBn.mono hB.size)
        clear hI hI2 hRk hB hBn
        go_wp2_with fail
        refine hp.mono ?_
        rintro e w2 ⟨rfl, hb2⟩
        have hB2 := hBn2.trans (hb2.mono hBn2.size)
        have hu := SetsAlg.union_any (some ⟨w2.heap.size, 0, none⟩) 2 2 [s, addR s r] _ (row_two w2 s (addR s r) 47) (by simp) (by omega) (fun x hx => by rcases List.mem_cons.1 hx with rfl | hx; exact hs; rcases List.mem_cons.1 hx with rfl | hx; exact addR_isSet s r; cases hx)
        rw [show [s, addR s r].take 2 = [s, addR s r] from rfl, allI_two hs] at hu
        have hB3 := hB2.alloc hB2.size (.cells #[.int .u64 s, .int .u64 (addR s r)] 47)
        have hos := orI_isSet hs (addR_isSet s r)
        have hgn : Hid (_) := hg.out.next hs hrm
        clear hp hBn2 hb2 hB2
        by_cases hne : orI s (addR s r) = s
        · have hd2 : Hid (_) := hd.out.next hr hne
          rw [hne] at hu
          have hf : (s != s) = false := by simp
          clear hd hne hgn hr hrm
          go_wp2_with fail
          refine hu.mono ?_
          rintro e w3 ⟨rfl, hw3⟩
          obtain rfl := hw3.symm
          go_wp2
          go_roundw
          case rel => exact ⟨k + 1, by omega, rfl, by go_num, hd2, hB3⟩
          case measure => simp [intOf]; omega
        · have hlk := lacks_lt hs (addR_isSet s r) hne
          have hf : (orI s (addR s r) != s) = true := by simpa using hne
          clear hd hne hr hrm
          generalize orI s (addR s r) = s2 at *
          go_wp2_with fail
          refine hu.mono ?_
          rintro e w3 ⟨rfl, hw3⟩
          obtain rfl := hw3.symm
          go_wp2
          go_roundw
          case rel => exact ⟨s2, rfl, hos, hgn, hB3⟩
          case measure => simpa [intOf] using hlk
      · have E := hd.out.grown (by omega) hs hg.out
        clear hd hRk
        go_wp2
        try rw [Exit.noGoto_ret]
        go_ret
        exact ⟨⟨s, rfl, E⟩, hB⟩

set_option maxHeartbeats 400000 in
theorem productive_any (ra : Option Addr) (rc : Nat) (rs : List R) (w : World) (hR : RRow w ra rs) (ho : ∀ r ∈ rs, okR r) (hl : rs.length ≤ 1125899906842624) :
    Calls Tryz.prog 19 #[.slice ra rs.length rc] w fun e w' => (∃ S, e = .returned (.int .u64 S) ∧ Grown addP rs 0 S) ∧ Below w.heap.size w w' := by
  have h := grow_P 0 ra rc rs w zero_isSet hR ho hl
  go_enter Tryz.func19, Tryz.ntmps19
  go_wp2_with fail
  refine h.mono ?_
  rintro e w1 ⟨⟨S, rfl, hS⟩, hb⟩
  go_wp2
  go_ret
  exact ⟨⟨S, rfl, hS⟩, hb⟩

set_option maxHeartbeats 400000 in
theorem reached_any (s0 : Int) (ra : Option Addr) (rc : Nat) (rs : List R) (w : World) (hs0 : IsSet s0) (hR : RRow w ra rs) (ho : ∀ r ∈ rs, okR r) (hl : rs.length ≤ 1125899906842624) :
    Calls Tryz.prog 24 #[.int .u64 s0, .slice ra rs.length rc] w fun e w' => (∃ S, e = .returned (.int .u64 S) ∧ Grown addR rs s0 S) ∧ Below w.heap.size w w' := by
  have h := grow_R s0 ra rc rs w hs0 hR ho hl
  go_enter Tryz.func24, Tryz.ntmps24
  go_wp2_with fail
  refine h.mono ?_
  rintro e w1 ⟨⟨S, rfl, hS⟩, hb⟩
  go_wp2
  go_ret
  exact ⟨⟨S, rfl, hS⟩, hb⟩

end Go.Proofs.YthbbipgngeflnaaGreatDoor.UsefulFn
