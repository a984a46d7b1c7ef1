/-
  Texts that stand together: MatrixPuts.
-/
import Derived.Test.YtcoepmpgclndiaaGreatDoorBBaseMath
import Derived.Test.YtcoepmpgclndiaaGreatDoorBSetsFns
import Derived.Test.YtcoepmpgclndiaaGreatDoorBagGraphSort
import Derived.Deep.RegionHeld3
import Derived.Deep.WholeRow
import Derived.Laws.Tables
namespace Go.Proofs.YtcoepmpgclndiaaGreatDoor.MatrixPut
open Go.RowKit Go.Proofs.YtcoepmpgclndiaaGreatDoor.GramMath Go.Proofs.YtcoepmpgclndiaaGreatDoor.GramRow Go.Proofs.YtcoepmpgclndiaaGreatDoor.SetsMath Go.Proofs.YtcoepmpgclndiaaGreatDoor.UsefulMath Go.Proofs.YtcoepmpgclndiaaGreatDoor.GramApart Go.Proofs.YtcoepmpgclndiaaGreatDoor.MatrixMath
set_option linter.unusedVariables false
set_option linter.unusedSimpArgs false

/-- The sets of a matrix: by relation and first terminal. -/
structure MatC (t : Int) (S : Nat → Nat → Int) (cur : Array Value) : Prop where
  size : cur.size = 241
  terms : cur[0]? = some (.int .i64 t)
  by_ : ∀ x a, x < 4 → a < 60 → cur[1 + x * 60 + a]? = some (.int .u64 (S x a))
  isSet : ∀ x a, x < 4 → a < 60 → IsSet (S x a)

/-- A matrix in memory. -/
def MatAt (w : World) (M : Nat) (t : Int) (S : Nat → Nat → Int) : Prop := ∃ cur, RowAt w M 87 cur ∧ MatC t S cur

def updS (S : Nat → Nat → Int) (x a : Nat) (s : Int) : Nat → Nat → Int := fun y b => if y = x ∧ b = a then s else S y b

theorem MatC.set {t : Int} {S : Nat → Nat → Int} {cur : Array Value} (h : MatC t S cur) {x a : Nat} (hx : x < 4) (ha : a < 60) {s : Int} (hs : IsSet s) : MatC t (updS S x a s) (cur.setIfInBounds (1 + x * 60 + a) (.int .u64 s)) := by
  refine ⟨by simp [h.size], ?_, fun y b hy hb => ?_, fun y b hy hb => ?_⟩
  · rw [Array.getElem?_setIfInBounds_ne (by omega)]
    exact h.terms
  · unfold updS
    by_cases e : y = x ∧ b = a
    · rw [if_pos e, e.1, e.2, Array.getElem?_setIfInBounds_self_of_lt (by rw [h.size]; omega)]
    · rw [if_neg e, Array.getElem?_setIfInBounds_ne (by omega)]
      exact h.by_ y b hy hb
  · unfold updS
    split
    · exact hs
    · exact h.isSet y b hy hb

/-- What put does. -/
def putS (S : Nat → Nat → Int) (f : Fnd) : Nat → Nat → Int :=
  updS (updS S f.rel.toNat f.a.toNat (withI (S f.rel.toNat f.a.toNat) f.b)) 0 f.a.toNat (withoutI (S 0 f.a.toNat) f.b)

set_option maxRecDepth 100000 in
set_option maxHeartbeats 4000000 in
theorem put_any (M : Nat) (cur : Array Value) (t : Int) (S : Nat → Nat → Int) (f : Fnd) (w : World) (hr : RowAt w M 87 cur) (hm : MatC t S cur) (hf : OkFnd 59 f) :
    Calls Tryz.prog 22 #[.pointer (some ⟨M, 0, none⟩), .int .i64 f.rel, .int .i64 f.a, .int .i64 f.b, .agg #[.int .i64 f.p.rule, .int .i64 f.p.at_, .int .i64 f.p.non]] w fun e w' => (∃ v, e = .returned v) ∧ (∃ cur', RowAt w' M 87 cur' ∧ MatC t (putS S f) cur') ∧ But (fun k => k = M) w w' := by
  obtain ⟨⟨h1, h2⟩, ⟨h3, h4⟩, ⟨h5, h6⟩⟩ := hf
  obtain ⟨rel, a, b, p⟩ := f
  dsimp only at *
  obtain ⟨x, rfl⟩ : ∃ x : Nat, rel = (x : Int) := ⟨rel.toNat, by omega⟩
  obtain ⟨c, rfl⟩ : ∃ c : Nat, a = (c : Int) := ⟨a.toNat, by omega⟩
  have hx : x < 4 := by omega
  have hc : c < 60 := by omega
  have hxi : (x : Int) < 4 := by omega
  have hci : (c : Int) < 60 := by omega
  have hx1 : 0 < x := by omega
  have hS1 := hm.isSet x c hx hc
  have hm2 := hm.set hx hc (withI_isSet b hS1)
  have hS2 := hm2.isSet 0 c (by omega) hc
  have hm3 := hm2.set (x := 0) (by omega) hc (withoutI_isSet b hS2)
  have hput : Hid (updS (updS S x c (withI (S x c) b)) 0 c (withoutI (updS S x c (withI (S x c) b) 0 c) b) = putS S ⟨(x : Int), (c : Int), b, p⟩) := by
    show _ = _
    unfold putS
    dsimp only
    rw [Int.toNat_natCast, Int.toNat_natCast]
    have e : updS S x c (withI (S x c) b) 0 c = S 0 c := by unfold updS; rw [if_neg (by omega)]
    rw [e]
  have hb0 : Below w.heap.size w ((w.alloc (.cells #[.int .i64 p.rule, .int .i64 p.at_, .int .i64 p.non] 96))) := (Below.refl _ _).alloc (Nat.le_refl _) _
  have hrA := hr.below hb0 hr.lt
  have hk0 : (w.alloc (.cells #[.int .i64 p.rule, .int .i64 p.at_, .int .i64 p.non] 96)).cell? ⟨M, 1 + x * 60 + c, none⟩ = some (.int .u64 (S x c)) := hrA.cell (hm.by_ x c hx hc)
  have hf0 := hrA.frozen (1 + x * 60 + c)
  have hr2 := hrA.set (1 + x * 60 + c) (.int .u64 (withI (S x c) b))
  have hk2 := hr2.cell (hm2.by_ 0 c (by omega) hc)
  have hf2 := hr2.frozen (1 + 0 * 60 + c)
  have hr3 := hr2.set (1 + 0 * 60 + c) (.int .u64 (withoutI (updS S x c (withI (S x c) b) 0 c) b))
  have hB1 : But (fun k => k = M) w (w.alloc (.cells #[.int .i64 p.rule, .int .i64 p.at_, .int .i64 p.non] 96)) := But.of hb0
  have hB1b := hB1.setCell (p := ⟨M, 1 + x * 60 + c, none⟩) (show M = M from rfl) (.int .u64 (withI (S x c) b))
  have hB2 := hB1b.setCell (p := ⟨M, 1 + 0 * 60 + c, none⟩) (show M = M from rfl) (.int .u64 (withoutI (updS S x c (withI (S x c) b) 0 c) b))
  simp only [Nat.zero_mul, Nat.add_zero] at hk2 hf2 hr3 hB2
  clear hr hrA hr2 hb0 hm hm2 hB1 hB1b
  have hwi := fun W => SetsOne.with_any (S x c) b W hS1
  have hwo := fun W => SetsOne.without_any (updS S x c (withI (S x c) b) 0 c) b W hS2
  go_enter Tryz.func22, Tryz.ntmps22
  go_wp2_with fail
  generalize w.alloc (.cells #[.int .i64 p.rule, .int .i64 p.at_, .int .i64 p.non] 96) = W1 at *
  generalize updS S x c (withI (S x c) b) 0 c = s0 at *
  generalize S x c = s1 at *
  have hnp1 : Hid (_) := hput
  refine wp_region_noPanic ?_
  refine wp_region_held_drew (S := (fun _ => True)) (by kernel_rfl) trivial (fun hHeld => ?_)
  refine wpAnyH_take (i := 0) (v := .pointer (some ⟨M, 0, none⟩)) rfl (by kernel_rfl) (by kernel_rfl) (by kernel_rfl) (fun _ _ _ h => h) (Or.inl ⟨by rfl, fun w9 hSw => ?_⟩) hHeld ?_
  · go_simp
  simp only [List.getElem_toArray, List.getElem_cons_zero, List.getElem_cons_succ, Act.put, List.setIfInBounds_toArray, List.set_cons_zero, List.set_cons_succ]
  refine wpAnyH_take (i := 1) (v := .int .i64 (x : Int)) rfl (by kernel_rfl) (by kernel_rfl) (by kernel_rfl) (fun _ _ _ h => h) (Or.inl ⟨by rfl, fun w9 hSw => ?_⟩) hHeld ?_
  · go_simp
  simp only [List.getElem_toArray, List.getElem_cons_zero, List.getElem_cons_succ, Act.put, List.setIfInBounds_toArray, List.set_cons_zero, List.set_cons_succ]
  refine wpAnyH_take (i := 2) (v := .int .i64 (c : Int)) rfl (by kernel_rfl) (by kernel_rfl) (by kernel_rfl) (fun _ _ _ h => h) (Or.inl ⟨by rfl, fun w9 hSw => ?_⟩) hHeld ?_
  · go_simp
  simp only [List.getElem_toArray, List.getElem_cons_zero, List.getElem_cons_succ, Act.put, List.setIfInBounds_toArray, List.set_cons_zero, List.set_cons_succ]
  refine wpAnyH_take (i := 3) (v := .pointer (some ⟨M, 0, none⟩)) rfl (by kernel_rfl) (by kernel_rfl) (by kernel_rfl) (fun _ _ _ h => h) (Or.inl ⟨by rfl, fun w9 hSw => ?_⟩) hHeld ?_
  · go_simp
  simp only [List.getElem_toArray, List.getElem_cons_zero, List.getElem_cons_succ, Act.put, List.setIfInBounds_toArray, List.set_cons_zero, List.set_cons_succ]
  refine wpAnyH_take (i := 4) (v := .int .i64 (x : Int)) rfl (by kernel_rfl) (by kernel_rfl) (by kernel_rfl) (fun _ _ _ h => h) (Or.inl ⟨by rfl, fun w9 hSw => ?_⟩) hHeld ?_
  · go_simp
  simp only [List.getElem_toArray, List.getElem_cons_zero, List.getElem_cons_succ, Act.put, List.setIfInBounds_toArray, List.set_cons_zero, List.set_cons_succ]
  refine wpAnyH_take (i := 5) (v := .int .i64 (c : Int)) rfl (by kernel_rfl) (by kernel_rfl) (by kernel_rfl) (fun _ _ _ h => h) (Or.inl ⟨by rfl, fun w9 hSw => ?_⟩) hHeld ?_
  · go_simp
  simp only [List.getElem_toArray, List.getElem_cons_zero, List.getElem_cons_succ, Act.put, List.setIfInBounds_toArray, List.set_cons_zero, List.set_cons_succ]
  refine wpAnyH_take (i := 6) (v := .pointer (some ⟨M, 0, none⟩)) rfl (by kernel_rfl) (by kernel_rfl) (by kernel_rfl) (fun _ _ _ h => h) (Or.inl ⟨by rfl, fun w9 hSw => ?_⟩) hHeld ?_
  · go_simp
  simp only [List.getElem_toArray, List.getElem_cons_zero, List.getElem_cons_succ, Act.put, List.setIfInBounds_toArray, List.set_cons_zero, List.set_cons_succ]
  refine wpAnyH_take (i := 7) (v := .pointer (some ⟨M, 1, none⟩)) rfl (by kernel_rfl) (by kernel_rfl) (by kernel_rfl) (fun _ _ _ h => h) (Or.inl ⟨by rfl, fun w9 hSw => ?_⟩) hHeld ?_
  · go_simp
  simp only [List.getElem_toArray, List.getElem_cons_zero, List.getElem_cons_succ, Act.put, List.setIfInBounds_toArray, List.set_cons_zero, List.set_cons_succ]
  refine wpAnyH_take (i := 8) (v := .pointer (some ⟨M, 1 + x * 60, none⟩)) rfl (by kernel_rfl) (by kernel_rfl) (by kernel_rfl) (fun _ _ _ h => h) (Or.inl ⟨by rfl, fun w9 hSw => ?_⟩) hHeld ?_
  · go_simp
  simp only [List.getElem_toArray, List.getElem_cons_zero, List.getElem_cons_succ, Act.put, List.setIfInBounds_toArray, List.set_cons_zero, List.set_cons_succ]
  refine wpAnyH_take (i := 9) (v := .pointer (some ⟨M, 1 + x * 60 + c, none⟩)) rfl (by kernel_rfl) (by kernel_rfl) (by kernel_rfl) (fun _ _ _ h => h) (Or.inl ⟨by rfl, fun w9 hSw => ?_⟩) hHeld ?_
  · go_simp
  simp only [List.getElem_toArray, List.getElem_cons_zero, List.getElem_cons_succ, Act.put, List.setIfInBounds_toArray, List.set_cons_zero, List.set_cons_succ]
  refine wpAnyH_take (i := 11) (v := .int .i64 b) rfl (by kernel_rfl) (by kernel_rfl) (by kernel_rfl) (fun _ _ _ h => h) (Or.inl ⟨by rfl, fun w9 hSw => ?_⟩) hHeld ?_
  · go_simp
  simp only [List.getElem_toArray, List.getElem_cons_zero, List.getElem_cons_succ, Act.put, List.setIfInBounds_toArray, List.set_cons_zero, List.set_cons_succ]
  refine wpAnyH_take (i := 13) (v := .pointer (some ⟨M, 0, none⟩)) rfl (by kernel_rfl) (by kernel_rfl) (by kernel_rfl) (fun _ _ _ h => h) (Or.inl ⟨by rfl, fun w9 hSw => ?_⟩) hHeld ?_
  · go_simp
  simp only [List.getElem_toArray, List.getElem_cons_zero, List.getElem_cons_succ, Act.put, List.setIfInBounds_toArray, List.set_cons_zero, List.set_cons_succ]
  refine wpAnyH_take (i := 14) (v := .pointer (some ⟨M, 1, none⟩)) rfl (by kernel_rfl) (by kernel_rfl) (by kernel_rfl) (fun _ _ _ h => h) (Or.inl ⟨by rfl, fun w9 hSw => ?_⟩) hHeld ?_
  · go_simp
  simp only [List.getElem_toArray, List.getElem_cons_zero, List.getElem_cons_succ, Act.put, List.setIfInBounds_toArray, List.set_cons_zero, List.set_cons_succ]
  refine wpAnyH_take (i := 15) (v := .pointer (some ⟨M, 1 + x * 60, none⟩)) rfl (by kernel_rfl) (by kernel_rfl) (by kernel_rfl) (fun _ _ _ h => h) (Or.inl ⟨by rfl, fun w9 hSw => ?_⟩) hHeld ?_
  · go_simp
  simp only [List.getElem_toArray, List.getElem_cons_zero, List.getElem_cons_succ, Act.put, List.setIfInBounds_toArray, List.set_cons_zero, List.set_cons_succ]
  refine wpAnyH_ready (rs := [10]) (by kernel_rfl) (by simp) ?_
  refine AllReadyH.cons rfl (fun K hK => ?_) AllReadyH.nil
  go_simp
  refine hK.out _ _ trivial (fun _ => ?_)
  clear hK K
  refine wpAnyH_ready (rs := [12]) (by kernel_rfl) (by simp) ?_
  refine AllReadyH.cons rfl (fun K hK => ?_) AllReadyH.nil
  go_simp
  refine (hwi _).mono ?_
  rintro e w2 ⟨rfl, rfl⟩
  refine hK.out _ _ trivial (fun _ => ?_)
  clear hK K
  refine wpAnyH_take (i := 16) (v := .pointer (some ⟨M, 1 + x * 60 + c, none⟩)) rfl (by kernel_rfl) (by kernel_rfl) (by kernel_rfl) (fun _ _ _ h => h) (Or.inl ⟨by rfl, fun w9 hSw => ?_⟩) hHeld ?_
  · go_simp
  simp only [List.getElem_toArray, List.getElem_cons_zero, List.getElem_cons_succ, Act.put, List.setIfInBounds_toArray, List.set_cons_zero, List.set_cons_succ]
  refine wpAnyH_ready (rs := [17]) (by kernel_rfl) (by simp) ?_
  refine AllReadyH.cons rfl (fun K hK => ?_) AllReadyH.nil
  go_simp
  refine hK.out _ _ trivial (fun _ => ?_)
  clear hK K
  refine wpAnyH_done (by kernel_rfl) (NoPanic.normal ?_) _
  generalize W1.setCell ⟨M, 1 + x * 60 + c, none⟩ (.int .u64 (withI s1 b)) = W2 at *
  go_wp2_with fail
  refine wp_region_noPanic ?_
  refine wp_region_held_drew (S := (fun _ => True)) (by kernel_rfl) trivial (fun hHeld => ?_)
  refine wpAnyH_take (i := 0) (v := .pointer (some ⟨M, 0, none⟩)) rfl (by kernel_rfl) (by kernel_rfl) (by kernel_rfl) (fun _ _ _ h => h) (Or.inl ⟨by rfl, fun w9 hSw => ?_⟩) hHeld ?_
  · go_simp
  simp only [List.getElem_toArray, List.getElem_cons_zero, List.getElem_cons_succ, Act.put, List.setIfInBounds_toArray, List.set_cons_zero, List.set_cons_succ]
  refine wpAnyH_take (i := 1) (v := .int .i64 (c : Int)) rfl (by kernel_rfl) (by kernel_rfl) (by kernel_rfl) (fun _ _ _ h => h) (Or.inl ⟨by rfl, fun w9 hSw => ?_⟩) hHeld ?_
  · go_simp
  simp only [List.getElem_toArray, List.getElem_cons_zero, List.getElem_cons_succ, Act.put, List.setIfInBounds_toArray, List.set_cons_zero, List.set_cons_succ]
  refine wpAnyH_take (i := 2) (v := .pointer (some ⟨M, 0, none⟩)) rfl (by kernel_rfl) (by kernel_rfl) (by kernel_rfl) (fun _ _ _ h => h) (Or.inl ⟨by rfl, fun w9 hSw => ?_⟩) hHeld ?_
  · go_simp
  simp only [List.getElem_toArray, List.getElem_cons_zero, List.getElem_cons_succ, Act.put, List.setIfInBounds_toArray, List.set_cons_zero, List.set_cons_succ]
  refine wpAnyH_take (i := 3) (v := .int .i64 (c : Int)) rfl (by kernel_rfl) (by kernel_rfl) (by kernel_rfl) (fun _ _ _ h => h) (Or.inl ⟨by rfl, fun w9 hSw => ?_⟩) hHeld ?_
  · go_simp
  simp only [List.getElem_toArray, List.getElem_cons_zero, List.getElem_cons_succ, Act.put, List.setIfInBounds_toArray, List.set_cons_zero, List.set_cons_succ]
  refine wpAnyH_take (i := 4) (v := .pointer (some ⟨M, 0, none⟩)) rfl (by kernel_rfl) (by kernel_rfl) (by kernel_rfl) (fun _ _ _ h => h) (Or.inl ⟨by rfl, fun w9 hSw => ?_⟩) hHeld ?_
  · go_simp
  simp only [List.getElem_toArray, List.getElem_cons_zero, List.getElem_cons_succ, Act.put, List.setIfInBounds_toArray, List.set_cons_zero, List.set_cons_succ]
  refine wpAnyH_take (i := 5) (v := .pointer (some ⟨M, 1, none⟩)) rfl (by kernel_rfl) (by kernel_rfl) (by kernel_rfl) (fun _ _ _ h => h) (Or.inl ⟨by rfl, fun w9 hSw => ?_⟩) hHeld ?_
  · go_simp
  simp only [List.getElem_toArray, List.getElem_cons_zero, List.getElem_cons_succ, Act.put, List.setIfInBounds_toArray, List.set_cons_zero, List.set_cons_succ]
  refine wpAnyH_take (i := 6) (v := .pointer (some ⟨M, 1, none⟩)) rfl (by kernel_rfl) (by kernel_rfl) (by kernel_rfl) (fun _ _ _ h => h) (Or.inl ⟨by rfl, fun w9 hSw => ?_⟩) hHeld ?_
  · go_simp
  simp only [List.getElem_toArray, List.getElem_cons_zero, List.getElem_cons_succ, Act.put, List.setIfInBounds_toArray, List.set_cons_zero, List.set_cons_succ]
  refine wpAnyH_take (i := 7) (v := .pointer (some ⟨M, 1 + c, none⟩)) rfl (by kernel_rfl) (by kernel_rfl) (by kernel_rfl) (fun _ _ _ h => h) (Or.inl ⟨by rfl, fun w9 hSw => ?_⟩) hHeld ?_
  · go_simp
  simp only [List.getElem_toArray, List.getElem_cons_zero, List.getElem_cons_succ, Act.put, List.setIfInBounds_toArray, List.set_cons_zero, List.set_cons_succ]
  refine wpAnyH_take (i := 9) (v := .int .i64 b) rfl (by kernel_rfl) (by kernel_rfl) (by kernel_rfl) (fun _ _ _ h => h) (Or.inl ⟨by rfl, fun w9 hSw => ?_⟩) hHeld ?_
  · go_simp
  simp only [List.getElem_toArray, List.getElem_cons_zero, List.getElem_cons_succ, Act.put, List.setIfInBounds_toArray, List.set_cons_zero, List.set_cons_succ]
  refine wpAnyH_take (i := 11) (v := .pointer (some ⟨M, 0, none⟩)) rfl (by kernel_rfl) (by kernel_rfl) (by kernel_rfl) (fun _ _ _ h => h) (Or.inl ⟨by rfl, fun w9 hSw => ?_⟩) hHeld ?_
  · go_simp
  simp only [List.getElem_toArray, List.getElem_cons_zero, List.getElem_cons_succ, Act.put, List.setIfInBounds_toArray, List.set_cons_zero, List.set_cons_succ]
  refine wpAnyH_take (i := 12) (v := .pointer (some ⟨M, 1, none⟩)) rfl (by kernel_rfl) (by kernel_rfl) (by kernel_rfl) (fun _ _ _ h => h) (Or.inl ⟨by rfl, fun w9 hSw => ?_⟩) hHeld ?_
  · go_simp
  simp only [List.getElem_toArray, List.getElem_cons_zero, List.getElem_cons_succ, Act.put, List.setIfInBounds_toArray, List.set_cons_zero, List.set_cons_succ]
  refine wpAnyH_take (i := 13) (v := .pointer (some ⟨M, 1, none⟩)) rfl (by kernel_rfl) (by kernel_rfl) (by kernel_rfl) (fun _ _ _ h => h) (Or.inl ⟨by rfl, fun w9 hSw => ?_⟩) hHeld ?_
  · go_simp
  simp only [List.getElem_toArray, List.getElem_cons_zero, List.getElem_cons_succ, Act.put, List.setIfInBounds_toArray, List.set_cons_zero, List.set_cons_succ]
  refine wpAnyH_ready (rs := [8]) (by kernel_rfl) (by simp) ?_
  refine AllReadyH.cons rfl (fun K hK => ?_) AllReadyH.nil
  go_simp
  refine hK.out _ _ trivial (fun _ => ?_)
  clear hK K
  refine wpAnyH_ready (rs := [10]) (by kernel_rfl) (by simp) ?_
  refine AllReadyH.cons rfl (fun K hK => ?_) AllReadyH.nil
  go_simp
  refine (hwo _).mono ?_
  rintro e w2 ⟨rfl, rfl⟩
  refine hK.out _ _ trivial (fun _ => ?_)
  clear hK K
  refine wpAnyH_take (i := 14) (v := .pointer (some ⟨M, 1 + c, none⟩)) rfl (by kernel_rfl) (by kernel_rfl) (by kernel_rfl) (fun _ _ _ h => h) (Or.inl ⟨by rfl, fun w9 hSw => ?_⟩) hHeld ?_
  · go_simp
  simp only [List.getElem_toArray, List.getElem_cons_zero, List.getElem_cons_succ, Act.put, List.setIfInBounds_toArray, List.set_cons_zero, List.set_cons_succ]
  refine wpAnyH_ready (rs := [15]) (by kernel_rfl) (by simp) ?_
  refine AllReadyH.cons rfl (fun K hK => ?_) AllReadyH.nil
  go_simp
  refine hK.out _ _ trivial (fun _ => ?_)
  clear hK K
  refine wpAnyH_done (by kernel_rfl) (NoPanic.normal ?_) _
  go_wp2
  go_end0
  exact ⟨⟨_, rfl⟩, ⟨_, hr3, by rw [← hput.out]; exact hm3⟩, ⟨hB2.os, hB2.tape, hB2.output, hB2.size, hB2.block⟩⟩

end Go.Proofs.YtcoepmpgclndiaaGreatDoor.MatrixPut

namespace Go.Proofs.YtcoepmpgclndiaaGreatDoor.MatrixPut
open Go.RowKit Go.Proofs.YtcoepmpgclndiaaGreatDoor.GramMath Go.Proofs.YtcoepmpgclndiaaGreatDoor.GramRow Go.Proofs.YtcoepmpgclndiaaGreatDoor.SetsMath Go.Proofs.YtcoepmpgclndiaaGreatDoor.UsefulMath Go.Proofs.YtcoepmpgclndiaaGreatDoor.GramApart Go.Proofs.YtcoepmpgclndiaaGreatDoor.MatrixMath
set_option linter.unusedVariables false
set_option linter.unusedSimpArgs false

theorem MatAt.below {w w' : World} {M : Nat} {t : Int} {S : Nat → Nat → Int} {B : Nat} (h : MatAt w M t S) (hb : Below B w w') (hM : M < B) : MatAt w' M t S := by
  obtain ⟨cur, h1, h2⟩ := h
  exact ⟨cur, h1.below hb hM, h2⟩
theorem MatAt.lt {w : World} {M : Nat} {t : Int} {S : Nat → Nat → Int} (h : MatAt w M t S) : M < w.heap.size := by
  obtain ⟨cur, h1, h2⟩ := h
  exact h1.lt

set_option maxHeartbeats 1000000 in
theorem terms_any (M : Nat) (t : Int) (S : Nat → Nat → Int) (w : World) (hm : MatAt w M t S) :
    Calls Tryz.prog 17 #[.pointer (some ⟨M, 0, none⟩)] w fun e w' => e = .returned (.int .i64 t) ∧ w' = w := by
  obtain ⟨cur, hr, hc⟩ := hm
  have h0 := hr.cell hc.terms
  go_enter Tryz.func17, Tryz.ntmps17
  go_wp2
  go_ret
  exact ⟨rfl, rfl⟩

set_option maxHeartbeats 1000000 in
theorem terms_nil (w : World) : Calls Tryz.prog 17 #[.pointer none] w fun e w' => e = .returned (.int .i64 0) ∧ w' = w := by
  go_enter Tryz.func17, Tryz.ntmps17
  go_wp2
  go_ret
  exact ⟨rfl, rfl⟩

/-- What Holds answers. -/
def holdsB (t : Int) (S : Nat → Nat → Int) (a b x : Int) : Bool := decide (0 ≤ a) && decide (a < t) && decide (0 ≤ x) && decide (x ≤ 3) && hasB (S x.toNat a.toNat) b

set_option maxRecDepth 100000 in
set_option maxHeartbeats 2000000 in
theorem holds_any (M : Nat) (t : Int) (S : Nat → Nat → Int) (a b x : Int) (w : World) (hm : MatAt w M t S) (ht : t ≤ 60) :
    Calls Tryz.prog 41 #[.pointer (some ⟨M, 0, none⟩), .int .i64 a, .int .i64 b, .int .i64 x] w fun e w' => e = .returned (.bool (holdsB t S a b x)) ∧ w' = w := by
  have htm := terms_any M t S w hm
  by_cases h1 : a < 0
  · have E : Hid (holdsB t S a b x = false) := by show _ = _; unfold holdsB; simp [show ¬ 0 ≤ a by omega]
    have d1 : decide (a < 0) = true := by simpa using h1
    go_enter Tryz.func41, Tryz.ntmps41
    go_wp2
    go_ret
    exact ⟨SetsOne.ret_bool E.out.symm, rfl⟩
  · by_cases h2 : a < t
    · by_cases h3 : 0 ≤ x ∧ x ≤ 3
      · obtain ⟨c, rfl⟩ : ∃ c : Nat, a = (c : Int) := ⟨a.toNat, by omega⟩
        obtain ⟨y, rfl⟩ : ∃ y : Nat, x = (y : Int) := ⟨x.toNat, by omega⟩
        obtain ⟨cur, hr, hc⟩ := hm
        have hy : y < 4 := by omega
        have hc6 : c < 60 := by omega
        have hyi : (y : Int) < 4 := by omega
        have hci : (c : Int) < 60 := by omega
        have E : Hid (holdsB t S (c : Int) b (y : Int) = hasB (S y c) b) := by show _ = _; unfold holdsB; simp [h2, show (y : Int) ≤ 3 by omega]
        have k0 := hr.cell (hc.by_ y c hy hc6)
        have hha := SetsOne.has_any (S y c) b w (hc.isSet y c hy hc6)
        have d1 : decide ((c : Int) < 0) = false := by simp
        have d2 : decide (t ≤ (c : Int)) = false := by simpa using h2
        have d3 : decide ((y : Int) < 0) = false := by simp
        have d4 : decide (3 < (y : Int)) = false := by simp; omega
        clear h3 hr hc ht
        go_enter Tryz.func41, Tryz.ntmps41
        go_wp2_with fail
        refine htm.mono ?_
        rintro e w1 ⟨rfl, hw⟩
        obtain rfl := hw.symm
        clear htm
        go_wp2_with fail
        refine hha.mono ?_
        rintro e w1 ⟨rfl, hw⟩
        obtain rfl := hw.symm
        go_wp2
        go_ret
        exact ⟨SetsOne.ret_bool E.out.symm, rfl⟩
      · have E : Hid (holdsB t S a b x = false) := by
          show _ = _
          unfold holdsB
          by_cases h4 : 0 ≤ x
          · simp [show ¬ x ≤ 3 by omega]
          · simp [h4]
        have d1 : decide (a < 0) = false := by simpa using h1
        have d2 : decide (t ≤ a) = false := by simpa using h2
        by_cases h4 : x < 0
        · have d3 : decide (x < 0) = true := by simpa using h4
          go_enter Tryz.func41, Tryz.ntmps41
          go_wp2_with fail
          refine htm.mono ?_
          rintro e w1 ⟨rfl, hw⟩
          obtain rfl := hw.symm
          clear htm
          go_wp2
          go_ret
          exact ⟨SetsOne.ret_bool E.out.symm, rfl⟩
        · have d3 : decide (x < 0) = false := by simpa using h4
          have d4 : decide (3 < x) = true := by simp; omega
          have h5 : 3 < x := by omega
          clear h3
          go_enter Tryz.func41, Tryz.ntmps41
          go_wp2_with fail
          refine htm.mono ?_
          rintro e w1 ⟨rfl, hw⟩
          obtain rfl := hw.symm
          clear htm
          go_wp2
          go_ret
          exact ⟨SetsOne.ret_bool E.out.symm, rfl⟩
    · have E : Hid (holdsB t S a b x = false) := by show _ = _; unfold holdsB; simp [h2]
      have d1 : decide (a < 0) = false := by simpa using h1
      have d2 : decide (t ≤ a) = true := by simpa using h2
      have h3 : t ≤ a := by omega
      go_enter Tryz.func41, Tryz.ntmps41
      go_wp2_with fail
      refine htm.mono ?_
      rintro e w1 ⟨rfl, hw⟩
      obtain rfl := hw.symm
      clear htm
      go_wp2
      go_ret
      exact ⟨SetsOne.ret_bool E.out.symm, rfl⟩

def atI (t : Int) (S : Nat → Nat → Int) (a b : Int) : Int := if holdsB t S a b 1 = true then 1 else if holdsB t S a b 2 = true then 2 else if holdsB t S a b 3 = true then 3 else 0

end Go.Proofs.YtcoepmpgclndiaaGreatDoor.MatrixPut

namespace Go.Proofs.YtcoepmpgclndiaaGreatDoor.MatrixPut
open Go.RowKit Go.Proofs.YtcoepmpgclndiaaGreatDoor.GramMath Go.Proofs.YtcoepmpgclndiaaGreatDoor.GramRow Go.Proofs.YtcoepmpgclndiaaGreatDoor.SetsMath Go.Proofs.YtcoepmpgclndiaaGreatDoor.UsefulMath Go.Proofs.YtcoepmpgclndiaaGreatDoor.GramApart Go.Proofs.YtcoepmpgclndiaaGreatDoor.MatrixMath
set_option linter.unusedVariables false
set_option linter.unusedSimpArgs false

def matL (t : Int) : List Value := .int .i64 t :: List.replicate 240 (.int .u64 0)
def matA (t : Int) : Array Value := (matL t).toArray
theorem matA_size (t : Int) : (matA t).size = 241 := by unfold matA matL; rw [List.size_toArray, List.length_cons, List.length_replicate]

theorem buildM (W : World) (n : Int) : (Instr.build 87 #[(0, .int .i64 n)]).run Tryz.prog W = .ok (.agg (matA n)) W := run_build W _ _ _ (by kernel_rfl)
theorem boxM (n : Int) (w : World) : (Instr.box 87 (.agg (matA n))).run Tryz.prog w = .ok (.pointer (some ⟨w.heap.size, 0, none⟩)) (w.alloc (.cells (matA n) 87)) := by
  generalize matA n = A
  simp [Instr.box, newVar, newRow, Value.cells, go_sem]

section
variable {ops : Array Oper} {Q : Exit → Act → World → Prop} {a : Act} {w : World} {rest : List Oper} {d : Option Tmp} {ty : TypeId} {pos : String} {after : Array Edge}

theorem op_valueM {op : Op} {v : Value} {w' : World} (h : (execOp a.eval ⟨d, op, ty, pos, after, none⟩).run Tryz.prog w = .ok (.value v) w') (k : wpList Tryz.prog ops Q rest (a.put d v) w') : wpList Tryz.prog ops Q (⟨d, op, ty, pos, after, none⟩ :: rest) a w := by
  refine wpList_step fun K hK => ?_
  rw [if_pos (show Region.wanted _ _ = true from rfl)]
  unfold Oper.wp
  rw [h]
  exact hK _ _ k
theorem at_buildM {x : Operand} {n : Int} (hx : a.eval x = .int .i64 n) (k : wpList Tryz.prog ops Q rest (a.put d (.agg (matA n))) w) : wpList Tryz.prog ops Q (⟨d, .build 87 #[(0, x)], ty, pos, after, none⟩ :: rest) a w :=
  op_valueM (by simp only [execOp, Sem.run_bind, List.map_toArray, List.map_cons, List.map_nil, hx, buildM, Result.andThen, Sem.run_pure]) k
theorem at_boxM {x : Operand} {n : Int} (hx : a.eval x = .agg (matA n)) (k : wpList Tryz.prog ops Q rest (a.put d (.pointer (some ⟨w.heap.size, 0, none⟩))) (w.alloc (.cells (matA n) 87))) : wpList Tryz.prog ops Q (⟨d, .box 87 x, ty, pos, after, none⟩ :: rest) a w :=
  op_valueM (by simp only [execOp, Sem.run_bind, hx, boxM, Result.andThen, Sem.run_pure]) k
end

/-- The first k rows of None full. -/
def blankK (t : Int) (k : Nat) : Nat → Nat → Int := fun x a => if x = 0 ∧ a < k then fullI t else 0
def blankS (t : Int) : Nat → Nat → Int := blankK t t.toNat

theorem mat_zero (t : Int) : MatC t (blankK t 0) (matA t) := by
  refine ⟨matA_size t, by unfold matA matL; rw [List.getElem?_toArray, List.getElem?_cons_zero], fun x a hx ha => ?_, fun x a hx ha => ?_⟩
  · unfold blankK
    rw [if_neg (by omega)]
    unfold matA matL
    rw [List.getElem?_toArray, show 1 + x * 60 + a = (x * 60 + a) + 1 by omega, List.getElem?_cons_succ, List.getElem?_replicate, if_pos (by omega)]
  · unfold blankK
    rw [if_neg (by omega)]
    exact zero_isSet
theorem mat_next {t : Int} {k : Nat} {cur : Array Value} (h : MatC t (blankK t k) cur) (hk : k < 60) : MatC t (blankK t (k + 1)) (cur.setIfInBounds (1 + k) (.int .u64 (fullI t))) := by
  have h2 := h.set (x := 0) (a := k) (by omega) hk (fullI_isSet t)
  have e : updS (blankK t k) 0 k (fullI t) = blankK t (k + 1) := by
    funext y b
    unfold updS blankK
    by_cases h1 : y = 0 ∧ b = k
    · rw [if_pos h1, if_pos ⟨h1.1, by omega⟩]
    · rw [if_neg h1]
      by_cases h3 : y = 0 ∧ b < k
      · rw [if_pos h3, if_pos ⟨h3.1, by omega⟩]
      · rw [if_neg h3, if_neg (by omega)]
  rw [e, show 1 + 0 * 60 + k = 1 + k by omega] at h2
  exact h2

set_option maxRecDepth 100000 in
set_option maxHeartbeats 4000000 in
theorem blank_any (n : Nat) (w : World) (hn : n ≤ 60) :
    Calls Tryz.prog 20 #[.int .i64 (n : Int)] w fun e w' => (e = .returned (.pointer (some ⟨w.heap.size, 0, none⟩)) ∧ ∃ cur, RowAt w' w.heap.size 87 cur ∧ MatC n (blankS n) cur) ∧ Below w.heap.size w w' := by
  have hB1 : Below w.heap.size w (w.alloc (.cells (matA n) 87)) := (Below.refl _ _).alloc (Nat.le_refl _) _
  have hr1 : RowAt (w.alloc (.cells (matA n) 87)) w.heap.size 87 (matA n) := heap_new _ _
  have hfu := fun W => SetsMany.full_any (n : Int) W
  go_enter Tryz.func20, Tryz.ntmps20
  go_wp2_with (first | refine at_buildM rfl ?_ | refine at_boxM rfl ?_)
  generalize w.alloc (.cells (matA n) 87) = W1 at *
  go_loopw [9] (fun i wr => ∃ k : Nat, k ≤ n ∧ i = .int .i64 k ∧ (∃ cur, RowAt wr w.heap.size 87 cur ∧ MatC n (blankK n k) cur) ∧ Below w.heap.size w wr) (fun i _ => n - (intOf i).toNat)
  case atStart => exact ⟨0, by omega, rfl, ⟨_, hr1, mat_zero _⟩, hB1⟩
  case round =>
    clear hB1 hr1
    obtain ⟨k, hk, rfl, ⟨cur, hr, hm⟩, hB⟩ := hrel
    by_cases hlt : k < n
    · have hlt2 : (k : Int) < (n : Int) := by omega
      have hk6 : (k : Int) < 60 := by omega
      have c0 := hr.cell (hm.by_ 0 k (by omega) (by omega))
      rw [show 1 + 0 * 60 + k = 1 + k by omega] at c0
      have f0 := hr.frozen (1 + k)
      have hr2 := hr.set (1 + k) (.int .u64 (fullI n))
      have hm2 := mat_next hm (by omega)
      have hB2 := hB.setCell (p := ⟨w.heap.size, 1 + k, none⟩) (Nat.le_refl _) (.int .u64 (fullI n))
      clear hr hm hB
      go_wp2_with fail
      refine wp_region_noPanic ?_
      refine wp_region_held_drew (S := (fun _ => True)) (by kernel_rfl) trivial (fun hHeld => ?_)
      refine wpAnyH_take (i := 0) (v := .pointer (some ⟨w.heap.size, 0, none⟩)) rfl (by kernel_rfl) (by kernel_rfl) (by kernel_rfl) (fun _ _ _ h => h) (Or.inl ⟨by rfl, fun w9 hSw => ?_⟩) hHeld ?_
      · go_simp
      simp only [List.getElem_toArray, List.getElem_cons_zero, List.getElem_cons_succ, Act.put, List.setIfInBounds_toArray, List.set_cons_zero, List.set_cons_succ]
      refine wpAnyH_take (i := 1) (v := .int .i64 (k : Int)) rfl (by kernel_rfl) (by kernel_rfl) (by kernel_rfl) (fun _ _ _ h => h) (Or.inl ⟨by rfl, fun w9 hSw => ?_⟩) hHeld ?_
      · go_simp
      simp only [List.getElem_toArray, List.getElem_cons_zero, List.getElem_cons_succ, Act.put, List.setIfInBounds_toArray, List.set_cons_zero, List.set_cons_succ]
      refine wpAnyH_take (i := 2) (v := .int .i64 (n : Int)) rfl (by kernel_rfl) (by kernel_rfl) (by kernel_rfl) (fun _ _ _ h => h) (Or.inl ⟨by rfl, fun w9 hSw => ?_⟩) hHeld ?_
      · go_simp
      simp only [List.getElem_toArray, List.getElem_cons_zero, List.getElem_cons_succ, Act.put, List.setIfInBounds_toArray, List.set_cons_zero, List.set_cons_succ]
      refine wpAnyH_take (i := 4) (v := .pointer (some ⟨w.heap.size, 0, none⟩)) rfl (by kernel_rfl) (by kernel_rfl) (by kernel_rfl) (fun _ _ _ h => h) (Or.inl ⟨by rfl, fun w9 hSw => ?_⟩) hHeld ?_
      · go_simp
      simp only [List.getElem_toArray, List.getElem_cons_zero, List.getElem_cons_succ, Act.put, List.setIfInBounds_toArray, List.set_cons_zero, List.set_cons_succ]
      refine wpAnyH_take (i := 5) (v := .pointer (some ⟨w.heap.size, 1, none⟩)) rfl (by kernel_rfl) (by kernel_rfl) (by kernel_rfl) (fun _ _ _ h => h) (Or.inl ⟨by rfl, fun w9 hSw => ?_⟩) hHeld ?_
      · go_simp
      simp only [List.getElem_toArray, List.getElem_cons_zero, List.getElem_cons_succ, Act.put, List.setIfInBounds_toArray, List.set_cons_zero, List.set_cons_succ]
      refine wpAnyH_take (i := 6) (v := .pointer (some ⟨w.heap.size, 1, none⟩)) rfl (by kernel_rfl) (by kernel_rfl) (by kernel_rfl) (fun _ _ _ h => h) (Or.inl ⟨by rfl, fun w9 hSw => ?_⟩) hHeld ?_
      · go_simp
      simp only [List.getElem_toArray, List.getElem_cons_zero, List.getElem_cons_succ, Act.put, List.setIfInBounds_toArray, List.set_cons_zero, List.set_cons_succ]
      refine wpAnyH_ready (rs := [3]) (by kernel_rfl) (by simp) ?_
      refine AllReadyH.cons rfl (fun K hK => ?_) AllReadyH.nil
      go_simp
      refine (hfu _).mono ?_
      rintro e w2 ⟨rfl, rfl⟩
      refine hK.out _ _ trivial (fun _ => ?_)
      clear hK K
      refine wpAnyH_take (i := 7) (v := .pointer (some ⟨w.heap.size, 1 + k, none⟩)) rfl (by kernel_rfl) (by kernel_rfl) (by kernel_rfl) (fun _ _ _ h => h) (Or.inl ⟨by rfl, fun w9 hSw => ?_⟩) hHeld ?_
      · go_simp
      simp only [List.getElem_toArray, List.getElem_cons_zero, List.getElem_cons_succ, Act.put, List.setIfInBounds_toArray, List.set_cons_zero, List.set_cons_succ]
      refine wpAnyH_ready (rs := [8]) (by kernel_rfl) (by simp) ?_
      refine AllReadyH.cons rfl (fun K hK => ?_) AllReadyH.nil
      go_simp
      refine hK.out _ _ trivial (fun _ => ?_)
      clear hK K
      refine wpAnyH_done (by kernel_rfl) (NoPanic.normal ?_) _
      go_wp2
      go_roundw
      case rel => exact ⟨k + 1, by omega, by go_num, ⟨_, hr2, hm2⟩, ⟨hB2.os, hB2.tape, hB2.output, hB2.size, hB2.block⟩⟩
      case measure => simp [intOf]; omega
    · obtain rfl : k = n := by omega
      have hnl : ¬ (k : Int) < (k : Int) := by omega
      go_wp2
      go_ret
      exact ⟨⟨rfl, _, hr, hm⟩, hB⟩

theorem hasB_wo {s k j : Int} (hk : 0 ≤ k ∧ k < 64) : hasB (withoutI s k) j = true ↔ hasB s j = true ∧ j ≠ k := by
  by_cases hj : 0 ≤ j ∧ j < 64
  · obtain ⟨a, rfl⟩ : ∃ a : Nat, k = (a : Int) := ⟨k.toNat, by omega⟩
    obtain ⟨b, rfl⟩ : ∃ b : Nat, j = (b : Int) := ⟨j.toNat, by omega⟩
    rw [hasB_withoutI s (by omega) (by omega), Bool.and_eq_true, Bool.not_eq_true', decide_eq_false_iff_not]
    constructor
    · rintro ⟨h1, h2⟩; exact ⟨h1, by omega⟩
    · rintro ⟨h1, h2⟩; exact ⟨h1, by omega⟩
  · rw [hasB_out hj, hasB_out hj]
    simp

theorem putS_rel {S : Nat → Nat → Int} {f : Fnd} {x a : Nat} (hx : 1 ≤ x) : putS S f x a = if x = f.rel.toNat ∧ a = f.a.toNat then withI (S x a) f.b else S x a := by
  unfold putS updS
  rw [if_neg (by omega)]
  by_cases h : x = f.rel.toNat ∧ a = f.a.toNat
  · rw [if_pos h, if_pos h, ← h.1, ← h.2]
  · rw [if_neg h, if_neg h]
theorem putS_none {S : Nat → Nat → Int} {f : Fnd} {a : Nat} (hf : 1 ≤ f.rel) : putS S f 0 a = if a = f.a.toNat then withoutI (S 0 a) f.b else S 0 a := by
  unfold putS updS
  by_cases h : a = f.a.toNat
  · rw [if_pos ⟨rfl, h⟩, if_pos h, ← h]
  · rw [if_neg (fun e => h e.2), if_neg (by omega), if_neg h]

def Sets4 (S : Nat → Nat → Int) : Prop := ∀ x a, x < 4 → a < 60 → IsSet (S x a)
theorem putS_sets {S : Nat → Nat → Int} (hS : Sets4 S) {f : Fnd} (hf : OkFnd 59 f) : Sets4 (putS S f) := fun x a hx ha => by
  by_cases h1 : 1 ≤ x
  · rw [putS_rel h1]
    split
    · exact withI_isSet _ (hS x a hx ha)
    · exact hS x a hx ha
  · obtain rfl : x = 0 := by omega
    rw [putS_none hf.rel.1]
    split
    · exact withoutI_isSet _ (hS 0 a hx ha)
    · exact hS 0 a hx ha

theorem fold_rel : ∀ {L : List Fnd}, (∀ f ∈ L, OkFnd 59 f) → ∀ {S : Nat → Nat → Int}, Sets4 S → ∀ {x a : Nat} {b : Int}, 1 ≤ x → x < 4 → a < 60 → (hasB (L.foldl putS S x a) b = true ↔ hasB (S x a) b = true ∨ ∃ f ∈ L, f.rel = x ∧ f.a = a ∧ f.b = b)
  | [], _, S, hS, x, a, b, h1, h2, h3 => by simp
  | f :: L, hL, S, hS, x, a, b, h1, h2, h3 => by
    have hf := hL f List.mem_cons_self
    have hf1 := hf.rel
    have hf2 := hf.a
    have hf3 := hf.b
    rw [List.foldl_cons, fold_rel (fun f hf => hL f (List.mem_cons_of_mem _ hf)) (putS_sets hS hf) h1 h2 h3, putS_rel h1]
    have e : hasB (if x = f.rel.toNat ∧ a = f.a.toNat then withI (S x a) f.b else S x a) b = true ↔ hasB (S x a) b = true ∨ (f.rel = x ∧ f.a = a ∧ f.b = b) := by
      split
      · rename_i h
        rw [hasB_with (hS x a h2 h3)]
        constructor
        · rintro (h4 | h4)
          · exact .inl h4
          · exact .inr ⟨by omega, by omega, h4.1⟩
        · rintro (h4 | h4)
          · exact .inl h4
          · exact .inr ⟨h4.2.2, by omega, by omega⟩
      · rename_i h
        constructor
        · exact fun h4 => .inl h4
        · rintro (h4 | h4)
          · exact h4
          · exact absurd ⟨by omega, by omega⟩ h
    rw [e, or_assoc]
    constructor
    · rintro (h4 | h4 | ⟨f', h5, h6⟩)
      · exact .inl h4
      · exact .inr ⟨f, List.mem_cons_self, h4⟩
      · exact .inr ⟨f', List.mem_cons_of_mem _ h5, h6⟩
    · rintro (h4 | ⟨f', h5, h6⟩)
      · exact .inl h4
      · rcases List.mem_cons.1 h5 with rfl | h5
        · exact .inr (.inl h6)
        · exact .inr (.inr ⟨f', h5, h6⟩)

theorem fold_none : ∀ {L : List Fnd}, (∀ f ∈ L, OkFnd 59 f) → ∀ {S : Nat → Nat → Int}, Sets4 S → ∀ {a : Nat} {b : Int}, a < 60 → (hasB (L.foldl putS S 0 a) b = true ↔ hasB (S 0 a) b = true ∧ ∀ f ∈ L, ¬ (f.a = a ∧ f.b = b))
  | [], _, S, hS, a, b, h3 => by simp
  | f :: L, hL, S, hS, a, b, h3 => by
    have hf := hL f List.mem_cons_self
    have hf1 := hf.rel
    have hf2 := hf.a
    have hf3 := hf.b
    rw [List.foldl_cons, fold_none (fun f hf => hL f (List.mem_cons_of_mem _ hf)) (putS_sets hS hf) h3, putS_none hf1.1]
    have e : hasB (if a = f.a.toNat then withoutI (S 0 a) f.b else S 0 a) b = true ↔ hasB (S 0 a) b = true ∧ ¬ (f.a = a ∧ f.b = b) := by
      split
      · rename_i h
        rw [hasB_wo (by omega)]
        constructor
        · rintro ⟨h4, h5⟩; exact ⟨h4, fun h6 => h5 h6.2.symm⟩
        · rintro ⟨h4, h5⟩; exact ⟨h4, fun h6 => h5 ⟨by omega, h6.symm⟩⟩
      · rename_i h
        constructor
        · exact fun h4 => ⟨h4, fun h6 => h (by omega)⟩
        · exact fun h4 => h4.1
    rw [e, and_assoc]
    constructor
    · rintro ⟨h4, h5, h6⟩
      exact ⟨h4, fun f' hf' => by
        rcases List.mem_cons.1 hf' with rfl | hf'
        · exact h5
        · exact h6 f' hf'⟩
    · rintro ⟨h4, h5⟩
      exact ⟨h4, h5 f List.mem_cons_self, fun f' hf' => h5 f' (List.mem_cons_of_mem _ hf')⟩

theorem hasB_full {n : Nat} (hn : n ≤ 60) {b : Int} : hasB (fullI n) b = true ↔ 0 ≤ b ∧ b < n := by
  induction n with
  | zero =>
    rw [show fullI ((0 : Nat) : Int) = 0 from rfl, hasB_zero]
    constructor
    · intro h; cases h
    · intro h; omega
  | succ n ih =>
    rw [← fullI_succ (k := n) (by omega), hasB_with (fullI_isSet _), ih (by omega)]
    constructor
    · rintro (h | h) <;> omega
    · intro h
      by_cases e : b = n
      · exact .inr ⟨e.symm, by omega, by omega⟩
      · exact .inl ⟨h.1, by omega⟩

/-- The sets are those of a grammar's relations. -/
structure IsMat (g : G) (S : Nat → Nat → Int) : Prop where
  rel : ∀ x a b, 1 ≤ x → x < 4 → a < g.ts.length + 1 → (hasB (S x a) b = true ↔ Rel g x a b)
  none_ : ∀ a b, a < g.ts.length + 1 → (hasB (S 0 a) b = true ↔ (0 ≤ b ∧ b ≤ g.ts.length) ∧ ∀ x, ¬ Rel g x a b)

theorem isMat_of {g : G} (hg : GoodG g) {L : List Fnd} (hL : ∀ f ∈ L, OkFnd 59 f) (h : ∀ x a b, (∃ f ∈ L, f.rel = x ∧ f.a = a ∧ f.b = b) ↔ Rel g x a b) : IsMat g (L.foldl putS (blankS ((g.ts.length + 1 : Nat) : Int))) := by
  have hfew := hg.few
  have hax0 := hg.ax0
  have hax1 := hg.ax1
  have hS : Sets4 (blankS ((g.ts.length + 1 : Nat) : Int)) := fun x a hx ha => by
    unfold blankS blankK
    split
    · exact fullI_isSet _
    · exact zero_isSet
  refine ⟨fun x a b h1 h2 h3 => ?_, fun a b h3 => ?_⟩
  · rw [fold_rel hL hS h1 h2 (by omega), h]
    unfold blankS blankK
    rw [if_neg (by omega), hasB_zero]
    simp
  · rw [fold_none hL hS (by omega)]
    unfold blankS blankK
    rw [if_pos ⟨rfl, by simpa using h3⟩, hasB_full (by omega)]
    constructor
    · rintro ⟨h4, h5⟩
      refine ⟨by omega, fun x hx => ?_⟩
      obtain ⟨f, hf, _, h6⟩ := (h x a b).2 hx
      exact h5 f hf h6
    · rintro ⟨h4, h5⟩
      exact ⟨by omega, fun f hf h6 => h5 f.rel ((h _ _ _).1 ⟨f, hf, rfl, h6⟩)⟩

theorem holds_iff {g : G} (hg : GoodG g) {S : Nat → Nat → Int} (h : IsMat g S) {a b x : Int} (h1 : 1 ≤ x) (h3 : x ≤ 3) : holdsB ((g.ts.length + 1 : Nat) : Int) S a b x = true ↔ Rel g x a b := by
  unfold holdsB
  by_cases ha : 0 ≤ a ∧ a < ((g.ts.length + 1 : Nat) : Int)
  · have hr := h.rel x.toNat a.toNat b (by omega) (by omega) (by omega)
    rw [show ((x.toNat : Nat) : Int) = x by omega, show ((a.toNat : Nat) : Int) = a by omega] at hr
    rw [← hr]
    simp [ha.1, h3, show 0 ≤ x by omega, show a < (g.ts.length : Int) + 1 by omega]
  · constructor
    · intro h0
      simp at h0
      omega
    · intro h0
      have := (h0.ok hg).2.1
      omega
end Go.Proofs.YtcoepmpgclndiaaGreatDoor.MatrixPut
