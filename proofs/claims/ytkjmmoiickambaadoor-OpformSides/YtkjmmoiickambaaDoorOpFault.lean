/-
  The places of the faults of a right side.
-/
import Derived.Test.YtkjmmoiickambaaDoorOpSkel
namespace Go.Proofs.YtkjmmoiickambaaDoor.OpFault
open Go.RowKit Go.Proofs.YtkjmmoiickambaaDoor.GramMath Go.Proofs.YtkjmmoiickambaaDoor.GramRow Go.Proofs.YtkjmmoiickambaaDoor.GramApart Go.Proofs.YtkjmmoiickambaaDoor.GramLent Go.Proofs.YtkjmmoiickambaaDoor.OpRow Go.Proofs.YtkjmmoiickambaaDoor.OpSkel
set_option linter.unusedVariables false

/-- The symbols j - 1 and j are both nonterminals. -/
def bad (zs : List Int) (j : Nat) : Bool := decide (0 < j) && decide (zs.getD (j - 1) 0 < 0) && decide (zs.getD j 0 < 0)
/-- The places of faults ahead of place k. -/
def faultsTo (zs : List Int) : Nat → List Int
  | 0 => []
  | k + 1 => faultsTo zs k ++ if bad zs k = true then [(k : Int)] else []
def faults (zs : List Int) : List Int := if zs.length = 0 then [0] else faultsTo zs zs.length

theorem faultsTo_len (zs : List Int) : ∀ k, (faultsTo zs k).length ≤ k - 1
  | 0 => Nat.le_refl _
  | 1 => by simp [faultsTo, bad]
  | k + 2 => by
    have := faultsTo_len zs (k + 1)
    unfold faultsTo
    rw [List.length_append]
    split <;> simp <;> omega
theorem faults_len (zs : List Int) : (faults zs).length ≤ zs.length + 1 := by
  unfold faults
  split
  · simp
  · have := faultsTo_len zs zs.length
    omega
theorem faultsTo_one (zs : List Int) : faultsTo zs 1 = [] := by simp [faultsTo, bad]

theorem getD_of {zs : List Int} {k : Nat} {x : Int} (h : zs[k]? = some x) : zs.getD k 0 = x := by rw [List.getD_eq_getElem?_getD, h]; rfl

theorem sk_neg (x : Int) : sk x < 0 ↔ x < 0 := by unfold sk; split <;> omega
theorem skel_getD (zs : List Int) (j : Nat) : (skel zs).getD j 0 < 0 ↔ zs.getD j 0 < 0 := by
  unfold skel
  rw [List.getD_eq_getElem?_getD, List.getD_eq_getElem?_getD, List.getElem?_map]
  cases zs[j]? with
  | none => exact Iff.rfl
  | some x => exact sk_neg x
theorem skel_bad (zs : List Int) (j : Nat) : bad (skel zs) j = bad zs j := by
  unfold bad
  rw [decide_eq_decide.2 (skel_getD zs (j - 1)), decide_eq_decide.2 (skel_getD zs j)]
theorem skel_faultsTo (zs : List Int) : ∀ k, faultsTo (skel zs) k = faultsTo zs k
  | 0 => rfl
  | k + 1 => by unfold faultsTo; rw [skel_faultsTo zs k, skel_bad]
theorem skel_faults (zs : List Int) : faults (skel zs) = faults zs := by
  unfold faults
  rw [skel_len, skel_faultsTo]

/-- A row of numbers of the call's own. -/
abbrev Own (w : World) (B : Nat) (v : Value) (l : List Int) : Prop := w.ownsRow B 3 1 v l.length (l.map (Value.int .i64))

theorem Own.next {w : World} {B : Nat} {v : Value} {l : List Int} {x : Int} (h : w.ownsRow B 3 1 v (l.length + 1) (l.map (Value.int .i64) ++ [.int .i64 x])) {l' : List Int} (e : l' = l ++ [x]) : Own w B v l' := by
  subst e
  unfold Own
  rw [List.length_append, List.map_append]
  exact h

theorem Own.row {w : World} {B : Nat} {v : Value} {l : List Int} (h : Own w B v l) : ∃ a c, v = .slice a l.length c ∧ IRow w a l := by
  obtain ⟨h1, ⟨rfl, h2⟩ | ⟨g, cap, cur, rfl, h2⟩⟩ := id h
  · have : l.length = 0 := h2
    refine ⟨none, 0, by rw [this], fun i x hx => ?_⟩
    have := (List.getElem?_eq_some_iff.1 hx).1
    omega
  · exact ⟨_, _, rfl, GramLent.lent_rowI h rfl⟩

set_option maxRecDepth 100000 in
set_option maxHeartbeats 2000000 in
theorem faultsAt_own (a : Option Addr) (c : Nat) (zs : List Int) (w : World) (hr : IRow w a zs) (hm : zs.length * 8 ≤ 140737488351232) :
    Calls Tryd.prog 32 #[.slice a zs.length c] w fun e w' => (∃ v, e = .returned v ∧ Own w' w.heap.size v (faults zs)) ∧ Below w.heap.size w w' := by
  obtain ⟨i0, hi, hz0, hz1, hz2⟩ := info_parts infoI
  by_cases h0 : zs.length = 0
  · obtain rfl : zs = [] := List.length_eq_zero_iff.1 h0
    have hB : Below w.heap.size w (w.alloc (.cells #[.int .i64 0] 3)) := (Below.refl _ _).alloc (Nat.le_refl _) _
    have hro : Own (w.alloc (.cells #[.int .i64 0] 3)) w.heap.size (.slice (some ⟨w.heap.size, 0, none⟩) 1 1) (faults []) := ⟨rfl, .inr ⟨w.heap.size, 1, #[.int .i64 0], rfl, Nat.le_refl _, heap_new _ _, Nat.le_refl _, by unfold maxLen; omega, rfl, rfl⟩⟩
    go_enter Tryd.func32, Tryd.ntmps32
    go_wp2
    go_ret
    exact ⟨⟨_, rfl, hro⟩, hB⟩
  · have hne : ((zs.length : Int) == 0) = false := by rw [beq_eq_false_iff_ne]; omega
    have E : Hid (faults zs = faultsTo zs zs.length) := by show _ = _; unfold faults; rw [if_neg h0]
    have h1 : 1 ≤ zs.length := by omega
    clear h0
    go_enter Tryd.func32, Tryd.ntmps32
    go_wp2
    go_loopw [3, 4] (fun v i wr => ∃ k : Nat, 1 ≤ k ∧ k ≤ zs.length ∧ i = .int .i64 k ∧ Own wr w.heap.size v (faultsTo zs k) ∧ Below w.heap.size w wr) (fun _ i _ => zs.length - (intOf i).toNat)
    case atStart => exact ⟨1, by omega, by omega, rfl, by rw [faultsTo_one]; exact World.ownsRow_nil _ _ _ _, Below.refl _ _⟩
    case round =>
      obtain ⟨k, hk1, hk, rfl, hown, hB⟩ := hrel
      have hlen := faultsTo_len zs k
      by_cases hlt : k < zs.length
      · obtain ⟨x, hx⟩ : ∃ x, zs[k - 1]? = some x := ⟨zs[k - 1]'(by omega), List.getElem?_eq_getElem (by omega)⟩
        obtain ⟨y, hy⟩ : ∃ y, zs[k]? = some y := ⟨zs[k], List.getElem?_eq_getElem hlt⟩
        obtain ⟨b, off, rfl, hcx⟩ := hr (k - 1) x hx
        obtain ⟨b', off', hb', hcy⟩ := hr k y hy
        cases hb'
        have hcx := (hB.cell (cell_lt hcx)).trans hcx
        have hcy := (hB.cell (cell_lt hcy)).trans hcy
        have hlt2 : (k : Int) < (zs.length : Int) := by omega
        have hk0 : (0 : Int) ≤ (k : Int) - 1 := by omega
        have hk2 : (k : Int) - 1 < (zs.length : Int) := by omega
        have hto : ((k : Int) - 1).toNat = k - 1 := by omega
        have hsz := hB.size
        have hbad : bad zs k = (decide (x < 0) && decide (y < 0)) := by unfold bad; rw [getD_of hx, getD_of hy, decide_eq_true (show 0 < k by omega)]; simp
        have hF : faultsTo zs (k + 1) = faultsTo zs k ++ if bad zs k = true then [(k : Int)] else [] := rfl
        by_cases hx0 : x < 0
        · by_cases hy0 : y < 0
          · have E2 : Hid (faultsTo zs (k + 1) = faultsTo zs k ++ [(k : Int)]) := by show _ = _; rw [hF, hbad, decide_eq_true hx0, decide_eq_true hy0]; rfl
            clear hF hbad hr hx hy
            go_wp2_with (at_builtin; refine wpList_append_own _ rfl (.tmp 28) (.tmp 30) 43 rfl w.heap.size 3 i0 (.int .i64 0) 1 8 Tryd.underlying43 hi hz0 hz1 hz2 rfl (by decide) _ _ _ rfl (hown.alloc _) ⟨_, 0, none⟩ 1 1 [.int .i64 (k : Int)] rfl rfl (cell_one_new _ _ _) (by simp [Value.oneCell']) (by unfold maxLen; omega) (by omega) (by simp; omega) ?_; intro v2 w2 hown2 hgrow2 _)
            have O2 : Own w2 w.heap.size v2 (faultsTo zs (k + 1)) := Own.next hown2 E2.out
            have B2 : Below w.heap.size w w2 := (hB.alloc hsz _).grown hgrow2 (by simp; omega) (fun j hj => (hown.lt j hj).1)
            clear hown2 hgrow2 hown
            go_roundw
            case rel => exact ⟨k + 1, by omega, by omega, by go_num, O2, B2⟩
            case measure => simp [intOf]; omega
          · have E2 : Hid (faultsTo zs (k + 1) = faultsTo zs k) := by show _ = _; rw [hF, hbad, decide_eq_false hy0]; simp
            clear hF hbad hr hx hy
            go_wp2
            go_roundw
            case rel => exact ⟨k + 1, by omega, by omega, by go_num, by rw [E2.out]; exact hown, hB⟩
            case measure => simp [intOf]; omega
        · have E2 : Hid (faultsTo zs (k + 1) = faultsTo zs k) := by show _ = _; rw [hF, hbad, decide_eq_false hx0]; simp
          clear hF hbad hr hx hy
          go_wp2
          go_roundw
          case rel => exact ⟨k + 1, by omega, by omega, by go_num, by rw [E2.out]; exact hown, hB⟩
          case measure => simp [intOf]; omega
      · obtain rfl : k = zs.length := by omega
        have hnl : ¬ (zs.length : Int) < (zs.length : Int) := by omega
        rw [← E.out] at hown
        clear hlen
        go_wp2
        go_ret
        exact ⟨⟨_, rfl, hown⟩, hB⟩

theorem faultsAt_any (a : Option Addr) (c : Nat) (zs : List Int) (w : World) (hr : IRow w a zs) (hm : zs.length * 8 ≤ 140737488351232) :
    Calls Tryd.prog 32 #[.slice a zs.length c] w fun e w' => (∃ b d, e = .returned (.slice b (faults zs).length d) ∧ IRow w' b (faults zs)) ∧ Below w.heap.size w w' :=
  (faultsAt_own a c zs w hr hm).mono (by
    rintro e w' ⟨⟨v, rfl, ho⟩, hb⟩
    obtain ⟨x, d, rfl, hI⟩ := ho.row
    exact ⟨⟨x, d, rfl, hI⟩, hb⟩)

end Go.Proofs.YtkjmmoiickambaaDoor.OpFault
