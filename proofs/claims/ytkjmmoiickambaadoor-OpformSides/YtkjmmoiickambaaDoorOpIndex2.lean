/-
  Whether a frame is one of a row.
-/
import Derived.Test.YtkjmmoiickambaaDoorOpIndex
namespace Go.Proofs.YtkjmmoiickambaaDoor.OpFrame
open Go.RowKit Go.Proofs.YtkjmmoiickambaaDoor.GramMath Go.Proofs.YtkjmmoiickambaaDoor.GramRow Go.Proofs.YtkjmmoiickambaaDoor.GramApart Go.Proofs.YtkjmmoiickambaaDoor.GramLent Go.Proofs.YtkjmmoiickambaaDoor.OpRow Go.Proofs.YtkjmmoiickambaaDoor.OpSkel Go.Proofs.YtkjmmoiickambaaDoor.OpFault
set_option linter.unusedVariables false

theorem exec_load {ρ : Operand → Value} {d : Option Tmp} {ty t : TypeId} {pos : String} {after : Array Edge} {p : Operand} {q v : Value} {w : World} (hp : ρ p = q) (h : (Instr.loadAt t q).run Tryd.prog w = .ok v w) : (execOp ρ ⟨d, .load t p, ty, pos, after, none⟩).run Tryd.prog w = .ok (.value v) w := by
  simp only [execOp, Sem.run_bind, hp, h, Result.andThen, Sem.run_pure]
theorem exec_eql {ρ : Operand → Value} {d : Option Tmp} {ty t : TypeId} {pos : String} {after : Array Edge} {p r : Operand} {x y : Array Value} {v : Value} {w : World} (hp : ρ p = .agg x) (hr : ρ r = .agg y) (hm : Tryd.prog.eqGuardType Tryd.prog.depth t = false) (h : (binOp .eql t (.agg x) (.agg y)).run Tryd.prog w = .ok v w) : (execOp ρ ⟨d, .binOp .eql t p r t, ty, pos, after, none⟩).run Tryd.prog w = .ok (.value v) w := by
  simp only [execOp, Sem.run_bind, hp, hr, run_eqGuard_agg w .eql t p r x y hm, h, Result.andThen, Sem.run_pure]
theorem drew_cell (w : World) (p : Addr) : w.drew.cell? p = w.cell? p := rfl

set_option maxRecDepth 100000 in
set_option maxHeartbeats 2000000 in
theorem findex_any (a : Option Addr) (c : Nat) (fs : List (List Int)) (f : List Int) (w : World) (hr : FRow w a fs) (hf : f.length = 33) (hm : fs.length ≤ 1000000) :
    Calls Tryd.prog 43 #[.slice a fs.length c, .agg (intsA f)] w fun e w' => (∃ z : Int, e = .returned (.int .i64 z) ∧ (0 ≤ z ↔ f ∈ fs)) ∧ Below w.heap.size w w' := by
  have r0 : RowAt (w.alloc (.cells (intsA f) 62)) w.heap.size 62 (intsA f) := heap_new _ _
  have hB0 : Below w.heap.size w (w.alloc (.cells (intsA f) 62)) := (Below.refl _ _).alloc (Nat.le_refl _) _
  have hs0 : (w.alloc (.cells (intsA f) 62)).heap.size = w.heap.size + 1 := by simp
  have hr0 := hr.below hB0 (Nat.le_refl _)
  clear hr
  go_enter Tryd.func43, Tryd.ntmps43
  go_wp2_with (refine at_boxF rfl ?_)
  generalize w.alloc (.cells (intsA f) 62) = W1 at *
  go_loopw [8] (fun i wr => ∃ k : Nat, k ≤ fs.length ∧ i = .int .i64 k ∧ Hid (∀ j, j < k → fs[j]? ≠ some f) ∧ Below W1.heap.size W1 wr) (fun i _ => fs.length - (intOf i).toNat)
  case atStart => exact ⟨0, by omega, rfl, fun j hj => by omega, Below.refl _ _⟩
  case round =>
    obtain ⟨k, hk, rfl, hno, hB⟩ := hrel
    have hBw : Below w.heap.size w wr := hB0.trans (hB.mono (by omega))
    by_cases hlt : k < fs.length
    · obtain ⟨g, hg⟩ : ∃ g, fs[k]? = some g := ⟨fs[k], List.getElem?_eq_getElem hlt⟩
      obtain ⟨hgl, b, off, rfl, hc⟩ := (hr0.below hB (Nat.le_refl _)) k g hg
      have rw0 := r0.below hB r0.lt
      have hlt2 : (k : Int) < (fs.length : Int) := by omega
      go_wp2_with fail
      have l1 := loadF wr.drew w.heap.size f hf rw0
      have l2 := loadF2 wr.drew b (off + k * 33) g hgl hc
      have hBd : Below W1.heap.size W1 wr.drew := bdrew1 hB
      have hBwd : Below w.heap.size w wr.drew := bdrew1 hBw
      have hI : fs[k]? = some g := hg
      clear hc hr0 hg rw0 r0
      refine wp_region_noPanic ?_
      refine wp_region_held_drew (S := fun w' => w' = wr.drew) (by kernel_rfl) rfl (fun hHeld => ?_)
      refine wpAnyH_take (i := 0) (v := .agg (intsA f)) rfl (by kernel_rfl) (by kernel_rfl) (by kernel_rfl) (fun _ _ _ h => h) (Or.inl ⟨by rfl, fun w9 hSw => ?_⟩) hHeld ?_
      · subst hSw
        exact exec_load rfl l1
      simp only [List.getElem_toArray, List.getElem_cons_zero, Act.put, List.setIfInBounds_toArray, List.set_cons_zero, List.set_cons_succ]
      refine wpAnyH_take (i := 1) (v := .slice (some ⟨b, off, none⟩) fs.length c) rfl (by kernel_rfl) (by kernel_rfl) (by kernel_rfl) (fun _ _ _ h => h) (Or.inl ⟨by rfl, fun w9 hSw => ?_⟩) hHeld ?_
      · go_simp
      simp only [List.getElem_toArray, List.getElem_cons_zero, List.getElem_cons_succ, Act.put, List.setIfInBounds_toArray, List.set_cons_zero, List.set_cons_succ]
      refine wpAnyH_take (i := 2) (v := .int .i64 k) rfl (by kernel_rfl) (by kernel_rfl) (by kernel_rfl) (fun _ _ _ h => h) (Or.inl ⟨by rfl, fun w9 hSw => ?_⟩) hHeld ?_
      · go_simp
      simp only [List.getElem_toArray, List.getElem_cons_zero, List.getElem_cons_succ, Act.put, List.setIfInBounds_toArray, List.set_cons_zero, List.set_cons_succ]
      refine wpAnyH_take (i := 3) (v := .pointer (some ⟨b, off + k * 33, none⟩)) rfl (by kernel_rfl) (by kernel_rfl) (by kernel_rfl) (fun _ _ _ h => h) (Or.inl ⟨by rfl, fun w9 hSw => ?_⟩) hHeld ?_
      · clear l1 l2
        go_simp
      simp only [List.getElem_toArray, List.getElem_cons_zero, List.getElem_cons_succ, Act.put, List.setIfInBounds_toArray, List.set_cons_zero, List.set_cons_succ]
      refine wpAnyH_take (i := 4) (v := .agg (intsA g)) rfl (by kernel_rfl) (by kernel_rfl) (by kernel_rfl) (fun _ _ _ h => h) (Or.inl ⟨by rfl, fun w9 hSw => ?_⟩) hHeld ?_
      · subst hSw
        exact exec_load rfl l2
      simp only [List.getElem_toArray, List.getElem_cons_zero, List.getElem_cons_succ, Act.put, List.setIfInBounds_toArray, List.set_cons_zero, List.set_cons_succ]
      refine wpAnyH_take (i := 5) (v := .bool (decide (f = g))) rfl (by kernel_rfl) (by kernel_rfl) (by kernel_rfl) (fun _ _ _ h => h) (Or.inl ⟨by rfl, fun w9 hSw => ?_⟩) hHeld ?_
      · exact exec_eql rfl rfl (by kernel_rfl) (eqlF f g hf hgl w9)
      simp only [List.getElem_toArray, List.getElem_cons_zero, List.getElem_cons_succ, Act.put, List.setIfInBounds_toArray, List.set_cons_zero, List.set_cons_succ]
      refine wpAnyH_done (by kernel_rfl) (NoPanic.normal ?_) _
      clear l1 l2 hHeld
      by_cases hfg : f = g
      · rw [decide_eq_true hfg]
        have E : Hid (f ∈ fs) := by rw [hfg]; exact List.mem_of_getElem? hI
        clear hfg hno hI
        go_wp2
        go_ret
        exact ⟨⟨_, rfl, by constructor <;> intro h; exact E.out; omega⟩, hBwd⟩
      · rw [decide_eq_false hfg]
        have hno2 : Hid (∀ j, j < k + 1 → fs[j]? ≠ some f) := fun j hj => by
          by_cases hjk : j = k
          · subst hjk; rw [hI]; intro e; exact hfg (Option.some.inj e).symm
          · exact hno.out j (by omega)
        clear hfg hno hI
        go_wp2
        go_roundw
        case rel => exact ⟨k + 1, by omega, by go_num, hno2, hBd⟩
        case measure => simp [intOf]; omega
    · have E : Hid (¬ f ∈ fs) := by
        intro h
        obtain ⟨j, hj, e⟩ := List.getElem_of_mem h
        exact hno.out j (by omega) (by rw [List.getElem?_eq_getElem hj, e])
      clear hno
      go_wp2
      go_ret
      exact ⟨⟨_, rfl, by constructor <;> intro h; omega; exact absurd h E.out⟩, hBw⟩

set_option maxRecDepth 100000 in
set_option maxHeartbeats 1000000 in
theorem fcontains_any (a : Option Addr) (c : Nat) (fs : List (List Int)) (f : List Int) (w : World) (hr : FRow w a fs) (hf : f.length = 33) (hm : fs.length ≤ 1000000) :
    Calls Tryd.prog 31 #[.slice a fs.length c, .agg (intsA f)] w fun e w' => e = .returned (.bool (decide (f ∈ fs))) ∧ Below w.heap.size w w' := by
  have r0 : RowAt (w.alloc (.cells (intsA f) 62)) w.heap.size 62 (intsA f) := heap_new _ _
  have hB0 : Below w.heap.size w (w.alloc (.cells (intsA f) 62)) := (Below.refl _ _).alloc (Nat.le_refl _) _
  have hs0 : (w.alloc (.cells (intsA f) 62)).heap.size = w.heap.size + 1 := by simp
  have hix := findex_any a c fs f _ (hr.below hB0 (Nat.le_refl _)) hf hm
  clear hr
  go_enter Tryd.func31, Tryd.ntmps31
  go_wp2_with (first | refine at_boxF rfl ?_ | refine at_loadF rfl r0 hf ?_)
  refine hix.mono ?_
  rintro e w1 ⟨⟨z, rfl, hz⟩, hb1⟩
  have E : Hid (decide (0 ≤ z) = decide (f ∈ fs)) := decide_eq_decide.2 hz
  clear hix hz r0
  go_wp2
  go_ret
  exact ⟨by rw [← E.out]; rfl, hB0.trans (hb1.mono (by omega))⟩

end Go.Proofs.YtkjmmoiickambaaDoor.OpFrame
