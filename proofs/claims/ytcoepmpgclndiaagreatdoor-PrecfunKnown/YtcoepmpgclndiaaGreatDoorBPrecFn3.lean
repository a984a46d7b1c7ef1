/-
  Texts that stand together: PrecFn3.
-/
import Derived.Test.YtcoepmpgclndiaaGreatDoorBPrecFn2
import Derived.Test.YtcoepmpgclndiaaGreatDoorBGraphPts
namespace Go.Proofs.YtcoepmpgclndiaaGreatDoor.PrecFn
open Go.RowKit Go.Proofs.YtcoepmpgclndiaaGreatDoor.GramMath Go.Proofs.YtcoepmpgclndiaaGreatDoor.GramRow Go.Proofs.YtcoepmpgclndiaaGreatDoor.GramApart Go.Proofs.YtcoepmpgclndiaaGreatDoor.GraphMath Go.Proofs.YtcoepmpgclndiaaGreatDoor.GraphNet Go.Proofs.YtcoepmpgclndiaaGreatDoor.OpRow Go.Proofs.YtcoepmpgclndiaaGreatDoor.GramErrs Go.Proofs.YtcoepmpgclndiaaGreatDoor.MatrixClash
set_option linter.unusedVariables false
set_option linter.unusedSimpArgs false

def zero120 : List Int := List.replicate 120 0
theorem infoA : (Tryz.prog.info? 102).map (fun i => (i.zero, i.size)) = some (some (.agg (intsA zero120)), 120) := by kernel_rfl
theorem zeroA (w : World) : (zeroValue 102).run Tryz.prog w = .ok (.agg (intsA zero120)) w := (zero_of_info infoA).1 w
theorem allocA (W : World) : (Instr.alloc 102 true (.tuple #[])).run Tryz.prog W = .ok (.pointer (some ⟨W.heap.size, 0, none⟩)) (W.alloc (.cells (intsA zero120) 102)) := by
  have h := zeroA
  generalize intsA zero120 = z at *
  simp [Instr.alloc, h, newVar, newRow, Value.cells, go_sem]
section
variable {ops : Array Oper} {Q : Exit → Act → World → Prop} {a : Act} {w : World} {rest : List Oper} {d : Option Tmp} {ty : TypeId} {pos : String} {after : Array Edge}
theorem at_allocA (k : wpList Tryz.prog ops Q rest (a.put d (.pointer (some ⟨w.heap.size, 0, none⟩))) (w.alloc (.cells (intsA zero120) 102))) : wpList Tryz.prog ops Q (⟨d, .alloc 102, ty, pos, after, none⟩ :: rest) a w :=
  MatrixPut.op_valueM (by simp only [execOp, Sem.run_bind, allocA, Result.andThen, Sem.run_pure]) k
end

theorem allF_lt {q : Int → Int → Bool} {t : Nat} (ht : t ≤ 60) : ∀ n, n ≤ t → ∀ k, k < 120 → allF q t n k < 120
  | 0, _, k, hk => hk
  | n + 1, hn, k, hk => by
    rw [allF_succ]
    have key : ∀ j, j ≤ t → ∀ k, k < 120 → rowF q t (allF q t n) n j k < 120 := by
      intro j
      induction j with
      | zero => intro _ k hk; exact allF_lt ht n (by omega) k hk
      | succ j ih => intro hj k hk; rw [rowF_succ]; exact stepF_lt (fun k hk => ih (by omega) k hk) (by omega) (by omega) k hk
    exact key t (Nat.le_refl _) k hk
theorem rowF_lt {q : Int → Int → Bool} {t a : Nat} (ht : t ≤ 60) (ha : a < t) : ∀ j, j ≤ t → ∀ k, k < 120 → rowF q t (allF q t a) a j k < 120
  | 0, _, k, hk => allF_lt ht a (by omega) k hk
  | j + 1, hj, k, hk => by rw [rowF_succ]; exact stepF_lt (fun k hk => rowF_lt ht ha j (by omega) k hk) (by omega) (by omega) k hk

set_option maxRecDepth 100000 in
set_option maxHeartbeats 4000000 in
theorem classesOf_any (po : Option Addr) (t : Nat) (S : Nat → Nat → Int) (w : World) (hm : MatV w po t S) (ht : t ≤ 60) :
    Calls Tryz.prog 23 #[.pointer po] w fun e w' => ∃ g, e = .returned (.slice (some ⟨g, 0, none⟩) (2 * t) (2 * t)) ∧ w.heap.size ≤ g ∧ RowAt w' g 3 (intsA (ints (classL (rQ t S) t))) ∧ Below w.heap.size w w' := by
  have h0 := terms_v po t S w hm
  have HM : Hid (MatV w po t S) := hm
  have hmf : ∀ (fn : Fn) (first cap : Array Value) (w : World), (Instr.makeFunc fn first cap).run Tryz.prog w = .ok (.func fn first cap) w := fun _ _ _ _ => rfl
  have hz0 : NRow (w.alloc (.cells (intsA zero120) 102)) w.heap.size 120 (fun i => if i < 0 then (i : Int) else 0) := fun i hi => by
    have hr : RowAt (w.alloc (.cells (intsA zero120) 102)) w.heap.size 102 (intsA zero120) := heap_new _ _
    exact ⟨hr.cell (by rw [intsA_get (x := 0)]; · simp
                       · unfold zero120; rw [List.getElem?_replicate, if_pos hi]), hr.frozen i⟩
  have HI0 : Hid (NRow (w.alloc (.cells (intsA zero120) 102)) w.heap.size 120 (fun i => if i < 0 then (i : Int) else 0) ∧ Below w.heap.size w (w.alloc (.cells (intsA zero120) 102)) ∧ w.heap.size < (w.alloc (.cells (intsA zero120) 102)).heap.size) := ⟨hz0, (Below.refl _ _).alloc (Nat.le_refl _) _, by simp⟩
  clear hm hz0
  go_enter Tryz.func23, Tryz.ntmps23
  go_wp2_with fail
  refine h0.mono ?_
  rintro e w1 ⟨rfl, hw1⟩
  obtain rfl := hw1.symm
  clear h0
  go_wp2_with (refine at_allocA ?_)
  generalize w.alloc (.cells (intsA zero120) 102) = W0 at *
  go_loopw [11] (fun s wr => ∃ k : Nat, k ≤ 120 ∧ s = .int .i64 (k : Int) ∧ Hid (NRow wr w.heap.size 120 (fun i => if i < k then (i : Int) else 0) ∧ Below w.heap.size w wr ∧ w.heap.size < wr.heap.size)) (fun s _ => 120 - (intOf s).toNat)
  case atStart => exact ⟨0, by omega, rfl, HI0⟩
  case round =>
    clear HI0
    obtain ⟨k, hk, rfl, hI⟩ := hrel
    by_cases hlk : k < 120
    · have hlk2 : (k : Int) < 120 := by omega
      obtain ⟨d0, d1⟩ := hI.out.1 k hlk
      dsimp only at d0
      rw [if_neg (by omega)] at d0
      have hI2 : Hid (NRow (wr.setCell ⟨w.heap.size, k, none⟩ (.int .i64 (k : Int))) w.heap.size 120 (fun i => if i < k + 1 then (i : Int) else 0) ∧ Below w.heap.size w (wr.setCell ⟨w.heap.size, k, none⟩ (.int .i64 (k : Int))) ∧ w.heap.size < (wr.setCell ⟨w.heap.size, k, none⟩ (.int .i64 (k : Int))).heap.size) := ⟨(hI.out.1.put hlk _).congr (fun i hi => by
        by_cases e : i = k
        · subst e; rw [updA_at, if_pos (by omega)]
        · rw [updA_ne _ _ e]
          by_cases h : i < k
          · rw [if_pos h, if_pos (by omega)]
          · rw [if_neg h, if_neg (by omega)]), hI.out.2.1.setCell (p := ⟨w.heap.size, k, none⟩) (Nat.le_refl _) _, by simpa using hI.out.2.2⟩
      clear hI
      go_wp2
      go_roundw
      case rel => exact ⟨k + 1, by omega, by go_num, hI2⟩
      case measure => simp [intOf]; omega
    · have hlk2 : ¬ (k : Int) < 120 := by omega
      have HJ0 : Hid (NRow wr w.heap.size 120 (fun i => (allF (rQ t S) t 0 i : Int)) ∧ Below w.heap.size w wr ∧ w.heap.size < wr.heap.size) := ⟨hI.out.1.congr (fun i hi => by rw [if_pos (by omega)]; rfl), hI.out.2⟩
      clear hI
      go_wp2
      go_loopw [20] (fun s wr => ∃ a : Nat, a ≤ t ∧ s = .int .i64 (a : Int) ∧ Hid (NRow wr w.heap.size 120 (fun i => (allF (rQ t S) t a i : Int)) ∧ Below w.heap.size w wr ∧ w.heap.size < wr.heap.size)) (fun s _ => t - (intOf s).toNat)
      case atStart => exact ⟨0, by omega, rfl, HJ0⟩
      case round =>
        clear HJ0
        obtain ⟨a, ha, rfl, hI⟩ := hrel
        by_cases hla : a < t
        · have hla2 : (a : Int) < (t : Int) := by omega
          have HK0 : Hid (NRow wr w.heap.size 120 (fun i => (rowF (rQ t S) t (allF (rQ t S) t a) a 0 i : Int)) ∧ Below w.heap.size w wr ∧ w.heap.size < wr.heap.size) := hI.out
          clear hI
          go_wp2
          go_loopw [24] (fun s wr => ∃ b : Nat, b ≤ t ∧ s = .int .i64 (b : Int) ∧ Hid (NRow wr w.heap.size 120 (fun i => (rowF (rQ t S) t (allF (rQ t S) t a) a b i : Int)) ∧ Below w.heap.size w wr ∧ w.heap.size < wr.heap.size)) (fun s _ => t - (intOf s).toNat)
          case atStart => exact ⟨0, by omega, rfl, HK0⟩
          case round =>
            clear HK0
            obtain ⟨b, hb, rfl, hJ⟩ := hrel
            by_cases hlb : b < t
            · have hlb2 : (b : Int) < (t : Int) := by omega
              have hold := holds_v po t S (a : Int) (b : Int) 2 wr (HM.out.below hJ.out.2.1 (Nat.le_refl _)) ht
              cases hB : MatrixPut.holdsB (t : Int) S (a : Int) (b : Int) 2 with
              | true =>
                rw [hB] at hold
                have hjn := join_any w.heap.size (rowF (rQ t S) t (allF (rQ t S) t a) a b) a (t + b) wr hJ.out.1 (fun k hk => rowF_lt ht hla b (by omega) k hk) (by omega) (by omega)
                have hcast : ((t + b : Nat) : Int) = (t : Int) + (b : Int) := by omega
                rw [hcast] at hjn
                have hI2 : Hid (∀ w2, NRow w2 w.heap.size 120 (fun i => (joinF (rowF (rQ t S) t (allF (rQ t S) t a) a b) a (t + b) i : Int)) → But (fun q => q = w.heap.size) wr w2 → NRow w2 w.heap.size 120 (fun i => (rowF (rQ t S) t (allF (rQ t S) t a) a (b + 1) i : Int)) ∧ Below w.heap.size w w2 ∧ w.heap.size < w2.heap.size) := fun w2 h1 h2 => ⟨h1.congr (fun i hi => by rw [rowF_succ]; unfold stepF; rw [if_pos hB]), hJ.out.2.1.trans (h2.below hJ.out.2.1.size (fun q hq => by omega)), by have := h2.size; have := hJ.out.2.2; omega⟩
                clear hJ hB hcast
                go_wp2_with fail
                refine hold.mono ?_
                rintro e w2 ⟨rfl, hw2⟩
                obtain rfl := hw2.symm
                clear hold
                go_wp2_with fail
                refine hjn.mono ?_
                rintro e w2 ⟨rfl, hn2, hb2⟩
                have hI3 : Hid (_) := hI2.out w2 hn2 hb2
                clear hjn hn2 hb2 hI2
                go_wp2
                go_roundw
                case rel => exact ⟨b + 1, by omega, by go_num, hI3⟩
                case measure => simp [intOf]; omega
              | false =>
                rw [hB] at hold
                have hI3 : Hid (NRow wr w.heap.size 120 (fun i => (rowF (rQ t S) t (allF (rQ t S) t a) a (b + 1) i : Int)) ∧ Below w.heap.size w wr ∧ w.heap.size < wr.heap.size) := ⟨hJ.out.1.congr (fun i hi => by rw [rowF_succ]; unfold stepF; rw [if_neg (by show ¬ MatrixPut.holdsB (t : Int) S (a : Int) (b : Int) 2 = true; rw [hB]; exact Bool.false_ne_true)]), hJ.out.2⟩
                clear hJ hB
                go_wp2_with fail
                refine hold.mono ?_
                rintro e w2 ⟨rfl, hw2⟩
                obtain rfl := hw2.symm
                clear hold
                go_wp2
                go_roundw
                case rel => exact ⟨b + 1, by omega, by go_num, hI3⟩
                case measure => simp [intOf]; omega
            · have hlb2 : ¬ (b : Int) < (t : Int) := by omega
              have hI3 : Hid (NRow wr w.heap.size 120 (fun i => (allF (rQ t S) t (a + 1) i : Int)) ∧ Below w.heap.size w wr ∧ w.heap.size < wr.heap.size) := ⟨hJ.out.1.congr (fun i hi => by rw [allF_succ, show b = t by omega]), hJ.out.2⟩
              clear hJ
              go_wp2
              go_roundw
              case rel => exact ⟨a + 1, by omega, by go_num, hI3⟩
              case measure => simp [intOf]; omega
        · have hla2 : ¬ (a : Int) < (t : Int) := by omega
          have hNR := hI.out.1
          rw [show a = t by omega] at hNR
          have hnum := numbered_any w.heap.size (2 * t) 120 (leastF (rQ t S) t) wr (fun i hi => (hNR i (by omega)).1) (by omega)
          have HB : Hid (Below w.heap.size w wr ∧ w.heap.size ≤ wr.heap.size) := ⟨hI.out.2.1, by have := hI.out.2.2; omega⟩
          have hcast : ((2 * t : Nat) : Int) = 2 * (t : Int) := by omega
          have ht3 : 2 * (t : Int) ≤ 120 := by omega
          have ht4 : (0 : Int) ≤ 2 * (t : Int) := by omega
          have htn : (2 * (t : Int)).toNat = 2 * t := by omega
          clear hI hNR
          go_wp2_with fail
          refine hnum.mono ?_
          rintro e w2 ⟨rfl, hrow, hb2⟩
          have hfin : Hid (wr.heap.size ≥ w.heap.size ∧ RowAt w2 wr.heap.size 3 (intsA (ints (classL (rQ t S) t))) ∧ Below w.heap.size w w2) := ⟨HB.out.2, hrow, HB.out.1.trans (hb2.mono HB.out.2)⟩
          clear hnum hrow hb2
          go_wp2
          go_ret
          exact ⟨_, rfl, hfin.out⟩

end Go.Proofs.YtcoepmpgclndiaaGreatDoor.PrecFn
