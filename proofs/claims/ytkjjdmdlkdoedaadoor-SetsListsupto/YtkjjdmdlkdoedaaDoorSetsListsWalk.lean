/-
  The walk of SetsLists: it answers true for every set, every list of names and every number, where the names are no longer than a million letters, and writes nothing that was there.
-/
import Derived.Test.YtkjjdmdlkdoedaaDoorSetsTextFn
import Derived.Test.YtkjjdmdlkdoedaaDoorRows
import Derived.LoopNIn
namespace Go.Proofs.YtkjjdmdlkdoedaaDoor.SetsListsW
open Go.RowKit Go.Shelf Go.Proofs.YtkjjdmdlkdoedaaDoor.SetsMath Go.Proofs.YtkjjdmdlkdoedaaDoor.SetsOne Go.Proofs.YtkjjdmdlkdoedaaDoor.SetsMany Go.Proofs.YtkjjdmdlkdoedaaDoor.SetsAlg Go.Proofs.YtkjjdmdlkdoedaaDoor.SetsEach Go.Proofs.YtkjjdmdlkdoedaaDoor.SetsApart Go.Proofs.YtkjjdmdlkdoedaaDoor.SetsRText Go.Proofs.YtkjjdmdlkdoedaaDoor.SetsNames
attribute [local go_sem] Oper.semAt_some

theorem seq_nil (f : Fn) (a b : Array Value) (w : World) : (binOp .eql 39 (.func f a b) .nilFunc).run Tryd.prog w = .ok (.bool false) w := by kernel_rfl

/-- The first 'n' cells of a slice are the strings 'ss'. -/
def SRow (w : World) (a : Option Addr) (n : Nat) (ss : List ByteArray) : Prop :=
  ∀ i, i < n → ∃ b off, a = some ⟨b, off, none⟩ ∧ w.cell? ⟨b, off + i, none⟩ = some (.string (ss.getD i ByteArray.empty))

def cur0 : Array Value := Array.replicate 64 (.string ⟨#[]⟩)

theorem cur0_at (j : Nat) (hj : j < 64) : cur0[j]? = some (.string ⟨#[]⟩) := by
  rw [show cur0 = Array.replicate 64 (.string ⟨#[]⟩) from rfl, Array.getElem?_replicate, if_pos hj]

/-- The first 'k' cells of the row hold the names, in their turn. -/
def Filled (w : World) (g : Nat) (t : TypeId) (ss : List ByteArray) (n k : Nat) : Prop :=
  ∃ cur, RowAt w g t cur ∧ ∀ j, j < 64 → cur[j]? = some (.string (if j < k then ss.getD (j % n) ByteArray.empty else ⟨#[]⟩))

theorem filled_step {cur : Array Value} {ss : List ByteArray} {n k : Nat} (h : ∀ j, j < 64 → cur[j]? = some (.string (if j < k then ss.getD (j % n) ByteArray.empty else ⟨#[]⟩))) (j : Nat) (hj : j < 64) (hk : k < 64) :
    (cur.setIfInBounds k (.string (ss.getD (k % n) ByteArray.empty)))[j]? = some (.string (if j < k + 1 then ss.getD (j % n) ByteArray.empty else ⟨#[]⟩)) := by
  have hs := (Array.getElem?_eq_some_iff.1 (h k hk)).1
  rw [Array.getElem?_setIfInBounds]
  by_cases e : k = j
  · subst e
    rw [if_pos rfl, if_pos hs, if_pos (by omega)]
  · rw [if_neg e, h j hj]
    by_cases e2 : j < k
    · rw [if_pos e2, if_pos (by omega)]
    · rw [if_neg e2, if_neg (by omega)]

theorem cur0_get (x : Num) : cur0[x.1.toNat]? = some (.string ⟨#[]⟩) := by
  have := x.2
  rw [show cur0 = Array.replicate 64 (.string ⟨#[]⟩) from rfl, Array.getElem?_replicate, if_pos (by omega)]

theorem make64 (w : World) : (Instr.makeSlice 37 (.int .i64 64) (.int .i64 64)).run Tryd.prog w = .ok (.slice (some ⟨w.heap.size, 0, none⟩) 64 64) (w.alloc (.cells cur0 9)) := by
  obtain ⟨i0, hi, hz0, hz1, hz2⟩ := info_parts infoStr
  have h := run_make (P := Tryd.prog) w 37 9 i0 (.string ⟨#[]⟩) Tryd.underlying37 hi hz0 .i64 .i64 64 64 (by omega) (by omega) (by rw [hz2]; omega) (by omega)
  rw [hz1] at h
  have e : madeCells (Value.string ⟨#[]⟩).cells (64 * 1) = cur0 := by kernel_rfl
  rw [show ((64 : Int).toNat * 1) = 64 * 1 from rfl, e] at h
  exact h

/-- A walk over a set's numbers that may be broken off: what is known at every number is known behind it. -/
theorem walk_break {g : Operand} {ps : Array Tmp} {assign body : Code} {Q : Exit → Act → World → Prop} {a : Act} {w : World} (bn n₀ id : Nat) (s : Int) (hs : IsSet s) (hQ : ∀ a W, Q .normal a W → Q (.exit id) a W)
    (hg : a.eval g = .func (.func 37) #[] #[.pointer (some ⟨bn, 0, none⟩)]) (hG : 0 < n₀) (hn : n₀ ≤ w.heap.size) (hb : Boxed w bn 24 (.int .u64 s)) (hT : Tab w) (hps : ps.size = 1)
    (I : List Num → World → Prop) (hI : OwnFrom w.heap.size I) (h0 : I [] w) (a₁ : Num → Act)
    (hassign : ∀ (l : Nat) (x : Num) (W : World) (K : Act → World → Prop), K (a₁ x) W →
      assign.wpIn (Fence.wide.inRound l) (8 - 1 - 1) Tryd.prog (Exit.then K (fun _ _ _ => False)) { tmps := (ps.zip #[Value.int .i64 x.1]).foldl (fun t (p, v) => t.setIfInBounds p v) a.tmps, defers := [] } W)
    (hbody : ∀ (l : Nat) (pre : List Num) (x : Num) (W : World), I pre W → pre.length < (numsS s).length → body.wpIn (Fence.wide.inRound l) (8 - 1 - 1) Tryd.prog (ownPostG w.heap.size (Below n₀) I (fun c pre W => c = .exit id ∧ I pre W) (pre ++ [x]) W) (a₁ x) W)
    (hend : ∀ (D : Nat) (pre : List Num) (W : World), w.heap.size ≤ D → pre.length ≤ (numsS s).length → I pre W → W.heap[D]? = some (.deferred (some [])) → Q .normal { a with defers := { target := .collected D, args := #[] } :: a.defers } W) :
    (Code.rangeFunc g ps assign body).wpIn Fence.wide 8 Tryd.prog Q a w :=
  wpIn_rangeFunc_ownG rfl (by omega) hg trivial (enters_of Tryd.func37 (by kernel_rfl) rfl)
    (each_stops 7 (by omega) bn n₀ hG s hs _ hb.lt hn hb.cell hT) belowK_t (belowK_b hn) (Below.refl _ _) (fun _ => hps.symm) I (fun c pre W => c = .exit id ∧ I pre W) hI
    (fun _ _ _ _ _ h hg hr => ⟨h.1, hI _ _ _ _ h.2 hg hr⟩) h0 a₁ hassign hbody
    (fun D xs W hD hS hi hK => hend D xs W hD (by rw [hS]; exact Nat.le_refl _) hi hK)
    (fun D c pre W hD hS hi hK => by obtain ⟨rfl, hi⟩ := hi; exact wpIn_exit (hQ _ _ (hend D pre W hD hS.length_le hi hK)))

set_option maxRecDepth 100000 in
set_option maxHeartbeats 8000000 in
theorem walk (s early : Int) (a : Option Addr) (n c : Nat) (ss : List ByteArray) (w : World) (hs : IsSet s) (hT : Tab w) (hG : 0 < w.heap.size) (hS : SRow w a n ss) (hz : ∀ i, i < n → (ss.getD i ByteArray.empty).size ≤ 1048576) (hn : n ≤ 1048576) :
    Calls Tryd.prog 4 #[.int .u64 s, .slice a n c, .int .i64 early] w fun e w' => e = .returned (.bool true) ∧ Below w.heap.size w w' := by
  refine (callsIn_wide (n := 8)).1 ?_
  have hle := numsI_le s 64
  have hsn := seq_nil
  have hmk := make64
  refine callsIn_of_wp_marks Tryd.func4 rfl trivial ?_ rfl
  simp only [Tryd.ntmps4, List.size_toArray, List.length_cons, List.length_nil, Nat.reduceAdd, Nat.reduceSub, Array.replicate_succ, Array.replicate_zero, List.push_toArray, List.append_toArray, List.nil_append, List.cons_append]
  have B0 : Below w.heap.size w (w.alloc (.cells #[.int .i64 early] 3)) := (Below.refl _ _).alloc (Nat.le_refl _) _
  have bE0 := Boxed.new w 3 (.int .i64 early)
  gi_wp2_with fail
  refine ⟨trivial, (callsIn_wide.2 (rnumbers_any s _ hs)).mono ?_⟩
  rintro e w1 ⟨v1, rfl, ho1, hb1⟩
  obtain ⟨a1, c1, rfl, hr1, hc1, ha1⟩ := own_row ho1
  have B1 := B0.trans (hb1.mono B0.size)
  have hs1 := B1.size
  gi_wp2_with fail
  refine ⟨trivial, (callsIn_wide.2 (numbers_any s _ hs (Tab.from hT B1 hG) (by omega))).mono ?_⟩
  rintro e w2 ⟨v2, rfl, ho2, hb2⟩
  obtain ⟨a2, c2, rfl, hr2, hc2, ha2⟩ := own_row ho2
  have B2 := B1.trans (hb2.mono hs1)
  have hs2 := B2.size
  gi_wp2_with fail
  refine ⟨trivial, (callsIn_wide.2 (each_any s _)).mono ?_⟩
  rintro e w3 ⟨rfl, h3⟩
  obtain rfl := h3.symm
  gi_wp2_with fail
  have hb3 : Below w2.heap.size w2 (w2.alloc (.cells #[.int .u64 s] 24)) := (Below.refl _ _).alloc (Nat.le_refl _) _
  have B3 := B2.trans (hb3.mono hs2)
  have bN := Boxed.new w2 24 (.int .u64 s)
  have hr13 := (hr1.below hb2).below hb3
  refine ⟨trivial, (callsIn_wide.2 (ints_same a2 a1 _ c2 c1 _ _ (hr2.below hb3) hr13 (by omega))).mono ?_⟩
  rintro e w4 ⟨rfl, q1, h4⟩
  obtain rfl := h4.symm
  have B4 : Below w.heap.size w ((w2.alloc (.cells #[.int .u64 s] 24)).drewN q1) := ⟨B3.os, B3.tape, B3.output, B3.size, B3.block⟩
  gi_wp2_with fail
  have bN4 : Boxed ((w2.alloc (.cells #[.int .u64 s] 24)).drewN q1) w2.heap.size 24 (.int .u64 s) := bN
  have bE1 := Boxed.below' bE0 hb1 bE0.lt
  have bE2 := Boxed.below' bE1 hb2 bE1.lt
  have bE3 := Boxed.below' bE2 hb3 bE2.lt
  have bE4 : Boxed ((w2.alloc (.cells #[.int .u64 s] 24)).drewN q1) w.heap.size 3 (.int .i64 early) := bE3
  have hr4 : Row .i64 ((w2.alloc (.cells #[.int .u64 s] 24)).drewN q1) a1 (numsI s 64).length (numsI s 64) := hr13
  clear hr13 bN bE0 bE1 bE2 bE3 hb3 B3 hb2 hb1 ho1 ho2 hr1 hr2 ha1 ha2 h3 h4 B0 B1 B2
  generalize hw4 : (w2.alloc (.cells #[.int .u64 s] 24)).drewN q1 = w4 at *
  generalize hbn : w2.heap.size = bn at *
  clear hw4 hbn q1
  have hs4 := B4.size
  refine ⟨trivial, (callsIn_wide.2 (text_nil s _ hs (Tab.from hT B4 hG) (by omega))).mono ?_⟩
  rintro e w5 ⟨rfl, hb5⟩
  gi_wp2_with fail
  refine ⟨trivial, (callsIn_wide.2 (rtext_nil s _ hs)).mono ?_⟩
  rintro e w6 ⟨rfl, hb6⟩
  have B6 : Below w4.heap.size w4 w6 := hb5.trans (hb6.mono hb5.size)
  have B06 := B4.trans (B6.mono hs4)
  have bN6 := Boxed.below' bN4 B6 bN4.lt
  have bE6 := Boxed.below' bE4 B6 bE4.lt
  have hr6 := hr4.below B6
  have hs6 := B06.size
  clear hb5 hb6 B6 bN4 bE4 hr4 w5
  gi_wp2_with fail
  refine wpIn_loop_rounds 3 ?_
  rw [roundsIn_succ]
  gi_wp2_with fail
  obtain ⟨i0, hi, hz0, hz1, hz2⟩ := info_parts infoI
  have bO7 := Boxed.new w6 25 (.slice none 0 0)
  have hB67 : Below w6.heap.size w6 (w6.alloc (.cells #[.slice none 0 0] 25)) := (Below.refl _ _).alloc (Nat.le_refl _) _
  have bnl := bN6.lt
  have bN7 := Boxed.below' bN6 hB67 bnl
  have B07 := B06.trans (hB67.mono hs6)
  refine' wpIn_rangeFunc_ownG rfl (by omega) (gf := 37) (lb := #[.pointer (some ⟨bn, 0, none⟩)]) rfl trivial (enters_of Tryd.func37 (by kernel_rfl) rfl)
    (each_stops 7 (by omega) bn w.heap.size hG s hs _ (by simp; omega) (by simp; omega) bN7.cell (Tab.from hT B07 hG)) belowK_t (belowK_b (by simp; omega)) (Below.refl _ _) (fun _ => rfl)
    (fun (pre : List Num) W => (∃ v, Boxed W w6.heap.size 25 v ∧ W.ownsRow w6.heap.size 3 1 v pre.length (pre.map (fun x => Value.int .i64 x.1)) ∧ True) ∧ Below w6.heap.size w6 W)
    (fun _ _ _ => False)
    (OwnFrom.and (Own.from (holdsRow_own w6.heap.size w6.heap.size 25 3 1 (fun (pre : List Num) => pre.length) (fun (pre : List Num) => pre.map (fun x => Value.int .i64 x.1)) (fun _ _ => True)) _) (ownFrom_below (Nat.le_refl _) (by simp)))
    (fun _ _ _ _ _ hs _ _ => hs)
    ⟨⟨_, bO7, World.ownsRow_nil _ _ _ _, trivial⟩, hB67⟩
    _ ?assign ?body ?done ?stop
  case assign =>
    intro l x W K hK
    gi_wp2
    exact hK
  case stop =>
    rintro D c pre W _ _ h _
    exact h.elim
  case body =>
    rintro l pre x W ⟨⟨v, hv, hrow, _⟩, hB⟩ hlt
    have hc := hv.cell
    have hpl : pre.length < 64 := by rw [numsS_len] at hlt; omega
    gi_wp2_with (gi_at_builtin; refine wpListIn_append_own _ rfl _ _ 25 rfl w6.heap.size 3 i0 (.int .i64 0) 1 8 Tryd.underlying25 hi hz0 hz1 hz2 rfl (by decide) _ _ _ rfl (hrow.alloc _) ⟨W.heap.size, 0, none⟩ 1 1 [.int .i64 x.1] rfl rfl (cell_one_new _ _ _) (by simp [Value.oneCell']) (by unfold maxLen; omega) (by omega) (by have := hB.size; simp; omega) ?_; intro v' w2 hown' hgrow _; obtain ⟨g', cap', rfl⟩ := ownsRow_succ hown'; obtain ⟨hv1, hv2, hr2, hk2, hb2⟩ := hv.appended (by decide) hrow hB.size (Nat.le_refl _) hown' hgrow; have hc1 := hv1.cell; have hf1 := hv1.frozen)
    exact ⟨hk2.from _, hb2.mono hs6, ⟨_, hv2, by simpa using hr2, trivial⟩, hB.trans hb2⟩
  rintro D1 ys w7 hD1 rfl ⟨⟨v7, hv7, ho7, _⟩, hB7⟩ hK1
  have e1 : (numsS s).map (fun x => Value.int .i64 x.1) = (numsI s 64).map (Value.int .i64) := by rw [← numsS_val, List.map_map]; rfl
  rw [e1, numsS_len] at ho7
  obtain ⟨a7, c7, rfl, hr7, hc7, _⟩ := own_row ho7
  have hc := hv7.cell
  have bN7 := Boxed.below' bN6 hB7 bnl
  have bE7 := Boxed.below' bE6 hB7 bE6.lt
  have hw7 := hr6.below hB7
  have B7 := B06.trans (hB7.mono hs6)
  have hs7 := B7.size
  have hs67 := hB7.size
  rw [World.size_alloc] at hD1
  have hD1w : w.heap.size ≤ D1 := by omega
  clear bO7 hB67 B07 bN6 bE6 hr6 bnl hB7 B06 hs6
  gi_wp2_with fail
  refine ⟨trivial, (callsIn_wide.2 (ints_same a7 a1 _ c7 c1 _ _ hr7 hw7 (by omega))).mono ?_⟩
  rintro e w8 ⟨rfl, q2, h8⟩
  obtain rfl := h8.symm
  have B8 : Below w.heap.size w (w7.drewN q2) := ⟨B7.os, B7.tape, B7.output, B7.size, B7.block⟩
  have bN8 : Boxed (w7.drewN q2) bn 24 (.int .u64 s) := bN7
  have bE8 : Boxed (w7.drewN q2) w.heap.size 3 (.int .i64 early) := bE7
  have hr8 : Row .i64 (w7.drewN q2) a1 (numsI s 64).length (numsI s 64) := hw7
  have hK18 : (w7.drewN q2).heap[D1]? = some (.deferred (some [])) := hK1
  clear hK1 hw7 bE7 bN7 B7 hr7 ho7 hc hv7 h8 hs7 hc7
  generalize hw8 : w7.drewN q2 = w8 at *
  clear hw8 q2
  gi_wp2_with fail
  rw [roundsIn_succ]
  gi_wp2_with fail
  have hs8 := B8.size
  have D1lt := (Array.getElem?_eq_some_iff.1 hK18).1
  have bO9 := Boxed.new w8 25 (.slice none 0 0)
  have hB89 : Below w8.heap.size w8 (w8.alloc (.cells #[.slice none 0 0] 25)) := (Below.refl _ _).alloc (Nat.le_refl _) _
  have bnl8 := bN8.lt
  have bN9 := Boxed.below' bN8 hB89 bnl8
  have B09 := B8.trans (hB89.mono hs8)
  refine' wpIn_rangeFunc_ownG rfl (by omega) (gf := 37) (lb := #[.pointer (some ⟨bn, 0, none⟩)]) rfl trivial (enters_of Tryd.func37 (by kernel_rfl) rfl)
    (each_stops 7 (by omega) bn w.heap.size hG s hs _ (by simp; omega) (by simp; omega) bN9.cell (Tab.from hT B09 hG)) belowK_t (belowK_b (by simp; omega)) (Below.refl _ _) (fun _ => rfl)
    (fun (pre : List Num) W => (∃ v, Boxed W w8.heap.size 25 v ∧ W.ownsRow w8.heap.size 3 1 v pre.length (pre.map (fun x => Value.int .i64 x.1)) ∧ True) ∧ Below w8.heap.size w8 W)
    (fun _ _ _ => False)
    (OwnFrom.and (Own.from (holdsRow_own w8.heap.size w8.heap.size 25 3 1 (fun (pre : List Num) => pre.length) (fun (pre : List Num) => pre.map (fun x => Value.int .i64 x.1)) (fun _ _ => True)) _) (ownFrom_below (Nat.le_refl _) (by simp)))
    (fun _ _ _ _ _ hs _ _ => hs)
    ⟨⟨_, bO9, World.ownsRow_nil _ _ _ _, trivial⟩, hB89⟩
    _ ?assign2 ?body2 ?done2 ?stop2
  case assign2 =>
    intro l x W K hK
    gi_wp2
    exact hK
  case stop2 =>
    rintro D c pre W _ _ h _
    exact h.elim
  case body2 =>
    rintro l pre x W ⟨⟨v, hv, hrow, _⟩, hB⟩ hlt
    have hc := hv.cell
    have hpl : pre.length < 64 := by rw [numsS_len] at hlt; omega
    gi_wp2_with (gi_at_builtin; refine wpListIn_append_own _ rfl _ _ 25 rfl w8.heap.size 3 i0 (.int .i64 0) 1 8 Tryd.underlying25 hi hz0 hz1 hz2 rfl (by decide) _ _ _ rfl (hrow.alloc _) ⟨W.heap.size, 0, none⟩ 1 1 [.int .i64 x.1] rfl rfl (cell_one_new _ _ _) (by simp [Value.oneCell']) (by unfold maxLen; omega) (by omega) (by have := hB.size; simp; omega) ?_; intro v' w2 hown' hgrow _; obtain ⟨g', cap', rfl⟩ := ownsRow_succ hown'; obtain ⟨hv1, hv2, hr2, hk2, hb2⟩ := hv.appended (by decide) hrow hB.size (Nat.le_refl _) hown' hgrow; have hc1 := hv1.cell; have hf1 := hv1.frozen)
    exact ⟨hk2.from _, hb2.mono hs8, ⟨_, hv2, by simpa using hr2, trivial⟩, hB.trans hb2⟩
  rintro D2 ys w9 hD2 rfl ⟨⟨v9, hv9, ho9, _⟩, hB9⟩ hK2
  rw [e1, numsS_len] at ho9
  obtain ⟨a9, c9, rfl, hr9, hc9, _⟩ := own_row ho9
  have hc := hv9.cell
  have bN9 := Boxed.below' bN8 hB9 bnl8
  have bE9 := Boxed.below' bE8 hB9 bE8.lt
  have hw9 := hr8.below hB9
  have B9 := B8.trans (hB9.mono hs8)
  have hK19 := (hB9.block D1 D1lt).trans hK18
  rw [World.size_alloc] at hD2
  have hD2w : w.heap.size ≤ D2 := by omega
  have hD12 : D1 < D2 := by omega
  clear bO9 hB89 B09 bN8 bE8 hr8 bnl8 hB9 B8 hs8 hK18 hD2 D1lt
  gi_wp2_with fail
  refine ⟨trivial, (callsIn_wide.2 (ints_same a9 a1 _ c9 c1 _ _ hr9 hw9 (by omega))).mono ?_⟩
  rintro e w10 ⟨rfl, q3, h10⟩
  obtain rfl := h10.symm
  have B10 : Below w.heap.size w (w9.drewN q3) := ⟨B9.os, B9.tape, B9.output, B9.size, B9.block⟩
  have bN10 : Boxed (w9.drewN q3) bn 24 (.int .u64 s) := bN9
  have bE10 : Boxed (w9.drewN q3) w.heap.size 3 (.int .i64 early) := bE9
  have hr10 : Row .i64 (w9.drewN q3) a1 (numsI s 64).length (numsI s 64) := hw9
  have hK110 : (w9.drewN q3).heap[D1]? = some (.deferred (some [])) := hK19
  have hK210 : (w9.drewN q3).heap[D2]? = some (.deferred (some [])) := hK2
  clear hK19 hK2 hw9 bE9 bN9 B9 hr9 ho9 hc hv9 h10 hc9
  generalize hw10 : w9.drewN q3 = w10 at *
  clear hw10 q3
  gi_wp2_with fail
  rw [roundsIn_succ]
  gi_wp2_with fail
  have hs10 := B10.size
  have D1lt := (Array.getElem?_eq_some_iff.1 hK110).1
  have D2lt := (Array.getElem?_eq_some_iff.1 hK210).1
  have bnl := bN10.lt
  have bel := bE10.lt
  have bM := Boxed.new w10 3 (.int .i64 0)
  have hB11 : Below w10.heap.size w10 (w10.alloc (.cells #[.int .i64 0] 3)) := (Below.refl _ _).alloc (Nat.le_refl _) _
  refine' walk_break bn w.heap.size 4 s hs (fun a W h => h) rfl hG (by simp; omega) (Boxed.below' bN10 hB11 bnl) (Tab.from hT (B10.trans (hB11.mono hs10)) hG) rfl
    (fun (pre : List Num) W => Boxed W w10.heap.size 3 (.int .i64 pre.length) ∧ Below w10.heap.size w10 W)
    (OwnFrom.and (Own.from (boxed_own w10.heap.size 3 (fun (pre : List Num) => .int .i64 pre.length)) _) (ownFrom_below (Nat.le_refl _) (by simp)))
    ⟨bM, hB11⟩ _ ?assign3 ?body3 ?done3
  case assign3 =>
    intro l x W K hK
    gi_wp2
    exact hK
  case body3 =>
    rintro l pre x W ⟨hv, hB⟩ hlt
    have hc := hv.cell
    have hf := hv.frozen
    have hpl : pre.length < 64 := by rw [numsS_len] at hlt; omega
    have bE := Boxed.below' bE10 hB bel
    have hcE := bE.cell
    have hcE2 := fun u => (Boxed.other bE (Nat.ne_of_lt bel) u).cell
    have hBs := hB.size
    have hnew := hv.set (.int .i64 ((pre.length : Int) + 1))
    have hlen : ((pre ++ [x]).length : Int) = (pre.length : Int) + 1 := by simp
    have hbl : Below w10.heap.size w10 (W.setCell ⟨w10.heap.size, 0, none⟩ (.int .i64 ((pre.length : Int) + 1))) := hB.setCell (Nat.le_refl _) _
    gi_wp2_with fail
    · exact ⟨(KeepsOthers.setCell _ _ _).from _, rfl, by rw [hlen]; exact hnew, hbl⟩
    · exact ⟨(KeepsOthers.setCell _ _ _).from _, (Below.refl _ _).setCell hs10 _, by rw [hlen]; exact hnew, hbl⟩
  rintro D3 pre w11 hD3 hpre ⟨hM, hB⟩ hK3
  have hM1 := hM.cell
  rw [World.size_alloc] at hD3
  have hD3w : w.heap.size ≤ D3 := by omega
  have hD23 : D2 < D3 := by omega
  have hK111 := (hB.block D1 D1lt).trans hK110
  have hK211 := (hB.block D2 D2lt).trans hK210
  have B11 := B10.trans (hB.mono hs10)
  have hs11 := B11.size
  rw [numsS_len] at hpre
  have hnlt : decide ((numsI s 64).length < pre.length) = false := by simp; omega
  clear hK110 hK210 D1lt D2lt bnl bel bM hB11 bE10 B10 hr10 bN10 hB hM hD3
  gi_wp2_with fail
  have hR12 : RowAt ((w11.alloc (.cells cur0 9)).alloc (.cells #[.slice (some ⟨w11.heap.size, 0, none⟩) 64 64] 37)) w11.heap.size 9 cur0 :=
    RowAt.alloc (World.alloc_heap_new w11 _) _
  have bL12 := Boxed.new (w11.alloc (.cells cur0 9)) 37 (.slice (some ⟨w11.heap.size, 0, none⟩) 64 64)
  rw [World.size_alloc] at bL12
  have hB12 : Below w11.heap.size w11 ((w11.alloc (.cells cur0 9)).alloc (.cells #[.slice (some ⟨w11.heap.size, 0, none⟩) 64 64] 37)) := ((Below.refl _ _).alloc (Nat.le_refl _) _).alloc (by simp) _
  generalize (w11.alloc (.cells cur0 9)).alloc (.cells #[.slice (some ⟨w11.heap.size, 0, none⟩) 64 64] 37) = w12 at *
  clear hM1
  by_cases hn0 : n = 0
  · subst hn0
    refine wpIn_loop_rounds 1 ?_
    rw [roundsIn_succ]
    gi_wp2_with fail
    obtain ⟨wr, hwr⟩ : ∃ wr, wr = w12 := ⟨_, rfl⟩
    subst hwr
    have hRr := hR12
    have bLr := bL12
    have hBr := hB12
    obtain ⟨cur, hcur⟩ : ∃ cur, cur = cur0 := ⟨_, rfl⟩
    rw [← hcur] at hRr hR12
    obtain ⟨nm, hnmd⟩ : ∃ nm : Num → ByteArray, nm = fun _ => ⟨#[]⟩ := ⟨_, rfl⟩
    have hNm : ∀ x : Num, cur[x.1.toNat]? = some (.string (nm x)) := fun x => by rw [hcur, hnmd]; exact cur0_get x
    have hnm : ∀ x, (nm x).size ≤ 1048576 := fun x => by rw [hnmd]; exact Nat.zero_le _
    clear hcur hnmd hR12 bL12 hB12
    have BR := B11.trans (hBr.mono hs11)
    have hsr := BR.size
    have hsr1 := hBr.size
    have bA := Boxed.new wr 25 (.slice none 0 0)
    have hB13 : Below wr.heap.size wr (wr.alloc (.cells #[.slice none 0 0] 25)) := (Below.refl _ _).alloc (Nat.le_refl _) _
    have B13 := BR.trans (hB13.mono hsr)
    have hR13 := hRr.below hB13 hRr.lt
    have bL13 := Boxed.below' bLr hB13 bLr.lt
    have k1 := (hB13.block D1 (by have := (Array.getElem?_eq_some_iff.1 hK111).1; omega)).trans ((hBr.block D1 (Array.getElem?_eq_some_iff.1 hK111).1).trans hK111)
    have k2 := (hB13.block D2 (by have := (Array.getElem?_eq_some_iff.1 hK211).1; omega)).trans ((hBr.block D2 (Array.getElem?_eq_some_iff.1 hK211).1).trans hK211)
    have k3 := (hB13.block D3 (by have := (Array.getElem?_eq_some_iff.1 hK3).1; omega)).trans ((hBr.block D3 (Array.getElem?_eq_some_iff.1 hK3).1).trans hK3)
    have d3 : D3 < wr.heap.size := by have := (Array.getElem?_eq_some_iff.1 hK3).1; omega
    have d2 : D2 < wr.heap.size := by omega
    have d1 : D1 < wr.heap.size := by omega
    have hsz : (wr.alloc (.cells #[.slice none 0 0] 25)).heap.size = wr.heap.size + 1 := World.size_alloc _ _
    refine ⟨trivial, (callsIn_wide.2 (text_fn w.heap.size wr.heap.size (w11.heap.size + 1) w11.heap.size cur nm s _ hs (Tab.from hT B13 hG) hG (by omega) hsr bA bL13 hR13 hNm hnm)).mono ?_⟩
    rintro e w14 ⟨rfl, ⟨av, hA14, hAr14⟩, hBut⟩
    have hb14 : Below wr.heap.size (wr.alloc (.cells #[.slice none 0 0] 25)) w14 := hBut.to_below (Nat.le_refl _) (by omega)
    have k1 := (hb14.block D1 d1).trans k1
    have k2 := (hb14.block D2 d2).trans k2
    have k3 := (hb14.block D3 d3).trans k3
    have hR14 := hR13.below hb14 hRr.lt
    have bL14 := Boxed.below' bL13 hb14 bLr.lt
    have B14 := B13.trans (hb14.mono hsr)
    have hlen14 : (numsS s).length = (numsI s 64).length := numsS_len s
    rw [e1, hlen14] at hAr14
    obtain ⟨a14, c14, rfl, hr14, hc14, _⟩ := own_row hAr14
    have cA := hA14.cell
    have cL := bL14.cell
    clear hB13 B13 hR13 bL13 bA hBut hb14
    gi_wp2_with fail
    refine ⟨trivial, (callsIn_wide.2 (rtext_names s _ hs w11.heap.size nm (fun x => hR14.cell (hNm x)) hnm)).mono ?_⟩
    rintro e w15 ⟨rfl, hb15⟩
    have hs14 := hA14.lt
    have k1 := (hb15.block D1 (by omega)).trans k1
    have k2 := (hb15.block D2 (by omega)).trans k2
    have k3 := (hb15.block D3 (by omega)).trans k3
    have B15 := B14.trans (hb15.mono (by omega))
    have cA15 := (Boxed.below' hA14 hb15 hA14.lt).cell
    clear cA cL bL14 hR14 hr14 hAr14 hb15 B14
    gi_wp2_with fail
    have g3 := grownBy_putObj' w15 D3 (.deferred none)
    have k2 := (g3.block D2 (Array.getElem?_eq_some_iff.1 k2).1 (fun h => by cases h; omega)).trans k2
    have k1 := (g3.block D1 (Array.getElem?_eq_some_iff.1 k1).1 (fun h => by cases h; omega)).trans k1
    have g2 := grownBy_putObj' (w15.putObj D3 (.deferred none)) D2 (.deferred none)
    have k1 := (g2.block D1 (Array.getElem?_eq_some_iff.1 k1).1 (fun h => by cases h; omega)).trans k1
    refine ⟨by simp, .inl ⟨_, _, rfl, run_takeDeferred k3, by simp, .inl ⟨_, _, rfl, run_takeDeferred k2, by simp, .inl ⟨_, _, rfl, run_takeDeferred k1, ?_⟩⟩⟩⟩
    exact ⟨_, results_tmp rfl _ _ _, rfl, B15.trans ((belowK_b (w := w) (Nat.le_refl _) _ D3 _ _ hD3w k3 rfl rfl).trans ((belowK_b (w := w) (Nat.le_refl _) _ D2 _ _ hD2w k2 rfl rfl).trans (belowK_b (w := w) (Nat.le_refl _) _ D1 _ _ hD1w k1 rfl rfl)))⟩
  · obtain ⟨b, off, hab, _⟩ := hS 0 (by omega)
    subst hab
    have hcN : ∀ i, i < n → ∀ W, Below w11.heap.size w11 W → W.cell? ⟨b, off + i, none⟩ = some (.string (ss.getD i ByteArray.empty)) := fun i hi W hB => by
      obtain ⟨b', off', h1, h2⟩ := hS i hi
      cases h1
      exact ((B11.trans (hB.mono hs11)).cell (p := ⟨b, off + i, none⟩) (cell_lt h2)).trans h2
    gi_loopw [15] (fun i wr => ∃ k : Nat, k ≤ 64 ∧ i = .int .i64 k ∧ Filled wr w11.heap.size 9 ss n k ∧ Boxed wr (w11.heap.size + 1) 37 (.slice (some ⟨w11.heap.size, 0, none⟩) 64 64) ∧ Below w11.heap.size w11 wr) (fun i _ => 64 - (intOf i).toNat)
    case atStart => exact ⟨0, by omega, rfl, ⟨cur0, hR12, fun j hj => by rw [if_neg (by omega)]; exact cur0_at j hj⟩, bL12, hB12⟩
    case round =>
      obtain ⟨k, hk, rfl, hF, bLr, hBr⟩ := hrel
      have hcL := bLr.cell
      by_cases hlt : k < 64
      · have hmod : k % n < n := Nat.mod_lt _ (by omega)
        have hcs := hcN (k % n) hmod wr hBr
        obtain ⟨cur, hrow, hcur⟩ := hF
        have hck := hrow.cell (hcur k hlt)
        have hfk := hrow.frozen k
        have hrem : Int.tmod (k : Int) (n : Int) = ((k % n : Nat) : Int) := rfl
        have hn0' : (n : Int) ≠ 0 := by omega
        have hn1 : 0 < n := by omega
        gi_wp2_with fail
        gi_region
        have N1 : RowAt ((wr.setCell ⟨w11.heap.size, k, none⟩ (.string (ss.getD (k % n) ByteArray.empty))).drew) w11.heap.size 9 (cur.setIfInBounds k (.string (ss.getD (k % n) ByteArray.empty))) := hrow.set k _
        have N2 : Boxed ((wr.setCell ⟨w11.heap.size, k, none⟩ (.string (ss.getD (k % n) ByteArray.empty))).drew) (w11.heap.size + 1) 37 (.slice (some ⟨w11.heap.size, 0, none⟩) 64 64) :=
          RowAt.other (show RowAt wr (w11.heap.size + 1) 37 #[_] from bLr) (by omega) k _
        have N3 : Below w11.heap.size w11 ((wr.setCell ⟨w11.heap.size, k, none⟩ (.string (ss.getD (k % n) ByteArray.empty))).drew) := by
          have h := hBr.setCell (p := ⟨w11.heap.size, k, none⟩) (Nat.le_refl _) (.string (ss.getD (k % n) ByteArray.empty))
          exact ⟨h.os, h.tape, h.output, h.size, h.block⟩
        rw [List.getD_eq_getElem?_getD] at N1 N2 N3
        generalize (wr.setCell ⟨w11.heap.size, k, none⟩ (.string (ss[k % n]?.getD ByteArray.empty))).drew = wn at *
        clear hrow hck hfk hcs hcL bLr hBr
        gi_wp2_with fail
        go_roundw
        case rel =>
          refine ⟨k + 1, by omega, by go_num, ⟨_, N1, fun j hj => ?_⟩, N2, N3⟩
          rw [← List.getD_eq_getElem?_getD]
          exact filled_step hcur j hj hlt
        case measure => simp [intOf]; omega
      · obtain rfl : k = 64 := by omega
        obtain ⟨cur, hRr, hcur⟩ := hF
        obtain ⟨nm, hnmd⟩ : ∃ nm : Num → ByteArray, nm = fun x => ss.getD (x.1.toNat % n) ByteArray.empty := ⟨_, rfl⟩
        have hNm : ∀ x : Num, cur[x.1.toNat]? = some (.string (nm x)) := fun x => by
          have := x.2
          rw [hnmd, hcur x.1.toNat (by omega), if_pos (by omega)]
        have hnm : ∀ x, (nm x).size ≤ 1048576 := fun x => by rw [hnmd]; exact hz _ (Nat.mod_lt _ (by omega))
        clear hcur hnmd hR12 bL12 hB12 hcL
        gi_wp2_with fail
        have BR := B11.trans (hBr.mono hs11)
        have hsr := BR.size
        have hsr1 := hBr.size
        have bA := Boxed.new wr 25 (.slice none 0 0)
        have hB13 : Below wr.heap.size wr (wr.alloc (.cells #[.slice none 0 0] 25)) := (Below.refl _ _).alloc (Nat.le_refl _) _
        have B13 := BR.trans (hB13.mono hsr)
        have hR13 := hRr.below hB13 hRr.lt
        have bL13 := Boxed.below' bLr hB13 bLr.lt
        have k1 := (hB13.block D1 (by have := (Array.getElem?_eq_some_iff.1 hK111).1; omega)).trans ((hBr.block D1 (Array.getElem?_eq_some_iff.1 hK111).1).trans hK111)
        have k2 := (hB13.block D2 (by have := (Array.getElem?_eq_some_iff.1 hK211).1; omega)).trans ((hBr.block D2 (Array.getElem?_eq_some_iff.1 hK211).1).trans hK211)
        have k3 := (hB13.block D3 (by have := (Array.getElem?_eq_some_iff.1 hK3).1; omega)).trans ((hBr.block D3 (Array.getElem?_eq_some_iff.1 hK3).1).trans hK3)
        have d3 : D3 < wr.heap.size := by have := (Array.getElem?_eq_some_iff.1 hK3).1; omega
        have d2 : D2 < wr.heap.size := by omega
        have d1 : D1 < wr.heap.size := by omega
        have hsz : (wr.alloc (.cells #[.slice none 0 0] 25)).heap.size = wr.heap.size + 1 := World.size_alloc _ _
        refine ⟨trivial, (callsIn_wide.2 (text_fn w.heap.size wr.heap.size (w11.heap.size + 1) w11.heap.size cur nm s _ hs (Tab.from hT B13 hG) hG (by omega) hsr bA bL13 hR13 hNm hnm)).mono ?_⟩
        rintro e w14 ⟨rfl, ⟨av, hA14, hAr14⟩, hBut⟩
        have hb14 : Below wr.heap.size (wr.alloc (.cells #[.slice none 0 0] 25)) w14 := hBut.to_below (Nat.le_refl _) (by omega)
        have k1 := (hb14.block D1 d1).trans k1
        have k2 := (hb14.block D2 d2).trans k2
        have k3 := (hb14.block D3 d3).trans k3
        have hR14 := hR13.below hb14 hRr.lt
        have bL14 := Boxed.below' bL13 hb14 bLr.lt
        have B14 := B13.trans (hb14.mono hsr)
        have hlen14 : (numsS s).length = (numsI s 64).length := numsS_len s
        rw [e1, hlen14] at hAr14
        obtain ⟨a14, c14, rfl, hr14, hc14, _⟩ := own_row hAr14
        have cA := hA14.cell
        have cL := bL14.cell
        clear hB13 B13 hR13 bL13 bA hBut hb14
        gi_wp2_with fail
        refine ⟨trivial, (callsIn_wide.2 (rtext_names s _ hs w11.heap.size nm (fun x => hR14.cell (hNm x)) hnm)).mono ?_⟩
        rintro e w15 ⟨rfl, hb15⟩
        have hs14 := hA14.lt
        have k1 := (hb15.block D1 (by omega)).trans k1
        have k2 := (hb15.block D2 (by omega)).trans k2
        have k3 := (hb15.block D3 (by omega)).trans k3
        have B15 := B14.trans (hb15.mono (by omega))
        have cA15 := (Boxed.below' hA14 hb15 hA14.lt).cell
        clear cA cL bL14 hR14 hr14 hAr14 hb15 B14
        gi_wp2_with fail
        have g3 := grownBy_putObj' w15 D3 (.deferred none)
        have k2 := (g3.block D2 (Array.getElem?_eq_some_iff.1 k2).1 (fun h => by cases h; omega)).trans k2
        have k1 := (g3.block D1 (Array.getElem?_eq_some_iff.1 k1).1 (fun h => by cases h; omega)).trans k1
        have g2 := grownBy_putObj' (w15.putObj D3 (.deferred none)) D2 (.deferred none)
        have k1 := (g2.block D1 (Array.getElem?_eq_some_iff.1 k1).1 (fun h => by cases h; omega)).trans k1
        refine ⟨by simp, .inl ⟨_, _, rfl, run_takeDeferred k3, by simp, .inl ⟨_, _, rfl, run_takeDeferred k2, by simp, .inl ⟨_, _, rfl, run_takeDeferred k1, ?_⟩⟩⟩⟩
        exact ⟨_, results_tmp rfl _ _ _, rfl, B15.trans ((belowK_b (w := w) (Nat.le_refl _) _ D3 _ _ hD3w k3 rfl rfl).trans ((belowK_b (w := w) (Nat.le_refl _) _ D2 _ _ hD2w k2 rfl rfl).trans (belowK_b (w := w) (Nat.le_refl _) _ D1 _ _ hD1w k1 rfl rfl)))⟩

end Go.Proofs.YtkjjdmdlkdoedaaDoor.SetsListsW
