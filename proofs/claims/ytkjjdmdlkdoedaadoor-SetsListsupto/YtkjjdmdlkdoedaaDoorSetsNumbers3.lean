/-
  A set's numbers as a list of new memory without room to spare: what the program's Numbers comes to, for every set.
-/
import Derived.Test.YtkjjdmdlkdoedaaDoorSetsNumbers2
namespace Go.Proofs.YtkjjdmdlkdoedaaDoor.SetsEach
open Go.RowKit Go.Shelf Go.Proofs.YtkjjdmdlkdoedaaDoor.SetsMath Go.Proofs.YtkjjdmdlkdoedaaDoor.SetsOne Go.Proofs.YtkjjdmdlkdoedaaDoor.SetsMany Go.Proofs.YtkjjdmdlkdoedaaDoor.SetsAlg
attribute [local go_sem] Oper.semAt_some

set_option maxRecDepth 100000 in
set_option maxHeartbeats 4000000 in
theorem numbers_fit (s : Int) (w : World) (hs : IsSet s) (hT : Tab w) (hG : 0 < w.heap.size) :
    Calls Tryd.prog 20 #[.int .u64 s] w fun e W' => e = .returned (.slice (some ⟨w.heap.size, 0, none⟩) (numsI s 64).length (numsI s 64).length) ∧ W'.ownsRow w.heap.size 3 1 (.slice (some ⟨w.heap.size, 0, none⟩) (numsI s 64).length (numsI s 64).length) (numsI s 64).length ((numsI s 64).map (Value.int .i64)) ∧ Below w.heap.size w W' := by
  refine (callsIn_wide (n := 4)).1 ?_
  obtain ⟨i0, hi, hz0, hz1, hz2⟩ := info_parts infoI
  have hle := numsI_le s 64
  refine callsIn_of_wp_marks Tryd.func20 rfl trivial ?_ rfl
  simp only [Tryd.ntmps20, List.size_toArray, List.length_cons, List.length_nil, Nat.reduceAdd, Nat.reduceSub, Array.replicate_succ, Array.replicate_zero, List.push_toArray, List.append_toArray, List.nil_append, List.cons_append]
  gi_wp2_with (first
    | (refine ⟨trivial, ?_⟩; gi_at_call 16; refine (callsIn_wide.2 (len_any _ _ hs)).mono ?_; rintro e w' ⟨rfl, hw'⟩; obtain rfl := hw'.symm)
    | (gi_at_make; refine wpListIn_make_own _ rfl _ _ 25 rfl w.heap.size 3 i0 (.int .i64 0) 1 Tryd.underlying25 hi hz0 hz1 .i64 .i64 _ (numsI s 64).length rfl rfl rfl (by rw [hz2]; omega) (by unfold maxLen; omega) (Nat.le_refl _) ?_; intro w1 hown1 hgrow1)
    | (refine ⟨trivial, ?_⟩; gi_at_call 21; refine (callsIn_wide.2 (each_any _ _)).mono ?_; rintro e w' ⟨rfl, rfl⟩))
  have hB1 : Below w.heap.size w w1 := (Below.refl _ _).grown hgrow1 (Nat.le_refl _) (by intro k h; cases h)
  have hs1 := hB1.size
  have bO := Boxed.new w1 25 (.slice (some ⟨w.heap.size, 0, none⟩) 0 (numsI s 64).length)
  have bN := Boxed.new (w1.alloc (.cells #[.slice (some ⟨w.heap.size, 0, none⟩) 0 (numsI s 64).length] 25)) 24 (.int .u64 s)
  rw [World.size_alloc] at bN
  have hB0 : Below w.heap.size w ((w1.alloc (.cells #[.slice (some ⟨w.heap.size, 0, none⟩) 0 (numsI s 64).length] 25)).alloc (.cells #[.int .u64 s] 24)) := (hB1.alloc hs1 _).alloc (by simp; omega) _
  refine wpIn_rangeFunc_ownG rfl (by omega) (gf := 37) (lb := #[.pointer (some ⟨w1.heap.size + 1, 0, none⟩)]) rfl trivial (enters_of Tryd.func37 (by kernel_rfl) rfl)
    (each_stops 3 (by omega) (w1.heap.size + 1) w.heap.size hG s hs _ (by simp) (by simp; omega) bN.cell (Tab.from hT hB0 hG)) belowK_t (belowK_b (by simp; omega)) (Below.refl _ _) (fun _ => rfl)
    (fun (pre : List Num) W => (∃ v, Boxed W w1.heap.size 25 v ∧ W.ownsRow w.heap.size 3 1 v pre.length (pre.map (fun x => Value.int .i64 x.1)) ∧ v = .slice (some ⟨w.heap.size, 0, none⟩) pre.length (numsI s 64).length) ∧ Below w.heap.size w W)
    (fun _ _ _ => False)
    (OwnFrom.and (Own.from (holdsRow_own w.heap.size w1.heap.size 25 3 1 (fun (pre : List Num) => pre.length) (fun (pre : List Num) => pre.map (fun x => Value.int .i64 x.1)) (fun (pre : List Num) v => v = .slice (some ⟨w.heap.size, 0, none⟩) pre.length (numsI s 64).length)) _) (ownFrom_below (Nat.le_refl _) (by simp; omega)))
    (fun _ _ _ _ _ hs _ _ => hs)
    ⟨⟨_, bO.alloc _, (hown1.alloc _).alloc _, rfl⟩, hB0⟩
    (fun x => { tmps := #[.int .u64 s, undef, .slice none 0 0, .pointer (some ⟨w1.heap.size, 0, none⟩), .int .i64 x.1, .int .u64 s, .int .i64 (numsI s 64).length, .slice (some ⟨w.heap.size, 0, none⟩) 0 (numsI s 64).length, .int .u64 s, .func (.func 37) #[] #[.pointer (some ⟨w1.heap.size + 1, 0, none⟩)], .int .i64 x.1, undef, undef, undef, undef, undef], defers := [] }) ?assign ?body ?done ?stop
  case assign =>
    intro l x W K hK
    gi_wp2
    exact hK
  case body =>
    rintro l pre x W ⟨⟨v, hv, hrow, rfl⟩, hB⟩ hlt
    rw [numsS_len] at hlt
    have hc := hv.cell
    have hpl : pre.length < 64 := by omega
    gi_wp2_with (gi_at_builtin; refine wpListIn_append_fits _ rfl _ _ 25 rfl w.heap.size 3 i0 1 Tryd.underlying25 hi hz1 w.heap.size _ _ _ rfl (hrow.alloc _) ⟨W.heap.size, 0, none⟩ 1 1 [.int .i64 x.1] rfl rfl (cell_one_new _ _ _) (by simp [Value.oneCell']) (by omega) ?_; intro w2 hown' hgrow; obtain ⟨hv1, hv2, hr2, hk2, hb2⟩ := hv.appended (by decide) hrow hB.size hs1 hown' hgrow; have hc1 := hv1.cell; have hf1 := hv1.frozen)
    exact ⟨hk2.from _, hb2, ⟨_, hv2, by simpa using hr2, by simp⟩, hB.trans hb2⟩
  case done =>
    rintro D ys W hD rfl ⟨⟨v, hv, hrow, rfl⟩, hB⟩ hK
    rw [numsS_len] at hv hrow
    have hc := hv.cell
    gi_wp2
    refine ⟨by simp, .inl ⟨_, _, rfl, run_takeDeferred hK, ?_⟩⟩
    have e1 : (numsS s).map (fun x => Value.int .i64 x.1) = (numsI s 64).map (Value.int .i64) := by rw [← numsS_val, List.map_map]; rfl
    rw [e1] at hrow
    exact ⟨_, results_tmp rfl _ _ _, rfl, ownsRow_putObj hrow _ hK rfl, hB.trans (belowK_b (w := w) (Nat.le_refl _) W D _ _ (by simp at hD; omega) hK rfl rfl)⟩
  case stop =>
    rintro D c pre W _ _ h _
    exact h.elim

end Go.Proofs.YtkjjdmdlkdoedaaDoor.SetsEach
