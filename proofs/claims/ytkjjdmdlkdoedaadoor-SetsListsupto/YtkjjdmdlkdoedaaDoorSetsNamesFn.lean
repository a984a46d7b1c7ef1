/-
  The function that answers a number's name out of a list and keeps what it was asked for: its contract, and what it leaves as it lay.
-/
import Derived.Test.YtkjjdmdlkdoedaaDoorSetsRText2
namespace Go.Proofs.YtkjjdmdlkdoedaaDoor.SetsNames
open Go.RowKit Go.Proofs.YtkjjdmdlkdoedaaDoor.SetsMath Go.Proofs.YtkjjdmdlkdoedaaDoor.SetsOne Go.Proofs.YtkjjdmdlkdoedaaDoor.SetsMany Go.Proofs.YtkjjdmdlkdoedaaDoor.SetsAlg Go.Proofs.YtkjjdmdlkdoedaaDoor.SetsEach Go.Proofs.YtkjjdmdlkdoedaaDoor.SetsApart Go.Proofs.YtkjjdmdlkdoedaaDoor.SetsRText

/-- All blocks but two lie as they lay. -/
structure Touch (b0 : Nat) (av : Value) (W W' : World) : Prop where
  os : W'.os = W.os
  tape : W'.tape = W.tape
  output : W'.output = W.output
  size : W.heap.size ≤ W'.heap.size
  block : ∀ k, k < W.heap.size → k ≠ b0 → some k ≠ av.ownBlock → W'.heap[k]? = W.heap[k]?

theorem Touch.boxed {b0 b H k : Nat} {av v : Value} {W W' : World} {t e : TypeId} {xs : List Value} (h : Touch b0 av W W') (hb : Boxed W b t v) (hne : b ≠ b0) (hr : W.ownsRow H e 1 av k xs) (ht : t ≠ e) : Boxed W' b t v :=
  (h.block b hb.lt hne (hb.not_row ht hr)).trans hb

theorem Touch.row {b0 b H k : Nat} {av : Value} {W W' : World} {t e : TypeId} {cur : Array Value} {xs : List Value} (h : Touch b0 av W W') (hb : RowAt W b t cur) (hne : b ≠ b0) (hr : W.ownsRow H e 1 av k xs) (ht : t ≠ e) : RowAt W' b t cur :=
  (h.block b hb.lt hne (hb.not_own ht hr)).trans hb

theorem Touch.owns {b0 H k base n : Nat} {av u : Value} {W W' : World} {t e e' : TypeId} {xs ys : List Value} (h : Touch b0 av W W') (hb : Boxed W b0 t av) (hr : W.ownsRow H e 1 av k xs) (hu : W.ownsRow base e' 1 u n ys) (h1 : e' ≠ t) (h2 : e' ≠ e) : W'.ownsRow base e' 1 u n ys := by
  obtain ⟨g1, hh | ⟨g, cap, cur, hv, hbb, hg, rest⟩⟩ := hu
  · exact ⟨g1, .inl hh⟩
  · have hR : RowAt W g e' cur := hg
    have hB : RowAt W b0 t #[av] := hb
    exact ⟨g1, .inr ⟨g, cap, cur, hv, hbb, (h.row hR (hR.ne hB h1) hr h2), rest⟩⟩

theorem Touch.keeps {b0 H k : Nat} {av : Value} {W W' : World} {t e : TypeId} {xs : List Value} (h : Touch b0 av W W') (hb : Boxed W b0 t av) (hr : W.ownsRow H e 1 av k xs) : KeepsOthers W W' := by
  refine ⟨h.size, fun i o hi ho => ?_⟩
  refine (h.block i (Array.getElem?_eq_some_iff.1 hi).1 ?_ ?_).trans hi
  · intro he
    subst he
    rw [show W.heap[i]? = _ from hb] at hi
    cases hi
    cases ho
  · obtain ⟨_, ⟨rfl, _⟩ | ⟨g, cap, cur, rfl, _, hg, _⟩⟩ := hr
    · simp [Value.ownBlock]
    · intro he
      simp only [Value.ownBlock, Option.some.injEq] at he
      subst he
      rw [hg] at hi
      cases hi
      cases ho

theorem Touch.below {b0 n₀ : Nat} {av : Value} {W W' : World} (h : Touch b0 av W W') (hn : n₀ ≤ W.heap.size) (h0 : n₀ ≤ b0) (h1 : ∀ j, av.ownBlock = some j → n₀ ≤ j) : Below n₀ W W' :=
  ⟨h.os, h.tape, h.output, h.size, fun k hk => h.block k (by omega) (by omega) (fun e => by have := h1 k e.symm; omega)⟩

/-- Below H all blocks but one lie as they lay. -/
structure But (b0 H : Nat) (w W : World) : Prop where
  os : W.os = w.os
  tape : W.tape = w.tape
  output : W.output = w.output
  size : w.heap.size ≤ W.heap.size
  block : ∀ k, k < H → k ≠ b0 → W.heap[k]? = w.heap[k]?

theorem But.refl (b0 H : Nat) (w : World) : But b0 H w w := ⟨rfl, rfl, rfl, Nat.le_refl _, fun _ _ _ => rfl⟩

theorem But.touch {b0 H : Nat} {av : Value} {w W W' : World} (h : But b0 H w W) (ht : Touch b0 av W W') (hH : H ≤ w.heap.size) (h1 : ∀ j, av.ownBlock = some j → H ≤ j) : But b0 H w W' :=
  ⟨ht.os.trans h.os, ht.tape.trans h.tape, ht.output.trans h.output, Nat.le_trans h.size ht.size, fun k hk hne =>
    (ht.block k (by have := h.size; omega) hne (fun e => by have := h1 k e.symm; omega)).trans (h.block k hk hne)⟩

theorem But.below {b0 H : Nat} {w W W' : World} (h : But b0 H w W) (hb : Below H W W') : But b0 H w W' :=
  ⟨hb.os.trans h.os, hb.tape.trans h.tape, hb.output.trans h.output, Nat.le_trans h.size hb.size, fun k hk hne => (hb.block k hk).trans (h.block k hk hne)⟩

theorem But.to_below {b0 H n₀ : Nat} {w W : World} (h : But b0 H w W) (h0 : n₀ ≤ b0) (hH : n₀ ≤ H) : Below n₀ w W :=
  ⟨h.os, h.tape, h.output, h.size, fun k hk => h.block k (by omega) (by omega)⟩

set_option maxHeartbeats 2000000 in
theorem closure_any (bA bL g H k : Nat) (av : Value) (xs : List Value) (cur : Array Value) (nm : Num → ByteArray) (x : Num) (W : World) (hH : H ≤ W.heap.size)
    (hA : Boxed W bA 25 av) (hrow : W.ownsRow H 3 1 av k xs) (hk : k ≤ 64) (hL : Boxed W bL 37 (.slice (some ⟨g, 0, none⟩) 64 64)) (hR : RowAt W g 9 cur)
    (hN : ∀ x : Num, cur[x.1.toNat]? = some (.string (nm x))) :
    Calls Tryd.prog 25 #[.int .i64 x.1, .pointer (some ⟨bA, 0, none⟩), .pointer (some ⟨bL, 0, none⟩)] W fun e W' => e = .returned (.string (nm x)) ∧
      (∃ av', Boxed W' bA 25 av' ∧ W'.ownsRow H 3 1 av' (k + 1) (xs ++ [.int .i64 x.1])) ∧ Touch bA av W W' := by
  obtain ⟨i0, hi, hz0, hz1, hz2⟩ := info_parts infoI
  have hcA := hA.cell
  have hy := hN x
  generalize hnm : nm x = y at *
  clear hnm hN
  obtain ⟨xv, hx⟩ := x
  obtain ⟨m, rfl⟩ : ∃ m : Nat, xv = (m : Int) := ⟨xv.toNat, by omega⟩
  simp only [Int.toNat_natCast] at hy
  have hm64 : m < 64 := by omega
  dsimp only
  clear hx
  have hneL : bL ≠ bA := RowAt.ne (cur := #[_]) (cur' := #[_]) (show RowAt W bL _ _ from hL) (show RowAt W bA _ _ from hA) (by decide)
  have hneR : g ≠ bA := RowAt.ne (cur' := #[_]) hR (show RowAt W bA _ _ from hA) (by decide)
  go_enter Tryd.func25, Tryd.ntmps25
  go_wp2_with (at_builtin; refine wpList_append_own _ rfl (.tmp 5) (.tmp 7) 25 rfl H 3 i0 (.int .i64 0) 1 8 Tryd.underlying25 hi hz0 hz1 hz2 rfl (by decide) _ _ _ rfl (hrow.alloc _) ⟨_, 0, none⟩ 1 1 [.int .i64 (m : Int)] rfl rfl (cell_one_new _ _ _) (by simp [Value.oneCell']) (by unfold maxLen; omega) (by omega) (by simp; omega) ?_; intro v2 w2 hown2 hgrow2 _; obtain ⟨g2, c2, rfl⟩ := ownsRow_succ hown2; have hA1 := (hA.alloc (.cells #[.int .i64 (m : Int)] 3)).kept hgrow2 (hA.not_row (by decide) hrow); have hc2 := hA1.cell; have hf2 := hA1.frozen; have hL2 := fun u => (((hL.alloc (.cells #[.int .i64 (m : Int)] 3)).kept hgrow2 (hL.not_row (by decide) hrow)).other hneL u).cell; have hR2 := fun u => ((((hR.alloc (.cells #[.int .i64 (m : Int)] 3)).grown hgrow2 (hR.not_own (by decide) hrow)).other hneR 0 u).cell hy))
  have hT : Touch bA av W (w2.setCell ⟨bA, 0, none⟩ (.slice (some ⟨g2, 0, none⟩) (k + 1) c2)) := by
    refine ⟨hgrow2.os, hgrow2.tape, hgrow2.output, ?_, fun b hb h1 h2 => ?_⟩
    · have := hgrow2.size
      simp [World.setCell] at this ⊢
      omega
    · rw [Below.heap_setCell _ _ _ _ h1, hgrow2.block b (by simp; omega) h2]
      exact Below.heap_alloc _ _ _ hb
  have hO := hown2.kept (grownBy_setCell' w2 bA (.slice (some ⟨g2, 0, none⟩) (k + 1) c2)) (.inr (hA1.not_row (by decide) hown2).symm)
  go_ret
  exact ⟨rfl, ⟨_, hA1.set _, hO⟩, hT⟩

end Go.Proofs.YtkjjdmdlkdoedaaDoor.SetsNames
