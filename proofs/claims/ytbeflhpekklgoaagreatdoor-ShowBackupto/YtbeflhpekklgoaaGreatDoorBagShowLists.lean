/-
  Texts that stand together: ShowLists, ShowTerms.
-/
import Derived.Test.YtbeflhpekklgoaaGreatDoorBShowOrder
namespace Go.Proofs.YtbeflhpekklgoaaGreatDoor.ShowOrd
open Go.RowKit Go.Proofs.YtbeflhpekklgoaaGreatDoor.GramMath Go.Proofs.YtbeflhpekklgoaaGreatDoor.GramRow Go.Proofs.YtbeflhpekklgoaaGreatDoor.GramOne Go.Proofs.YtbeflhpekklgoaaGreatDoor.GramApart Go.Proofs.YtbeflhpekklgoaaGreatDoor.GramCopy Go.Proofs.YtbeflhpekklgoaaGreatDoor.ShowMath Go.Proofs.YtbeflhpekklgoaaGreatDoor.ShowSym
set_option linter.unusedVariables false

def leftsL (g : G) : List Int := g.rs.map (·.left)
def termsR (l : List Int) : List Int := l.filter (fun x => decide (0 ≤ x))
def termsL (rs : List R) : List Int := rs.flatMap (fun r => termsR r.right)

/-- The first k of a list, zeros behind them. -/
def partI (ss : List Int) (k : Nat) : Array Value := ((ss.take k).map (Value.int .i64) ++ List.replicate (ss.length - k) (Value.int .i64 0)).toArray

theorem partI_zero (ss : List Int) : partI ss 0 = (List.replicate ss.length (Value.int .i64 0)).toArray := by simp [partI]
theorem partI_all (ss : List Int) : partI ss ss.length = intsA ss := by simp [partI, intsA]
theorem partI_succ {ss : List Int} {k : Nat} {x : Int} (hx : ss[k]? = some x) : (partI ss k).setIfInBounds k (.int .i64 x) = partI ss (k + 1) := by
  obtain ⟨hk, he⟩ := List.getElem?_eq_some_iff.1 hx
  unfold partI
  rw [List.setIfInBounds_toArray, List.set_append_right _ _ (by simp; omega), List.take_succ_eq_append_getElem hk, List.map_append, he]
  have e1 : k - ((ss.take k).map (Value.int .i64)).length = 0 := by simp; omega
  have e2 : ss.length - k = (ss.length - (k + 1)) + 1 := by omega
  rw [e1, e2, List.replicate_succ]
  simp
theorem partI_get {ss : List Int} {k : Nat} (hk : k < ss.length) : (partI ss k)[k]? = some (.int .i64 0) := by
  unfold partI
  rw [List.getElem?_toArray, List.getElem?_append_right (by simp; omega), List.getElem?_replicate]
  rw [if_pos (by simp; omega)]

theorem intsA_row {w : World} {b : Nat} {t : TypeId} {zs : List Int} (h : RowAt w b t (intsA zs)) : IRow w (some ⟨b, 0, none⟩) zs := fun i x hx => ⟨b, 0, rfl, by
  rw [Nat.zero_add]
  exact h.cell (by unfold intsA; rw [List.getElem?_toArray, List.getElem?_map, hx]; rfl)⟩

set_option maxRecDepth 100000 in
set_option maxHeartbeats 1000000 in
theorem lefts_any (ta na ra : Option Addr) (tc nc rc : Nat) (g : G) (w : World) (hR : RRow w ra g.rs) (hm : g.rs.length * 8 ≤ 140737488351232) :
    Calls Tryz.prog 23 #[.agg #[.slice ta g.ts.length tc, .slice na g.ns.length nc, .int .i64 g.ax, .slice ra g.rs.length rc]] w fun e w' => (∃ b, e = .returned (.slice (some ⟨b, 0, none⟩) (leftsL g).length (leftsL g).length) ∧ IRow w' (some ⟨b, 0, none⟩) (leftsL g)) ∧ Below w.heap.size w w' := by
  have hmk := fun W => madeI_any g.rs.length hm W
  have hxl : Hid ((leftsL g).length = g.rs.length) := by show _ = _; unfold leftsL; rw [List.length_map]
  have hat : Hid (∀ (k : Nat) (r : R), g.rs[k]? = some r → (leftsL g)[k]? = some r.left) := fun k r hk => by unfold leftsL; rw [List.getElem?_map, hk]; rfl
  have hB1 : Below w.heap.size w (w.alloc (.cells #[.slice ta g.ts.length tc, .slice na g.ns.length nc, .int .i64 g.ax, .slice ra g.rs.length rc] 25)) := (Below.refl _ _).alloc (Nat.le_refl _) _
  have hR1 := hR.below hB1 (Nat.le_refl _)
  have hbox := GBox.new w ta na ra tc nc rc g 25
  have hs1 : Hid ((w.alloc (.cells #[.slice ta g.ts.length tc, .slice na g.ns.length nc, .int .i64 g.ax, .slice ra g.rs.length rc] 25)).heap.size = w.heap.size + 1) := by show _ = _; simp
  have hrow0 := row_new (w.alloc (.cells #[.slice ta g.ts.length tc, .slice na g.ns.length nc, .int .i64 g.ax, .slice ra g.rs.length rc] 25)) (.int .i64 0) g.rs.length 3
  rw [← hxl.out, ← partI_zero, hxl.out, hs1.out] at hrow0
  have hB2 : Below (w.heap.size + 1) (w.alloc (.cells #[.slice ta g.ts.length tc, .slice na g.ns.length nc, .int .i64 g.ax, .slice ra g.rs.length rc] 25)) ((w.alloc (.cells #[.slice ta g.ts.length tc, .slice na g.ns.length nc, .int .i64 g.ax, .slice ra g.rs.length rc] 25)).alloc (.cells (madeCells #[.int .i64 0] g.rs.length) 3)) := (Below.refl _ _).alloc (Nat.le_of_eq hs1.out.symm) _
  obtain ⟨c0, c1, c2, c3⟩ := hbox.below hB2 (Nat.le_of_eq hs1.out)
  clear hR
  generalize leftsL g = xs at *
  go_enter Tryz.func23, Tryz.ntmps23
  go_wp2
  generalize w.alloc (.cells #[.slice ta g.ts.length tc, .slice na g.ns.length nc, .int .i64 g.ax, .slice ra g.rs.length rc] 25) = W1 at *
  generalize W1.alloc (.cells (madeCells #[.int .i64 0] g.rs.length) 3) = W0 at *
  clear hmk c0 c1 c2 c3
  go_loopw [13] (fun i wr => ∃ k : Nat, k ≤ g.rs.length ∧ i = .int .i64 k ∧ RowAt wr (w.heap.size + 1) 3 (partI xs k) ∧ Below (w.heap.size + 1) W1 wr) (fun i _ => g.rs.length - (intOf i).toNat)
  case atStart => exact ⟨0, by omega, rfl, hrow0, hB2⟩
  case round =>
    clear hrow0 hB2
    obtain ⟨k, hk, rfl, hrow, hB⟩ := hrel
    by_cases hlt : k < g.rs.length
    · obtain ⟨r, hr⟩ : ∃ r, g.rs[k]? = some r := ⟨g.rs[k], List.getElem?_eq_getElem hlt⟩
      obtain ⟨b, off, qa, qc, rfl, x0, x1, x2⟩ := (hR1.below hB (Nat.le_of_eq hs1.out)) k r hr
      have hxx := hat.out k r hr
      have hlt2 : (k : Int) < (g.rs.length : Int) := by omega
      have hlt3 := hrow.lt
      have hkx : k < xs.length := by rw [hxl.out]; exact hlt
      have hba : Below wr.heap.size wr (wr.alloc (.cells #[.int .i64 r.left, .slice qa r.right.length qc] 40)) := (Below.refl _ _).alloc (Nat.le_refl _) _
      have hrow2 := hrow.below hba hlt3
      have ck := hrow2.cell (partI_get hkx)
      have fk := hrow2.frozen k
      have hrow3 := (hrow.set k (.int .i64 r.left)).alloc (.cells #[.int .i64 r.left, .slice qa r.right.length qc] 40)
      rw [partI_succ hxx] at hrow3
      have hB3 := (hB.setCell (p := ⟨w.heap.size + 1, k, none⟩) (Nat.le_refl _) (.int .i64 r.left)).alloc (by simp; omega) (.cells #[.int .i64 r.left, .slice qa r.right.length qc] 40)
      clear hrow hrow2 hr hxx hat hkx x2 hR1
      go_wp2
      go_roundw
      case rel => exact ⟨k + 1, by omega, by go_num, hrow3, hB3⟩
      case measure => simp [intOf]; omega
    · obtain rfl : k = g.rs.length := by omega
      rw [← hxl.out, partI_all] at hrow
      have hnl : ¬ (g.rs.length : Int) < (g.rs.length : Int) := by omega
      have E := intsA_row hrow
      clear hR1 hat hbox hrow
      go_wp2
      go_ret
      exact ⟨⟨w.heap.size + 1, (by rw [hxl.out]; rfl), E⟩, hB1.trans (hB.mono (by omega))⟩

theorem terms_step {rs : List R} {k : Nat} {r : R} (h : rs[k]? = some r) : termsL (rs.take (k + 1)) = termsL (rs.take k) ++ termsR r.right := by
  obtain ⟨hk, he⟩ := List.getElem?_eq_some_iff.1 h
  rw [List.take_succ_eq_append_getElem hk, he]
  unfold termsL
  simp
theorem termsR_in {l : List Int} {k : Nat} {x : Int} (h : l[k]? = some x) (h0 : 0 ≤ x) : termsR (l.take (k + 1)) = termsR (l.take k) ++ [x] := by
  obtain ⟨hk, he⟩ := List.getElem?_eq_some_iff.1 h
  rw [List.take_succ_eq_append_getElem hk, he]
  unfold termsR
  rw [List.filter_append]
  simp [h0]
theorem termsR_out {l : List Int} {k : Nat} {x : Int} (h : l[k]? = some x) (h0 : ¬ 0 ≤ x) : termsR (l.take (k + 1)) = termsR (l.take k) := by
  obtain ⟨hk, he⟩ := List.getElem?_eq_some_iff.1 h
  rw [List.take_succ_eq_append_getElem hk, he]
  unfold termsR
  rw [List.filter_append]
  simp [h0]
theorem termsR_len (l : List Int) : (termsR l).length ≤ l.length := List.length_filter_le _ _
theorem terms_len {rs : List R} {N : Nat} (h : ∀ r ∈ rs, r.right.length ≤ N) : (termsL rs).length ≤ rs.length * N := by
  induction rs with
  | nil => simp [termsL]
  | cons r l ih =>
    have h1 := ih (fun x hx => h x (List.mem_cons_of_mem _ hx))
    have h2 := h r List.mem_cons_self
    have h3 := termsR_len r.right
    unfold termsL at *
    rw [List.flatMap_cons, List.length_append, List.length_cons, Nat.succ_mul]
    omega
theorem terms_take {rs : List R} {N : Nat} (h : ∀ r ∈ rs, r.right.length ≤ N) (k : Nat) : (termsL (rs.take k)).length ≤ rs.length * N :=
  Nat.le_trans (terms_len (fun r hr => h r (List.mem_of_mem_take hr))) (Nat.mul_le_mul_right _ (by rw [List.length_take]; omega))

/-- A row of numbers of the call's own. -/
abbrev Own (w : World) (B : Nat) (v : Value) (l : List Int) : Prop := w.ownsRow B 3 1 v l.length (l.map (Value.int .i64))

theorem Own.next {w : World} {B : Nat} {v : Value} {l : List Int} {x : Int} (h : w.ownsRow B 3 1 v (l.length + 1) (l.map (Value.int .i64) ++ [.int .i64 x])) {l' : List Int} (e : l' = l ++ [x]) : Own w B v l' := by
  subst e
  unfold Own
  rw [List.length_append, List.map_append]
  exact h

theorem Own.row {w : World} {B : Nat} {v : Value} {l : List Int} (h : Own w B v l) : ∃ a c, v = .slice a l.length c ∧ IRow w a l := by
  obtain ⟨h1, ⟨rfl, h2⟩ | ⟨g, cap, cur, rfl, h2⟩⟩ := id h
  · have : l.length = 0 := h2
    refine ⟨none, 0, by rw [this], fun i x hx => ?_⟩
    have := (List.getElem?_eq_some_iff.1 hx).1
    omega
  · exact ⟨_, _, rfl, GramLent.lent_rowI h rfl⟩

end Go.Proofs.YtbeflhpekklgoaaGreatDoor.ShowOrd

namespace Go.Proofs.YtbeflhpekklgoaaGreatDoor.ShowOrd
open Go.RowKit Go.Proofs.YtbeflhpekklgoaaGreatDoor.GramMath Go.Proofs.YtbeflhpekklgoaaGreatDoor.GramRow Go.Proofs.YtbeflhpekklgoaaGreatDoor.GramOne Go.Proofs.YtbeflhpekklgoaaGreatDoor.GramApart Go.Proofs.YtbeflhpekklgoaaGreatDoor.GramCopy Go.Proofs.YtbeflhpekklgoaaGreatDoor.ShowMath Go.Proofs.YtbeflhpekklgoaaGreatDoor.ShowSym
set_option linter.unusedVariables false

set_option maxRecDepth 100000 in
set_option maxHeartbeats 4000000 in
theorem terms_any (ta na ra : Option Addr) (tc nc rc : Nat) (g : G) (w : World) (hR : RRow w ra g.rs) (hm : g.rs.length ≤ 120) (hr32 : ∀ r ∈ g.rs, r.right.length ≤ 32) :
    Calls Tryz.prog 24 #[.agg #[.slice ta g.ts.length tc, .slice na g.ns.length nc, .int .i64 g.ax, .slice ra g.rs.length rc]] w fun e w' => (∃ a c, e = .returned (.slice a (termsL g.rs).length c) ∧ IRow w' a (termsL g.rs)) ∧ Below w.heap.size w w' := by
  obtain ⟨i0, hi, hz0, hz1, hz2⟩ := info_parts GramLent.infoI
  have hB1 : Below w.heap.size w (w.alloc (.cells #[.slice ta g.ts.length tc, .slice na g.ns.length nc, .int .i64 g.ax, .slice ra g.rs.length rc] 25)) := (Below.refl _ _).alloc (Nat.le_refl _) _
  have hR1 := hR.below hB1 (Nat.le_refl _)
  have hs1 : Hid ((w.alloc (.cells #[.slice ta g.ts.length tc, .slice na g.ns.length nc, .int .i64 g.ax, .slice ra g.rs.length rc] 25)).heap.size = w.heap.size + 1) := by show _ = _; simp
  have hlen : ∀ k, (termsL (g.rs.take k)).length ≤ 3840 := fun k => Nat.le_trans (terms_take hr32 k) (by omega)
  clear hR
  go_enter Tryz.func24, Tryz.ntmps24
  go_wp2
  generalize w.alloc (.cells #[.slice ta g.ts.length tc, .slice na g.ns.length nc, .int .i64 g.ax, .slice ra g.rs.length rc] 25) = W1 at *
  go_loopw [3, 11] (fun v i wr => ∃ k : Nat, k ≤ g.rs.length ∧ i = .int .i64 k ∧ Own wr (w.heap.size + 1) v (termsL (g.rs.take k)) ∧ Below (w.heap.size + 1) W1 wr) (fun _ i _ => g.rs.length - (intOf i).toNat)
  case atStart => exact ⟨0, by omega, rfl, World.ownsRow_nil _ _ _ _, Below.refl _ _⟩
  case round =>
    obtain ⟨k, hk, rfl, hrow, hB⟩ := hrel
    by_cases hlt : k < g.rs.length
    · obtain ⟨r, hr⟩ : ∃ r, g.rs[k]? = some r := ⟨g.rs[k], List.getElem?_eq_getElem hlt⟩
      obtain ⟨b, off, qa, qc, rfl, X0, X1, x2⟩ := hR1 k r hr
      have x0 := (hB.cell (Nat.lt_of_lt_of_le (cell_lt X0) (Nat.le_of_eq hs1.out))).trans X0
      have x1 := (hB.cell (Nat.lt_of_lt_of_le (cell_lt X1) (Nat.le_of_eq hs1.out))).trans X1
      have hlt2 : (k : Int) < (g.rs.length : Int) := by omega
      have h32 := hr32 r (List.mem_of_getElem? hr)
      have F : Hid (termsL (g.rs.take (k + 1)) = termsL (g.rs.take k) ++ termsR r.right) := terms_step hr
      have hl0 := hlen k
      have hsB : w.heap.size + 1 ≤ wr.heap.size := Nat.le_trans (Nat.le_of_eq hs1.out.symm) hB.size
      have hB2 : Below (w.heap.size + 1) W1 (wr.alloc (.cells #[.int .i64 r.left, .slice qa r.right.length qc] 40)) := hB.alloc hsB _
      have hrow2 : Own (wr.alloc (.cells #[.int .i64 r.left, .slice qa r.right.length qc] 40)) (w.heap.size + 1) u3 (termsL (g.rs.take k)) := hrow.alloc _
      have x2' : Hid (IRow W1 qa r.right) := x2
      clear hr hR1 hrow hlen hr32 X0 X1 x2
      generalize termsL (g.rs.take k) = acc at *
      go_wp2
      generalize wr.alloc (.cells #[.int .i64 r.left, .slice qa r.right.length qc] 40) = W2 at *
      go_loopw [3, 18] (fun v i wr => ∃ j : Nat, j ≤ r.right.length ∧ i = .int .i64 j ∧ Own wr (w.heap.size + 1) v (acc ++ termsR (r.right.take j)) ∧ Below (w.heap.size + 1) W1 wr) (fun _ i _ => r.right.length - (intOf i).toNat)
      case atStart => exact ⟨0, by omega, rfl, by simpa [termsR] using hrow2, hB2⟩
      case round =>
        clear hrow2 hB2 x0 x1
        obtain ⟨j, hj, rfl, hrow3, hB3⟩ := hrel
        by_cases hjl : j < r.right.length
        · obtain ⟨x, hx⟩ : ∃ x, r.right[j]? = some x := ⟨r.right[j], List.getElem?_eq_getElem hjl⟩
          obtain ⟨b', off', rfl, hc'⟩ := (x2'.out.below hB3 (Nat.le_of_eq hs1.out)) j x hx
          have hjl2 : (j : Int) < (r.right.length : Int) := by omega
          have hla := termsR_len (r.right.take j)
          rw [List.length_take] at hla
          have hsC : w.heap.size + 1 ≤ wr.heap.size := Nat.le_trans (Nat.le_of_eq hs1.out.symm) hB3.size
          by_cases h0 : 0 ≤ x
          · have F2 : Hid (acc ++ termsR (r.right.take (j + 1)) = acc ++ termsR (r.right.take j) ++ [x]) := by show _ = _; rw [termsR_in hx h0, List.append_assoc]
            clear hx x2'
            have hl4 : (acc ++ termsR (r.right.take j)).length ≤ 3872 := by rw [List.length_append]; omega
            generalize acc ++ termsR (r.right.take j) = acc1 at *
            go_wp2_with (at_builtin; refine wpList_append_own _ rfl _ _ 38 rfl (w.heap.size + 1) 3 i0 (.int .i64 0) 1 8 Tryz.underlying38 hi hz0 hz1 hz2 rfl (by decide) _ _ _ rfl (hrow3.alloc _) ⟨wr.heap.size, 0, none⟩ 1 1 [.int .i64 x] rfl rfl (WordsBytes.cells_new _ #[_] _) (by simp [Value.oneCell']) (by unfold maxLen; omega) (by omega) (by simp; omega) ?_; intro v4 w4 hown4 hgrow4 _; have hr4 := Own.next hown4 F2.out; have hB4 := WordsBytes.Below.app hB3 hsC hrow3 hgrow4)
            clear hown4 hgrow4 hrow3
            go_roundw
            case rel => exact ⟨j + 1, by omega, by go_num, hr4, hB4⟩
            case measure => simp [intOf]; omega
          · have F2 : Hid (acc ++ termsR (r.right.take (j + 1)) = acc ++ termsR (r.right.take j)) := by show _ = _; rw [termsR_out hx h0]
            clear hx x2'
            go_wp2
            go_roundw
            case rel => exact ⟨j + 1, by omega, by go_num, by rw [F2.out]; exact hrow3, hB3⟩
            case measure => simp [intOf]; omega
        · obtain rfl : j = r.right.length := by omega
          rw [List.take_length, ← F.out] at hrow3
          have hnl : ¬ (r.right.length : Int) < (r.right.length : Int) := by omega
          go_wp2
          go_roundw
          case rel => exact ⟨k + 1, by omega, by go_num, hrow3, hB3⟩
          case measure => simp [intOf]; omega
    · obtain rfl : k = g.rs.length := by omega
      rw [List.take_length] at hrow
      have hnl : ¬ (g.rs.length : Int) < (g.rs.length : Int) := by omega
      obtain ⟨a, c, rfl, E⟩ := Own.row hrow
      clear hR1 hrow hlen hr32
      go_wp2
      go_ret
      exact ⟨⟨a, ⟨c, rfl⟩, E⟩, hB1.trans (hB.mono (by omega))⟩

end Go.Proofs.YtbeflhpekklgoaaGreatDoor.ShowOrd
