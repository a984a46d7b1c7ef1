/-
  Texts that stand together: MatrixROf.
-/
import Derived.Test.YtigepihinflkdaaGreatDoorBMatrixRT
import Derived.Test.YtigepihinflkdaaGreatDoorBMatrixRPlaces
import Derived.Test.YtigepihinflkdaaGreatDoorBEndsROf
namespace Go.Proofs.YtigepihinflkdaaGreatDoor.MatrixRT
open Go.RowKit Go.Proofs.YtigepihinflkdaaGreatDoor.GramMath Go.Proofs.YtigepihinflkdaaGreatDoor.GramRow Go.Proofs.YtigepihinflkdaaGreatDoor.SetsAlg Go.Proofs.YtigepihinflkdaaGreatDoor.MatrixMath Go.Proofs.YtigepihinflkdaaGreatDoor.MatrixPut Go.Proofs.YtigepihinflkdaaGreatDoor.GramApart Go.Proofs.YtigepihinflkdaaGreatDoor.MatrixClash Go.Proofs.YtigepihinflkdaaGreatDoor.GramLent Go.Proofs.YtigepihinflkdaaGreatDoor.MatrixAwake Go.Proofs.YtigepihinflkdaaGreatDoor.EndsMath Go.Proofs.YtigepihinflkdaaGreatDoor.EndsFn Go.Proofs.YtigepihinflkdaaGreatDoor.MatrixRHolds Go.Proofs.YtigepihinflkdaaGreatDoor.EndsRef Go.Proofs.YtigepihinflkdaaGreatDoor.MatrixKeep Go.Proofs.YtigepihinflkdaaGreatDoor.GramRef Go.Proofs.YtigepihinflkdaaGreatDoor.GramAboveFn Go.Proofs.YtigepihinflkdaaGreatDoor.GramAwake
set_option linter.unusedVariables false
set_option linter.unusedSimpArgs false

def relT (r : Int → Bool) (k : Nat) : Nat := (if 1 ≤ k ∧ r 1 = true then 1 else 0) + (if 2 ≤ k ∧ r 2 = true then 2 else 0) + (if 3 ≤ k ∧ r 3 = true then 4 else 0)
theorem relT_lt (r : Int → Bool) (k : Nat) : relT r k < 8 := by
  unfold relT
  split <;> split <;> split <;> decide
theorem relT_no (r : Int → Bool) : relT r 0 = 0 := by
  unfold relT
  simp
theorem relT_one (r : Int → Bool) : relT r 1 = relT r 0 + (if r 1 = true then 1 else 0) := by unfold relT; simp
theorem relT_two (r : Int → Bool) : relT r 2 = relT r 1 + (if r 2 = true then 2 else 0) := by unfold relT; simp
theorem relT_three (r : Int → Bool) : relT r 3 = relT r 2 + (if r 3 = true then 4 else 0) := by unfold relT; simp

noncomputable def relG (g : G) (a b : Nat) (x : Int) : Bool := relB (putE false g) (putE true g) g x (a : Int) (b : Int)
noncomputable def relN (g : G) (a b : Nat) : Nat := relT (relG g a b) 3

/-- A row of the matrix, as far as it has come. -/
noncomputable def rowF (g : G) (a b k j : Nat) : Nat := if j < b then relN g a j else if j = b then relT (relG g a b) k else 0
noncomputable def rowL (g : G) (N a b k : Nat) : Array Value := ((List.range N).map (fun j => Value.int .i64 (rowF g a b k j : Int))).toArray

theorem rowL_get {g : G} {N a b k j : Nat} (h : j < N) : (rowL g N a b k)[j]? = some (.int .i64 (rowF g a b k j : Int)) := by
  unfold rowL
  simp [h]
theorem rowL_at {g : G} {N a b k : Nat} (h : b < N) : (rowL g N a b k)[b]? = some (.int .i64 (relT (relG g a b) k : Int)) := by
  rw [rowL_get h]
  unfold rowF
  simp
theorem rowL_set {g : G} {N a b k k' : Nat} (h : b < N) : (rowL g N a b k).setIfInBounds b (.int .i64 (relT (relG g a b) k' : Int)) = rowL g N a b k' := by
  apply Array.ext'
  unfold rowL
  simp only [List.setIfInBounds_toArray]
  refine List.ext_getElem? (fun i => ?_)
  rw [List.getElem?_set]
  by_cases hi : b = i
  · subst hi
    rw [if_pos rfl]
    simp [h, rowF]
  · rw [if_neg hi]
    by_cases h2 : i < N
    · have : ¬ i = b := fun e => hi e.symm
      simp [h2, rowF, this]
    · simp [h2]
theorem rowL_next {g : G} {N a b : Nat} : rowL g N a b 3 = rowL g N a (b + 1) 0 := by
  unfold rowL
  congr 1
  refine List.map_congr_left (fun j hj => ?_)
  congr 2
  unfold rowF
  by_cases h1 : j < b
  · rw [if_pos h1, if_pos (by omega)]
  · rw [if_neg h1]
    by_cases h2 : j = b
    · subst h2
      rw [if_pos rfl, if_pos (by omega)]
      rfl
    · rw [if_neg h2, if_neg (by omega)]
      by_cases h3 : j = b + 1
      · rw [if_pos h3, relT_no]
      · rw [if_neg h3]

theorem infoI8 : (Tryz.prog.info? 3).map (fun i => (i.zero, i.size, i.bytes)) = some (some (.int .i64 0), 1, 8) := by kernel_rfl
theorem madeI_any (n : Nat) (hn : n * 8 ≤ 140737488351232) (w : World) : (Instr.makeSlice 36 (.int .i64 (n : Int)) (.int .i64 (n : Int))).run Tryz.prog w = .ok (.slice (some ⟨w.heap.size, 0, none⟩) n n) (w.alloc (.cells (madeCells #[.int .i64 0] n) 3)) := by
  obtain ⟨i0, hi, hz0, hz1, hz2⟩ := info_parts infoI8
  have h := run_make (P := Tryz.prog) w 36 3 i0 (.int .i64 0) Tryz.underlying36 hi hz0 .i64 .i64 (n : Int) (n : Int) (by omega) (by omega) (by rw [hz2]; omega) (by omega)
  rw [hz1] at h
  simpa [Value.cells] using h
theorem madeL_row (g : G) (a : Nat) (w : World) (n : Nat) : RowAt (w.alloc (.cells (madeCells #[.int .i64 0] n) 3)) w.heap.size 3 (rowL g n a 0 0) := by
  show (w.alloc _).heap[w.heap.size]? = _
  rw [heap_new]
  congr 2
  apply Array.ext'
  rw [toList_madeCells_one]
  unfold rowL
  refine List.ext_getElem? (fun i => ?_)
  rw [List.getElem?_replicate]
  by_cases h : i < n
  · have e : rowF g a 0 0 i = 0 := by
      unfold rowF
      rw [if_neg (by omega)]
      by_cases h2 : i = 0
      · rw [if_pos h2, relT_no]
      · rw [if_neg h2]
    simp [h, e]
  · simp [h]

theorem place_ok {g : G} {a b : Nat} {x i k : Int} {ok : Bool} (h : PlaceR (putE false g) (putE true g) g a b x i k ok) : ok = relG g a b x := by
  unfold relG relB
  rw [← List.isSome_find?]
  have e : (findsF (putE false g) (putE true g) g).find? (fun f => f.rel == x && f.a == (a : Int) && f.b == (b : Int)) = firstF x a b (findsF (putE false g) (putE true g) g) := rfl
  rw [e]
  rcases h with ⟨rfl, f, hf, _⟩ | ⟨rfl, hf⟩
  · rw [hf]; rfl
  · rw [hf]; rfl

/-- What the document's Of answers. -/
def ROfM (g : G) (w : World) (ro : Option Addr) : Prop := ((checkG g).1 = 0 ∧ ∃ R, ro = some ⟨R, 0, none⟩ ∧ RMatAt w R (g.ts.length + 1) (relN g)) ∨ ((checkG g).1 ≠ 0 ∧ ro = none)

/-- What it answers, and it lies in blocks from B on. -/
def ROfK (B : Nat) (g : G) (w : World) (ro : Option Addr) : Prop := ∀ W : World, (∀ k, B ≤ k → k < w.heap.size → W.heap[k]? = w.heap[k]?) → ROfM g W ro
theorem ROfK.here {B : Nat} {g : G} {w : World} {ro : Option Addr} (h : ROfK B g w ro) : ROfM g w ro := h w (fun _ _ _ => rfl)
theorem ROfK.keep {B : Nat} {g : G} {w w' : World} {ro : Option Addr} (h : ROfK B g w ro) (hs : w.heap.size ≤ w'.heap.size) (hk : ∀ k, B ≤ k → k < w.heap.size → w'.heap[k]? = w.heap[k]?) : ROfK B g w' ro :=
  fun W hW => h W (fun k h1 h2 => (hW k h1 (Nat.lt_of_lt_of_le h2 hs)).trans (hk k h1 h2))
theorem ROfK.below {B C : Nat} {g : G} {w w' : World} {ro : Option Addr} (h : ROfK B g w ro) (hb : Below C w w') (hC : w.heap.size ≤ C) : ROfK B g w' ro :=
  h.keep (hb.size) (fun k _ h2 => hb.block k (Nat.lt_of_lt_of_le h2 hC))

/-- The rows that were put. -/
structure RowsAt (w : World) (base R N : Nat) (g : G) (a : Nat) (v : Value) (lst : List Nat) : Prop where
  box : RowAt w R 84 #[.int .i64 (N : Int), v]
  row : w.ownsRow base 36 1 v a (lst.map (fun rb => .slice (some ⟨rb, 0, none⟩) N N))
  len : lst.length = a
  each : ∀ i rb, lst[i]? = some rb → R ≤ rb ∧ RowAt w rb 3 (rowL g N i N 0)

theorem RowsAt.below {w w' : World} {base R N a : Nat} {g : G} {v : Value} {lst : List Nat} (h : RowsAt w base R N g a v lst) {B : Nat} (hb : Below B w w') (hB : w.heap.size ≤ B) : RowsAt w' base R N g a v lst :=
  ⟨h.box.below hb (Nat.lt_of_lt_of_le h.box.lt hB), GramApart.own_below h.row (hb.mono hB), h.len, fun i rb hi => ⟨(h.each i rb hi).1, (h.each i rb hi).2.below hb (Nat.lt_of_lt_of_le (h.each i rb hi).2.lt hB)⟩⟩

theorem infoSl : (Tryz.prog.info? 36).map (fun i => (i.zero, i.size, i.bytes)) = some (some (.slice none 0 0), 1, 24) := by kernel_rfl

theorem rows_mat {w : World} {base R N : Nat} {g : G} {v : Value} {lst : List Nat} (h : RowsAt w base R N g N v lst) (h0 : 0 < N) {B : Nat} (hBR : B ≤ R) (hRb : R ≤ base) {W : World} (hW : ∀ k, B ≤ k → k < w.heap.size → W.heap[k]? = w.heap[k]?) : RMatAt W R N (relN g) := by
  have mv : ∀ {k : Nat} {t : TypeId} {cur : Array Value}, B ≤ k → RowAt w k t cur → RowAt W k t cur := fun hk hr => (hW _ hk hr.lt).trans hr
  have hl := h.len
  obtain ⟨_, ⟨_, h1⟩ | ⟨gb, cap, cur, rfl, hgb, hr, _, _, _, htk⟩⟩ := h.row
  · omega
  have hbox := mv hBR h.box
  refine ⟨hbox.cell rfl, gb, cap, hbox.cell rfl, fun a ha => ?_⟩
  obtain ⟨rb, hrb⟩ : ∃ rb, lst[a]? = some rb := ⟨lst[a]'(by omega), List.getElem?_eq_getElem (by omega)⟩
  have hrow := mv (Nat.le_trans hBR (h.each a rb hrb).1) (h.each a rb hrb).2
  have hr1 : RowAt w gb 36 cur := hr
  have hr2 := mv (by omega) hr1
  refine ⟨rb, hr2.cell ?_, fun b hb => ?_⟩
  · rw [← Array.getElem?_toList]
    have e : (cur.toList.take (N * 1))[a]? = cur.toList[a]? := by rw [List.getElem?_take, if_pos (by omega)]
    rw [← e, htk]
    simp [hrb]
  · have := hrow.cell (q := b) (rowL_get hb)
    rw [this]
    unfold rowF
    rw [if_pos hb]

set_option maxRecDepth 100000 in
set_option maxHeartbeats 8000000 in
theorem mof_any (ta na ra : Option Addr) (tc nc rc : Nat) (g : G) (w : World) (hG : GRow w ta na ra g) (ho : okG g) :
    Calls Tryz.prog 11 #[.agg #[.slice ta g.ts.length tc, .slice na g.ns.length nc, .int .i64 g.ax, .slice ra g.rs.length rc]] w fun e w' => (∃ ro, e = .returned (.tuple #[.pointer ro, .int .i64 ((checkG g).1 : Int), .int .i64 (ruI (checkG g).2)]) ∧ ROfK w.heap.size g w' ro) ∧ Below w.heap.size w w' := by
  have hB0 : Below w.heap.size w (w.alloc (.cells #[.slice ta g.ts.length tc, .slice na g.ns.length nc, .int .i64 g.ax, .slice ra g.rs.length rc] 25)) := (Below.refl _ _).alloc (Nat.le_refl _) _
  have hbx : RowAt (w.alloc (.cells #[.slice ta g.ts.length tc, .slice na g.ns.length nc, .int .i64 g.ax, .slice ra g.rs.length rc] 25)) w.heap.size 25 #[.slice ta g.ts.length tc, .slice na g.ns.length nc, .int .i64 g.ax, .slice ra g.rs.length rc] := heap_new _ _
  have hof := rof_any ta na ra tc nc rc g _ (hG.below hB0 (Nat.le_refl _)) ho
  go_enter Tryz.func11, Tryz.ntmps11
  go_wp2_with fail
  refine hof.mono ?_
  rintro e w1 ⟨⟨u, v, rfl, hV⟩, hb⟩
  have hB1 := hB0.trans (hb.mono hB0.size)
  replace hbx := hbx.below hb hbx.lt
  have hG1 := hG.below hB1 (Nat.le_refl _)
  clear hof hb hB0 hG
  by_cases h0 : (checkG g).1 = 0
  · have hgood := good_of h0
    have hck := check_none h0
    have hfew := hgood.few
    have hax0 := hgood.ax0
    have hax1 := hgood.ax1
    have H0 : Hid ((checkG g).1 = 0) := h0
    have HCK : Hid (checkG g = (0, none)) := hck
    obtain ⟨La, lc, Ra, rc', rfl, rfl, hL, hR⟩ : ∃ a c a' c', u = .slice a g.ns.length c ∧ v = .slice a' g.ns.length c' ∧ URow w1 a g.ns.length (putE false g) ∧ URow w1 a' g.ns.length (putE true g) := by
      rcases hV with ⟨_, h⟩ | ⟨h, _⟩
      · exact h
      · exact absurd h0 h
    have hne : (((checkG g).1 : Int) != 0) = false := by rw [h0]; rfl
    have HPl : Hid (∀ (a b : Nat) (x : Int) W, Below w1.heap.size w1 W → a ≤ g.ts.length → b ≤ g.ts.length → (x = 1 ∨ x = 2 ∨ x = 3) → Calls Tryz.prog 38 #[.agg #[.slice ta g.ts.length tc, .slice na g.ns.length nc, .int .i64 g.ax, .slice ra g.rs.length rc], .slice La g.ns.length lc, .slice Ra g.ns.length rc', .int .i64 (a : Int), .int .i64 (b : Int), .int .i64 x] W fun e w' => (∃ i k, e = .returned (.tuple #[.int .i64 i, .int .i64 k, .bool (relG g a b x)])) ∧ Below W.heap.size W w') := fun a b x W hW ha hb hx => by
      refine (rplace_any ta na ra tc nc rc g La Ra lc rc' (putE false g) (putE true g) a b x W (hG1.2.2.below hW (Nat.le_refl _)) hgood (hL.below hW (Nat.le_refl _)) (hR.below hW (Nat.le_refl _)) (putE_ends hgood) (putE_ends hgood) ha hb hx).mono ?_
      rintro e w' ⟨⟨i, k, ok, rfl, hp⟩, hb⟩
      rw [place_ok hp]
      exact ⟨⟨i, k, rfl⟩, hb⟩
    have HX : Hid (∀ W, Below w1.heap.size w1 W → RowAt W w.heap.size 25 #[.slice ta g.ts.length tc, .slice na g.ns.length nc, .int .i64 g.ax, .slice ra g.rs.length rc]) := fun W hW => hbx.below hW hbx.lt
    have g0 := hbx.cell (q := 0) rfl
    obtain ⟨N, hN⟩ : ∃ N, N = g.ts.length + 1 := ⟨_, rfl⟩
    have hN1 : (g.ts.length : Int) + 1 = (N : Int) := by omega
    have hN60 : N ≤ 60 := by omega
    have HN : Hid (_) := hN
    have hrx : RowAt (w1.alloc (.cells #[.int .i64 (N : Int), .slice none 0 0] 84)) w1.heap.size 84 #[.int .i64 (N : Int), .slice none 0 0] := heap_new _ _
    have hC0 : Below w1.heap.size w1 (w1.alloc (.cells #[.int .i64 (N : Int), .slice none 0 0] 84)) := (Below.refl _ _).alloc (Nat.le_refl _) _
    obtain ⟨i0, hi, hz0, hz1, hz2⟩ := info_parts infoSl
    have hmk := fun W => madeI_any N (by omega) W
    clear hN hV h0 hgood hL hR hG1 hbx hck
    go_wp2
    generalize w1.alloc (.cells #[.int .i64 (N : Int), .slice none 0 0] 84) = W0 at *
    go_loopw [11] (fun i wr => ∃ (a : Nat) (v : Value) (lst : List Nat), a ≤ N ∧ i = .int .i64 a ∧ RowsAt wr (w1.heap.size + 1) w1.heap.size N g a v lst ∧ Below w1.heap.size w1 wr) (fun i _ => N - (intOf i).toNat)
    case atStart => exact ⟨0, _, [], by omega, rfl, ⟨hrx, World.ownsRow_nil _ _ _ _, rfl, fun i rb hi => by cases hi⟩, hC0⟩
    case round =>
      clear hrx hC0 g0
      obtain ⟨a, v, lst, ha, rfl, hRs, hC⟩ := hrel
      by_cases hal : a < N
      · have hal2 : (a : Int) < (N : Int) := by omega
        have HAl : Hid (a < N) := hal
        have hrow0 := madeL_row g a wr N
        have hb0 : Below wr.heap.size wr (wr.alloc (.cells (madeCells #[.int .i64 0] N) 3)) := (Below.refl _ _).alloc (Nat.le_refl _) _
        clear hal
        go_wp2
        generalize wr.alloc (.cells (madeCells #[.int .i64 0] N) 3) = W2 at *
        obtain ⟨wo, hwo⟩ : ∃ wo, wo = wr := ⟨_, rfl⟩
        rw [← hwo] at hRs hC hrow0 hb0 ⊢
        clear hwo
        go_loopw [13] (fun i wr => ∃ b : Nat, b ≤ N ∧ i = .int .i64 b ∧ RowAt wr wo.heap.size 3 (rowL g N a b 0) ∧ Below wo.heap.size wo wr) (fun i _ => N - (intOf i).toNat)
        case atStart => exact ⟨0, by omega, rfl, hrow0, hb0⟩
        case round =>
          clear hrow0 hb0
          obtain ⟨b, hb, rfl, hrow, hD⟩ := hrel
          by_cases hbl : b < N
          · have hbl2 : (b : Int) < (N : Int) := by omega
            have HBl : Hid (b < N) := hbl
            clear hbl
            go_wp2
            go_loopw [14] (fun i wr => ∃ x : Nat, 1 ≤ x ∧ x ≤ 4 ∧ i = .int .i64 x ∧ RowAt wr wo.heap.size 3 (rowL g N a b (x - 1)) ∧ Below wo.heap.size wo wr) (fun i _ => 4 - (intOf i).toNat)
            case atStart => exact ⟨1, by omega, by omega, rfl, hrow, hD⟩
            case round =>
              clear hrow hD
              obtain ⟨x, hx1, hx4, rfl, hrow, hD⟩ := hrel
              by_cases hxl : x ≤ 3
              · have hxl2 : (x : Int) ≤ 3 := by omega
                have hC2 := hC.trans (hD.mono hC.size)
                have hxx := HX.out wr hC2
                have g0 := hxx.cell (q := 0) rfl
                have g1 := hxx.cell (q := 1) rfl
                have g2 := hxx.cell (q := 2) rfl
                have g3 := hxx.cell (q := 3) rfl
                have hpl := HPl.out a b x wr hC2 (by have := HN.out; have := HAl.out; omega) (by have := HN.out; have := HBl.out; omega) (by omega)
                clear hxx
                go_wp2_with fail
                refine hpl.mono ?_
                rintro e w5 ⟨⟨pi, pk, rfl⟩, hb5⟩
                have hrow5 := hrow.below hb5 hrow.lt
                have hD5 := hD.trans (hb5.mono hD.size)
                clear hpl g0 g1 g2 g3 hrow hD hb5 hC2
                cases hok : relG g a b (x : Int) with
                | false =>
                  have HR : Hid (relT (relG g a b) (x + 1 - 1) = relT (relG g a b) (x - 1)) := by
                    rcases (by omega : x = 1 ∨ x = 2 ∨ x = 3) with rfl | rfl | rfl
                    · exact (relT_one _).trans (by rw [show relG g a b 1 = false from hok]; simp)
                    · exact (relT_two _).trans (by rw [show relG g a b 2 = false from hok]; simp)
                    · exact (relT_three _).trans (by rw [show relG g a b 3 = false from hok]; simp)
                  have HRow : Hid (rowL g N a b (x + 1 - 1) = rowL g N a b (x - 1)) := by
                    show _ = _
                    unfold rowL rowF
                    rw [HR.out]
                  clear HR hok
                  go_wp2
                  go_roundw
                  case rel => exact ⟨x + 1, by omega, by omega, by go_num, by rw [HRow.out]; exact hrow5, hD5⟩
                  case measure => simp [intOf]; omega
                | true =>
                  have HR : Hid (relT (relG g a b) (x + 1 - 1) = relT (relG g a b) (x - 1) + 2 ^ (x - 1)) := by
                    rcases (by omega : x = 1 ∨ x = 2 ∨ x = 3) with rfl | rfl | rfl
                    · exact (relT_one _).trans (by rw [show relG g a b 1 = true from hok]; rfl)
                    · exact (relT_two _).trans (by rw [show relG g a b 2 = true from hok]; rfl)
                    · exact (relT_three _).trans (by rw [show relG g a b 3 = true from hok]; rfl)
                  have hbl3 := HBl.out
                  have hc := hrow5.cell (rowL_at hbl3)
                  have hf := hrow5.frozen b
                  have hset := hrow5.set b (.int .i64 (relT (relG g a b) (x + 1 - 1) : Int))
                  rw [rowL_set hbl3] at hset
                  rw [HR.out] at hset
                  have hsm := relT_lt (relG g a b) (x - 1)
                  obtain ⟨q, hq⟩ : ∃ q, q = relT (relG g a b) (x - 1) := ⟨_, rfl⟩
                  rw [← hq] at hc hset hsm
                  have hDs := hD5.setCell (p := ⟨wo.heap.size, b, none⟩) (Nat.le_refl _) (.int .i64 ((q + 2 ^ (x - 1) : Nat) : Int))
                  clear hq HR hok
                  have hbl4 : ¬ (N : Int) ≤ (b : Int) := by omega
                  rcases (by omega : x = 1 ∨ x = 2 ∨ x = 3) with rfl | rfl | rfl
                  · have e1 : ((q + 2 ^ (1 - 1) : Nat) : Int) = (q : Int) + 1 := by simp
                    rw [e1] at hset hDs
                    go_wp2
                    go_roundw
                    case rel => exact ⟨2, by omega, by omega, by go_num, hset, hDs⟩
                    case measure => simp [intOf]
                  · have e1 : ((q + 2 ^ (2 - 1) : Nat) : Int) = (q : Int) + 2 := by simp
                    rw [e1] at hset hDs
                    go_wp2
                    go_roundw
                    case rel => exact ⟨3, by omega, by omega, by go_num, hset, hDs⟩
                    case measure => simp [intOf]
                  · have e1 : ((q + 2 ^ (3 - 1) : Nat) : Int) = (q : Int) + 4 := by simp
                    rw [e1] at hset hDs
                    go_wp2
                    go_roundw
                    case rel => exact ⟨4, by omega, by omega, by go_num, hset, hDs⟩
                    case measure => simp [intOf]
              · have hxl2 : ¬ (x : Int) ≤ 3 := by omega
                obtain rfl : x = 4 := by omega
                have hrow2 : RowAt wr wo.heap.size 3 (rowL g N a (b + 1) 0) := by rw [← rowL_next]; exact hrow
                have hbl3 := HBl.out
                clear hrow
                go_wp2
                go_roundw
                case rel => exact ⟨b + 1, by omega, by go_num, hrow2, hD⟩
                case measure => simp [intOf]; omega
          · have hbl2 : ¬ (b : Int) < (N : Int) := by omega
            obtain rfl : N = b := by omega
            have hal3 := HAl.out
            have hRs2 := hRs.below hD (Nat.le_refl _)
            have hC2 := hC.trans (hD.mono hC.size)
            have hs2 := hC2.size
            have m0 := hRs2.box.cell (q := 0) rfl
            have m1 := hRs2.box.cell (q := 1) rfl
            have f1 := hRs2.box.frozen 1
            have hlow := hRs2.box.lt
            have hla : lst.length = a := hRs2.len
            have ha60 : a ≤ 60 := by omega
            have HRow : Hid (RowAt wr wo.heap.size 3 (rowL g N a N 0)) := hrow
            have HRs : Hid (_) := hRs2
            have hown := hRs2.row
            clear hRs hRs2 hrow hla
            go_wp2_with (at_builtin; refine wpList_append_own _ rfl _ _ 59 rfl (w1.heap.size + 1) 36 i0 (.slice none 0 0) 1 24 Tryz.underlying59 hi hz0 hz1 hz2 rfl (by decide) _ _ _ rfl (hown.alloc _) ⟨wr.heap.size, 0, none⟩ 1 1 [.slice (some ⟨wo.heap.size, 0, none⟩) N N] rfl rfl (cells_new wr #[.slice (some ⟨wo.heap.size, 0, none⟩) N N] 36) (by simp [Value.oneCell']) (by unfold maxLen; omega) (by omega) (by simp; omega) ?_; intro v' w9 hown' hgrow _; obtain ⟨g9, c9, rfl⟩ := ownsRow_succ hown'; have hbx9 := (HRs.out.box.alloc (.cells #[.slice (some ⟨wo.heap.size, 0, none⟩) N N] 36)).grown hgrow ((HRs.out.box.alloc (.cells #[.slice (some ⟨wo.heap.size, 0, none⟩) N N] 36)).not_own (by decide) (hown.alloc _)); have m9 := hbx9.cell (q := 1) rfl; have f9 := hbx9.frozen 1)
            have hne9 : ∀ rb cur, RowAt wr rb 3 cur → RowAt (w9.setCell ⟨w1.heap.size, 1, none⟩ (.slice (some ⟨g9, 0, none⟩) (a + 1) c9)) rb 3 cur := fun rb cur h =>
              have h2 := (h.alloc (.cells #[.slice (some ⟨wo.heap.size, 0, none⟩) N N] 36)).grown hgrow ((h.alloc (.cells #[.slice (some ⟨wo.heap.size, 0, none⟩) N N] 36)).not_own (by decide) (hown.alloc (.cells #[.slice (some ⟨wo.heap.size, 0, none⟩) N N] 36)))
              h2.other (b' := w1.heap.size) (fun e => h2.ne hbx9 (by decide) e) 1 (.slice (some ⟨g9, 0, none⟩) (a + 1) c9)
            have hRn : RowsAt (w9.setCell ⟨w1.heap.size, 1, none⟩ (.slice (some ⟨g9, 0, none⟩) (a + 1) c9)) (w1.heap.size + 1) w1.heap.size N g (a + 1) (.slice (some ⟨g9, 0, none⟩) (a + 1) c9) (lst ++ [wo.heap.size]) := by
              refine ⟨hbx9.set 1 _, ?_, by rw [List.length_append, HRs.out.len]; rfl, fun i rb hi2 => ?_⟩
              · rw [List.map_append]
                exact ownsRow_setCell_below hown' (a := ⟨w1.heap.size, 1, none⟩) (show w1.heap.size < w1.heap.size + 1 by omega) _
              · by_cases hil : i < lst.length
                · rw [List.getElem?_append_left hil] at hi2
                  exact ⟨(HRs.out.each i rb hi2).1, hne9 _ _ (HRs.out.each i rb hi2).2⟩
                · have hlt2 := (List.getElem?_eq_some_iff.1 hi2).1
                  rw [List.length_append] at hlt2
                  simp at hlt2
                  obtain rfl : i = lst.length := by omega
                  rw [List.getElem?_append_right (Nat.le_refl _), Nat.sub_self] at hi2
                  obtain rfl : wo.heap.size = rb := by simpa using hi2
                  rw [HRs.out.len]
                  exact ⟨hC.size, hne9 _ _ HRow.out⟩
            have hC9 := ((hC2.alloc hs2 (.cells #[.slice (some ⟨wo.heap.size, 0, none⟩) N N] 36)).grown hgrow (by simp; omega) (fun j hj => by have := (hown.lt j hj).1; omega)).setCell (p := ⟨w1.heap.size, 1, none⟩) (Nat.le_refl _) (.slice (some ⟨g9, 0, none⟩) (a + 1) c9)
            go_roundw
            case rel => exact ⟨a + 1, _, _, by omega, by go_num, hRn, hC9⟩
            case measure => simp [intOf]; omega
      · have hal2 : ¬ (a : Int) < (N : Int) := by omega
        obtain rfl : N = a := by omega
        have hmat : ∀ W : World, (∀ k, w.heap.size ≤ k → k < wr.heap.size → W.heap[k]? = wr.heap[k]?) → RMatAt W w1.heap.size N (relN g) := fun W hW => rows_mat hRs (by have := HN.out; omega) hB1.size (Nat.le_succ _) hW
        rw [HN.out] at hmat
        have hO : Hid (ROfK w.heap.size g wr (some ⟨w1.heap.size, 0, none⟩)) := fun W hW => .inl ⟨H0.out, _, rfl, hmat W hW⟩
        have hBe := hB1.trans (hC.mono hB1.size)
        clear hmat hRs
        go_wp2
        refine bodyPost_ret (v := .tuple #[.pointer (some ⟨w1.heap.size, 0, none⟩), .int .i64 0, .int .i64 (-1)]) (by simp [results, Tryz.results11, go_sem]; try rfl) rfl ?_
        exact ⟨⟨_, by rw [HCK.out]; rfl, hO.out⟩, hBe⟩
  · have hne : (((checkG g).1 : Int) != 0) = true := by simp; omega
    have hO : Hid (ROfK w.heap.size g w1 none) := fun W hW => .inr ⟨h0, rfl⟩
    clear h0
    go_wp2
    refine bodyPost_ret (v := .tuple #[.pointer none, .int .i64 ((checkG g).1 : Int), .int .i64 (ruI (checkG g).2)]) (by simp [results, Tryz.results11, go_sem]; try rfl) rfl ?_
    exact ⟨⟨_, rfl, hO.out⟩, hB1⟩

end Go.Proofs.YtigepihinflkdaaGreatDoor.MatrixRT
