/-
  The program's levels of a net, along an order.
-/
import Derived.Test.YtgllcbajgndldaaDoorGraphBack
namespace Go.Proofs.YtgllcbajgndldaaDoor.GraphNet
open Go.RowKit Go.Shelf Go.Sort Go.Proofs.YtgllcbajgndldaaDoor.GramMath Go.Proofs.YtgllcbajgndldaaDoor.GramRow Go.Proofs.YtgllcbajgndldaaDoor.GramApart Go.Proofs.YtgllcbajgndldaaDoor.GraphMath Go.Proofs.YtgllcbajgndldaaDoor.GraphFn Go.Proofs.YtgllcbajgndldaaDoor.GraphSort Go.Proofs.YtgllcbajgndldaaDoor.OpRow Go.Proofs.YtgllcbajgndldaaDoor.GramErrs Go.Proofs.YtgllcbajgndldaaDoor.EndsMath Go.Proofs.YtgllcbajgndldaaDoor.RoundAny Go.Proofs.YtgllcbajgndldaaDoor.GraphBack
set_option linter.unusedVariables false
set_option linter.unusedSimpArgs false
attribute [local go_sem] Oper.semAt_some

def levOne (x : Nat) (f : Nat → Int) (ys : List Nat) : Nat → Int := ys.foldl (fun f y => updA f x (max (f x) (f y + 1))) f
def levF (A : Nat → List Nat) (xs : List Nat) : Nat → Int := xs.foldl (fun f x => levOne x f (A x)) (fun _ => 0)
def levL (A : Nat → List Nat) (L : List Nat) : Nat → Int := levF A L.reverse
theorem levOne_snoc (x : Nat) (f : Nat → Int) (ys : List Nat) (y : Nat) : levOne x f (ys ++ [y]) = updA (levOne x f ys) x (max (levOne x f ys x) (levOne x f ys y + 1)) := by simp [levOne]
theorem levF_snoc (A : Nat → List Nat) (xs : List Nat) (x : Nat) : levF A (xs ++ [x]) = levOne x (levF A xs) (A x) := by simp [levF]

def Bnd (f : Nat → Int) (N : Nat) : Prop := ∀ y, 0 ≤ f y ∧ f y ≤ N
theorem levOne_bnd {x : Nat} : ∀ (ys : List Nat) {f : Nat → Int} {N : Nat}, Bnd f N → Bnd (levOne x f ys) (N + ys.length)
  | [], f, N, h => h
  | y :: ys, f, N, h => by
    have h2 : Bnd (updA f x (max (f x) (f y + 1))) (N + 1) := fun z => by
      by_cases e : z = x
      · subst e; rw [updA_at]; have := h z; have := h y; omega
      · rw [updA_ne _ _ e]; have := h z; omega
    have := levOne_bnd (x := x) ys h2
    rw [List.length_cons, show N + (ys.length + 1) = N + 1 + ys.length by omega]
    exact this
theorem levF_bnd0 {A : Nat → List Nat} {m : Nat} (hA : ∀ a, (A a).length ≤ m) : ∀ (xs : List Nat) (f : Nat → Int) (N : Nat), Bnd f N → Bnd (xs.foldl (fun f x => levOne x f (A x)) f) (N + m * xs.length)
  | [], f, N, h => h
  | x :: xs, f, N, h => by
    have h1 := levOne_bnd (x := x) (A x) h
    have h2 := levF_bnd0 hA xs (levOne x f (A x)) (N + m) (fun y => by have := h1 y; have := hA x; omega)
    rw [List.length_cons, Nat.mul_add, show N + (m * xs.length + m * 1) = N + m + m * xs.length by omega]
    exact h2
theorem levF_bnd {A : Nat → List Nat} {m : Nat} (hA : ∀ a, (A a).length ≤ m) (xs : List Nat) : Bnd (levF A xs) (m * xs.length) := by
  have := levF_bnd0 hA xs (fun _ => 0) 0 (fun y => by simp)
  rw [Nat.zero_add] at this
  exact this

def rowOf (m : Nat) (f : Nat → Int) : List Int := (List.range m).map f
theorem rowOf_length (m : Nat) (f : Nat → Int) : (rowOf m f).length = m := by simp [rowOf]
theorem rowOf_get {m i : Nat} (f : Nat → Int) (h : i < m) : (rowOf m f)[i]? = some (f i) := by simp [rowOf, h]
theorem rowOf_set (m : Nat) (f : Nat → Int) (k : Nat) (z : Int) : (rowOf m f).set k z = rowOf m (updA f k z) := by
  apply List.ext_getElem?
  intro i
  rw [List.getElem?_set]
  by_cases e : k = i
  · subst e
    rw [if_pos rfl, rowOf_length]
    by_cases h : k < m
    · rw [if_pos h, rowOf_get _ h, updA_at]
    · rw [if_neg h, List.getElem?_eq_none (by rw [rowOf_length]; omega)]
  · rw [if_neg e]
    by_cases h : i < m
    · rw [rowOf_get _ h, rowOf_get _ h, updA_ne _ _ (fun h => e h.symm)]
    · rw [List.getElem?_eq_none (by rw [rowOf_length]; omega), List.getElem?_eq_none (by rw [rowOf_length]; omega)]
theorem rowOf_zero (m : Nat) : rowOf m (fun _ => 0) = List.replicate m 0 := by
  apply List.ext_getElem?
  intro i
  by_cases h : i < m
  · rw [rowOf_get _ h, List.getElem?_replicate, if_pos h]
  · rw [List.getElem?_eq_none (by rw [rowOf_length]; omega), List.getElem?_eq_none (by simp; omega)]

theorem but_on {S : Nat → Prop} {w w' w'' : World} {B : Nat} (h : But S w w') (h2 : Below B w' w'') (hB : w.heap.size ≤ B) : But S w w'' :=
  ⟨h2.os.trans h.os, h2.tape.trans h.tape, h2.output.trans h.output, Nat.le_trans h.size h2.size, fun k hk hs => (h2.block k (by omega)).trans (h.block k hk hs)⟩

/-- What is known between two rounds. -/
structure LevI (w0 : World) (b1 m : Nat) (f : Nat → Int) (W : World) : Prop where
  row : RowAt W b1 3 (intsA (rowOf m f))
  but : But (fun b => b = b1) w0 W

theorem LevI.keep {w0 : World} {b1 m : Nat} {f : Nat → Int} {W W' : World} (h : LevI w0 b1 m f W) (hb1 : b1 < w0.heap.size) (hb : Below w0.heap.size W W') : LevI w0 b1 m f W' :=
  ⟨(hb.block b1 hb1).trans h.row, but_on h.but hb (Nat.le_refl _)⟩
theorem LevI.set {w0 : World} {b1 m : Nat} {f : Nat → Int} {W : World} (h : LevI w0 b1 m f W) (x : Nat) (z : Int) : LevI w0 b1 m (updA f x z) (W.setCell ⟨b1, x, none⟩ (.int .i64 z)) := by
  refine ⟨?_, h.but.setCell (p := ⟨b1, x, none⟩) rfl _⟩
  have := h.row.set x (.int .i64 z)
  rw [intsA_set, rowOf_set] at this
  exact this
theorem LevI.cell {w0 : World} {b1 m : Nat} {f : Nat → Int} {W : World} (h : LevI w0 b1 m f W) {x : Nat} (hx : x < m) : W.cell? ⟨b1, x, none⟩ = some (.int .i64 (f x)) := h.row.cell (intsA_get (rowOf_get f hx))

set_option maxRecDepth 100000 in
set_option maxHeartbeats 4000000 in
theorem levels_any (bg m gc : Nat) (A : Nat → List Nat) (oa : Option Addr) (oc : Nat) (L : List Nat) (w : World) (hN : NetR w bg m (fun a => ints (A a))) (hA : ∀ a, (∀ y ∈ A a, y < m) ∧ (A a).length ≤ m) (hm : m ≤ 256) (hR : IRow w oa (ints L)) (hL : ∀ x ∈ L, x < m) (hLl : L.length ≤ m) :
    Calls Tryd.prog 20 #[.slice (some ⟨bg, 0, none⟩) m gc, .slice oa L.length oc] w fun e w' => e = .returned (.slice (some ⟨w.heap.size + 1, 0, none⟩) m m) ∧ RowAt w' (w.heap.size + 1) 3 (intsA (rowOf m (levL A L))) ∧ Below w.heap.size w w' := by
  refine (callsIn_wide (n := 6)).1 ?_
  have hmk := madeI_any m (by omega) (w.alloc (.cells #[.slice (some ⟨bg, 0, none⟩) m gc] 46))
  refine callsIn_of_wp_marks Tryd.func20 rfl trivial ?_ rfl
  simp only [Tryd.ntmps20, List.size_toArray, List.length_cons, List.length_nil, Nat.reduceAdd, Nat.reduceSub, Array.replicate_succ, Array.replicate_zero, List.push_toArray, List.append_toArray, List.nil_append, List.cons_append]
  have hbk := backward_any oa L.length oc (((w.alloc (.cells #[.slice (some ⟨bg, 0, none⟩) m gc] 46)).alloc (.cells (madeCells #[.int .i64 0] m) 3)).alloc (.cells #[.slice (some ⟨w.heap.size + 1, 0, none⟩) m m] 24))
  gi_wp2_with fail
  refine ⟨trivial, (callsIn_wide.2 hbk).mono ?_⟩
  rintro e w0 ⟨rfl, hw0⟩
  have z3 : (((w.alloc (.cells #[.slice (some ⟨bg, 0, none⟩) m gc] 46)).alloc (.cells (madeCells #[.int .i64 0] m) 3)).alloc (.cells #[.slice (some ⟨w.heap.size + 1, 0, none⟩) m m] 24)).heap.size = w.heap.size + 3 := by simp
  rw [z3]
  have hB0 : Below w.heap.size w w0 := by rw [hw0]; exact ((((Below.refl _ _).alloc (Nat.le_refl _) _).alloc (by simp) _).alloc (by simp <;> omega) _).alloc (by simp <;> omega) _
  have hz0 : w0.heap.size = w.heap.size + 4 := by rw [hw0]; simp
  have r0 : RowAt w0 w.heap.size 46 #[.slice (some ⟨bg, 0, none⟩) m gc] := by
    rw [hw0]
    exact (Below.heap_alloc _ _ _ (by simp <;> omega)).trans ((Below.heap_alloc _ _ _ (by simp <;> omega)).trans ((Below.heap_alloc _ _ _ (by simp)).trans (heap_new _ _)))
  have r1 : RowAt w0 (w.heap.size + 1) 3 (intsA (rowOf m (levF A []))) := by
    rw [hw0]
    have h := made_row (w.alloc (.cells #[.slice (some ⟨bg, 0, none⟩) m gc] 46)) m 3
    rw [World.size_alloc] at h
    rw [show levF A [] = (fun _ => 0) from rfl, rowOf_zero]
    exact (Below.heap_alloc _ _ _ (by simp <;> omega)).trans ((Below.heap_alloc _ _ _ (by simp)).trans h)
  have r2 : RowAt w0 (w.heap.size + 2) 24 #[.slice (some ⟨w.heap.size + 1, 0, none⟩) m m] := by
    rw [hw0]
    have h := heap_new ((w.alloc (.cells #[.slice (some ⟨bg, 0, none⟩) m gc] 46)).alloc (.cells (madeCells #[.int .i64 0] m) 3)) (.cells #[.slice (some ⟨w.heap.size + 1, 0, none⟩) m m] 24)
    rw [World.size_alloc, World.size_alloc] at h
    exact (Below.heap_alloc _ _ _ (by simp)).trans h
  have r3 : RowAt w0 (w.heap.size + 3) 24 #[.slice oa L.length oc] := by
    rw [hw0]
    have h := heap_new (((w.alloc (.cells #[.slice (some ⟨bg, 0, none⟩) m gc] 46)).alloc (.cells (madeCells #[.int .i64 0] m) 3)).alloc (.cells #[.slice (some ⟨w.heap.size + 1, 0, none⟩) m m] 24)) (.cells #[.slice oa L.length oc] 24)
    rw [z3] at h
    exact h
  have HI0 : Hid (LevI w0 (w.heap.size + 1) m (levF A (L.reverse.take 0)) w0) := ⟨r1, But.refl _ _⟩
  have hRd : Hid (∀ f W, LevI w0 (w.heap.size + 1) m f W → Below w.heap.size w W ∧ RowAt W w.heap.size 46 #[.slice (some ⟨bg, 0, none⟩) m gc] ∧ RowAt W (w.heap.size + 2) 24 #[.slice (some ⟨w.heap.size + 1, 0, none⟩) m m] ∧ RowAt W (w.heap.size + 3) 24 #[.slice oa L.length oc] ∧ NetR W bg m (fun a => ints (A a)) ∧ IRow W oa (ints L)) := fun f W h => by
    have hb : Below w.heap.size w W := hB0.trans (h.but.below (by omega) (fun k hk => by omega))
    exact ⟨hb, RowAt.but r0 h.but (by omega), RowAt.but r2 h.but (by omega), RowAt.but r3 h.but (by omega), NetR.below hN hb (Nat.le_refl _), IRow.below hR hb (Nat.le_refl _)⟩
  have hN' : ∀ x, x < m → ∃ ra0 rc0, w.cell? ⟨bg, x, none⟩ = some (.slice ra0 (ints (A x)).length rc0) ∧ IRow w ra0 (ints (A x)) := hN
  replace hN' : Hid (_) := hN'
  have HA : Hid (∀ a, (∀ y ∈ A a, y < m) ∧ (A a).length ≤ m) := hA
  have HL : Hid (∀ x ∈ L, x < m) := hL
  clear hbk hw0 z3 hB0 r0 r1 r2 r3 hN hR hmk hA hL
  gi_wp2_with fail
  refine' range_back 6 (by omega) (w.heap.size + 3) oa oc (ints L) (by rw [ints_length]; omega) rfl rfl
    (fun j W => LevI w0 (w.heap.size + 1) m (levF A (L.reverse.take j)) W) (fun j W h => by
      obtain ⟨_, _, _, h3, _, h5⟩ := hRd.out _ _ h
      rw [ints_length]
      exact ⟨h3.cell rfl, h5⟩) (fun j W W' h _ hb => h.keep (by omega) hb) HI0.out _ ?assign1 ?body1 ?done1
  case assign1 =>
    intro l2 i x W K hK
    gi_wp2
    exact hK
  case body1 =>
    rintro l2 j i xv W hI hji hxi
    rw [ints_length] at hji
    rw [ints_get] at hxi
    obtain ⟨x, hx1, hx2⟩ := Option.map_eq_some_iff.1 hxi
    subst hx2
    have hxm := HL.out x (List.mem_of_getElem? hx1)
    have hxm2 : (x : Int) < (m : Int) := by omega
    obtain ⟨hBw, q0, q2, _, hNW, _⟩ := hRd.out _ _ hI
    obtain ⟨ra, rc, hrc, hrr⟩ := hNW x hxm
    have c0 : W.cell? ⟨w.heap.size, 0, none⟩ = some (.slice (some ⟨bg, 0, none⟩) m gc) := q0.cell rfl
    obtain ⟨hAx, hAl⟩ := HA.out x
    have hAl2 : (ints (A x)).length ≤ m := by rw [ints_length]; exact hAl
    have HLA : Hid ((ints (A x)).length = (A x).length) := ints_length _
    have Estep : Hid (levF A (L.reverse.take (j + 1)) = levOne x (levF A (L.reverse.take j)) (A x)) := by
      show _ = _
      have e : L.reverse[j]? = some x := by
        rw [List.getElem?_reverse (by omega), show L.length - 1 - j = i by omega]
        exact hx1
      rw [List.take_add_one, e]
      exact levF_snoc _ _ _
    have hbnd : Hid (Bnd (levF A (L.reverse.take j)) 65536) := fun y => by
      have h := levF_bnd (fun a => (HA.out a).2) (L.reverse.take j) y
      have h2 : (L.reverse.take j).length ≤ 256 := by simp; omega
      have h3 : m * (L.reverse.take j).length ≤ 256 * 256 := Nat.mul_le_mul hm h2
      omega
    have hsub : Hid (∀ f W9, LevI w0 (w.heap.size + 1) m f W9 → IRow W9 ra (ints (A x))) := fun f W9 h9 => by
      obtain ⟨hB9, _, _, _, hN9, _⟩ := hRd.out _ _ h9
      obtain ⟨ra', rc', hrc', hrr'⟩ := hN9 x hxm
      have hlt := cell_lt hrc
      have e1 : W9.cell? ⟨bg, x, none⟩ = W.cell? ⟨bg, x, none⟩ := by
        have hbgw : bg < w.heap.size := by
          obtain ⟨ra0, rc0, hrc0, hrr0⟩ := hN'.out x hxm
          exact cell_lt hrc0
        exact (hB9.cell (p := ⟨bg, x, none⟩) hbgw).trans (hBw.cell (p := ⟨bg, x, none⟩) hbgw).symm
      rw [e1, hrc] at hrc'
      cases hrc'
      exact hrr'
    generalize levF A (L.reverse.take j) = f at *
    obtain ⟨Lx, hLx⟩ : ∃ Lx, Lx = (ints (A x)).length := ⟨_, rfl⟩
    rw [← hLx] at hrc hAl2 HLA
    have HI : Hid (LevI w0 (w.heap.size + 1) m (levOne x f ((A x).take 0)) W ∧ KeepsLo W W) := ⟨hI, KeepsLo.refl W⟩
    have HAX : Hid (∀ y ∈ A x, y < m) := hAx
    clear hI hBw q0 q2 hNW hrr hAx hx1 hxi hLx hji hAl
    gi_wp2
    gi_loopw [22] (fun s wr => ∃ k : Nat, k ≤ Lx ∧ s = .int .i64 (k : Int) ∧ Hid (LevI w0 (w.heap.size + 1) m (levOne x f ((A x).take k)) wr ∧ KeepsLo W wr)) (fun s _ => Lx - (intOf s).toNat)
    case atStart => exact ⟨0, by omega, rfl, HI⟩
    case round =>
      clear HI hrc c0
      obtain ⟨k, hk, rfl, hI⟩ := hrel
      by_cases hlt : k < Lx
      · obtain ⟨y, hy1⟩ : ∃ y, (A x)[k]? = some y := ⟨(A x)[k]'(by rw [← HLA.out]; exact hlt), List.getElem?_eq_getElem _⟩
        have hym := HAX.out y (List.mem_of_getElem? hy1)
        obtain ⟨yb, yo, rfl, hcy⟩ := hsub.out _ _ hI.out.1 k (y : Int) (by rw [ints_get, hy1]; rfl)
        have hlt2 : (k : Int) < (Lx : Int) := by omega
        have hym2 : (y : Int) < (m : Int) := by omega
        have hId : LevI w0 (w.heap.size + 1) m (levOne x f ((A x).take k)) wr.drew := hI.out.1.keep (by omega) (drew_below wr 1)
        have hLod : KeepsLo W wr.drew := hI.out.2.trans ⟨Nat.le_refl _, fun _ _ h _ => h⟩
        have hb := levOne_bnd (x := x) ((A x).take k) hbnd.out
        have hbx := hb x
        have hby := hb y
        have hkl : ((A x).take k).length ≤ 256 := by simp; omega
        have l1 := hId.cell hxm
        have l2 := hId.cell hym
        have fz := hId.row.frozen x
        have l0 : wr.drew.cell? ⟨w.heap.size + 1 + 1, 0, none⟩ = some (.slice (some ⟨w.heap.size + 1, 0, none⟩) m m) := (hRd.out _ _ hId).2.2.1.cell rfl
        have hfin : Hid (∀ z, z = max (levOne x f ((A x).take k) x) (levOne x f ((A x).take k) y + 1) → LevI w0 (w.heap.size + 1) m (levOne x f ((A x).take (k + 1))) (wr.drew.setCell ⟨w.heap.size + 1, x, none⟩ (.int .i64 z)) ∧ KeepsLo W (wr.drew.setCell ⟨w.heap.size + 1, x, none⟩ (.int .i64 z))) := fun z hz => by
          rw [List.take_add_one, hy1]
          show LevI w0 (w.heap.size + 1) m (levOne x f ((A x).take k ++ [y])) _ ∧ _
          rw [levOne_snoc, ← hz]
          refine ⟨hId.set x z, hLod.trans ⟨by simp, fun i o hi ho => ?_⟩⟩
          have hne : i ≠ w.heap.size + 1 := fun e => by
            subst e
            rw [show wr.drew.heap[w.heap.size + 1]? = some (.cells _ 3 (0, 0)) from hId.row] at hi
            cases hi
            cases ho
          rw [Below.heap_setCell _ _ _ _ hne]
          exact hi
        generalize levOne x f ((A x).take k) x = fx at *
        generalize levOne x f ((A x).take k) y = fy at *
        obtain ⟨z, hz⟩ : ∃ z : Int, z = max fx (fy + 1) := ⟨_, rfl⟩
        have hfz := hfin.out z hz
        replace hfz : Hid (_) := hfz
        have hzb : -9223372036854775808 ≤ fy + 1 ∧ fy + 1 < 9223372036854775808 := by omega
        have Hz : Hid (z = max fx (fy + 1)) := hz
        obtain ⟨hzb1, hzb2⟩ := hzb
        have w1 : IntKind.i64.wrap (fy + 1) = fy + 1 := by rw [IntKind.wrap_i64]; omega
        clear hI hy1 hId hLod hb hfin hsub hbx hby hz
        gi_wp2_with fail
        refine region_Z_round (S := (fun w9 => w9.cell? ⟨w.heap.size + 1 + 1, 0, none⟩ = some (.slice (some ⟨w.heap.size + 1, 0, none⟩) m m) ∧ w9.cell? ⟨w.heap.size + 1, x, none⟩ = some (.int .i64 fx) ∧ w9.cell? ⟨w.heap.size + 1, y, none⟩ = some (.int .i64 fy))) 13 (fun ⟨_, _, h9⟩ => (show False from h9)) (by kernel_rfl) (by kernel_rfl) ⟨l0, l1, l2⟩ (fun hHeld => ?_)
        generalize wr.drew = Wd at *
        refine OrdersZ.takeZ (i := 0) (v := .slice (some ⟨w.heap.size + 1, 0, none⟩) m m) rfl (by kernel_rfl) (by kernel_rfl) (by kernel_rfl) (by kernel_rfl) (by kernel_rfl) (fun _ _ _ h => h) (Or.inl ⟨by rfl, fun w9 hSw => ?_⟩) hHeld ?_
        · obtain ⟨s0, s1, s2⟩ := hSw
          go_simp
        simp only [List.getElem_toArray, List.getElem_cons_zero, List.getElem_cons_succ, Act.put, List.setIfInBounds_toArray, List.set_cons_zero, List.set_cons_succ]
        refine OrdersZ.takeZ (i := 1) (v := .int .i64 (x : Int)) rfl (by kernel_rfl) (by kernel_rfl) (by kernel_rfl) (by kernel_rfl) (by kernel_rfl) (fun _ _ _ h => h) (Or.inl ⟨by rfl, fun w9 hSw => ?_⟩) hHeld ?_
        · obtain ⟨s0, s1, s2⟩ := hSw
          go_simp
        simp only [List.getElem_toArray, List.getElem_cons_zero, List.getElem_cons_succ, Act.put, List.setIfInBounds_toArray, List.set_cons_zero, List.set_cons_succ]
        refine OrdersZ.takeZ (i := 2) (v := .slice (some ⟨w.heap.size + 1, 0, none⟩) m m) rfl (by kernel_rfl) (by kernel_rfl) (by kernel_rfl) (by kernel_rfl) (by kernel_rfl) (fun _ _ _ h => h) (Or.inl ⟨by rfl, fun w9 hSw => ?_⟩) hHeld ?_
        · obtain ⟨s0, s1, s2⟩ := hSw
          go_simp
        simp only [List.getElem_toArray, List.getElem_cons_zero, List.getElem_cons_succ, Act.put, List.setIfInBounds_toArray, List.set_cons_zero, List.set_cons_succ]
        refine OrdersZ.takeZ (i := 3) (v := .int .i64 (x : Int)) rfl (by kernel_rfl) (by kernel_rfl) (by kernel_rfl) (by kernel_rfl) (by kernel_rfl) (fun _ _ _ h => h) (Or.inl ⟨by rfl, fun w9 hSw => ?_⟩) hHeld ?_
        · obtain ⟨s0, s1, s2⟩ := hSw
          go_simp
        simp only [List.getElem_toArray, List.getElem_cons_zero, List.getElem_cons_succ, Act.put, List.setIfInBounds_toArray, List.set_cons_zero, List.set_cons_succ]
        refine OrdersZ.takeZ (i := 4) (v := .pointer (some ⟨w.heap.size + 1, x, none⟩)) rfl (by kernel_rfl) (by kernel_rfl) (by kernel_rfl) (by kernel_rfl) (by kernel_rfl) (fun _ _ _ h => h) (Or.inl ⟨by rfl, fun w9 hSw => ?_⟩) hHeld ?_
        · obtain ⟨s0, s1, s2⟩ := hSw
          go_simp
        simp only [List.getElem_toArray, List.getElem_cons_zero, List.getElem_cons_succ, Act.put, List.setIfInBounds_toArray, List.set_cons_zero, List.set_cons_succ]
        refine OrdersZ.takeZ (i := 5) (v := .int .i64 fx) rfl (by kernel_rfl) (by kernel_rfl) (by kernel_rfl) (by kernel_rfl) (by kernel_rfl) (fun _ _ _ h => h) (Or.inl ⟨by rfl, fun w9 hSw => ?_⟩) hHeld ?_
        · obtain ⟨s0, s1, s2⟩ := hSw
          go_simp
        simp only [List.getElem_toArray, List.getElem_cons_zero, List.getElem_cons_succ, Act.put, List.setIfInBounds_toArray, List.set_cons_zero, List.set_cons_succ]
        refine OrdersZ.takeZ (i := 6) (v := .slice (some ⟨w.heap.size + 1, 0, none⟩) m m) rfl (by kernel_rfl) (by kernel_rfl) (by kernel_rfl) (by kernel_rfl) (by kernel_rfl) (fun _ _ _ h => h) (Or.inl ⟨by rfl, fun w9 hSw => ?_⟩) hHeld ?_
        · obtain ⟨s0, s1, s2⟩ := hSw
          go_simp
        simp only [List.getElem_toArray, List.getElem_cons_zero, List.getElem_cons_succ, Act.put, List.setIfInBounds_toArray, List.set_cons_zero, List.set_cons_succ]
        refine OrdersZ.takeZ (i := 7) (v := .int .i64 (y : Int)) rfl (by kernel_rfl) (by kernel_rfl) (by kernel_rfl) (by kernel_rfl) (by kernel_rfl) (fun _ _ _ h => h) (Or.inl ⟨by rfl, fun w9 hSw => ?_⟩) hHeld ?_
        · obtain ⟨s0, s1, s2⟩ := hSw
          go_simp
        simp only [List.getElem_toArray, List.getElem_cons_zero, List.getElem_cons_succ, Act.put, List.setIfInBounds_toArray, List.set_cons_zero, List.set_cons_succ]
        refine OrdersZ.takeZ (i := 8) (v := .pointer (some ⟨w.heap.size + 1, y, none⟩)) rfl (by kernel_rfl) (by kernel_rfl) (by kernel_rfl) (by kernel_rfl) (by kernel_rfl) (fun _ _ _ h => h) (Or.inl ⟨by rfl, fun w9 hSw => ?_⟩) hHeld ?_
        · obtain ⟨s0, s1, s2⟩ := hSw
          go_simp
        simp only [List.getElem_toArray, List.getElem_cons_zero, List.getElem_cons_succ, Act.put, List.setIfInBounds_toArray, List.set_cons_zero, List.set_cons_succ]
        refine OrdersZ.takeZ (i := 9) (v := .int .i64 fy) rfl (by kernel_rfl) (by kernel_rfl) (by kernel_rfl) (by kernel_rfl) (by kernel_rfl) (fun _ _ _ h => h) (Or.inl ⟨by rfl, fun w9 hSw => ?_⟩) hHeld ?_
        · obtain ⟨s0, s1, s2⟩ := hSw
          go_simp
        simp only [List.getElem_toArray, List.getElem_cons_zero, List.getElem_cons_succ, Act.put, List.setIfInBounds_toArray, List.set_cons_zero, List.set_cons_succ]
        refine OrdersZ.takeZ (i := 10) (v := .int .i64 (fy + 1)) rfl (by kernel_rfl) (by kernel_rfl) (by kernel_rfl) (by kernel_rfl) (by kernel_rfl) (fun _ _ _ h => h) (Or.inl ⟨by rfl, fun w9 hSw => ?_⟩) hHeld ?_
        · obtain ⟨s0, s1, s2⟩ := hSw
          go_simp
        simp only [List.getElem_toArray, List.getElem_cons_zero, List.getElem_cons_succ, Act.put, List.setIfInBounds_toArray, List.set_cons_zero, List.set_cons_succ]
        refine OrdersZ.takeZ (i := 11) (v := .int .i64 z) rfl (by kernel_rfl) (by kernel_rfl) (by kernel_rfl) (by kernel_rfl) (by kernel_rfl) (fun _ _ _ h => h) (Or.inl ⟨by rfl, fun w9 hSw => ?_⟩) hHeld ?_
        · obtain ⟨s0, s1, s2⟩ := hSw
          go_simp
          exact Hz.out.symm
        simp only [List.getElem_toArray, List.getElem_cons_zero, List.getElem_cons_succ, Act.put, List.setIfInBounds_toArray, List.set_cons_zero, List.set_cons_succ]
        refine OrdersZ.takeZ (i := 12) (v := .pointer (some ⟨w.heap.size + 1, x, none⟩)) rfl (by kernel_rfl) (by kernel_rfl) (by kernel_rfl) (by kernel_rfl) (by kernel_rfl) (fun _ _ _ h => h) (Or.inl ⟨by rfl, fun w9 hSw => ?_⟩) hHeld ?_
        · obtain ⟨s0, s1, s2⟩ := hSw
          go_simp
        simp only [List.getElem_toArray, List.getElem_cons_zero, List.getElem_cons_succ, Act.put, List.setIfInBounds_toArray, List.set_cons_zero, List.set_cons_succ]
        refine OrdersZ.lastZ (by kernel_rfl) rfl (fun K hK => ?_)
        go_simp
        refine hK.out _ _ ?_
        clear hK K
        refine OrdersZ.doneZ (by kernel_rfl) ?_ _
        clear l0 l1 l2 fz hHeld w1
        gi_wp2
        go_roundw
        case rel => exact ⟨k + 1, by omega, by go_num, hfz⟩
        case measure => simp [intOf]; omega
      · have hlt2 : ¬ ((k : Int) < (Lx : Int)) := by omega
        have hfz : Hid (LevI w0 (w.heap.size + 1) m (levOne x f (A x)) wr ∧ KeepsLo W wr) := by
          have h := hI.out
          rw [List.take_of_length_le (by rw [← HLA.out]; omega)] at h
          exact h
        clear hI hsub
        gi_wp2
        refine ⟨hfz.out.2, ?_⟩
        show LevI w0 (w.heap.size + 1) m (levF A (L.reverse.take (j + 1))) wr
        rw [Estep.out]
        exact hfz.out.1
  case done1 =>
    rintro D Wx hD hI hKD
    have hI2 : LevI w0 (w.heap.size + 1) m (levL A L) Wx := by
      rw [List.take_of_length_le (by rw [ints_length]; simp)] at hI
      exact hI
    obtain ⟨hBx, _, q2, _⟩ := hRd.out _ _ hI2
    have hr1 := hI2.row
    have c2 : Wx.cell? ⟨w.heap.size + 1 + 1, 0, none⟩ = some (.slice (some ⟨w.heap.size + 1, 0, none⟩) m m) := q2.cell rfl
    have hOp : OpenAt Wx w0.heap.size [D] := OpenAt.add (OpenAt.nil _ _) hD hKD (by simp)
    have HF : Hid (RowAt Wx (w.heap.size + 1) 3 (intsA (rowOf m (levL A L))) ∧ Below w.heap.size w Wx ∧ OpenAt Wx w0.heap.size [D]) := ⟨hr1, hBx, hOp⟩
    clear hI hI2 hBx q2 hr1 hOp hKD HI0 hRd HA HL
    gi_wp2
    refine leaves_marks (B := w0.heap.size) [D] Wx HF.out.2.2 (fun W' hW' hk' => ?_)
    refine ⟨.slice (some ⟨w.heap.size + 1, 0, none⟩) m m, ?_, rfl, (hW'.block (w.heap.size + 1) (by omega)).trans HF.out.1, HF.out.2.1.trans (hW'.mono (by omega))⟩
    simp [results, Tryd.results20, go_sem]

end Go.Proofs.YtgllcbajgndldaaDoor.GraphNet
