/-
  The parts of the program's shortest rows: rows held against each other, joined, rules parted.
-/
import Derived.Test.YtjmodcpeggafhaaDoorUsefulWMath
import Derived.Test.YtjmodcpeggafhaaDoorUsefulShort2
import Derived.Deep.AppendLies
namespace Go.Proofs.YtjmodcpeggafhaaDoor.UsefulWord
open Go.RowKit Go.Proofs.YtjmodcpeggafhaaDoor.GramMath Go.Proofs.YtjmodcpeggafhaaDoor.GramRow Go.Proofs.YtjmodcpeggafhaaDoor.SetsMath Go.Proofs.YtjmodcpeggafhaaDoor.UsefulMath Go.Proofs.YtjmodcpeggafhaaDoor.UsefulFn Go.Proofs.YtjmodcpeggafhaaDoor.UsefulTop Go.Proofs.YtjmodcpeggafhaaDoor.UsefulShort Go.Proofs.YtjmodcpeggafhaaDoor.OpRow Go.Proofs.YtjmodcpeggafhaaDoor.GramApart Go.Proofs.YtjmodcpeggafhaaDoor.GramLess
set_option linter.unusedVariables false

def sgn (x y : Int) : Int := if x < y then -1 else if y < x then 1 else 0

set_option maxHeartbeats 400000 in
theorem isNaN_any (x : Int) (w : World) : Calls Tryd.prog 106 #[.int .i64 x] w fun e w' => e = .returned (.bool false) ∧ w' = w := by
  have hf : (x != x) = false := by simp
  go_enter Tryd.func106, Tryd.ntmps106
  go_wp2
  go_ret
  exact ⟨rfl, rfl⟩

set_option maxHeartbeats 400000 in
theorem cmpI_any (x y : Int) (w : World) : Calls Tryd.prog 101 #[.int .i64 x, .int .i64 y] w fun e w' => e = .returned (.int .i64 (sgn x y)) ∧ w' = w := by
  by_cases h1 : x < y
  · have E : Hid (sgn x y = -1) := if_pos h1
    have hd : decide (x < y) = true := by simpa using h1
    go_enter Tryd.func101, Tryd.ntmps101
    go_wp2_with (go_at_call 106; refine (isNaN_any _ _).mono ?_; rintro e w' ⟨rfl, rfl⟩)
    go_ret
    exact ⟨ret_num E.out.symm, rfl⟩
  · have hd : decide (x < y) = false := by simpa using h1
    by_cases h2 : y < x
    · have E : Hid (sgn x y = 1) := by show _ = _; unfold sgn; rw [if_neg h1, if_pos h2]
      have hd2 : decide (y < x) = true := by simpa using h2
      go_enter Tryd.func101, Tryd.ntmps101
      go_wp2_with (go_at_call 106; refine (isNaN_any _ _).mono ?_; rintro e w' ⟨rfl, rfl⟩)
      go_ret
      exact ⟨ret_num E.out.symm, rfl⟩
    · have E : Hid (sgn x y = 0) := by show _ = _; unfold sgn; rw [if_neg h1, if_neg h2]
      have hd2 : decide (y < x) = false := by simpa using h2
      go_enter Tryd.func101, Tryd.ntmps101
      go_wp2_with (go_at_call 106; refine (isNaN_any _ _).mono ?_; rintro e w' ⟨rfl, rfl⟩)
      go_ret
      exact ⟨ret_num E.out.symm, rfl⟩

theorem cmpL_drop {a b : List Int} {k : Nat} {x y : Int} (h : a[k]? = some x) (h2 : b[k]? = some y) : cmpL (a.drop k) (b.drop k) = if sgn x y = 0 then cmpL (a.drop (k + 1)) (b.drop (k + 1)) else sgn x y := by
  obtain ⟨hk, he⟩ := List.getElem?_eq_some_iff.1 h
  obtain ⟨hk2, he2⟩ := List.getElem?_eq_some_iff.1 h2
  rw [List.drop_eq_getElem_cons hk, List.drop_eq_getElem_cons hk2, he, he2]
  show (if x < y then -1 else if y < x then 1 else cmpL (a.drop (k + 1)) (b.drop (k + 1))) = _
  unfold sgn
  by_cases h3 : x < y
  · simp [h3]
  · by_cases h4 : y < x
    · simp [h3, h4]
    · simp [h3, h4]

set_option maxRecDepth 100000 in
set_option maxHeartbeats 1000000 in
theorem compare_any (a b : Option Addr) (ca cb : Nat) (zs ys : List Int) (w : World) (ha : IRow w a zs) (hb : IRow w b ys) (h1 : zs.length ≤ 1125899906842624) (h2 : ys.length ≤ 1125899906842624) :
    Calls Tryd.prog 85 #[.slice a zs.length ca, .slice b ys.length cb] w fun e w' => e = .returned (.int .i64 (cmpL zs ys)) ∧ w' = w := by
  go_enter Tryd.func85, Tryd.ntmps85
  go_wp2
  go_loop [11] (fun i => ∃ k : Nat, k ≤ zs.length ∧ k ≤ ys.length ∧ i = .int .i64 k ∧ Hid (cmpL zs ys = cmpL (zs.drop k) (ys.drop k))) (fun i => zs.length - (intOf i).toNat)
  case atStart => exact ⟨0, by omega, by omega, rfl, rfl⟩
  case round =>
    obtain ⟨k, hk, hk2, rfl, hE⟩ := hrel
    by_cases hlt : k < zs.length
    · obtain ⟨x, hx⟩ : ∃ x, zs[k]? = some x := ⟨zs[k], List.getElem?_eq_getElem hlt⟩
      obtain ⟨b1, off1, rfl, hc1⟩ := ha k x hx
      have hlt2 : (k : Int) < (zs.length : Int) := by omega
      by_cases hly : k < ys.length
      · obtain ⟨y, hy⟩ : ∃ y, ys[k]? = some y := ⟨ys[k], List.getElem?_eq_getElem hly⟩
        obtain ⟨b2, off2, rfl, hc2⟩ := hb k y hy
        have hly2 : (k : Int) < (ys.length : Int) := by omega
        have hnge : ¬ (ys.length : Int) ≤ (k : Int) := by omega
        have hstep := cmpL_drop hx hy
        have hcm := fun W => cmpI_any x y W
        by_cases hs : sgn x y = 0
        · rw [if_pos hs] at hstep
          have hE2 : Hid (cmpL zs ys = cmpL (zs.drop (k + 1)) (ys.drop (k + 1))) := hE.out.trans hstep
          rw [hs] at hcm
          clear ha hb hx hy hE hstep hs
          go_wp2_with (go_at_call 101; refine (hcm _).mono ?_; rintro e w' ⟨rfl, rfl⟩)
          go_round
          case rel => exact ⟨k + 1, by omega, by omega, by go_num, hE2⟩
          case measure => simp [intOf]; omega
        · rw [if_neg hs] at hstep
          have hE2 : Hid (cmpL zs ys = sgn x y) := hE.out.trans hstep
          have hne : (sgn x y != 0) = true := by simpa using hs
          clear ha hb hx hy hE hstep hs
          generalize sgn x y = z at *
          go_wp2_with (go_at_call 101; refine (hcm _).mono ?_; rintro e w' ⟨rfl, rfl⟩)
          go_ret
          exact ⟨ret_num hE2.out.symm, rfl⟩
      · have hge : (ys.length : Int) ≤ (k : Int) := by omega
        have hE2 : Hid (cmpL zs ys = 1) := by
          show _ = _
          rw [hE.out, List.drop_of_length_le (show ys.length ≤ k by omega), List.drop_eq_getElem_cons hlt]
          rfl
        clear ha hb hx hE
        go_wp2
        go_ret
        exact ⟨ret_num hE2.out.symm, rfl⟩
    · by_cases hly : zs.length < ys.length
      · have hly2 : (zs.length : Int) < (ys.length : Int) := by omega
        have hE2 : Hid (cmpL zs ys = -1) := by
          show _ = _
          rw [hE.out, List.drop_of_length_le (show zs.length ≤ k by omega), List.drop_eq_getElem_cons (show k < ys.length by omega)]
          rfl
        clear ha hb hE
        go_wp2
        go_ret
        exact ⟨ret_num hE2.out.symm, rfl⟩
      · have hly2 : ¬ (zs.length : Int) < (ys.length : Int) := by omega
        have hE2 : Hid (cmpL zs ys = 0) := by
          show _ = _
          rw [hE.out, List.drop_of_length_le (show zs.length ≤ k by omega), List.drop_of_length_le (show ys.length ≤ k by omega)]
          rfl
        clear ha hb hE
        go_wp2
        go_ret
        exact ⟨ret_num hE2.out.symm, rfl⟩

/-- Rows in a list of lists. -/
def RowsAt (w : World) (d n : Nat) (f : Nat → List Int) : Prop :=
  ∃ cur, RowAt w d 42 cur ∧ cur.size = n ∧ ∀ k, k < n → ∃ a c, cur[k]? = some (.slice a (f k).length c) ∧ IRow w a (f k) ∧ (a = none → (f k).length = 0 ∧ c = 0)

theorem RowsAt.lt {w : World} {d n : Nat} {f : Nat → List Int} (h : RowsAt w d n f) : d < w.heap.size := by
  obtain ⟨cur, hr, _⟩ := h
  exact hr.lt
theorem RowsAt.below {w w' : World} {d n B : Nat} {f : Nat → List Int} (h : RowsAt w d n f) (hb : Below B w w') (hB : w.heap.size ≤ B) : RowsAt w' d n f := by
  obtain ⟨cur, hr, hs, hk⟩ := h
  refine ⟨cur, hr.below hb (Nat.lt_of_lt_of_le hr.lt hB), hs, fun k hkn => ?_⟩
  obtain ⟨a, c, h1, h2, h3⟩ := hk k hkn
  exact ⟨a, c, h1, h2.below hb hB, h3⟩
theorem RowsAt.cell {w : World} {d n : Nat} {f : Nat → List Int} (h : RowsAt w d n f) {k : Nat} (hk : k < n) : ∃ a c, w.cell? ⟨d, k, none⟩ = some (.slice a (f k).length c) ∧ w.frozen? ⟨d, k, none⟩ = false ∧ IRow w a (f k) ∧ (a = none → (f k).length = 0 ∧ c = 0) := by
  obtain ⟨cur, hr, hs, hh⟩ := h
  obtain ⟨a, c, h1, h2, h3⟩ := hh k hk
  exact ⟨a, c, hr.cell h1, hr.frozen k, h2, h3⟩

/-- A store into a block that holds no numbers: lists of numbers stay. -/
theorem irow_far {w : World} {a : Option Addr} {zs : List Int} {b o : Nat} {v : Value} (h : IRow w a zs) (hb : ∀ q x, w.cell? ⟨b, q, none⟩ ≠ some (.int .i64 x)) : IRow (w.setCell ⟨b, o, none⟩ v) a zs := fun i x hx => by
  obtain ⟨b', off, ha, hc⟩ := h i x hx
  refine ⟨b', off, ha, ?_⟩
  rw [World.cell?_setCell_other (h := fun e => by
    have h1 := congrArg Addr.block e
    simp at h1
    subst h1
    exact hb _ _ hc)]
  exact hc
theorem rrow_far {w : World} {a : Option Addr} {rs : List R} {b o : Nat} {v : Value} (h : RRow w a rs) (hb : ∀ q x, w.cell? ⟨b, q, none⟩ ≠ some (.int .i64 x)) : RRow (w.setCell ⟨b, o, none⟩ v) a rs := fun i r hr => by
  obtain ⟨b', off, qa, qc, ha, h1, h2, h3⟩ := h i r hr
  have hne : b ≠ b' := fun e => by subst e; exact hb _ _ h1
  refine ⟨b', off, qa, qc, ha, ?_, ?_, irow_far h3 hb⟩
  · rw [World.cell?_setCell_other (h := fun e => hne (congrArg Addr.block e))]; exact h1
  · rw [World.cell?_setCell_other (h := fun e => hne (congrArg Addr.block e))]; exact h2

theorem rowat_cell {w : World} {b : Nat} {t : TypeId} {cur : Array Value} (h : RowAt w b t cur) (q : Nat) : w.cell? ⟨b, q, none⟩ = cur[q]? := by
  unfold World.cell?
  simp [show w.heap[b]? = some (.cells cur t (0, 0)) from h]
theorem RowsAt.noInt {w : World} {d n : Nat} {f : Nat → List Int} (h : RowsAt w d n f) : ∀ q x, w.cell? ⟨d, q, none⟩ ≠ some (.int .i64 x) := fun q x e => by
  obtain ⟨cur, hr, hs, hk⟩ := h
  rw [rowat_cell hr] at e
  have hq := (Array.getElem?_eq_some_iff.1 e).1
  obtain ⟨a, c, h1, _⟩ := hk q (by omega)
  rw [h1] at e
  cases e
theorem RowsAt.set {w : World} {d n : Nat} {f : Nat → List Int} (h : RowsAt w d n f) {k : Nat} (hk : k < n) {a : Option Addr} {c : Nat} {row : List Int} (hi : IRow w a row) (hn : a = none → row.length = 0 ∧ c = 0) : RowsAt (w.setCell ⟨d, k, none⟩ (.slice a row.length c)) d n (updR f k row) := by
  have hno := h.noInt
  obtain ⟨cur, hr, hs, hh⟩ := h
  refine ⟨_, hr.set k _, by simpa using hs, fun j hj => ?_⟩
  rw [Array.getElem?_setIfInBounds]
  by_cases e : k = j
  · subst e
    rw [if_pos rfl, if_pos (by omega), updR_at]
    exact ⟨a, c, rfl, irow_far hi hno, hn⟩
  · rw [if_neg e, updR_ne _ _ (fun h => e h.symm)]
    obtain ⟨a', c', h1, h2, h3⟩ := hh j hj
    exact ⟨a', c', h1, irow_far h2 hno, h3⟩
theorem RowsAt.far {w : World} {d n b o : Nat} {v : Value} {f : Nat → List Int} (h : RowsAt w d n f) (hne : d ≠ b) (hb : ∀ q x, w.cell? ⟨b, q, none⟩ ≠ some (.int .i64 x)) : RowsAt (w.setCell ⟨b, o, none⟩ v) d n f := by
  obtain ⟨cur, hr, hs, hh⟩ := h
  refine ⟨cur, hr.other hne o v, hs, fun k hk => ?_⟩
  obtain ⟨a, c, h1, h2, h3⟩ := hh k hk
  exact ⟨a, c, h1, irow_far h2 hb, h3⟩

/-- Is a row ahead of that of a nonterminal? -/
def aheadN (off : Int) (f : Nat → List Int) (row : List Int) (k : Nat) : Bool := !hasB off k || aheadB row (f k)

set_option maxRecDepth 100000 in
set_option maxHeartbeats 1000000 in
theorem ahead_any (OB RB RD n : Nat) (off : Int) (f : Nat → List Int) (a : Option Addr) (c : Nat) (row : List Int) (k : Nat) (w : World) (hof : IsSet off) (hO : w.cell? ⟨OB, 0, none⟩ = some (.int .u64 off)) (hR : w.cell? ⟨RB, 0, none⟩ = some (.slice (some ⟨RD, 0, none⟩) n n)) (hA : RowsAt w RD n f) (hI : IRow w a row) (hk : k < n) (hl : row.length ≤ 1125899906842624) (hl2 : (f k).length ≤ 1125899906842624) :
    Calls Tryd.prog 84 #[.slice a row.length c, .int .i64 (k : Int), .pointer (some ⟨OB, 0, none⟩), .pointer (some ⟨RB, 0, none⟩)] w fun e w' => e = .returned (.bool (aheadN off f row k)) ∧ w' = w := by
  have hh := SetsOne.has_any off (k : Int) w hof
  obtain ⟨a2, c2, hc, _, hI2, _⟩ := hA.cell hk
  have hk2 : (k : Int) < (n : Int) := by omega
  have E0 : Hid (aheadN off f row k = (!hasB off k || aheadB row (f k))) := rfl
  cases hb : hasB off (k : Int) with
  | false =>
    rw [hb] at hh E0
    have E : Hid (aheadN off f row k = true) := by show _ = _; rw [E0.out]; rfl
    clear hA hI hI2 E0 hb
    go_enter Tryd.func84, Tryd.ntmps84
    go_wp2_with (go_at_call 45; refine hh.mono ?_; rintro e w' ⟨rfl, rfl⟩)
    go_ret
    exact ⟨ret_bool E.out.symm, rfl⟩
  | true =>
    rw [hb] at hh E0
    have hcp := compare_any a a2 c c2 row (f k) w hI hI2 hl hl2
    by_cases hlen : row.length = (f k).length
    · have E : Hid (aheadN off f row k = decide (cmpL row (f k) < 0)) := by show _ = _; rw [E0.out]; unfold aheadB; rw [if_pos hlen]; rfl
      have hne : ((row.length : Int) != ((f k).length : Int)) = false := by simp; omega
      have HL : Hid (row.length = (f k).length) := hlen
      clear hA hI hI2 E0 hb hlen
      generalize cmpL row (f k) = z at *
      generalize (f k).length = m at *
      go_enter Tryd.func84, Tryd.ntmps84
      go_wp2_with (first | (go_at_call 45; refine hh.mono ?_; rintro e w' ⟨rfl, rfl⟩) | (go_at_call 85; refine hcp.mono ?_; rintro e w' ⟨rfl, rfl⟩))
      go_ret
      exact ⟨ret_bool E.out.symm, rfl⟩
    · have E : Hid (aheadN off f row k = decide (row.length < (f k).length)) := by show _ = _; rw [E0.out]; unfold aheadB; rw [if_neg hlen]; rfl
      have hne : ((row.length : Int) != ((f k).length : Int)) = true := by simp; omega
      clear hA hI hI2 E0 hb hlen hcp
      generalize (f k).length = m at *
      go_enter Tryd.func84, Tryd.ntmps84
      go_wp2_with (go_at_call 45; refine hh.mono ?_; rintro e w' ⟨rfl, rfl⟩)
      go_ret
      exact ⟨ret_bool E.out.symm, rfl⟩

end Go.Proofs.YtjmodcpeggafhaaDoor.UsefulWord
