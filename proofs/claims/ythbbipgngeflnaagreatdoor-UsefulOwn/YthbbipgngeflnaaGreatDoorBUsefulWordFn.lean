/-
  Texts that stand together: UsefulWordFn.
-/
import Derived.Test.YthbbipgngeflnaaGreatDoorBUsefulDMath
import Derived.Test.YthbbipgngeflnaaGreatDoorBUsefulShort
import Derived.Deep.AppendLies
namespace Go.Proofs.YthbbipgngeflnaaGreatDoor.UsefulWord
open Go.RowKit Go.Proofs.YthbbipgngeflnaaGreatDoor.GramMath Go.Proofs.YthbbipgngeflnaaGreatDoor.GramRow Go.Proofs.YthbbipgngeflnaaGreatDoor.SetsMath Go.Proofs.YthbbipgngeflnaaGreatDoor.UsefulMath Go.Proofs.YthbbipgngeflnaaGreatDoor.UsefulFn Go.Proofs.YthbbipgngeflnaaGreatDoor.UsefulTop Go.Proofs.YthbbipgngeflnaaGreatDoor.UsefulShort Go.Proofs.YthbbipgngeflnaaGreatDoor.OpRow Go.Proofs.YthbbipgngeflnaaGreatDoor.GramApart Go.Proofs.YthbbipgngeflnaaGreatDoor.GramLess
set_option linter.unusedVariables false

def sgn (x y : Int) : Int := if x < y then -1 else if y < x then 1 else 0

set_option maxHeartbeats 400000 in
theorem isNaN_any (x : Int) (w : World) : Calls Tryz.prog 83 #[.int .i64 x] w fun e w' => e = .returned (.bool false) ∧ w' = w := by
  have hf : (x != x) = false := by simp
  go_enter Tryz.func83, Tryz.ntmps83
  go_wp2
  go_ret
  exact ⟨rfl, rfl⟩

set_option maxHeartbeats 400000 in
theorem cmpI_any (x y : Int) (w : World) : Calls Tryz.prog 75 #[.int .i64 x, .int .i64 y] w fun e w' => e = .returned (.int .i64 (sgn x y)) ∧ w' = w := by
  by_cases h1 : x < y
  · have E : Hid (sgn x y = -1) := if_pos h1
    have hd : decide (x < y) = true := by simpa using h1
    go_enter Tryz.func75, Tryz.ntmps75
    go_wp2_with (go_at_call 83; refine (isNaN_any _ _).mono ?_; rintro e w' ⟨rfl, rfl⟩)
    go_ret
    exact ⟨ret_num E.out.symm, rfl⟩
  · have hd : decide (x < y) = false := by simpa using h1
    by_cases h2 : y < x
    · have E : Hid (sgn x y = 1) := by show _ = _; unfold sgn; rw [if_neg h1, if_pos h2]
      have hd2 : decide (y < x) = true := by simpa using h2
      go_enter Tryz.func75, Tryz.ntmps75
      go_wp2_with (go_at_call 83; refine (isNaN_any _ _).mono ?_; rintro e w' ⟨rfl, rfl⟩)
      go_ret
      exact ⟨ret_num E.out.symm, rfl⟩
    · have E : Hid (sgn x y = 0) := by show _ = _; unfold sgn; rw [if_neg h1, if_neg h2]
      have hd2 : decide (y < x) = false := by simpa using h2
      go_enter Tryz.func75, Tryz.ntmps75
      go_wp2_with (go_at_call 83; refine (isNaN_any _ _).mono ?_; rintro e w' ⟨rfl, rfl⟩)
      go_ret
      exact ⟨ret_num E.out.symm, rfl⟩

theorem cmpL_drop {a b : List Int} {k : Nat} {x y : Int} (h : a[k]? = some x) (h2 : b[k]? = some y) : cmpL (a.drop k) (b.drop k) = if sgn x y = 0 then cmpL (a.drop (k + 1)) (b.drop (k + 1)) else sgn x y := by
  obtain ⟨hk, he⟩ := List.getElem?_eq_some_iff.1 h
  obtain ⟨hk2, he2⟩ := List.getElem?_eq_some_iff.1 h2
  rw [List.drop_eq_getElem_cons hk, List.drop_eq_getElem_cons hk2, he, he2]
  show (if x < y then -1 else if y < x then 1 else cmpL (a.drop (k + 1)) (b.drop (k + 1))) = _
  unfold sgn
  by_cases h3 : x < y
  · simp [h3]
  · by_cases h4 : y < x
    · simp [h3, h4]
    · simp [h3, h4]

set_option maxRecDepth 100000 in
set_option maxHeartbeats 1000000 in
theorem compare_any (a b : Option Addr) (ca cb : Nat) (zs ys : List Int) (w : World) (ha : IRow w a zs) (hb : IRow w b ys) (h1 : zs.length ≤ 1125899906842624) (h2 : ys.length ≤ 1125899906842624) :
    Calls Tryz.prog 52 #[.slice a zs.length ca, .slice b ys.length cb] w fun e w' => e = .returned (.int .i64 (cmpL zs ys)) ∧ w' = w := by
  go_enter Tryz.func52, Tryz.ntmps52
  go_wp2
  go_loop [11] (fun i => ∃ k : Nat, k ≤ zs.length ∧ k ≤ ys.length ∧ i = .int .i64 k ∧ Hid (cmpL zs ys = cmpL (zs.drop k) (ys.drop k))) (fun i => zs.length - (intOf i).toNat)
  case atStart => exact ⟨0, by omega, by omega, rfl, rfl⟩
  case round =>
    obtain ⟨k, hk, hk2, rfl, hE⟩ := hrel
    by_cases hlt : k < zs.length
    · obtain ⟨x, hx⟩ : ∃ x, zs[k]? = some x := ⟨zs[k], List.getElem?_eq_getElem hlt⟩
      obtain ⟨b1, off1, rfl, hc1⟩ := ha k x hx
      have hlt2 : (k : Int) < (zs.length : Int) := by omega
      by_cases hly : k < ys.length
      · obtain ⟨y, hy⟩ : ∃ y, ys[k]? = some y := ⟨ys[k], List.getElem?_eq_getElem hly⟩
        obtain ⟨b2, off2, rfl, hc2⟩ := hb k y hy
        have hly2 : (k : Int) < (ys.length : Int) := by omega
        have hnge : ¬ (ys.length : Int) ≤ (k : Int) := by omega
        have hstep := cmpL_drop hx hy
        have hcm := fun W => cmpI_any x y W
        by_cases hs : sgn x y = 0
        · rw [if_pos hs] at hstep
          have hE2 : Hid (cmpL zs ys = cmpL (zs.drop (k + 1)) (ys.drop (k + 1))) := hE.out.trans hstep
          rw [hs] at hcm
          clear ha hb hx hy hE hstep hs
          go_wp2_with (go_at_call 75; refine (hcm _).mono ?_; rintro e w' ⟨rfl, rfl⟩)
          go_round
          case rel => exact ⟨k + 1, by omega, by omega, by go_num, hE2⟩
          case measure => simp [intOf]; omega
        · rw [if_neg hs] at hstep
          have hE2 : Hid (cmpL zs ys = sgn x y) := hE.out.trans hstep
          have hne : (sgn x y != 0) = true := by simpa using hs
          clear ha hb hx hy hE hstep hs
          generalize sgn x y = z at *
          go_wp2_with (go_at_call 75; refine (hcm _).mono ?_; rintro e w' ⟨rfl, rfl⟩)
          go_ret
          exact ⟨ret_num hE2.out.symm, rfl⟩
      · have hge : (ys.length : Int) ≤ (k : Int) := by omega
        have hE2 : Hid (cmpL zs ys = 1) := by
          show _ = _
          rw [hE.out, List.drop_of_length_le (show ys.length ≤ k by omega), List.drop_eq_getElem_cons hlt]
          rfl
        clear ha hb hx hE
        go_wp2
        go_ret
        exact ⟨ret_num hE2.out.symm, rfl⟩
    · by_cases hly : zs.length < ys.length
      · have hly2 : (zs.length : Int) < (ys.length : Int) := by omega
        have hE2 : Hid (cmpL zs ys = -1) := by
          show _ = _
          rw [hE.out, List.drop_of_length_le (show zs.length ≤ k by omega), List.drop_eq_getElem_cons (show k < ys.length by omega)]
          rfl
        clear ha hb hE
        go_wp2
        go_ret
        exact ⟨ret_num hE2.out.symm, rfl⟩
      · have hly2 : ¬ (zs.length : Int) < (ys.length : Int) := by omega
        have hE2 : Hid (cmpL zs ys = 0) := by
          show _ = _
          rw [hE.out, List.drop_of_length_le (show zs.length ≤ k by omega), List.drop_of_length_le (show ys.length ≤ k by omega)]
          rfl
        clear ha hb hE
        go_wp2
        go_ret
        exact ⟨ret_num hE2.out.symm, rfl⟩

theorem own_blockU {w w' : World} {base : Nat} {e : TypeId} {size n : Nat} {v : Value} {xs : List Value} (h : w.ownsRow base e size v n xs) (hb : ∀ g cur, v.ownBlock = some g → RowAt w g e cur → w'.heap[g]? = w.heap[g]?) : w'.ownsRow base e size v n xs := by
  obtain ⟨h1, h | ⟨g, cap, cur, hv, hbb, hr, rest⟩⟩ := h
  · exact ⟨h1, .inl h⟩
  · exact ⟨h1, .inr ⟨g, cap, cur, hv, hbb, (hb g cur (by rw [hv]; rfl) hr).trans hr, rest⟩⟩
theorem own_otherU {w : World} {b o base : Nat} {t e : TypeId} {cur : Array Value} {size n : Nat} {v u : Value} {xs : List Value} (h : w.ownsRow base e size v n xs) (hr : RowAt w b t cur) (ht : t ≠ e) : (w.setCell ⟨b, o, none⟩ u).ownsRow base e size v n xs :=
  own_blockU h (fun g cur' hg hrow => Below.heap_setCell _ ⟨b, o, none⟩ _ _ (fun e => hr.ne hrow ht e.symm))
/-- Rows in a list of lists. -/
def RowsAt (w : World) (d n : Nat) (f : Nat → List Int) : Prop :=
  ∃ cur, RowAt w d 28 cur ∧ cur.size = n ∧ ∀ k, k < n → ∃ a c, cur[k]? = some (.slice a (f k).length c) ∧ IRow w a (f k) ∧ (a = none → (f k).length = 0 ∧ c = 0) ∧ w.ownsRow d 3 1 (.slice a (f k).length c) (f k).length ((f k).map (Value.int .i64))

theorem RowsAt.lt {w : World} {d n : Nat} {f : Nat → List Int} (h : RowsAt w d n f) : d < w.heap.size := by
  obtain ⟨cur, hr, _⟩ := h
  exact hr.lt
theorem RowsAt.below {w w' : World} {d n B : Nat} {f : Nat → List Int} (h : RowsAt w d n f) (hb : Below B w w') (hB : w.heap.size ≤ B) : RowsAt w' d n f := by
  obtain ⟨cur, hr, hs, hk⟩ := h
  refine ⟨cur, hr.below hb (Nat.lt_of_lt_of_le hr.lt hB), hs, fun k hkn => ?_⟩
  obtain ⟨a, c, h1, h2, h3⟩ := hk k hkn
  exact ⟨a, c, h1, h2.below hb hB, h3.1, own_below h3.2 (hb.mono hB)⟩
theorem RowsAt.cell {w : World} {d n : Nat} {f : Nat → List Int} (h : RowsAt w d n f) {k : Nat} (hk : k < n) : ∃ a c, w.cell? ⟨d, k, none⟩ = some (.slice a (f k).length c) ∧ w.frozen? ⟨d, k, none⟩ = false ∧ IRow w a (f k) ∧ (a = none → (f k).length = 0 ∧ c = 0) := by
  obtain ⟨cur, hr, hs, hh⟩ := h
  obtain ⟨a, c, h1, h2, h3⟩ := hh k hk
  exact ⟨a, c, hr.cell h1, hr.frozen k, h2, h3.1⟩
theorem RowsAt.owned {w : World} {d n : Nat} {f : Nat → List Int} (h : RowsAt w d n f) {k : Nat} (hk : k < n) : ∃ a c, w.cell? ⟨d, k, none⟩ = some (.slice a (f k).length c) ∧ w.frozen? ⟨d, k, none⟩ = false ∧ IRow w a (f k) ∧ (a = none → (f k).length = 0 ∧ c = 0) ∧ w.ownsRow d 3 1 (.slice a (f k).length c) (f k).length ((f k).map (Value.int .i64)) := by
  obtain ⟨cur, hr, hs, hh⟩ := h
  obtain ⟨a, c, h1, h2, h3⟩ := hh k hk
  exact ⟨a, c, hr.cell h1, hr.frozen k, h2, h3⟩

/-- A store into a block that holds no numbers: lists of numbers stay. -/
theorem irow_far {w : World} {a : Option Addr} {zs : List Int} {b o : Nat} {v : Value} (h : IRow w a zs) (hb : ∀ q x, w.cell? ⟨b, q, none⟩ ≠ some (.int .i64 x)) : IRow (w.setCell ⟨b, o, none⟩ v) a zs := fun i x hx => by
  obtain ⟨b', off, ha, hc⟩ := h i x hx
  refine ⟨b', off, ha, ?_⟩
  rw [World.cell?_setCell_other (h := fun e => by
    have h1 := congrArg Addr.block e
    simp at h1
    subst h1
    exact hb _ _ hc)]
  exact hc
theorem rowat_cell {w : World} {b : Nat} {t : TypeId} {cur : Array Value} (h : RowAt w b t cur) (q : Nat) : w.cell? ⟨b, q, none⟩ = cur[q]? := by
  unfold World.cell?
  simp [show w.heap[b]? = some (.cells cur t (0, 0)) from h]
theorem RowsAt.noInt {w : World} {d n : Nat} {f : Nat → List Int} (h : RowsAt w d n f) : ∀ q x, w.cell? ⟨d, q, none⟩ ≠ some (.int .i64 x) := fun q x e => by
  obtain ⟨cur, hr, hs, hk⟩ := h
  rw [rowat_cell hr] at e
  have hq := (Array.getElem?_eq_some_iff.1 e).1
  obtain ⟨a, c, h1, _⟩ := hk q (by omega)
  rw [h1] at e
  cases e
theorem RowsAt.set {w : World} {d n : Nat} {f : Nat → List Int} (h : RowsAt w d n f) {k : Nat} (hk : k < n) {a : Option Addr} {c : Nat} {row : List Int} (hi : IRow w a row) (hn : a = none → row.length = 0 ∧ c = 0) (ho : w.ownsRow d 3 1 (.slice a row.length c) row.length (row.map (Value.int .i64))) : RowsAt (w.setCell ⟨d, k, none⟩ (.slice a row.length c)) d n (updR f k row) := by
  have hno := h.noInt
  obtain ⟨cur, hr, hs, hh⟩ := h
  refine ⟨_, hr.set k _, by simpa using hs, fun j hj => ?_⟩
  rw [Array.getElem?_setIfInBounds]
  by_cases e : k = j
  · subst e
    rw [if_pos rfl, if_pos (by omega), updR_at]
    exact ⟨a, c, rfl, irow_far hi hno, hn, own_otherU ho hr (by decide)⟩
  · rw [if_neg e, updR_ne _ _ (fun h => e h.symm)]
    obtain ⟨a', c', h1, h2, h3⟩ := hh j hj
    exact ⟨a', c', h1, irow_far h2 hno, h3.1, own_otherU h3.2 hr (by decide)⟩
theorem RowsAt.far {w : World} {d n b o : Nat} {v : Value} {f : Nat → List Int} (h : RowsAt w d n f) (hne : d ≠ b) (hb : ∀ q x, w.cell? ⟨b, q, none⟩ ≠ some (.int .i64 x)) {t : TypeId} {curb : Array Value} (hrb : RowAt w b t curb) (ht : t ≠ 3) : RowsAt (w.setCell ⟨b, o, none⟩ v) d n f := by
  obtain ⟨cur, hr, hs, hh⟩ := h
  refine ⟨cur, hr.other hne o v, hs, fun k hk => ?_⟩
  obtain ⟨a, c, h1, h2, h3⟩ := hh k hk
  exact ⟨a, c, h1, irow_far h2 hb, h3.1, own_otherU h3.2 hrb ht⟩

/-- Is a row ahead of that of a nonterminal? -/
def aheadN (off : Int) (f : Nat → List Int) (row : List Int) (k : Nat) : Bool := !hasB off k || aheadB row (f k)

set_option maxRecDepth 100000 in
set_option maxHeartbeats 1000000 in
theorem ahead_any (OB RB RD n : Nat) (off : Int) (f : Nat → List Int) (a : Option Addr) (c : Nat) (row : List Int) (k : Nat) (w : World) (hof : IsSet off) (hO : w.cell? ⟨OB, 0, none⟩ = some (.int .u64 off)) (hR : w.cell? ⟨RB, 0, none⟩ = some (.slice (some ⟨RD, 0, none⟩) n n)) (hA : RowsAt w RD n f) (hI : IRow w a row) (hk : k < n) (hl : row.length ≤ 1125899906842624) (hl2 : (f k).length ≤ 1125899906842624) :
    Calls Tryz.prog 51 #[.slice a row.length c, .int .i64 (k : Int), .pointer (some ⟨OB, 0, none⟩), .pointer (some ⟨RB, 0, none⟩)] w fun e w' => e = .returned (.bool (aheadN off f row k)) ∧ w' = w := by
  have hh := SetsOne.has_any off (k : Int) w hof
  obtain ⟨a2, c2, hc, _, hI2, _⟩ := hA.cell hk
  have hk2 : (k : Int) < (n : Int) := by omega
  have E0 : Hid (aheadN off f row k = (!hasB off k || aheadB row (f k))) := rfl
  cases hb : hasB off (k : Int) with
  | false =>
    rw [hb] at hh E0
    have E : Hid (aheadN off f row k = true) := by show _ = _; rw [E0.out]; rfl
    clear hA hI hI2 E0 hb
    go_enter Tryz.func51, Tryz.ntmps51
    go_wp2_with (go_at_call 20; refine hh.mono ?_; rintro e w' ⟨rfl, rfl⟩)
    go_ret
    exact ⟨ret_bool E.out.symm, rfl⟩
  | true =>
    rw [hb] at hh E0
    have hcp := compare_any a a2 c c2 row (f k) w hI hI2 hl hl2
    by_cases hlen : row.length = (f k).length
    · have E : Hid (aheadN off f row k = decide (cmpL row (f k) < 0)) := by show _ = _; rw [E0.out]; unfold aheadB; rw [if_pos hlen]; rfl
      have hne : ((row.length : Int) != ((f k).length : Int)) = false := by simp; omega
      have HL : Hid (row.length = (f k).length) := hlen
      clear hA hI hI2 E0 hb hlen
      generalize cmpL row (f k) = z at *
      generalize (f k).length = m at *
      go_enter Tryz.func51, Tryz.ntmps51
      go_wp2_with (first | (go_at_call 20; refine hh.mono ?_; rintro e w' ⟨rfl, rfl⟩) | (go_at_call 52; refine hcp.mono ?_; rintro e w' ⟨rfl, rfl⟩))
      go_ret
      exact ⟨ret_bool E.out.symm, rfl⟩
    · have E : Hid (aheadN off f row k = decide (row.length < (f k).length)) := by show _ = _; rw [E0.out]; unfold aheadB; rw [if_neg hlen]; rfl
      have hne : ((row.length : Int) != ((f k).length : Int)) = true := by simp; omega
      clear hA hI hI2 E0 hb hlen hcp
      generalize (f k).length = m at *
      go_enter Tryz.func51, Tryz.ntmps51
      go_wp2_with (go_at_call 20; refine hh.mono ?_; rintro e w' ⟨rfl, rfl⟩)
      go_ret
      exact ⟨ret_bool E.out.symm, rfl⟩

end Go.Proofs.YthbbipgngeflnaaGreatDoor.UsefulWord

namespace Go.Proofs.YthbbipgngeflnaaGreatDoor.UsefulWord
open Go.RowKit Go.Proofs.YthbbipgngeflnaaGreatDoor.GramMath Go.Proofs.YthbbipgngeflnaaGreatDoor.GramRow Go.Proofs.YthbbipgngeflnaaGreatDoor.SetsMath Go.Proofs.YthbbipgngeflnaaGreatDoor.UsefulMath Go.Proofs.YthbbipgngeflnaaGreatDoor.UsefulFn Go.Proofs.YthbbipgngeflnaaGreatDoor.UsefulTop Go.Proofs.YthbbipgngeflnaaGreatDoor.UsefulShort Go.Proofs.YthbbipgngeflnaaGreatDoor.OpRow Go.Proofs.YthbbipgngeflnaaGreatDoor.GramApart Go.Proofs.YthbbipgngeflnaaGreatDoor.GramLess
set_option linter.unusedVariables false

def intsL (zs : List Int) : List Value := zs.map (Value.int .i64)
theorem intsL_app (a b : List Int) : intsL (a ++ b) = intsL a ++ intsL b := by simp [intsL]
theorem intsL_len (a : List Int) : (intsL a).length = a.length := by simp [intsL]
theorem intsL_one (a : List Int) : ∀ u ∈ intsL a, u.oneCell' = true := by
  intro u hu
  obtain ⟨y, _, rfl⟩ := List.mem_map.1 hu
  rfl
theorem irow_src {w : World} {x : Addr} {zs : List Int} (h : IRow w (some x) zs) : ∀ j u, (intsL zs)[j]? = some u → w.cell? (x.add j) = some u := by
  intro j u hj
  unfold intsL at hj
  rw [List.getElem?_map, Option.map_eq_some_iff] at hj
  obtain ⟨y, hy, rfl⟩ := hj
  obtain ⟨b, off, hx, hc⟩ := h j y hy
  obtain rfl : x = ⟨b, off, none⟩ := by simpa using hx
  rw [Addr.add_lit]
  exact hc
theorem own_irow {w : World} {base : Nat} {e : TypeId} {v : Value} {zs : List Int} (h : w.ownsRow base e 1 v zs.length (intsL zs)) : ∃ a c, v = .slice a zs.length c ∧ IRow w a zs ∧ (a = none → zs.length = 0 ∧ c = 0) ∧ ∀ b off, a = some ⟨b, off, none⟩ → base ≤ b := by
  rcases id h with ⟨_, ⟨rfl, h0⟩ | ⟨g, cap, cur, rfl, hb, _⟩⟩
  · refine ⟨none, 0, by rw [h0], fun i x hx => ?_, fun _ => ⟨h0, rfl⟩, fun b off h => by cases h⟩
    rw [List.length_eq_zero_iff.1 h0] at hx
    simp at hx
  · refine ⟨_, cap, rfl, GramLent.lent_rowI (zs := zs) h rfl, (fun h => by cases h), fun b off h => by cases h; exact hb⟩

set_option maxRecDepth 100000 in
set_option maxHeartbeats 1600000 in
theorem joined_any (ra : Option Addr) (rc RD n : Nat) (f : Nat → List Int) (zs : List Int) (w : World) (hI : IRow w ra zs) (hA : RowsAt w RD n f) (hz : zs.length ≤ 32) (hx64 : ∀ x ∈ zs, I64 x) (hs : ∀ x ∈ zs, -1 - x < n) (hn : n ≤ 60) (hlen : ∀ k, (joinR f (zs.take k)).length ≤ 100000) :
    Calls Tryz.prog 54 #[.slice ra zs.length rc, .slice (some ⟨RD, 0, none⟩) n n] w fun e w' => (∃ a c, e = .returned (.slice a (joinR f zs).length c) ∧ IRow w' a (joinR f zs) ∧ (a = none → (joinR f zs).length = 0 ∧ c = 0) ∧ (∀ b off, a = some ⟨b, off, none⟩ → w.heap.size ≤ b) ∧ w'.ownsRow w.heap.size 3 1 (.slice a (joinR f zs).length c) (joinR f zs).length ((joinR f zs).map (Value.int .i64))) ∧ Below w.heap.size w w' := by
  obtain ⟨i0, hi, hz0, hz1, hz2⟩ := info_parts GramLent.infoI
  go_enter Tryz.func54, Tryz.ntmps54
  go_wp2
  go_loopw [5, 10] (fun v i wr => ∃ k : Nat, k ≤ zs.length ∧ i = .int .i64 k ∧ wr.ownsRow w.heap.size 3 1 v (joinR f (zs.take k)).length (intsL (joinR f (zs.take k))) ∧ Below w.heap.size w wr) (fun _ i _ => zs.length - (intOf i).toNat)
  case atStart => exact ⟨0, by omega, rfl, World.ownsRow_nil _ _ _ _, Below.refl _ _⟩
  case round =>
    obtain ⟨k, hk, rfl, hown, hB⟩ := hrel
    have hsw := hB.size
    by_cases hlt : k < zs.length
    · obtain ⟨x, hx⟩ : ∃ x, zs[k]? = some x := ⟨zs[k], List.getElem?_eq_getElem hlt⟩
      obtain ⟨b, off, hra, hc⟩ := (hI.below hB (Nat.le_refl _)) k x hx
      subst hra
      have hlt2 : (k : Int) < (zs.length : Int) := by omega
      have hxm := List.mem_of_getElem? hx
      have hx6 := hx64 x hxm
      have hxn := hs x hxm
      have hl0 := hlen k
      have hl1 := hlen (k + 1)
      by_cases h0 : x < 0
      · obtain ⟨m, hm⟩ : ∃ m : Nat, -1 - x = (m : Int) := ⟨(-1 - x).toNat, by omega⟩
        have hmn : m < n := by omega
        have hmn2 : (m : Int) < (n : Int) := by omega
        obtain ⟨a2, c2, q0, _, hI2, hn2⟩ := (hA.below hB (Nat.le_refl _)).cell hmn
        have EJ : Hid (joinR f (zs.take (k + 1)) = joinR f (zs.take k) ++ f m) := by
          show _ = _
          rw [List.take_add_one, hx, joinR_app]
          show _ ++ ((if x < 0 then f (-1 - x).toNat else [x]) ++ []) = _
          rw [if_pos h0, show (-1 - x).toNat = m by omega, List.append_nil]
        have hl2 : (joinR f (zs.take k)).length + (f m).length ≤ 100000 := by rw [EJ.out, List.length_append] at hl1; exact hl1
        have hun := fun W => unonterm_any x W hx6
        rw [hm] at hun
        have hd : decide (x < 0) = true := by simpa using h0
        cases a2 with
        | none =>
          obtain ⟨hf0, rfl⟩ := hn2 rfl
          have hfe : f m = [] := List.length_eq_zero_iff.1 hf0
          rw [hf0] at q0
          have hown2 : wr.ownsRow w.heap.size 3 1 u5 (joinR f (zs.take (k + 1))).length (intsL (joinR f (zs.take (k + 1)))) := by rw [EJ.out, hfe, List.append_nil]; exact hown
          clear hx hxm hI2 hl1 EJ
          go_wp2_with (first | (go_at_call 73; refine (hun _).mono ?_; rintro e w' ⟨rfl, rfl⟩) | (at_builtin; refine wpList_append_own_none rfl _ _ 28 rfl w.heap.size 3 i0 1 Tryz.underlying28 hi _ _ _ rfl hown rfl ?_))
          go_roundw
          case rel => exact ⟨k + 1, by omega, by go_num, hown2, hB⟩
          case measure => simp [intOf]; omega
        | some y =>
          have hsrc := irow_src hI2
          clear hx hxm hI2 hl1
          go_wp2_with (first | (go_at_call 73; refine (hun _).mono ?_; rintro e w' ⟨rfl, rfl⟩) | (at_builtin; refine wpList_append_own _ rfl _ _ 28 rfl w.heap.size 3 i0 (.int .i64 0) 1 8 Tryz.underlying28 hi hz0 hz1 hz2 rfl (by decide) _ _ _ rfl hown y (f m).length c2 (intsL (f m)) rfl (by rw [intsL_len]; omega) hsrc (intsL_one _) (by unfold maxLen; omega) (by omega) hsw ?_; intro v1 w1 hown1 hgrow1 _))
          have hB1 : Below w.heap.size w w1 := hB.grown hgrow1 hsw (fun k hk => (hown.lt k hk).1)
          have hown2 : w1.ownsRow w.heap.size 3 1 v1 (joinR f (zs.take (k + 1))).length (intsL (joinR f (zs.take (k + 1)))) := by rw [EJ.out, List.length_append, intsL_app]; exact hown1
          go_roundw
          case rel => exact ⟨k + 1, by omega, by go_num, hown2, hB1⟩
          case measure => simp [intOf]; omega
      · have EJ : Hid (joinR f (zs.take (k + 1)) = joinR f (zs.take k) ++ [x]) := by
          show _ = _
          rw [List.take_add_one, hx, joinR_app]
          show _ ++ ((if x < 0 then f (-1 - x).toNat else [x]) ++ []) = _
          rw [if_neg h0, List.append_nil]
        have hd : decide (x < 0) = false := by simpa using h0
        clear hx hxm hl1
        go_wp2_with (at_builtin; refine wpList_append_own _ rfl _ _ 28 rfl w.heap.size 3 i0 (.int .i64 0) 1 8 Tryz.underlying28 hi hz0 hz1 hz2 rfl (by decide) _ _ _ rfl (hown.alloc _) ⟨wr.heap.size, 0, none⟩ 1 1 [.int .i64 x] rfl rfl (cell_one_new _ _ _) (by simp [Value.oneCell']) (by unfold maxLen; omega) (by omega) (by simp; omega) ?_; intro v1 w1 hown1 hgrow1 _)
        have hB1 : Below w.heap.size w w1 := (hB.alloc hsw _).grown hgrow1 (by simp; omega) (fun k hk => (hown.lt k hk).1)
        have hown2 : w1.ownsRow w.heap.size 3 1 v1 (joinR f (zs.take (k + 1))).length (intsL (joinR f (zs.take (k + 1)))) := by rw [EJ.out, List.length_append, intsL_app]; exact hown1
        go_roundw
        case rel => exact ⟨k + 1, by omega, by go_num, hown2, hB1⟩
        case measure => simp [intOf]; omega
    · rw [show k = zs.length by omega, List.take_length] at hown
      have hown9 := hown
      obtain ⟨a, c, rfl, h1, h2, h3⟩ := own_irow hown
      clear hown
      have HO9 : Hid (wr.ownsRow w.heap.size 3 1 (.slice a (joinR f zs).length c) (joinR f zs).length ((joinR f zs).map (Value.int .i64))) := hown9
      clear hown9
      go_wp2
      go_ret
      exact ⟨⟨a, c, rfl, h1, h2, h3, HO9.out⟩, hB⟩

/-- Two rows that have no block in common. -/
def Dis (v v' : Value) : Prop := ∀ k, v.ownBlock = some k → v'.ownBlock ≠ some k
theorem Dis.symm {v v' : Value} (h : Dis v v') : Dis v' v := fun k hk e => h k e hk
theorem own_keep {w w' : World} {B : Nat} {e : TypeId} {s n : Nat} {v : Value} {xs : List Value} (h : w.ownsRow B e s v n xs) (hb : ∀ k, v.ownBlock = some k → w'.heap[k]? = w.heap[k]?) : w'.ownsRow B e s v n xs := by
  obtain ⟨h1, h | ⟨g, cap, cur, rfl, hbb, hg, rest⟩⟩ := h
  · exact ⟨h1, .inl h⟩
  · exact ⟨h1, .inr ⟨g, cap, cur, rfl, hbb, (hb g rfl).trans hg, rest⟩⟩
theorem Dis.grow {B n m s : Nat} {e : TypeId} {w w1 : World} {o : Obj} {v v2 : Value} {xs : List Value} {g c : Nat} (hd : Dis v v2) (h2 : w.ownsRow B e s v2 n xs) (hg : (w.alloc o).grownBy w1 v.ownBlock) (hat : v.ownBlock = some g ∨ g = w.heap.size + 1) :
    w1.ownsRow B e s v2 n xs ∧ Dis (.slice (some ⟨g, 0, none⟩) m c) v2 := by
  constructor
  · refine own_keep h2 (fun k hk => ?_)
    have hlt := (h2.lt k hk).2
    rw [hg.block k (by simp; omega) (fun e => hd k e.symm hk), Below.heap_alloc _ _ _ hlt]
  · intro k hk e
    have hk' : g = k := by simpa [Value.ownBlock] using hk
    subst hk'
    rcases hat with h | h
    · exact hd g h e
    · have := (h2.lt g e).2
      omega

theorem filter_step {l : List Q} {p : Q → Bool} {k : Nat} {x : Q} (h : l[k]? = some x) : (l.take (k + 1)).filter p = (l.take k).filter p ++ if p x = true then [x] else [] := by
  rw [List.take_add_one, h, List.filter_append]
  by_cases hp : p x = true
  · simp [hp]
  · simp [hp]

theorem own_qrow2 {w : World} {base : Nat} {e : TypeId} {v : Value} {l : List Q} (h : w.ownsRow base e 2 v l.length (cellsQ l)) : ∃ a c, v = .slice a l.length c ∧ QRow w a l ∧ (a = none → l.length = 0 ∧ c = 0) ∧ ∀ b off, a = some ⟨b, off, none⟩ → base ≤ b := by
  rcases id h with ⟨_, ⟨rfl, h0⟩ | ⟨g, cap, cur, rfl, hb, _⟩⟩
  · refine ⟨none, 0, by rw [h0], fun i x hx => ?_, fun _ => ⟨h0, rfl⟩, fun b off h => by cases h⟩
    rw [List.length_eq_zero_iff.1 h0] at hx
    simp at hx
  · exact ⟨_, cap, rfl, qrow_own rfl h, (fun h => by cases h), fun b off h => by cases h; exact hb⟩

set_option maxRecDepth 100000 in
set_option maxHeartbeats 2000000 in
theorem parted_any (s : Int) (ra : Option Addr) (rc : Nat) (lq : List Q) (w : World) (hs : IsSet s) (hQ : QRow w ra lq) (hI : ∀ x ∈ lq, IRow w x.a x.r.right) (ho : ∀ x ∈ lq, okR x.r) (hl : lq.length ≤ 1000) :
    Calls Tryz.prog 53 #[.slice ra lq.length rc, .int .u64 s] w fun e w' => (∃ a c a' c', e = .returned (.tuple #[.slice a (lq.filter (fun x => nin s x.r)).length c, .slice a' (lq.filter (fun x => !nin s x.r)).length c']) ∧ QRow w' a (lq.filter (fun x => nin s x.r)) ∧ QRow w' a' (lq.filter (fun x => !nin s x.r))) ∧ Below w.heap.size w w' := by
  obtain ⟨i0, hi, hz0, hz1, hz2⟩ := info_parts GramLent.infoR
  go_enter Tryz.func53, Tryz.ntmps53
  go_wp2
  go_loopw [4, 5, 10] (fun v4 v5 i wr => ∃ k : Nat, k ≤ lq.length ∧ i = .int .i64 k ∧ wr.ownsRow w.heap.size 38 2 v4 ((lq.take k).filter (fun x => nin s x.r)).length (cellsQ ((lq.take k).filter (fun x => nin s x.r))) ∧ wr.ownsRow w.heap.size 38 2 v5 ((lq.take k).filter (fun x => !nin s x.r)).length (cellsQ ((lq.take k).filter (fun x => !nin s x.r))) ∧ Hid (Dis v4 v5) ∧ Below w.heap.size w wr) (fun _ _ i _ => lq.length - (intOf i).toNat)
  case atStart => exact ⟨0, by omega, rfl, World.ownsRow_nil _ _ _ _, World.ownsRow_nil _ _ _ _, (fun k hk => by cases hk), Below.refl _ _⟩
  case round =>
    obtain ⟨k, hk, rfl, hown4, hown5, hdis, hB⟩ := hrel
    have hsw := hB.size
    by_cases hlt : k < lq.length
    · obtain ⟨x, hx⟩ : ∃ x, lq[k]? = some x := ⟨lq[k], List.getElem?_eq_getElem hlt⟩
      obtain ⟨b, off, hra, d0, d1⟩ := (hQ.below hB (Nat.le_refl _)) k x hx
      subst hra
      have hlt2 : (k : Int) < (lq.length : Int) := by omega
      have hxm := List.mem_of_getElem? hx
      have hok := ho x hxm
      have F1 := filter_step (p := fun x => nin s x.r) hx
      have F2 := filter_step (p := fun x => !nin s x.r) hx
      have hl4 : ((lq.take k).filter (fun x => nin s x.r)).length ≤ k := Nat.le_trans (List.length_filter_le _ _) (by rw [List.length_take]; omega)
      have hl5 : ((lq.take k).filter (fun x => !nin s x.r)).length ≤ k := Nat.le_trans (List.length_filter_le _ _) (by rw [List.length_take]; omega)
      have hBn : Below wr.heap.size wr (wr.alloc (.cells #[.int .i64 x.r.left, .slice x.a x.r.right.length x.c] 38)) := (Below.refl _ _).alloc (Nat.le_refl _) _
      have hB2 := hB.trans (hBn.mono hsw)
      have hnt := nonterms_any x.a x.c x.r _ ((hI x hxm).below hB2 (Nat.le_refl _)) hok
      have n0 : (wr.alloc (.cells #[.int .i64 x.r.left, .slice x.a x.r.right.length x.c] 38)).cell? ⟨wr.heap.size, 0, none⟩ = some (.int .i64 x.r.left) := by simp
      have n1 : (wr.alloc (.cells #[.int .i64 x.r.left, .slice x.a x.r.right.length x.c] 38)).cell? ⟨wr.heap.size, 1, none⟩ = some (.slice x.a x.r.right.length x.c) := by simp
      have hzn : wr.heap.size < (wr.alloc (.cells #[.int .i64 x.r.left, .slice x.a x.r.right.length x.c] 38)).heap.size := by simp
      have E0 : Hid (nin s x.r = (minusI (ntI x.r) s == 0)) := rfl
      clear hx hxm
      go_wp2_with fail
      refine hnt.mono ?_
      rintro e w2 ⟨rfl, hb2⟩
      have hbo := hBn.trans (hb2.mono (by simp))
      have hB3 := hB2.trans (hb2.mono hB2.size)
      have hs3 := hB3.size
      have m0 := (hb2.cell (p := ⟨wr.heap.size, 0, none⟩) hzn).trans n0
      have m1 := (hb2.cell (p := ⟨wr.heap.size, 1, none⟩) hzn).trans n1
      have ho4 := GramLent.own_below hown4 hbo
      have ho5 := GramLent.own_below hown5 hbo
      have hw := SetsAlg.within_any (ntI x.r) s w2 (ntI_isSet _) hs
      clear hnt n0 n1 hzn hBn hB2 hb2 hown4 hown5 hbo
      cases hm : (minusI (ntI x.r) s == 0) with
      | true =>
        rw [hm] at hw E0
        rw [E0.out, if_pos rfl] at F1
        rw [E0.out, if_neg (by decide), List.append_nil] at F2
        have HF : Hid (_) := And.intro F1 F2
        clear hm F1 F2
        go_wp2_with fail
        refine hw.mono ?_
        rintro e w3 ⟨rfl, hw3⟩
        obtain rfl := hw3.symm
        go_wp2_with (at_builtin; refine wpList_append_lies _ rfl _ _ 23 rfl w.heap.size 38 i0 (.agg #[.int .i64 0, .slice none 0 0]) 2 32 Tryz.underlying23 hi hz0 hz1 hz2 rfl (by decide) _ _ _ rfl (ho4.alloc _) ⟨w2.heap.size, 0, none⟩ 1 1 [.int .i64 x.r.left, .slice x.a x.r.right.length x.c] rfl rfl (GramLent.cells_new _ #[_, _] _) (by simp [Value.oneCell']) (by omega) (by unfold maxLen; omega) (by omega) (by simp; omega) (w2.heap.size + 1) (by simp) ?_; intro g' c' w' hown' hgrow' hat' hlt')
        have hDA := Dis.grow (m := ((lq.take k).filter (fun x => nin s x.r)).length + 1) (c := c') hdis.out ho5 hgrow' hat'
        have hB4 : Below w.heap.size w w' := (hB3.alloc hs3 _).grown hgrow' (by simp; omega) (fun k hk => (ho4.lt k hk).1)
        have r4 : w'.ownsRow w.heap.size 38 2 (.slice (some ⟨g', 0, none⟩) (((lq.take k).filter (fun x => nin s x.r)).length + 1) c') ((lq.take (k + 1)).filter (fun x => nin s x.r)).length (cellsQ ((lq.take (k + 1)).filter (fun x => nin s x.r))) := by rw [HF.out.1, List.length_append, cellsQ_app]; exact hown'
        have r5 : w'.ownsRow w.heap.size 38 2 u5 ((lq.take (k + 1)).filter (fun x => !nin s x.r)).length (cellsQ ((lq.take (k + 1)).filter (fun x => !nin s x.r))) := by rw [HF.out.2]; exact hDA.1
        have hD2 : Hid (_) := hDA.2
        clear hDA hown' hgrow' ho4 ho5
        go_roundw
        case rel => exact ⟨k + 1, by omega, by go_num, r4, r5, hD2, hB4⟩
        case measure => simp [intOf]; omega
      | false =>
        rw [hm] at hw E0
        rw [E0.out, if_neg (by decide), List.append_nil] at F1
        rw [E0.out, if_pos (by rfl)] at F2
        have HF : Hid (_) := And.intro F1 F2
        clear hm F1 F2
        go_wp2_with fail
        refine hw.mono ?_
        rintro e w3 ⟨rfl, hw3⟩
        obtain rfl := hw3.symm
        go_wp2_with (at_builtin; refine wpList_append_lies _ rfl _ _ 23 rfl w.heap.size 38 i0 (.agg #[.int .i64 0, .slice none 0 0]) 2 32 Tryz.underlying23 hi hz0 hz1 hz2 rfl (by decide) _ _ _ rfl (ho5.alloc _) ⟨w2.heap.size, 0, none⟩ 1 1 [.int .i64 x.r.left, .slice x.a x.r.right.length x.c] rfl rfl (GramLent.cells_new _ #[_, _] _) (by simp [Value.oneCell']) (by omega) (by unfold maxLen; omega) (by omega) (by simp; omega) (w2.heap.size + 1) (by simp) ?_; intro g' c' w' hown' hgrow' hat' hlt')
        have hDA := Dis.grow (m := ((lq.take k).filter (fun x => !nin s x.r)).length + 1) (c := c') hdis.out.symm ho4 hgrow' hat'
        have hB4 : Below w.heap.size w w' := (hB3.alloc hs3 _).grown hgrow' (by simp; omega) (fun k hk => (ho5.lt k hk).1)
        have r5 : w'.ownsRow w.heap.size 38 2 (.slice (some ⟨g', 0, none⟩) (((lq.take k).filter (fun x => !nin s x.r)).length + 1) c') ((lq.take (k + 1)).filter (fun x => !nin s x.r)).length (cellsQ ((lq.take (k + 1)).filter (fun x => !nin s x.r))) := by rw [HF.out.2, List.length_append, cellsQ_app]; exact hown'
        have r4 : w'.ownsRow w.heap.size 38 2 u4 ((lq.take (k + 1)).filter (fun x => nin s x.r)).length (cellsQ ((lq.take (k + 1)).filter (fun x => nin s x.r))) := by rw [HF.out.1]; exact hDA.1
        have hD2 : Hid (_) := hDA.2.symm
        clear hDA hown' hgrow' ho4 ho5
        go_roundw
        case rel => exact ⟨k + 1, by omega, by go_num, r4, r5, hD2, hB4⟩
        case measure => simp [intOf]; omega
    · rw [show k = lq.length by omega, List.take_length] at hown4 hown5
      obtain ⟨a, c, rfl, h1, _, _⟩ := own_qrow2 hown4
      obtain ⟨a', c', rfl, h1', _, _⟩ := own_qrow2 hown5
      clear hown4 hown5 hdis
      go_wp2
      go_ret2
      exact ⟨⟨a, c, a', c', rfl, h1, h1'⟩, hB⟩

end Go.Proofs.YthbbipgngeflnaaGreatDoor.UsefulWord
