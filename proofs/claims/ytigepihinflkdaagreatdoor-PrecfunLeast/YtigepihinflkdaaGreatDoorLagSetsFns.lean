/-
  Texts that stand together: SetsFns, UsefulTabs.
-/
import Derived.Test.YtigepihinflkdaaGreatDoorChecked
import Derived.Test.YtigepihinflkdaaGreatDoorBaseMath
import Derived.WalkKit
import Derived.Below
import Derived.BigQuiet
import Derived.Laws.AppendOwnNone
import Derived.WalkSpells
import Derived.RangeFuncBox
import Derived.Laws.Bits128
import Derived.Test.YtigepihinflkdaaGreatDoorGramErrs
import Derived.Lib.LaidTab
import Derived.LaidSub
namespace Go.Proofs.YtigepihinflkdaaGreatDoor.SetsOne
open Go.RowKit Go.Proofs.YtigepihinflkdaaGreatDoor.SetsMath

theorem ret_int {k : IntKind} {a b : Int} (h : a = b) : Ending.returned (.int k a) = .returned (.int k b) := by rw [h]
theorem ret_bool {a b : Bool} (h : a = b) : Ending.returned (.bool a) = .returned (.bool b) := by rw [h]

set_option maxHeartbeats 400000 in
theorem only_any (k : Int) (w : World) : Calls Tryz.prog 91 #[.int .i64 k] w fun e w' => e = .returned (.int .u64 (oneI k)) ∧ w' = w := by
  by_cases h0 : k < 0
  · have E : Hid (oneI k = 0) := oneI_out (by omega)
    go_enter Tryz.func91, Tryz.ntmps91
    go_wp2
    go_ret
    exact ⟨ret_int E.out.symm, rfl⟩
  · by_cases h1 : 64 ≤ k
    · have E : Hid (oneI k = 0) := oneI_out (by omega)
      go_enter Tryz.func91, Tryz.ntmps91
      go_wp2
      go_ret
      exact ⟨ret_int E.out.symm, rfl⟩
    · have E : Hid (IntKind.u64.wrap (2 ^ k.toNat) = oneI k) := wrap_pow (by omega) (by omega)
      go_enter Tryz.func91, Tryz.ntmps91
      go_wp2
      go_ret
      exact ⟨ret_int E.out, rfl⟩

set_option maxHeartbeats 400000 in
theorem has_any (s k : Int) (w : World) (hs : IsSet s) : Calls Tryz.prog 107 #[.int .u64 s, .int .i64 k] w fun e w' => e = .returned (.bool (hasB s k)) ∧ w' = w := by
  have E : Hid (_) := bits_and_ne k hs
  go_enter Tryz.func107, Tryz.ntmps107
  go_wp2_with (go_at_call 91; refine (only_any _ _).mono ?_; rintro e w' ⟨rfl, rfl⟩)
  go_ret
  exact ⟨ret_bool E.out, rfl⟩

set_option maxHeartbeats 400000 in
theorem with_any (s k : Int) (w : World) (hs : IsSet s) : Calls Tryz.prog 58 #[.int .u64 s, .int .i64 k] w fun e w' => e = .returned (.int .u64 (withI s k)) ∧ w' = w := by
  have E : Hid (_) := bits_or k hs
  go_enter Tryz.func58, Tryz.ntmps58
  go_wp2_with (go_at_call 91; refine (only_any _ _).mono ?_; rintro e w' ⟨rfl, rfl⟩)
  go_ret
  exact ⟨ret_int E.out, rfl⟩

set_option maxHeartbeats 400000 in
theorem without_any (s k : Int) (w : World) (hs : IsSet s) : Calls Tryz.prog 59 #[.int .u64 s, .int .i64 k] w fun e w' => e = .returned (.int .u64 (withoutI s k)) ∧ w' = w := by
  have E : Hid (_) := bits_andNot k hs
  go_enter Tryz.func59, Tryz.ntmps59
  go_wp2_with (go_at_call 91; refine (only_any _ _).mono ?_; rintro e w' ⟨rfl, rfl⟩)
  go_ret
  exact ⟨ret_int E.out, rfl⟩

end Go.Proofs.YtigepihinflkdaaGreatDoor.SetsOne

namespace Go.Proofs.YtigepihinflkdaaGreatDoor.SetsMany
open Go.RowKit Go.Proofs.YtigepihinflkdaaGreatDoor.SetsMath Go.Proofs.YtigepihinflkdaaGreatDoor.SetsOne

/-- The first 'len' cells of a slice are the numbers 'zs'. -/
def Row (k : IntKind) (w : World) (a : Option Addr) (len : Nat) (zs : List Int) : Prop :=
  ∀ i, i < len → ∃ b off, a = some ⟨b, off, none⟩ ∧ w.cell? ⟨b, off + i, none⟩ = some (.int k (zs.getD i 0))

set_option maxHeartbeats 400000 in
theorem full_any (n : Int) (w : World) : Calls Tryz.prog 55 #[.int .i64 n] w fun e w' => e = .returned (.int .u64 (fullI n)) ∧ w' = w := by
  by_cases h0 : n < 1
  · have E : Hid (0 = fullI n) := by show 0 = fullI n; unfold fullI; rw [if_pos h0]
    go_enter Tryz.func55, Tryz.ntmps55
    go_wp2
    go_ret
    exact ⟨ret_int E.out, rfl⟩
  · by_cases h1 : 64 ≤ n
    · have E : Hid (18446744073709551615 = fullI n) := by show _ = fullI n; unfold fullI; rw [if_neg h0, if_pos h1]
      go_enter Tryz.func55, Tryz.ntmps55
      go_wp2
      go_ret
      exact ⟨ret_int E.out, rfl⟩
    · have E : Hid (_) := fullI_wrap (n := n) (by omega) (by omega)
      go_enter Tryz.func55, Tryz.ntmps55
      go_wp2
      go_ret
      exact ⟨ret_int E.out, rfl⟩

set_option maxHeartbeats 400000 in
theorem ints_same (a b : Option Addr) (n ca cb : Nat) (zs : List Int) (w : World) (ha : Row .i64 w a n zs) (hb : Row .i64 w b n zs) (hm : n ≤ 4611686018427387904) :
    Calls Tryz.prog 19 #[.slice a n ca, .slice b n cb] w fun e w' => e = .returned (.bool true) ∧ ∃ q, w' = w.drewN q := by
  go_enter Tryz.func19, Tryz.ntmps19
  go_wp2
  go_loopw [5] (fun i wr => ∃ k q : Nat, k ≤ n ∧ i = .int .i64 k ∧ wr = w.drewN q) (fun i _ => n - (intOf i).toNat)
  case atStart => exact ⟨0, 0, by omega, rfl, rfl⟩
  case round =>
    obtain ⟨k, q, hk, rfl, rfl⟩ := hrel
    by_cases hlt : k < n
    · obtain ⟨b1, off1, rfl, hc1⟩ := ha k hlt
      obtain ⟨b2, off2, rfl, hc2⟩ := hb k hlt
      obtain ⟨z, hz⟩ : ∃ z, zs.getD k 0 = z := ⟨_, rfl⟩
      rw [hz] at hc1 hc2
      clear hz
      go_wp2
      go_quiet (fail)
      go_wp2
      go_roundw
      case rel => exact ⟨k + 1, _, by omega, by go_num, rfl⟩
      case measure => simp [intOf]; omega
    · go_wp2
      go_ret
      exact ⟨rfl, _, rfl⟩

theorem Row.drewN {k : IntKind} {w : World} {a : Option Addr} {n : Nat} {zs : List Int} (h : Row k w a n zs) (q : Nat) : Row k (w.drewN q) a n zs := h

theorem cell_lt {w : World} {p : Addr} {v : Value} (h : w.cell? p = some v) : p.block < w.heap.size := by
  unfold World.cell? at h
  by_cases hb : p.block < w.heap.size
  · exact hb
  · rw [Array.getElem?_eq_none (by omega)] at h
    simp at h

theorem Row.below {k : IntKind} {w w' : World} {a : Option Addr} {n : Nat} {zs : List Int} (h : Row k w a n zs) (hb : Below w.heap.size w w') : Row k w' a n zs := by
  intro i hi
  obtain ⟨b, off, ha, hc⟩ := h i hi
  exact ⟨b, off, ha, by rw [hb.cell (cell_lt hc)]; exact hc⟩

set_option maxHeartbeats 400000 in
theorem kept_same (a b : Option Addr) (n ca cb : Nat) (zs : List Int) (w : World) (ha : Row .i64 w a n zs) (hb : Row .i64 w b n zs) (hm : n ≤ 4611686018427387904)
    (g : Nat) (hg : a = some ⟨g, 0, none⟩) (hc : n < ca) (hl : w.cell? ⟨g, n, none⟩ = some (.int .i64 (-7171))) :
    Calls Tryz.prog 25 #[.slice a n ca, .slice b n cb] w fun e w' => e = .returned (.bool true) ∧ ∃ q, w' = w.drewN q := by
  subst hg
  go_enter Tryz.func25, Tryz.ntmps25
  go_wp2_with (go_at_call 19; refine (ints_same _ _ _ _ _ _ _ ha hb hm).mono ?_; rintro e w' ⟨rfl, q, rfl⟩)
  go_ret
  exact ⟨rfl, _, rfl⟩

theorem own_cap {w : World} {base : Nat} {e : TypeId} {g n c : Nat} {xs : List Value} (h : w.ownsRow base e 1 (.slice (some ⟨g, 0, none⟩) n c) n xs) : n ≤ c ∧ c ≤ maxLen ∧ base ≤ g := by
  obtain ⟨_, h | ⟨g', cap, cur, hv, hb, _, hn, hm, _⟩⟩ := h
  · exact absurd h.1 (by simp)
  · simp at hv
    obtain ⟨rfl, rfl⟩ := hv
    exact ⟨hn, hm, hb⟩

theorem lent_row {w2 : World} {base : Nat} {e : TypeId} {g n c : Nat} {zs : List Int} (hz : n ≤ zs.length)
    (h : w2.ownsRow base e 1 (.slice (some ⟨g, 0, none⟩) (n + 1) c) (n + 1) ((zs.take n).map (Value.int .i64) ++ [.int .i64 (-7171)])) :
    Row .i64 w2 (some ⟨g, 0, none⟩) n zs ∧ w2.cell? ⟨g, n, none⟩ = some (.int .i64 (-7171)) := by
  have hl : ((zs.take n).map (Value.int .i64)).length = n := by simp; omega
  refine ⟨fun i hi => ⟨g, 0, rfl, ?_⟩, ?_⟩
  · rw [Nat.zero_add, h.cellAt i (by omega), List.getElem?_append_left (by omega), List.getElem?_map, List.getElem?_take, if_pos hi, List.getElem?_eq_getElem (by omega)]
    simp [List.getD_eq_getElem?_getD, List.getElem?_eq_getElem (show i < zs.length by omega)]
  · rw [h.cellAt n (by omega), List.getElem?_append_right (by omega), hl]
    simp

theorem Tryz.info3 : (Tryz.prog.info? 3).map (fun i => (i.zero, i.size, i.bytes)) = some (some (.int .i64 0), 1, 8) := by kernel_rfl

set_option maxHeartbeats 400000 in
theorem lent_any (a : Option Addr) (n ca : Nat) (zs : List Int) (w : World) (ha : Row .i64 w a n zs) (hz : n ≤ zs.length) (hm : n * 8 ≤ 140737488351232) (hnil : a = none → n = 0 ∧ ca = 0) :
    Calls Tryz.prog 22 #[.slice a n ca] w fun e w' => ∃ g c, e = .returned (.slice (some ⟨g, 0, none⟩) n c) ∧ n < c ∧ c ≤ maxLen ∧ w.heap.size ≤ g ∧
      Row .i64 w' (some ⟨g, 0, none⟩) n zs ∧ w'.cell? ⟨g, n, none⟩ = some (.int .i64 (-7171)) ∧ Below w.heap.size w w' := by
  obtain ⟨i0, hi, hz0, hz1, hz2⟩ := info_parts Tryz.info3
  cases a with
  | none =>
    obtain ⟨rfl, rfl⟩ := hnil rfl
    go_enter Tryz.func22, Tryz.ntmps22
    go_wp2_with (first
      | (at_builtin; refine wpList_append_own_none rfl (.tmp 4) (.tmp 5) 36 rfl w.heap.size 3 i0 1 Tryz.underlying36 hi _ _ _ rfl (World.ownsRow_nil _ _ _ _) rfl ?_)
      | (at_builtin; refine wpList_append_own _ rfl (.tmp 7) (.tmp 8) 36 rfl w.heap.size 3 i0 (.int .i64 0) 1 8 Tryz.underlying36 hi hz0 hz1 hz2 rfl (by decide) _ _ _ rfl ((World.ownsRow_nil w w.heap.size 3 1).alloc _) ⟨w.heap.size, 0, none⟩ 1 1 [.int .i64 (-7171)] rfl rfl (cell_one_new _ _ _) (by simp [Value.oneCell']) (by unfold maxLen; omega) (by omega) (by simp) ?_; intro v2 w2 hown2 hgrow2 _; obtain ⟨g, c, rfl⟩ := ownsRow_succ hown2; have hcap := own_cap hown2))
    obtain ⟨hr1, hr2⟩ := lent_row (zs := zs) (n := 0) (by omega) hown2
    go_ret
    exact ⟨g, c, rfl, by omega, hcap.2.1, hcap.2.2, hr1, hr2, ((Below.refl _ _).alloc (Nat.le_refl _) _).grown hgrow2 (by simp) (by intro k hk; cases hk)⟩
  | some x =>
    have hnews : ∀ j u, ((zs.take n).map (Value.int .i64))[j]? = some u → w.cell? (x.add j) = some u := by
      intro j u hj
      rw [List.getElem?_map, List.getElem?_take] at hj
      by_cases hjn : j < n
      · obtain ⟨b, off, hx, hc⟩ := ha j hjn
        obtain rfl : x = ⟨b, off, none⟩ := by simpa using hx
        rw [if_pos hjn, List.getElem?_eq_getElem (by omega)] at hj
        simp only [Option.map_some, Option.some.injEq] at hj
        subst hj
        rw [List.getD_eq_getElem?_getD, List.getElem?_eq_getElem (by omega)] at hc
        rw [Addr.add_lit]; simpa using hc
      · rw [if_neg hjn] at hj
        simp at hj
    have hone : ∀ u ∈ (zs.take n).map (Value.int .i64), u.oneCell' = true := by
      intro u hu
      obtain ⟨y, _, rfl⟩ := List.mem_map.1 hu
      rfl
    have hlen : ((zs.take n).map (Value.int .i64)).length = n * 1 := by simp; omega
    go_enter Tryz.func22, Tryz.ntmps22
    go_wp2_with (first
      | (at_builtin; refine wpList_append_own _ rfl (.tmp 4) (.tmp 5) 36 rfl w.heap.size 3 i0 (.int .i64 0) 1 8 Tryz.underlying36 hi hz0 hz1 hz2 rfl (by decide) _ _ _ rfl (World.ownsRow_nil w w.heap.size 3 1) x n ca ((zs.take n).map (Value.int .i64)) rfl hlen hnews hone (by unfold maxLen; omega) (by omega) (Nat.le_refl _) ?_; intro v1 w1 hown1 hgrow1 _; simp only [Nat.zero_add, List.nil_append] at hown1)
      | (at_builtin; refine wpList_append_own _ rfl (.tmp 7) (.tmp 8) 36 rfl w.heap.size 3 i0 (.int .i64 0) 1 8 Tryz.underlying36 hi hz0 hz1 hz2 rfl (by decide) _ _ _ rfl (hown1.alloc _) ⟨w1.heap.size, 0, none⟩ 1 1 [.int .i64 (-7171)] rfl rfl (cell_one_new _ _ _) (by simp [Value.oneCell']) (by unfold maxLen; omega) (by omega) (by have := hgrow1.size; simp; omega) ?_; intro v2 w2 hown2 hgrow2 _; obtain ⟨g, c, rfl⟩ := ownsRow_succ hown2; have hcap := own_cap hown2))
    obtain ⟨hr1, hr2⟩ := lent_row (zs := zs) (n := n) (by omega) hown2
    have hs1 := hgrow1.size
    go_ret
    exact ⟨g, c, rfl, by omega, hcap.2.1, hcap.2.2, hr1, hr2, ((((Below.refl _ _).grown hgrow1 (Nat.le_refl _) (by intro k hk; cases hk)).alloc hs1 _).grown hgrow2 (by simp; omega) (fun k hk => (hown1.lt k hk).1))⟩

end Go.Proofs.YtigepihinflkdaaGreatDoor.SetsMany

namespace Go.Proofs.YtigepihinflkdaaGreatDoor.SetsAlg
open Go.RowKit Go.Proofs.YtigepihinflkdaaGreatDoor.SetsMath Go.Proofs.YtigepihinflkdaaGreatDoor.SetsOne Go.Proofs.YtigepihinflkdaaGreatDoor.SetsMany

/-- The library's table of lowest bits lies in its variable. -/
def Tab (w : World) : Prop := ∀ j, j < Lib.deBruijn64tab.length → w.cell? ⟨16, j, none⟩ = some (.int .u8 (Lib.deBruijn64tab.getD j 0))

theorem Tab.below {w w' : World} (h : Tab w) (hb : Below w.heap.size w w') : Tab w' := fun j hj => by
  have hc := h j hj
  rw [hb.cell (cell_lt hc)]
  exact hc

theorem tz_key (x a : Nat) (hx : x < 18446744073709551616) (hx0 : x ≠ 0) (hlow : x &&& (18446744073709551616 - x) = a) :
    IntKind.u64.wrap (bits BinOp.and IntKind.u64 (x : Int) (IntKind.u64.wrap (-(x : Int))) * 285870213051353865) / 288230376151711744 = ((a * 285870213051353865 % 18446744073709551616 / 288230376151711744 : Nat) : Int) := by
  have e1 : IntKind.u64.wrap (-(x : Int)) = ((18446744073709551616 - x : Nat) : Int) := by rw [IntKind.wrap_u64]; omega
  rw [e1, u64_and_nat x _ hx (by omega), hlow, IntKind.wrap_u64]
  omega

set_option maxHeartbeats 1000000 in
theorem tz_core (x k idx : Nat) (w : World) (hx0 : ((x : Int) == 0) = false)
    (key : IntKind.u64.wrap (bits BinOp.and IntKind.u64 (x : Int) (IntKind.u64.wrap (-(x : Int))) * 285870213051353865) / 288230376151711744 = (idx : Int))
    (hi : idx < 64) (hk : k < 64) (hcell : w.cell? ⟨16, idx, none⟩ = some (.int .u8 k)) :
    Calls Tryz.prog 112 #[.int .u64 x] w fun e w' => e = .returned (.int .i64 k) ∧ w' = w := by
  go_enter Tryz.func112, Tryz.ntmps112
  go_wp2_with (simp only [key])
  go_ret
  exact ⟨rfl, rfl⟩

theorem tz_any (s : Int) (w : World) (hs : IsSet s) (h0 : ¬ s = 0) (hT : Tab w) :
    Calls Tryz.prog 112 #[.int .u64 s] w fun e w' => e = .returned (.int .i64 (lowI s)) ∧ w' = w := by
  have hlt := toNat_lt hs
  have e : s = (s.toNat : Int) := by unfold IsSet at hs; omega
  have hn0 : s.toNat ≠ 0 := by omega
  obtain ⟨hlow, hk⟩ := Lib.lowest_bit 64 s.toNat hn0 (by rw [two64]; exact hlt)
  rw [two64] at hlow
  obtain ⟨hi, htab⟩ := Lib.deBruijn64_at _ hk
  have hcell := hT _ hi
  rw [htab] at hcell
  have key := tz_core s.toNat _ _ w (by simp; omega) (tz_key s.toNat _ hlt hn0 hlow) hi hk hcell
  rw [← e] at key
  exact key

set_option maxHeartbeats 400000 in
theorem lowest_any (s : Int) (w : World) (hs : IsSet s) (h0 : ¬ s = 0) (hT : Tab w) :
    Calls Tryz.prog 90 #[.int .u64 s] w fun e w' => e = .returned (.int .i64 (lowI s)) ∧ w' = w := by
  go_enter Tryz.func90, Tryz.ntmps90
  go_wp2_with (go_at_call 112; refine (tz_any _ _ hs h0 hT).mono ?_; rintro e w' ⟨rfl, rfl⟩)
  go_ret
  exact ⟨rfl, rfl⟩

def cmpI (s t : Int) : Int := if s < t then -1 else if t < s then 1 else 0

end Go.Proofs.YtigepihinflkdaaGreatDoor.SetsAlg

namespace Go.Proofs.YtigepihinflkdaaGreatDoor.UsefulTabs
open Go.RowKit Go.Proofs.YtigepihinflkdaaGreatDoor.SetsAlg Go.Proofs.YtigepihinflkdaaGreatDoor.GramErrs Go.Proofs.YtigepihinflkdaaGreatDoor.GramRow
set_option linter.unusedVariables false

theorem gTz : Tryz.prog.globalNamed "math/bits.deBruijn64tab" = some 16 := by kernel_rfl
theorem gtTz : (Tryz.prog.globals[16]?).map (·.type) = some 219 := by kernel_rfl
theorem gcTz : Tryz.prog.cellsOf 219 = 64 := by kernel_rfl
def valsTz : List Int := [0, 1, 56, 2, 57, 49, 28, 3, 61, 58, 42, 50, 38, 29, 17, 4, 62, 47, 59, 36, 45, 43, 51, 22, 53, 39, 33, 30, 24, 18, 12, 5, 63, 55, 48, 27, 60, 41, 37, 16, 46, 35, 44, 21, 52, 32, 23, 11, 54, 26, 40, 15, 34, 20, 31, 10, 25, 14, 19, 9, 13, 8, 7, 6]

def tabLaid : List (String × DataW Unit) := ("math/bits.deBruijn64tab", Rows.laid_math_bits_deBruijn64tab) :: errLaid

theorem errs_laid {W : World} (h : laidMetH Tryz.prog tabLaid W) : laidMetH Tryz.prog errLaid W := by
  have h2 := laidMetH.filter (fun x => !decide (x.1 = "math/bits.deBruijn64tab")) h
  have e : tabLaid.filter (fun x => !decide (x.1 = "math/bits.deBruijn64tab")) = errLaid := by kernel_rfl
  rw [e] at h2
  exact h2

theorem tableTz {W : World} (h : laidMetH Tryz.prog tabLaid W) : Lib.TabIs Tryz.prog W "math/bits.deBruijn64tab" .u8 valsTz := by
  have h2 := laidMetH.filter (fun x => decide (x.1 = "math/bits.deBruijn64tab")) h
  have e : tabLaid.filter (fun x => decide (x.1 = "math/bits.deBruijn64tab")) = [("math/bits.deBruijn64tab", Lib.tabData .u8 valsTz)] := by kernel_rfl
  rw [e] at h2
  exact Lib.tabIs_of_head (rest := []) gTz gtTz Tryz.underlying219 Tryz.underlying5 (by kernel_rfl) gcTz h2

theorem tab_laid {W : World} (h : laidMetH Tryz.prog tabLaid W) : Tab W ∧ 16 < W.heap.size := by
  have hc : ∀ i, i < valsTz.length → W.cell? ⟨16, i, none⟩ = some (.int .u8 (valsTz.getD i 0)) := fun i hi => (tableTz h).cell gTz i hi
  refine ⟨fun j hj => ?_, cell_lt (hc 0 (by decide))⟩
  have e : ∀ j, j < 64 → valsTz.getD j 0 = ((Lib.deBruijn64tab.getD j 0 : Nat) : Int) := by decide +kernel
  rw [hc j hj, e j hj]

def layTz : Obj → Obj
  | .cells _ t frozen => .cells (valsTz.map (fun z => Value.int .u8 z)).toArray t frozen
  | o => o

noncomputable def laidWorldT (os : Os) : World := { laidWorld os with heap := (laidWorld os).heap.modify 16 layTz }

end Go.Proofs.YtigepihinflkdaaGreatDoor.UsefulTabs
