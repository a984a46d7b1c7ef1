/-
  Texts that stand together: GramEq.
-/
import Derived.Test.YthbbipgngeflnaaGreatDoorBagUsefulTabs
namespace Go.Proofs.YthbbipgngeflnaaGreatDoor.GramSame
open Go.RowKit Go.Proofs.YthbbipgngeflnaaGreatDoor.GramMath Go.Proofs.YthbbipgngeflnaaGreatDoor.GramRow Go.Proofs.YthbbipgngeflnaaGreatDoor.GramOne
set_option linter.unusedVariables false

open Classical in
noncomputable def eqI (a b : List Int) : Bool := decide (a = b)
open Classical in
noncomputable def eqS (a b : List ByteArray) : Bool := decide (a = b)
open Classical in
noncomputable def eqRs (a b : List R) : Bool := decide (a = b)
open Classical in
noncomputable def eqR (a b : R) : Bool := decide (a = b)
open Classical in
noncomputable def eqG (a b : G) : Bool := decide (a = b)

theorem cdt {p : Prop} (d : Decidable p) (h : p) : @decide p d = true := by simp [h]
theorem cdf {p : Prop} (d : Decidable p) (h : ¬ p) : @decide p d = false := by simp [h]

theorem list_same {α : Type} {a b : List α} (hl : a.length = b.length) (h : ∀ j, j < a.length → a[j]? = b[j]?) : a = b := by
  apply List.ext_getElem?
  intro j
  rcases Nat.lt_or_ge j a.length with hj | hj
  · exact h j hj
  · rw [List.getElem?_eq_none hj, List.getElem?_eq_none (by omega)]

theorem list_len {α : Type} {a b : List α} (hl : a.length ≠ b.length) : a ≠ b := fun h => hl (by rw [h])
theorem list_at {α : Type} {a b : List α} {k : Nat} {x y : α} (ha : a[k]? = some x) (hb : b[k]? = some y) (h : x ≠ y) : a ≠ b := fun e => h (by rw [e, hb] at ha; exact (Option.some.inj ha).symm)
theorem step_same {α : Type} {a b : List α} {k : Nat} {x : α} (ha : a[k]? = some x) (hb : b[k]? = some x) (h : ∀ j, j < k → a[j]? = b[j]?) : ∀ j, j < k + 1 → a[j]? = b[j]? := fun j hj => by
  by_cases e : j = k
  · subst e; rw [ha, hb]
  · exact h j (by omega)

theorem int_ne {x y : Int} (h : x ≠ y) : (x != y) = true := by simpa using h
theorem int_eq (x : Int) : (x != x) = false := by simp

set_option maxRecDepth 100000 in
set_option maxHeartbeats 2000000 in
theorem ints_any (a b : Option Addr) (ca cb : Nat) (xs ys : List Int) (w : World) (ha : IRow w a xs) (hb : IRow w b ys) (hm : xs.length ≤ 1125899906842624) (hn : ys.length ≤ 1125899906842624) :
    Calls Tryz.prog 14 #[.slice a xs.length ca, .slice b ys.length cb] w fun e w' => e = .returned (.bool (eqI xs ys)) ∧ ∃ q, w' = w.drewN q := by
  by_cases hl : xs.length = ys.length
  · have hl2 : ((xs.length : Int) != (ys.length : Int)) = false := by simp; omega
    go_enter Tryz.func14, Tryz.ntmps14
    go_wp2
    go_loopw [5] (fun i wr => ∃ k q : Nat, k ≤ xs.length ∧ i = .int .i64 k ∧ wr = w.drewN q ∧ Hid (∀ j, j < k → xs[j]? = ys[j]?)) (fun i _ => xs.length - (intOf i).toNat)
    case atStart => exact ⟨0, 0, by omega, rfl, rfl, fun j hj => by omega⟩
    case round =>
      clear hl2
      obtain ⟨k, q, hk, rfl, rfl, hal⟩ := hrel
      by_cases hlt : k < xs.length
      · obtain ⟨x, hx⟩ : ∃ x, xs[k]? = some x := ⟨xs[k], List.getElem?_eq_getElem hlt⟩
        obtain ⟨y, hy⟩ : ∃ y, ys[k]? = some y := ⟨ys[k], List.getElem?_eq_getElem (by omega)⟩
        obtain ⟨b1, off1, rfl, c1⟩ := ha k x hx
        obtain ⟨b2, off2, rfl, c2⟩ := hb k y hy
        have hlt2 : (k : Int) < (xs.length : Int) := by omega
        have hlt3 : (k : Int) < (ys.length : Int) := by omega
        by_cases hxy : x = y
        · subst hxy
          have hal2 : Hid (∀ j, j < k + 1 → xs[j]? = ys[j]?) := step_same hx hy hal.out
          have hf := int_eq x
          clear ha hb hx hy hal hl
          go_wp2
          go_quiet (fail)
          go_wp2
          go_roundw
          case rel => exact ⟨k + 1, _, by omega, by go_num, rfl, hal2⟩
          case measure => simp [intOf]; omega
        · have E : Hid (eqI xs ys = false) := by show _ = _; unfold eqI; exact cdf _ (list_at hx hy hxy)
          have hf := int_ne hxy
          clear ha hb hx hy hal hl hxy
          go_wp2
          go_quiet (fail)
          go_wp2
          go_ret
          exact ⟨ret_bool E.out.symm, _, World.drewN_drewN _ _ _⟩
      · have hnl : ¬ (k : Int) < (xs.length : Int) := by omega
        have hnl2 : ¬ (k : Int) < (ys.length : Int) := by omega
        have E : Hid (eqI xs ys = true) := by show _ = _; unfold eqI; exact cdt _ (list_same hl (fun j hj => hal.out j (by omega)))
        clear ha hb hal hl hk hlt
        go_wp2
        go_ret
        exact ⟨ret_bool E.out.symm, _, rfl⟩
  · have hl2 : ((xs.length : Int) != (ys.length : Int)) = true := by simp; omega
    have E : Hid (eqI xs ys = false) := by show _ = _; unfold eqI; exact cdf _ (list_len hl)
    clear hl
    go_enter Tryz.func14, Tryz.ntmps14
    go_wp2
    go_ret
    exact ⟨ret_bool E.out.symm, 0, rfl⟩

set_option maxRecDepth 100000 in
set_option maxHeartbeats 2000000 in
theorem strs_any (a b : Option Addr) (ca cb : Nat) (xs ys : List ByteArray) (w : World) (ha : SRow w a xs) (hb : SRow w b ys) (hm : xs.length ≤ 1125899906842624) (hn : ys.length ≤ 1125899906842624) :
    Calls Tryz.prog 66 #[.slice a xs.length ca, .slice b ys.length cb] w fun e w' => e = .returned (.bool (eqS xs ys)) ∧ ∃ q, w' = w.drewN q := by
  by_cases hl : xs.length = ys.length
  · have hl2 : ((xs.length : Int) != (ys.length : Int)) = false := by simp; omega
    go_enter Tryz.func66, Tryz.ntmps66
    go_wp2
    go_loopw [5] (fun i wr => ∃ k q : Nat, k ≤ xs.length ∧ i = .int .i64 k ∧ wr = w.drewN q ∧ Hid (∀ j, j < k → xs[j]? = ys[j]?)) (fun i _ => xs.length - (intOf i).toNat)
    case atStart => exact ⟨0, 0, by omega, rfl, rfl, fun j hj => by omega⟩
    case round =>
      clear hl2
      obtain ⟨k, q, hk, rfl, rfl, hal⟩ := hrel
      by_cases hlt : k < xs.length
      · obtain ⟨x, hx⟩ : ∃ x, xs[k]? = some x := ⟨xs[k], List.getElem?_eq_getElem hlt⟩
        obtain ⟨y, hy⟩ : ∃ y, ys[k]? = some y := ⟨ys[k], List.getElem?_eq_getElem (by omega)⟩
        obtain ⟨b1, off1, rfl, c1⟩ := ha k x hx
        obtain ⟨b2, off2, rfl, c2⟩ := hb k y hy
        have hlt2 : (k : Int) < (xs.length : Int) := by omega
        have hlt3 : (k : Int) < (ys.length : Int) := by omega
        by_cases hxy : x = y
        · subst hxy
          have hal2 : Hid (∀ j, j < k + 1 → xs[j]? = ys[j]?) := step_same hx hy hal.out
          have hf := str_eq x
          clear ha hb hx hy hal hl
          go_wp2
          go_quiet (fail)
          go_wp2
          go_roundw
          case rel => exact ⟨k + 1, _, by omega, by go_num, rfl, hal2⟩
          case measure => simp [intOf]; omega
        · have E : Hid (eqS xs ys = false) := by show _ = _; unfold eqS; exact cdf _ (list_at hx hy hxy)
          have hf := str_ne hxy
          clear ha hb hx hy hal hl hxy
          go_wp2
          go_quiet (fail)
          go_wp2
          go_ret
          exact ⟨ret_bool E.out.symm, _, World.drewN_drewN _ _ _⟩
      · have hnl : ¬ (k : Int) < (xs.length : Int) := by omega
        have hnl2 : ¬ (k : Int) < (ys.length : Int) := by omega
        have E : Hid (eqS xs ys = true) := by show _ = _; unfold eqS; exact cdt _ (list_same hl (fun j hj => hal.out j (by omega)))
        clear ha hb hal hl hk hlt
        go_wp2
        go_ret
        exact ⟨ret_bool E.out.symm, _, rfl⟩
  · have hl2 : ((xs.length : Int) != (ys.length : Int)) = true := by simp; omega
    have E : Hid (eqS xs ys = false) := by show _ = _; unfold eqS; exact cdf _ (list_len hl)
    clear hl
    go_enter Tryz.func66, Tryz.ntmps66
    go_wp2
    go_ret
    exact ⟨ret_bool E.out.symm, 0, rfl⟩

end Go.Proofs.YthbbipgngeflnaaGreatDoor.GramSame
