/-
  Two lists, two rules, two grammars: are they the same, by the program and by the statements' own look.
-/
import Derived.Test.YtcmjneabcdpmoaaDoorGramAwakes
namespace Go.Proofs.YtcmjneabcdpmoaaDoor.GramSame
open Go.RowKit Go.Proofs.YtcmjneabcdpmoaaDoor.GramMath Go.Proofs.YtcmjneabcdpmoaaDoor.GramRow Go.Proofs.YtcmjneabcdpmoaaDoor.GramOne
set_option linter.unusedVariables false

open Classical in
noncomputable def eqI (a b : List Int) : Bool := decide (a = b)
open Classical in
noncomputable def eqS (a b : List ByteArray) : Bool := decide (a = b)
open Classical in
noncomputable def eqRs (a b : List R) : Bool := decide (a = b)
open Classical in
noncomputable def eqR (a b : R) : Bool := decide (a = b)
open Classical in
noncomputable def eqG (a b : G) : Bool := decide (a = b)

theorem cdt {p : Prop} (d : Decidable p) (h : p) : @decide p d = true := by simp [h]
theorem cdf {p : Prop} (d : Decidable p) (h : ¬ p) : @decide p d = false := by simp [h]

theorem list_same {α : Type} {a b : List α} (hl : a.length = b.length) (h : ∀ j, j < a.length → a[j]? = b[j]?) : a = b := by
  apply List.ext_getElem?
  intro j
  rcases Nat.lt_or_ge j a.length with hj | hj
  · exact h j hj
  · rw [List.getElem?_eq_none hj, List.getElem?_eq_none (by omega)]

theorem list_len {α : Type} {a b : List α} (hl : a.length ≠ b.length) : a ≠ b := fun h => hl (by rw [h])
theorem list_at {α : Type} {a b : List α} {k : Nat} {x y : α} (ha : a[k]? = some x) (hb : b[k]? = some y) (h : x ≠ y) : a ≠ b := fun e => h (by rw [e, hb] at ha; exact (Option.some.inj ha).symm)
theorem step_same {α : Type} {a b : List α} {k : Nat} {x : α} (ha : a[k]? = some x) (hb : b[k]? = some x) (h : ∀ j, j < k → a[j]? = b[j]?) : ∀ j, j < k + 1 → a[j]? = b[j]? := fun j hj => by
  by_cases e : j = k
  · subst e; rw [ha, hb]
  · exact h j (by omega)

theorem int_ne {x y : Int} (h : x ≠ y) : (x != y) = true := by simpa using h
theorem int_eq (x : Int) : (x != x) = false := by simp

set_option maxRecDepth 100000 in
set_option maxHeartbeats 2000000 in
theorem ints_any (a b : Option Addr) (ca cb : Nat) (xs ys : List Int) (w : World) (ha : IRow w a xs) (hb : IRow w b ys) (hm : xs.length ≤ 1125899906842624) (hn : ys.length ≤ 1125899906842624) :
    Calls Tryd.prog 19 #[.slice a xs.length ca, .slice b ys.length cb] w fun e w' => e = .returned (.bool (eqI xs ys)) ∧ ∃ q, w' = w.drewN q := by
  by_cases hl : xs.length = ys.length
  · have hl2 : ((xs.length : Int) != (ys.length : Int)) = false := by simp; omega
    go_enter Tryd.func19, Tryd.ntmps19
    go_wp2
    go_loopw [5] (fun i wr => ∃ k q : Nat, k ≤ xs.length ∧ i = .int .i64 k ∧ wr = w.drewN q ∧ Hid (∀ j, j < k → xs[j]? = ys[j]?)) (fun i _ => xs.length - (intOf i).toNat)
    case atStart => exact ⟨0, 0, by omega, rfl, rfl, fun j hj => by omega⟩
    case round =>
      clear hl2
      obtain ⟨k, q, hk, rfl, rfl, hal⟩ := hrel
      by_cases hlt : k < xs.length
      · obtain ⟨x, hx⟩ : ∃ x, xs[k]? = some x := ⟨xs[k], List.getElem?_eq_getElem hlt⟩
        obtain ⟨y, hy⟩ : ∃ y, ys[k]? = some y := ⟨ys[k], List.getElem?_eq_getElem (by omega)⟩
        obtain ⟨b1, off1, rfl, c1⟩ := ha k x hx
        obtain ⟨b2, off2, rfl, c2⟩ := hb k y hy
        have hlt2 : (k : Int) < (xs.length : Int) := by omega
        have hlt3 : (k : Int) < (ys.length : Int) := by omega
        by_cases hxy : x = y
        · subst hxy
          have hal2 : Hid (∀ j, j < k + 1 → xs[j]? = ys[j]?) := step_same hx hy hal.out
          have hf := int_eq x
          clear ha hb hx hy hal hl
          go_wp2
          go_quiet (fail)
          go_wp2
          go_roundw
          case rel => exact ⟨k + 1, _, by omega, by go_num, rfl, hal2⟩
          case measure => simp [intOf]; omega
        · have E : Hid (eqI xs ys = false) := by show _ = _; unfold eqI; exact cdf _ (list_at hx hy hxy)
          have hf := int_ne hxy
          clear ha hb hx hy hal hl hxy
          go_wp2
          go_quiet (fail)
          go_wp2
          go_ret
          exact ⟨ret_bool E.out.symm, _, World.drewN_drewN _ _ _⟩
      · have hnl : ¬ (k : Int) < (xs.length : Int) := by omega
        have hnl2 : ¬ (k : Int) < (ys.length : Int) := by omega
        have E : Hid (eqI xs ys = true) := by show _ = _; unfold eqI; exact cdt _ (list_same hl (fun j hj => hal.out j (by omega)))
        clear ha hb hal hl hk hlt
        go_wp2
        go_ret
        exact ⟨ret_bool E.out.symm, _, rfl⟩
  · have hl2 : ((xs.length : Int) != (ys.length : Int)) = true := by simp; omega
    have E : Hid (eqI xs ys = false) := by show _ = _; unfold eqI; exact cdf _ (list_len hl)
    clear hl
    go_enter Tryd.func19, Tryd.ntmps19
    go_wp2
    go_ret
    exact ⟨ret_bool E.out.symm, 0, rfl⟩

set_option maxRecDepth 100000 in
set_option maxHeartbeats 2000000 in
theorem strs_any (a b : Option Addr) (ca cb : Nat) (xs ys : List ByteArray) (w : World) (ha : SRow w a xs) (hb : SRow w b ys) (hm : xs.length ≤ 1125899906842624) (hn : ys.length ≤ 1125899906842624) :
    Calls Tryd.prog 32 #[.slice a xs.length ca, .slice b ys.length cb] w fun e w' => e = .returned (.bool (eqS xs ys)) ∧ ∃ q, w' = w.drewN q := by
  by_cases hl : xs.length = ys.length
  · have hl2 : ((xs.length : Int) != (ys.length : Int)) = false := by simp; omega
    go_enter Tryd.func32, Tryd.ntmps32
    go_wp2
    go_loopw [5] (fun i wr => ∃ k q : Nat, k ≤ xs.length ∧ i = .int .i64 k ∧ wr = w.drewN q ∧ Hid (∀ j, j < k → xs[j]? = ys[j]?)) (fun i _ => xs.length - (intOf i).toNat)
    case atStart => exact ⟨0, 0, by omega, rfl, rfl, fun j hj => by omega⟩
    case round =>
      clear hl2
      obtain ⟨k, q, hk, rfl, rfl, hal⟩ := hrel
      by_cases hlt : k < xs.length
      · obtain ⟨x, hx⟩ : ∃ x, xs[k]? = some x := ⟨xs[k], List.getElem?_eq_getElem hlt⟩
        obtain ⟨y, hy⟩ : ∃ y, ys[k]? = some y := ⟨ys[k], List.getElem?_eq_getElem (by omega)⟩
        obtain ⟨b1, off1, rfl, c1⟩ := ha k x hx
        obtain ⟨b2, off2, rfl, c2⟩ := hb k y hy
        have hlt2 : (k : Int) < (xs.length : Int) := by omega
        have hlt3 : (k : Int) < (ys.length : Int) := by omega
        by_cases hxy : x = y
        · subst hxy
          have hal2 : Hid (∀ j, j < k + 1 → xs[j]? = ys[j]?) := step_same hx hy hal.out
          have hf := str_eq x
          clear ha hb hx hy hal hl
          go_wp2
          go_quiet (fail)
          go_wp2
          go_roundw
          case rel => exact ⟨k + 1, _, by omega, by go_num, rfl, hal2⟩
          case measure => simp [intOf]; omega
        · have E : Hid (eqS xs ys = false) := by show _ = _; unfold eqS; exact cdf _ (list_at hx hy hxy)
          have hf := str_ne hxy
          clear ha hb hx hy hal hl hxy
          go_wp2
          go_quiet (fail)
          go_wp2
          go_ret
          exact ⟨ret_bool E.out.symm, _, World.drewN_drewN _ _ _⟩
      · have hnl : ¬ (k : Int) < (xs.length : Int) := by omega
        have hnl2 : ¬ (k : Int) < (ys.length : Int) := by omega
        have E : Hid (eqS xs ys = true) := by show _ = _; unfold eqS; exact cdt _ (list_same hl (fun j hj => hal.out j (by omega)))
        clear ha hb hal hl hk hlt
        go_wp2
        go_ret
        exact ⟨ret_bool E.out.symm, _, rfl⟩
  · have hl2 : ((xs.length : Int) != (ys.length : Int)) = true := by simp; omega
    have E : Hid (eqS xs ys = false) := by show _ = _; unfold eqS; exact cdf _ (list_len hl)
    clear hl
    go_enter Tryd.func32, Tryd.ntmps32
    go_wp2
    go_ret
    exact ⟨ret_bool E.out.symm, 0, rfl⟩

theorem eqR_and (a b : R) : eqR a b = (decide (a.left = b.left) && eqI a.right b.right) := by
  unfold eqR eqI
  obtain ⟨l, r⟩ := a
  obtain ⟨l', r'⟩ := b
  rw [Bool.eq_iff_iff]
  simp only [Bool.and_eq_true, decide_eq_true_eq, R.mk.injEq]

theorem eqG_and (a b : G) : eqG a b = (eqS a.ts b.ts && eqS a.ns b.ns && decide (a.ax = b.ax) && eqRs a.rs b.rs) := by
  unfold eqG eqS eqRs
  obtain ⟨t, n, x, r⟩ := a
  obtain ⟨t', n', x', r'⟩ := b
  rw [Bool.eq_iff_iff]
  simp only [Bool.and_eq_true, decide_eq_true_eq, G.mk.injEq, and_assoc]

theorem eqG_comm (a b : G) : eqG b a = eqG a b := by
  unfold eqG
  rw [Bool.eq_iff_iff]
  simp only [decide_eq_true_eq]
  exact eq_comm

theorem eqG_refl (a : G) : eqG a a = true := by
  unfold eqG
  simp

set_option maxRecDepth 100000 in
set_option maxHeartbeats 4000000 in
theorem rules_any (a b : Option Addr) (ca cb : Nat) (xs ys : List R) (w : World) (ha : RRow w a xs) (hb : RRow w b ys) (hm : xs.length ≤ 1125899906842624) (hn : ys.length ≤ 1125899906842624) (hx : ∀ r ∈ xs, okR r) (hy : ∀ r ∈ ys, okR r) :
    Calls Tryd.prog 33 #[.slice a xs.length ca, .slice b ys.length cb] w fun e w' => e = .returned (.bool (eqRs xs ys)) ∧ ∃ q, w' = w.drewN q := by
  by_cases hl : xs.length = ys.length
  · have hl2 : ((xs.length : Int) != (ys.length : Int)) = false := by simp; omega
    have hl4 : Hid (xs.length = ys.length) := hl
    clear hl
    go_enter Tryd.func33, Tryd.ntmps33
    go_wp2
    go_loopw [5] (fun i wr => ∃ k q : Nat, k ≤ xs.length ∧ i = .int .i64 k ∧ wr = w.drewN q ∧ Hid (∀ j, j < k → xs[j]? = ys[j]?)) (fun i _ => xs.length - (intOf i).toNat)
    case atStart => exact ⟨0, 0, by omega, rfl, rfl, fun j hj => by omega⟩
    case round =>
      clear hl2
      obtain ⟨k, q, hk, rfl, rfl, hal⟩ := hrel
      have hl := hl4.out
      by_cases hlt : k < xs.length
      · obtain ⟨x, hx1⟩ : ∃ x, xs[k]? = some x := ⟨xs[k], List.getElem?_eq_getElem hlt⟩
        obtain ⟨y, hy1⟩ : ∃ y, ys[k]? = some y := ⟨ys[k], List.getElem?_eq_getElem (by omega)⟩
        obtain ⟨b1, off1, qa, pa, rfl, c1, c2, i1⟩ := ha k x hx1
        obtain ⟨b2, off2, qb, pb, rfl, d1, d2, i2⟩ := hb k y hy1
        have hlt2 : (k : Int) < (xs.length : Int) := by omega
        have hlt3 : (k : Int) < (ys.length : Int) := by omega
        have hxo := hx x (List.mem_of_getElem? hx1)
        have hyo := hy y (List.mem_of_getElem? hy1)
        have his := fun W (h1 : IRow W qa x.right) (h2 : IRow W qb y.right) => ints_any qa qb pa pb x.right y.right W h1 h2 hxo.2.2 hyo.2.2
        have hand := eqR_and x y
        by_cases hleft : x.left = y.left
        · have hf : (x.left != y.left) = false := by simpa using hleft
          rw [decide_eq_true hleft, Bool.true_and] at hand
          by_cases hxy : x = y
          · have hr : eqI x.right y.right = true := by rw [← hand]; unfold eqR; exact cdt _ hxy
            have hal2 : Hid (∀ j, j < k + 1 → xs[j]? = ys[j]?) := step_same hx1 (by rw [hy1, hxy]) hal.out
            rw [hr] at his
            clear hx1 hy1 hal hl hxy hr hand hleft ha hb hx hy
            go_wp2
            go_quiet ((go_at_call 19; refine (his _ ?_ ?_).mono ?_; exact i1; exact i2; rintro _ _ ⟨h1, m, hm⟩; exact ⟨h1, _, by rw [hm, World.drewN_drewN, Nat.add_assoc]⟩))
            go_wp2
            go_roundw
            case rel => exact ⟨k + 1, _, by omega, by go_num, rfl, hal2⟩
            case measure => simp [intOf]; omega
          · have hr : eqI x.right y.right = false := by rw [← hand]; unfold eqR; exact cdf _ hxy
            have E : Hid (eqRs xs ys = false) := by show _ = _; unfold eqRs; exact cdf _ (list_at hx1 hy1 hxy)
            rw [hr] at his
            clear hx1 hy1 hal hl hxy hr hand hleft ha hb hx hy
            go_wp2
            go_quiet ((go_at_call 19; refine (his _ ?_ ?_).mono ?_; exact i1; exact i2; rintro _ _ ⟨h1, m, hm⟩; exact ⟨h1, _, by rw [hm, World.drewN_drewN, Nat.add_assoc]⟩))
            go_wp2
            go_ret
            exact ⟨ret_bool E.out.symm, _, World.drewN_drewN _ _ _⟩
        · have hf : (x.left != y.left) = true := by simpa using hleft
          have E : Hid (eqRs xs ys = false) := by show _ = _; unfold eqRs; exact cdf _ (list_at hx1 hy1 (fun e => hleft (by rw [e])))
          clear hx1 hy1 hal hl hand hleft ha hb hx hy
          go_wp2
          go_quiet (fail)
          go_wp2
          go_ret
          exact ⟨ret_bool E.out.symm, _, World.drewN_drewN _ _ _⟩
      · have hnl : ¬ (k : Int) < (xs.length : Int) := by omega
        have E : Hid (eqRs xs ys = true) := by show _ = _; unfold eqRs; exact cdt _ (list_same hl (fun j hj => hal.out j (by omega)))
        clear ha hb hal hl hk hlt
        go_wp2
        go_ret
        exact ⟨ret_bool E.out.symm, _, rfl⟩
  · have hl2 : ((xs.length : Int) != (ys.length : Int)) = true := by simp; omega
    have E : Hid (eqRs xs ys = false) := by show _ = _; unfold eqRs; exact cdf _ (list_len hl)
    clear hl
    go_enter Tryd.func33, Tryd.ntmps33
    go_wp2
    go_ret
    exact ⟨ret_bool E.out.symm, 0, rfl⟩

end Go.Proofs.YtcmjneabcdpmoaaDoor.GramSame
