/-
  Bytes compared: what Pack tells.
-/
import Derived.Test.YtpdkjblmpgmcjaaGreatDoorMatrixTA
namespace Go.Proofs.YtpdkjblmpgmcjaaGreatDoor.MatrixRT
open Go.RowKit Go.Proofs.YtpdkjblmpgmcjaaGreatDoor.GramMath Go.Proofs.YtpdkjblmpgmcjaaGreatDoor.GramRow Go.Proofs.YtpdkjblmpgmcjaaGreatDoor.SetsAlg Go.Proofs.YtpdkjblmpgmcjaaGreatDoor.MatrixMath Go.Proofs.YtpdkjblmpgmcjaaGreatDoor.MatrixPut Go.Proofs.YtpdkjblmpgmcjaaGreatDoor.GramApart Go.Proofs.YtpdkjblmpgmcjaaGreatDoor.MatrixClash Go.Proofs.YtpdkjblmpgmcjaaGreatDoor.GramLent Go.Proofs.YtpdkjblmpgmcjaaGreatDoor.GramSame
set_option linter.unusedVariables false
set_option linter.unusedSimpArgs false

/-- Bytes in a row. -/
def BRow8 (w : World) (a : Option Addr) (zs : List Int) : Prop :=
  ∀ i x, zs[i]? = some x → ∃ b off, a = some ⟨b, off, none⟩ ∧ w.cell? ⟨b, off + i, none⟩ = some (.int .u8 x)

set_option maxRecDepth 100000 in
set_option maxHeartbeats 2000000 in
theorem bytes_any (a b : Option Addr) (ca cb : Nat) (xs ys : List Int) (w : World) (ha : BRow8 w a xs) (hb : BRow8 w b ys) (hm : xs.length ≤ 1125899906842624) (hn : ys.length ≤ 1125899906842624) :
    Calls Tryz.prog 17 #[.slice a xs.length ca, .slice b ys.length cb] w fun e w' => e = .returned (.bool (GramSame.eqI xs ys)) ∧ ∃ q, w' = w.drewN q := by
  by_cases hl : xs.length = ys.length
  · have hl2 : ((xs.length : Int) != (ys.length : Int)) = false := by simp; omega
    go_enter Tryz.func17, Tryz.ntmps17
    go_wp2
    go_loopw [5] (fun i wr => ∃ k q : Nat, k ≤ xs.length ∧ i = .int .i64 k ∧ wr = w.drewN q ∧ Hid (∀ j, j < k → xs[j]? = ys[j]?)) (fun i _ => xs.length - (intOf i).toNat)
    case atStart => exact ⟨0, 0, by omega, rfl, rfl, fun j hj => by omega⟩
    case round =>
      clear hl2
      obtain ⟨k, q, hk, rfl, rfl, hal⟩ := hrel
      by_cases hlt : k < xs.length
      · obtain ⟨x, hx⟩ : ∃ x, xs[k]? = some x := ⟨xs[k], List.getElem?_eq_getElem hlt⟩
        obtain ⟨y, hy⟩ : ∃ y, ys[k]? = some y := ⟨ys[k], List.getElem?_eq_getElem (by omega)⟩
        obtain ⟨b1, off1, rfl, c1⟩ := ha k x hx
        obtain ⟨b2, off2, rfl, c2⟩ := hb k y hy
        have hlt2 : (k : Int) < (xs.length : Int) := by omega
        have hlt3 : (k : Int) < (ys.length : Int) := by omega
        by_cases hxy : x = y
        · subst hxy
          have hal2 : Hid (∀ j, j < k + 1 → xs[j]? = ys[j]?) := step_same hx hy hal.out
          have hf := int_eq x
          clear ha hb hx hy hal hl
          go_wp2
          go_quiet (fail)
          go_wp2
          go_roundw
          case rel => exact ⟨k + 1, _, by omega, by go_num, rfl, hal2⟩
          case measure => simp [intOf]; omega
        · have E : Hid (GramSame.eqI xs ys = false) := by show _ = _; unfold GramSame.eqI; exact cdf _ (list_at hx hy hxy)
          have hf := int_ne hxy
          clear ha hb hx hy hal hl hxy
          go_wp2
          go_quiet (fail)
          go_wp2
          go_ret
          exact ⟨ret_bool E.out.symm, _, World.drewN_drewN _ _ _⟩
      · have hnl : ¬ (k : Int) < (xs.length : Int) := by omega
        have hnl2 : ¬ (k : Int) < (ys.length : Int) := by omega
        have E : Hid (GramSame.eqI xs ys = true) := by show _ = _; unfold GramSame.eqI; exact cdt _ (list_same hl (fun j hj => hal.out j (by omega)))
        clear ha hb hal hl hk hlt
        go_wp2
        go_ret
        exact ⟨ret_bool E.out.symm, _, rfl⟩
  · have hl2 : ((xs.length : Int) != (ys.length : Int)) = true := by simp; omega
    have E : Hid (GramSame.eqI xs ys = false) := by show _ = _; unfold GramSame.eqI; exact cdf _ (list_len hl)
    clear hl
    go_enter Tryz.func17, Tryz.ntmps17
    go_wp2
    go_ret
    exact ⟨ret_bool E.out.symm, 0, rfl⟩

/-- The bytes that Pack tells, as numbers. -/
def packZ (f : Nat → Nat) (n k : Nat) : List Int := (List.range n).map (fun j => (pkN f k j : Int))
theorem packZ_len (f : Nat → Nat) (n k : Nat) : (packZ f n k).length = n := by simp [packZ]
theorem packZ_at {f : Nat → Nat} {n k i : Nat} {x : Int} (h : (packZ f n k)[i]? = some x) : i < n ∧ x = (pkN f k i : Int) := by
  have hi := (List.getElem?_eq_some_iff.1 h).1
  rw [packZ_len] at hi
  refine ⟨hi, ?_⟩
  unfold packZ at h
  simp [hi] at h
  exact h.symm
theorem row_brow {w : World} {b n k : Nat} {f : Nat → Nat} (h : RowAt w b 5 (bytesA f n k)) : BRow8 w (some ⟨b, 0, none⟩) (packZ f n k) := fun i x hx => by
  obtain ⟨hi, rfl⟩ := packZ_at hx
  exact ⟨b, 0, rfl, by rw [Nat.zero_add]; exact h.cell (bytesA_get hi)⟩
theorem own_brow {w : World} {base n k : Nat} {f : Nat → Nat} {v : Value} (h : w.ownsRow base 5 1 v n (bytesV f n k)) : ∃ a c, v = .slice a n c ∧ BRow8 w a (packZ f n k) := by
  obtain ⟨_, ⟨rfl, h0⟩ | ⟨g, cap, cur, rfl, _, hr, _, _, _, htk⟩⟩ := id h
  · subst h0
    exact ⟨none, 0, rfl, fun i x hx => by have := (packZ_at hx).1; omega⟩
  · refine ⟨_, _, rfl, fun i x hx => ?_⟩
    obtain ⟨hi, rfl⟩ := packZ_at hx
    have hr2 : RowAt w g 5 cur := hr
    refine ⟨g, 0, rfl, ?_⟩
    rw [Nat.zero_add]
    refine hr2.cell ?_
    rw [← Array.getElem?_toList]
    have e : (cur.toList.take (n * 1))[i]? = cur.toList[i]? := by rw [List.getElem?_take, if_pos (by omega)]
    rw [← e, htk]
    exact bytesV_get hi

end Go.Proofs.YtpdkjblmpgmcjaaGreatDoor.MatrixRT
