/-
  What the program's looks, shows, leads and widen answer.
-/
import Derived.Test.YtmepnjnpfmgokaaDoorEndsMath
import Derived.Test.YtmepnjnpfmgokaaDoorGramAboveFn
namespace Go.Proofs.YtmepnjnpfmgokaaDoor.EndsFn
open Go.RowKit Go.Proofs.YtmepnjnpfmgokaaDoor.GramMath Go.Proofs.YtmepnjnpfmgokaaDoor.GramRow Go.Proofs.YtmepnjnpfmgokaaDoor.EndsMath Go.Proofs.YtmepnjnpfmgokaaDoor.GramAboveFn
set_option linter.unusedVariables false

/-- A look at one of the sides: the program's closure, and the box that it holds. -/
def lookV (B : Nat) : Value := .func (.func 44) #[] #[.pointer (some ⟨B, 0, none⟩)]

theorem vw_at {b : Bool} {l : List Int} {k : Nat} (hk : k < l.length) : (vw b l).getD k 0 = if b = true then l.getD (l.length - 1 - k) 0 else l.getD k 0 := by
  unfold vw
  cases b with
  | true =>
    simp only [if_true]
    rw [List.getD_eq_getElem?_getD, List.getD_eq_getElem?_getD, List.getElem?_reverse hk]
  | false => rfl

theorem irow_at {w : World} {a : Option Addr} {zs : List Int} (h : IRow w a zs) {k : Nat} (hk : k < zs.length) : ∃ b off, a = some ⟨b, off, none⟩ ∧ w.cell? ⟨b, off + k, none⟩ = some (.int .i64 (zs.getD k 0)) := by
  have := h k zs[k] (List.getElem?_eq_getElem hk)
  rw [List.getD_eq_getElem?_getD, List.getElem?_eq_getElem hk]
  exact this

theorem ret_ib {a a' : Int} {b b' : Bool} (h : a = a') (h2 : b = b') : Ending.returned (.tuple #[.int .i64 a, .bool b]) = .returned (.tuple #[.int .i64 a', .bool b']) := by rw [h, h2]

set_option maxRecDepth 100000 in
set_option maxHeartbeats 1000000 in
theorem look_any (b : Bool) (B : Nat) (ra : Option Addr) (rc : Nat) (zs : List Int) (k : Nat) (w : World) (hc : w.cell? ⟨B, 0, none⟩ = some (.bool b)) (hI : IRow w ra zs) (hl : zs.length ≤ 1125899906842624) (hk : k ≤ 1) :
    Calls Tryd.prog 44 #[.slice ra zs.length rc, .int .i64 k, .pointer (some ⟨B, 0, none⟩)] w fun e w' => e = .returned (.tuple #[.int .i64 (lkN b zs k), .bool (lkB b zs k)]) ∧ w' = w := by
  by_cases hlt : k < zs.length
  · have hnl : ¬ (k : Int) ≥ (zs.length : Int) := by omega
    have E2 : Hid (lkB b zs k = true) := by show _ = _; unfold lkB; simpa using hlt
    cases b with
    | true =>
      obtain ⟨x, off, rfl, hx⟩ := irow_at hI (k := zs.length - 1 - k) (by omega)
      have E1 : Hid (lkN true zs k = zs.getD (zs.length - 1 - k) 0) := by show _ = _; unfold lkN; rw [vw_at hlt]; rfl
      obtain ⟨j, hj⟩ : ∃ j : Nat, zs.length - 1 - k = j := ⟨_, rfl⟩
      rw [hj] at hx E1
      obtain ⟨v, hv⟩ : ∃ v, zs.getD j 0 = v := ⟨_, rfl⟩
      rw [hv] at hx E1
      clear hv
      have hj2 : Hid (((zs.length : Int) - 1 - (k : Int)) = (j : Int)) := by show _ = _; omega
      have hj3 := hj2.out
      have hj4 : (j : Int) < (zs.length : Int) := by omega
      clear hI hj
      go_enter Tryd.func44, Tryd.ntmps44
      go_wp2
      go_ret2
      exact ⟨ret_ib E1.out.symm E2.out.symm, rfl⟩
    | false =>
      obtain ⟨x, off, rfl, hx⟩ := irow_at hI hlt
      have E1 : Hid (lkN false zs k = zs.getD k 0) := by show _ = _; unfold lkN; rw [vw_at hlt]; rfl
      obtain ⟨v, hv⟩ : ∃ v, zs.getD k 0 = v := ⟨_, rfl⟩
      rw [hv] at hx E1
      clear hv
      have hj4 : (k : Int) < (zs.length : Int) := by omega
      clear hI
      go_enter Tryd.func44, Tryd.ntmps44
      go_wp2
      go_ret2
      exact ⟨ret_ib E1.out.symm E2.out.symm, rfl⟩
  · have hnl : (k : Int) ≥ (zs.length : Int) := by omega
    have E2 : Hid (lkB b zs k = false) := by show _ = _; unfold lkB; simpa using hlt
    have E1 : Hid (lkN b zs k = 0) := by show _ = _; unfold lkN; rw [List.getD_eq_getElem?_getD, List.getElem?_eq_none (by rw [vw_len]; omega)]; rfl
    clear hI
    go_enter Tryd.func44, Tryd.ntmps44
    go_wp2
    go_ret2
    exact ⟨ret_ib E1.out.symm E2.out.symm, rfl⟩

/-- Is there a terminal at a place? -/
def tmAt (b : Bool) (zs : List Int) (k : Nat) : Prop := lkB b zs k = true ∧ 0 ≤ lkN b zs k

theorem sh_some {b : Bool} {zs : List Int} {k : Nat} (hk : k < 2) (hno : ∀ j, j < k → ¬ tmAt b zs j) (h : tmAt b zs k) : shL (vw b zs) = some (lkN b zs k).toNat := by
  have hl := vw_len b zs
  unfold tmAt lkB lkN at *
  rw [← hl] at hno h
  generalize vw b zs = l at *
  match l, k, hk, hno, h with
  | [], k, _, _, h => simp at h
  | [x], 0, _, _, h => unfold shL; simp at h; simp [h]
  | x :: y :: z, 0, _, _, h => unfold shL; simp at h; simp [h]
  | [x], 1, _, _, h => simp at h
  | x :: y :: z, 1, _, hno, h =>
    have h0 := hno 0 (by omega)
    simp at h h0
    have h1 : ¬ 0 ≤ x := by omega
    simp [shL, h1, h]

theorem sh_none {b : Bool} {zs : List Int} (hno : ∀ j, j < 2 → ¬ tmAt b zs j) : shL (vw b zs) = none := by
  have hl := vw_len b zs
  unfold tmAt lkB lkN at *
  rw [← hl] at hno
  generalize vw b zs = l at *
  match l, hno with
  | [], _ => rfl
  | [x], hno =>
    have h0 := hno 0 (by omega)
    simp at h0
    have h1 : ¬ 0 ≤ x := by omega
    simp [shL, h1]
  | x :: y :: z, hno =>
    have h0 := hno 0 (by omega)
    have h1 := hno 1 (by omega)
    simp at h0 h1
    have h2 : ¬ 0 ≤ x := by omega
    have h3 : ¬ 0 ≤ y := by omega
    simp [shL, h2, h3]

theorem ld_some {b : Bool} {zs : List Int} (h : lkB b zs 0 = true) (h0 : lkN b zs 0 < 0) : ldL (vw b zs) = some (-1 - lkN b zs 0).toNat := by
  have hl := vw_len b zs
  unfold lkB lkN at *
  rw [← hl] at h
  generalize vw b zs = l at *
  match l, h, h0 with
  | [], h, _ => simp at h
  | x :: z, _, h0 => simp at h0; unfold ldL; simp [h0]
theorem ld_none {b : Bool} {zs : List Int} (h : ¬ (lkB b zs 0 = true ∧ lkN b zs 0 < 0)) : ldL (vw b zs) = none := by
  have hl := vw_len b zs
  unfold lkB lkN at *
  rw [← hl] at h
  generalize vw b zs = l at *
  match l, h with
  | [], _ => rfl
  | x :: z, h =>
    simp at h
    have h2 : ¬ x < 0 := by omega
    simp [ldL, h2]

def shN (b : Bool) (r : R) : Int := match shO b r with | some t => (t : Int) | none => 0
def shB (b : Bool) (r : R) : Bool := (shO b r).isSome
def ldN (b : Bool) (r : R) : Int := match ldO b r with | some t => (t : Int) | none => 0
def ldB (b : Bool) (r : R) : Bool := (ldO b r).isSome

theorem lkN_i64 {b : Bool} {r : R} (ho : okR r) (k : Nat) : I64 (lkN b r.right k) := by
  unfold lkN
  rw [List.getD_eq_getElem?_getD]
  cases h : (vw b r.right)[k]? with
  | none => exact ⟨by decide, by decide⟩
  | some x => exact ho.2.1 x (vw_mem.1 (List.mem_of_getElem? h))

set_option maxRecDepth 100000 in
set_option maxHeartbeats 1000000 in
theorem shows_any (b : Bool) (B : Nat) (ra : Option Addr) (rc : Nat) (r : R) (w : World) (hc : w.cell? ⟨B, 0, none⟩ = some (.bool b)) (hI : IRow w ra r.right) (ho : okR r) :
    Calls Tryd.prog 56 #[.agg #[.int .i64 r.left, .slice ra r.right.length rc], .func (.func 44) #[] #[.pointer (some ⟨B, 0, none⟩)]] w fun e w' => e = .returned (.tuple #[.int .i64 (shN b r), .bool (shB b r)]) ∧ Below w.heap.size w w' := by
  have o3 := ho.2.2
  have hB : Below w.heap.size w (w.alloc (.cells #[.int .i64 r.left, .slice ra r.right.length rc] 55)) := (Below.refl _ _).alloc (Nat.le_refl _) _
  have hI1 := hI.below hB (Nat.le_refl _)
  have hc1 := (hB.cell (p := ⟨B, 0, none⟩) (cell_lt hc)).trans hc
  have c1 : (w.alloc (.cells #[.int .i64 r.left, .slice ra r.right.length rc] 55)).cell? ⟨w.heap.size, 1, none⟩ = some (.slice ra r.right.length rc) := by simp
  have hlk := fun k hk => look_any b B ra rc r.right k _ hc1 hI1 o3 hk
  clear hI hc hI1 hc1
  go_enter Tryd.func56, Tryd.ntmps56
  go_wp2
  generalize w.alloc (.cells #[.int .i64 r.left, .slice ra r.right.length rc] 55) = W at *
  go_loop [9] (fun i => ∃ k : Nat, k ≤ 2 ∧ i = .int .i64 k ∧ Hid (∀ j, j < k → ¬ tmAt b r.right j)) (fun i => 2 - (intOf i).toNat)
  case atStart => exact ⟨0, by omega, rfl, fun j hj => absurd hj (by omega)⟩
  case round =>
    obtain ⟨k, hk, rfl, hno⟩ := hrel
    by_cases hlt : k < 2
    · have hlt2 : (k : Int) < 2 := by omega
      have hq := hlk k (by omega)
      have hi := lkN_i64 (b := b) ho k
      by_cases ht : tmAt b r.right k
      · have E1 : Hid (lkN b r.right k = shN b r) := by
          show _ = _
          have := sh_some hlt hno.out ht
          unfold shN shO
          rw [this]
          have := ht.2
          show _ = (((lkN b r.right k).toNat : Nat) : Int)
          omega
        have E2 : Hid (true = shB b r) := by
          show _ = _
          unfold shB shO
          rw [sh_some hlt hno.out ht]
          rfl
        have hx := ht.2
        rw [ht.1] at hq
        have hd : decide (lkN b r.right k ≥ 0) = true := by simpa using hx
        clear ht hno hlk
        generalize lkN b r.right k = z at *
        go_wp2_with fail
        refine hq.mono ?_
        rintro e w2 ⟨rfl, hw2⟩
        obtain rfl := hw2.symm
        go_wp2
        try rw [Exit.noGoto_ret]
        go_ret2
        exact ⟨ret_ib E1.out E2.out, hB⟩
      · have hno2 : Hid (∀ j, j < k + 1 → ¬ tmAt b r.right j) := fun j hj => by
          by_cases e : j = k
          · subst e; exact ht
          · exact hno.out j (by omega)
        unfold tmAt at ht
        clear hno hlk
        cases hb : lkB b r.right k with
        | false =>
          rw [hb] at hq
          clear ht hb
          generalize lkN b r.right k = z at *
          go_wp2_with fail
          refine hq.mono ?_
          rintro e w2 ⟨rfl, hw2⟩
          obtain rfl := hw2.symm
          go_wp2
          go_round
          case rel => exact ⟨k + 1, by omega, by go_num, hno2⟩
          case measure => simp [intOf]; omega
        | true =>
          have hx : ¬ lkN b r.right k ≥ 0 := fun h => ht ⟨hb, h⟩
          have hd : decide (lkN b r.right k ≥ 0) = false := by simpa using hx
          rw [hb] at hq
          clear ht hb
          generalize lkN b r.right k = z at *
          go_wp2_with fail
          refine hq.mono ?_
          rintro e w2 ⟨rfl, hw2⟩
          obtain rfl := hw2.symm
          go_wp2
          go_round
          case rel => exact ⟨k + 1, by omega, by go_num, hno2⟩
          case measure => simp [intOf]; omega
    · obtain rfl : k = 2 := by omega
      have E1 : Hid (0 = shN b r) := by show _ = _; unfold shN shO; rw [sh_none hno.out]
      have E2 : Hid (false = shB b r) := by show _ = _; unfold shB shO; rw [sh_none hno.out]; rfl
      clear hno hlk
      go_wp2
      go_ret2
      exact ⟨ret_ib E1.out E2.out, hB⟩

set_option maxRecDepth 100000 in
set_option maxHeartbeats 1000000 in
theorem leads_any (b : Bool) (B : Nat) (ra : Option Addr) (rc : Nat) (r : R) (w : World) (hc : w.cell? ⟨B, 0, none⟩ = some (.bool b)) (hI : IRow w ra r.right) (ho : okR r) :
    Calls Tryd.prog 57 #[.agg #[.int .i64 r.left, .slice ra r.right.length rc], .func (.func 44) #[] #[.pointer (some ⟨B, 0, none⟩)]] w fun e w' => e = .returned (.tuple #[.int .i64 (ldN b r), .bool (ldB b r)]) ∧ Below w.heap.size w w' := by
  have o3 := ho.2.2
  have hB : Below w.heap.size w (w.alloc (.cells #[.int .i64 r.left, .slice ra r.right.length rc] 55)) := (Below.refl _ _).alloc (Nat.le_refl _) _
  have hI1 := hI.below hB (Nat.le_refl _)
  have hc1 := (hB.cell (p := ⟨B, 0, none⟩) (cell_lt hc)).trans hc
  have hlk := look_any b B ra rc r.right 0 _ hc1 hI1 o3 (by omega)
  have hlk2 := hlk
  obtain ⟨hi1, hi2⟩ := lkN_i64 (b := b) ho 0
  clear hI hc hI1 hc1
  by_cases hld : lkB b r.right 0 = true ∧ lkN b r.right 0 < 0
  · have E1 : Hid (-1 - lkN b r.right 0 = ldN b r) := by
      show _ = _
      unfold ldN ldO
      rw [ld_some hld.1 hld.2]
      have := hld.2
      show _ = (((-1 - lkN b r.right 0).toNat : Nat) : Int)
      omega
    have E2 : Hid (true = ldB b r) := by show _ = _; unfold ldB ldO; rw [ld_some hld.1 hld.2]; rfl
    obtain ⟨h1, h2⟩ := hld
    rw [h1] at hlk
    have hd : decide (lkN b r.right 0 < 0) = true := by simpa using h2
    clear hlk2 h1
    generalize lkN b r.right 0 = z at *
    go_enter Tryd.func57, Tryd.ntmps57
    go_wp2_with fail
    refine hlk.mono ?_
    rintro e w2 ⟨rfl, hw2⟩
    obtain rfl := hw2.symm
    go_wp2
    go_ret2
    exact ⟨ret_ib E1.out E2.out, hB⟩
  · have E1 : Hid (0 = ldN b r) := by show _ = _; unfold ldN ldO; rw [ld_none hld]
    have E2 : Hid (false = ldB b r) := by show _ = _; unfold ldB ldO; rw [ld_none hld]; rfl
    cases hb : lkB b r.right 0 with
    | false =>
      rw [hb] at hlk
      clear hlk2 hld hb
      generalize lkN b r.right 0 = z at *
      go_enter Tryd.func57, Tryd.ntmps57
      go_wp2_with fail
      refine hlk.mono ?_
      rintro e w2 ⟨rfl, hw2⟩
      obtain rfl := hw2.symm
      go_wp2
      go_ret2
      exact ⟨ret_ib E1.out E2.out, hB⟩
    | true =>
      have hx : ¬ lkN b r.right 0 < 0 := fun h => hld ⟨hb, h⟩
      have hd : decide (lkN b r.right 0 < 0) = false := by simpa using hx
      rw [hb] at hlk
      clear hlk2 hld hb
      generalize lkN b r.right 0 = z at *
      go_enter Tryd.func57, Tryd.ntmps57
      go_wp2_with fail
      refine hlk.mono ?_
      rintro e w2 ⟨rfl, hw2⟩
      obtain rfl := hw2.symm
      go_wp2
      go_ret2
      exact ⟨ret_ib E1.out E2.out, hB⟩

end Go.Proofs.YtmepnjnpfmgokaaDoor.EndsFn
