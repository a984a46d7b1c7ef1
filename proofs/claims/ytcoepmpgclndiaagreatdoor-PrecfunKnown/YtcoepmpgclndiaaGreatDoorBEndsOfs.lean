/-
  Texts that stand together: EndsOfs.
-/
import Derived.Test.YtcoepmpgclndiaaGreatDoorBBaseMath
import Derived.Test.YtcoepmpgclndiaaGreatDoorBagGramAboveFn
import Derived.Deep.RegionHeld3
namespace Go.Proofs.YtcoepmpgclndiaaGreatDoor.EndsFn
open Go.RowKit Go.Proofs.YtcoepmpgclndiaaGreatDoor.GramMath Go.Proofs.YtcoepmpgclndiaaGreatDoor.GramRow Go.Proofs.YtcoepmpgclndiaaGreatDoor.EndsMath Go.Proofs.YtcoepmpgclndiaaGreatDoor.GramAboveFn
set_option linter.unusedVariables false

/-- A look at one of the sides: the program's closure, and the box that it holds. -/
def lookV (B : Nat) : Value := .func (.func 62) #[] #[.pointer (some ⟨B, 0, none⟩)]

theorem vw_at {b : Bool} {l : List Int} {k : Nat} (hk : k < l.length) : (vw b l).getD k 0 = if b = true then l.getD (l.length - 1 - k) 0 else l.getD k 0 := by
  unfold vw
  cases b with
  | true =>
    simp only [if_true]
    rw [List.getD_eq_getElem?_getD, List.getD_eq_getElem?_getD, List.getElem?_reverse hk]
  | false => rfl

theorem irow_at {w : World} {a : Option Addr} {zs : List Int} (h : IRow w a zs) {k : Nat} (hk : k < zs.length) : ∃ b off, a = some ⟨b, off, none⟩ ∧ w.cell? ⟨b, off + k, none⟩ = some (.int .i64 (zs.getD k 0)) := by
  have := h k zs[k] (List.getElem?_eq_getElem hk)
  rw [List.getD_eq_getElem?_getD, List.getElem?_eq_getElem hk]
  exact this

theorem ret_ib {a a' : Int} {b b' : Bool} (h : a = a') (h2 : b = b') : Ending.returned (.tuple #[.int .i64 a, .bool b]) = .returned (.tuple #[.int .i64 a', .bool b']) := by rw [h, h2]

set_option maxRecDepth 100000 in
set_option maxHeartbeats 1000000 in
theorem look_any (b : Bool) (B : Nat) (ra : Option Addr) (rc : Nat) (zs : List Int) (k : Nat) (w : World) (hc : w.cell? ⟨B, 0, none⟩ = some (.bool b)) (hI : IRow w ra zs) (hl : zs.length ≤ 1125899906842624) (hk : k ≤ 1) :
    Calls Tryz.prog 62 #[.slice ra zs.length rc, .int .i64 k, .pointer (some ⟨B, 0, none⟩)] w fun e w' => e = .returned (.tuple #[.int .i64 (lkN b zs k), .bool (lkB b zs k)]) ∧ w' = w := by
  by_cases hlt : k < zs.length
  · have hnl : ¬ (k : Int) ≥ (zs.length : Int) := by omega
    have E2 : Hid (lkB b zs k = true) := by show _ = _; unfold lkB; simpa using hlt
    cases b with
    | true =>
      obtain ⟨x, off, rfl, hx⟩ := irow_at hI (k := zs.length - 1 - k) (by omega)
      have E1 : Hid (lkN true zs k = zs.getD (zs.length - 1 - k) 0) := by show _ = _; unfold lkN; rw [vw_at hlt]; rfl
      obtain ⟨j, hj⟩ : ∃ j : Nat, zs.length - 1 - k = j := ⟨_, rfl⟩
      rw [hj] at hx E1
      obtain ⟨v, hv⟩ : ∃ v, zs.getD j 0 = v := ⟨_, rfl⟩
      rw [hv] at hx E1
      clear hv
      have hj2 : Hid (((zs.length : Int) - 1 - (k : Int)) = (j : Int)) := by show _ = _; omega
      have hj3 := hj2.out
      have hj4 : (j : Int) < (zs.length : Int) := by omega
      clear hI hj
      go_enter Tryz.func62, Tryz.ntmps62
      go_wp2
      go_ret2
      exact ⟨ret_ib E1.out.symm E2.out.symm, rfl⟩
    | false =>
      obtain ⟨x, off, rfl, hx⟩ := irow_at hI hlt
      have E1 : Hid (lkN false zs k = zs.getD k 0) := by show _ = _; unfold lkN; rw [vw_at hlt]; rfl
      obtain ⟨v, hv⟩ : ∃ v, zs.getD k 0 = v := ⟨_, rfl⟩
      rw [hv] at hx E1
      clear hv
      have hj4 : (k : Int) < (zs.length : Int) := by omega
      clear hI
      go_enter Tryz.func62, Tryz.ntmps62
      go_wp2
      go_ret2
      exact ⟨ret_ib E1.out.symm E2.out.symm, rfl⟩
  · have hnl : (k : Int) ≥ (zs.length : Int) := by omega
    have E2 : Hid (lkB b zs k = false) := by show _ = _; unfold lkB; simpa using hlt
    have E1 : Hid (lkN b zs k = 0) := by show _ = _; unfold lkN; rw [List.getD_eq_getElem?_getD, List.getElem?_eq_none (by rw [vw_len]; omega)]; rfl
    clear hI
    go_enter Tryz.func62, Tryz.ntmps62
    go_wp2
    go_ret2
    exact ⟨ret_ib E1.out.symm E2.out.symm, rfl⟩

/-- Is there a terminal at a place? -/
def tmAt (b : Bool) (zs : List Int) (k : Nat) : Prop := lkB b zs k = true ∧ 0 ≤ lkN b zs k

theorem sh_some {b : Bool} {zs : List Int} {k : Nat} (hk : k < 2) (hno : ∀ j, j < k → ¬ tmAt b zs j) (h : tmAt b zs k) : shL (vw b zs) = some (lkN b zs k).toNat := by
  have hl := vw_len b zs
  unfold tmAt lkB lkN at *
  rw [← hl] at hno h
  generalize vw b zs = l at *
  match l, k, hk, hno, h with
  | [], k, _, _, h => simp at h
  | [x], 0, _, _, h => unfold shL; simp at h; simp [h]
  | x :: y :: z, 0, _, _, h => unfold shL; simp at h; simp [h]
  | [x], 1, _, _, h => simp at h
  | x :: y :: z, 1, _, hno, h =>
    have h0 := hno 0 (by omega)
    simp at h h0
    have h1 : ¬ 0 ≤ x := by omega
    simp [shL, h1, h]

theorem sh_none {b : Bool} {zs : List Int} (hno : ∀ j, j < 2 → ¬ tmAt b zs j) : shL (vw b zs) = none := by
  have hl := vw_len b zs
  unfold tmAt lkB lkN at *
  rw [← hl] at hno
  generalize vw b zs = l at *
  match l, hno with
  | [], _ => rfl
  | [x], hno =>
    have h0 := hno 0 (by omega)
    simp at h0
    have h1 : ¬ 0 ≤ x := by omega
    simp [shL, h1]
  | x :: y :: z, hno =>
    have h0 := hno 0 (by omega)
    have h1 := hno 1 (by omega)
    simp at h0 h1
    have h2 : ¬ 0 ≤ x := by omega
    have h3 : ¬ 0 ≤ y := by omega
    simp [shL, h2, h3]

theorem ld_some {b : Bool} {zs : List Int} (h : lkB b zs 0 = true) (h0 : lkN b zs 0 < 0) : ldL (vw b zs) = some (-1 - lkN b zs 0).toNat := by
  have hl := vw_len b zs
  unfold lkB lkN at *
  rw [← hl] at h
  generalize vw b zs = l at *
  match l, h, h0 with
  | [], h, _ => simp at h
  | x :: z, _, h0 => simp at h0; unfold ldL; simp [h0]
theorem ld_none {b : Bool} {zs : List Int} (h : ¬ (lkB b zs 0 = true ∧ lkN b zs 0 < 0)) : ldL (vw b zs) = none := by
  have hl := vw_len b zs
  unfold lkB lkN at *
  rw [← hl] at h
  generalize vw b zs = l at *
  match l, h with
  | [], _ => rfl
  | x :: z, h =>
    simp at h
    have h2 : ¬ x < 0 := by omega
    simp [ldL, h2]

def shN (b : Bool) (r : R) : Int := match shO b r with | some t => (t : Int) | none => 0
def shB (b : Bool) (r : R) : Bool := (shO b r).isSome
def ldN (b : Bool) (r : R) : Int := match ldO b r with | some t => (t : Int) | none => 0
def ldB (b : Bool) (r : R) : Bool := (ldO b r).isSome

theorem lkN_i64 {b : Bool} {r : R} (ho : okR r) (k : Nat) : I64 (lkN b r.right k) := by
  unfold lkN
  rw [List.getD_eq_getElem?_getD]
  cases h : (vw b r.right)[k]? with
  | none => exact ⟨by decide, by decide⟩
  | some x => exact ho.2.1 x (vw_mem.1 (List.mem_of_getElem? h))

set_option maxRecDepth 100000 in
set_option maxHeartbeats 1000000 in
theorem shows_any (b : Bool) (B : Nat) (ra : Option Addr) (rc : Nat) (r : R) (w : World) (hc : w.cell? ⟨B, 0, none⟩ = some (.bool b)) (hI : IRow w ra r.right) (ho : okR r) :
    Calls Tryz.prog 79 #[.agg #[.int .i64 r.left, .slice ra r.right.length rc], .func (.func 62) #[] #[.pointer (some ⟨B, 0, none⟩)]] w fun e w' => e = .returned (.tuple #[.int .i64 (shN b r), .bool (shB b r)]) ∧ Below w.heap.size w w' := by
  have o3 := ho.2.2
  have hB : Below w.heap.size w (w.alloc (.cells #[.int .i64 r.left, .slice ra r.right.length rc] 46)) := (Below.refl _ _).alloc (Nat.le_refl _) _
  have hI1 := hI.below hB (Nat.le_refl _)
  have hc1 := (hB.cell (p := ⟨B, 0, none⟩) (cell_lt hc)).trans hc
  have c1 : (w.alloc (.cells #[.int .i64 r.left, .slice ra r.right.length rc] 46)).cell? ⟨w.heap.size, 1, none⟩ = some (.slice ra r.right.length rc) := by simp
  have hlk := fun k hk => look_any b B ra rc r.right k _ hc1 hI1 o3 hk
  clear hI hc hI1 hc1
  go_enter Tryz.func79, Tryz.ntmps79
  go_wp2
  generalize w.alloc (.cells #[.int .i64 r.left, .slice ra r.right.length rc] 46) = W at *
  go_loop [9] (fun i => ∃ k : Nat, k ≤ 2 ∧ i = .int .i64 k ∧ Hid (∀ j, j < k → ¬ tmAt b r.right j)) (fun i => 2 - (intOf i).toNat)
  case atStart => exact ⟨0, by omega, rfl, fun j hj => absurd hj (by omega)⟩
  case round =>
    obtain ⟨k, hk, rfl, hno⟩ := hrel
    by_cases hlt : k < 2
    · have hlt2 : (k : Int) < 2 := by omega
      have hq := hlk k (by omega)
      have hi := lkN_i64 (b := b) ho k
      by_cases ht : tmAt b r.right k
      · have E1 : Hid (lkN b r.right k = shN b r) := by
          show _ = _
          have := sh_some hlt hno.out ht
          unfold shN shO
          rw [this]
          have := ht.2
          show _ = (((lkN b r.right k).toNat : Nat) : Int)
          omega
        have E2 : Hid (true = shB b r) := by
          show _ = _
          unfold shB shO
          rw [sh_some hlt hno.out ht]
          rfl
        have hx := ht.2
        rw [ht.1] at hq
        have hd : decide (lkN b r.right k ≥ 0) = true := by simpa using hx
        clear ht hno hlk
        generalize lkN b r.right k = z at *
        go_wp2_with fail
        refine hq.mono ?_
        rintro e w2 ⟨rfl, hw2⟩
        obtain rfl := hw2.symm
        go_wp2
        try rw [Exit.noGoto_ret]
        go_ret2
        exact ⟨ret_ib E1.out E2.out, hB⟩
      · have hno2 : Hid (∀ j, j < k + 1 → ¬ tmAt b r.right j) := fun j hj => by
          by_cases e : j = k
          · subst e; exact ht
          · exact hno.out j (by omega)
        unfold tmAt at ht
        clear hno hlk
        cases hb : lkB b r.right k with
        | false =>
          rw [hb] at hq
          clear ht hb
          generalize lkN b r.right k = z at *
          go_wp2_with fail
          refine hq.mono ?_
          rintro e w2 ⟨rfl, hw2⟩
          obtain rfl := hw2.symm
          go_wp2
          go_round
          case rel => exact ⟨k + 1, by omega, by go_num, hno2⟩
          case measure => simp [intOf]; omega
        | true =>
          have hx : ¬ lkN b r.right k ≥ 0 := fun h => ht ⟨hb, h⟩
          have hd : decide (lkN b r.right k ≥ 0) = false := by simpa using hx
          rw [hb] at hq
          clear ht hb
          generalize lkN b r.right k = z at *
          go_wp2_with fail
          refine hq.mono ?_
          rintro e w2 ⟨rfl, hw2⟩
          obtain rfl := hw2.symm
          go_wp2
          go_round
          case rel => exact ⟨k + 1, by omega, by go_num, hno2⟩
          case measure => simp [intOf]; omega
    · obtain rfl : k = 2 := by omega
      have E1 : Hid (0 = shN b r) := by show _ = _; unfold shN shO; rw [sh_none hno.out]
      have E2 : Hid (false = shB b r) := by show _ = _; unfold shB shO; rw [sh_none hno.out]; rfl
      clear hno hlk
      go_wp2
      go_ret2
      exact ⟨ret_ib E1.out E2.out, hB⟩

set_option maxRecDepth 100000 in
set_option maxHeartbeats 1000000 in
theorem leads_any (b : Bool) (B : Nat) (ra : Option Addr) (rc : Nat) (r : R) (w : World) (hc : w.cell? ⟨B, 0, none⟩ = some (.bool b)) (hI : IRow w ra r.right) (ho : okR r) :
    Calls Tryz.prog 80 #[.agg #[.int .i64 r.left, .slice ra r.right.length rc], .func (.func 62) #[] #[.pointer (some ⟨B, 0, none⟩)]] w fun e w' => e = .returned (.tuple #[.int .i64 (ldN b r), .bool (ldB b r)]) ∧ Below w.heap.size w w' := by
  have o3 := ho.2.2
  have hB : Below w.heap.size w (w.alloc (.cells #[.int .i64 r.left, .slice ra r.right.length rc] 46)) := (Below.refl _ _).alloc (Nat.le_refl _) _
  have hI1 := hI.below hB (Nat.le_refl _)
  have hc1 := (hB.cell (p := ⟨B, 0, none⟩) (cell_lt hc)).trans hc
  have hlk := look_any b B ra rc r.right 0 _ hc1 hI1 o3 (by omega)
  have hlk2 := hlk
  obtain ⟨hi1, hi2⟩ := lkN_i64 (b := b) ho 0
  clear hI hc hI1 hc1
  by_cases hld : lkB b r.right 0 = true ∧ lkN b r.right 0 < 0
  · have E1 : Hid (-1 - lkN b r.right 0 = ldN b r) := by
      show _ = _
      unfold ldN ldO
      rw [ld_some hld.1 hld.2]
      have := hld.2
      show _ = (((-1 - lkN b r.right 0).toNat : Nat) : Int)
      omega
    have E2 : Hid (true = ldB b r) := by show _ = _; unfold ldB ldO; rw [ld_some hld.1 hld.2]; rfl
    obtain ⟨h1, h2⟩ := hld
    rw [h1] at hlk
    have hd : decide (lkN b r.right 0 < 0) = true := by simpa using h2
    clear hlk2 h1
    generalize lkN b r.right 0 = z at *
    go_enter Tryz.func80, Tryz.ntmps80
    go_wp2_with fail
    refine hlk.mono ?_
    rintro e w2 ⟨rfl, hw2⟩
    obtain rfl := hw2.symm
    go_wp2
    go_ret2
    exact ⟨ret_ib E1.out E2.out, hB⟩
  · have E1 : Hid (0 = ldN b r) := by show _ = _; unfold ldN ldO; rw [ld_none hld]
    have E2 : Hid (false = ldB b r) := by show _ = _; unfold ldB ldO; rw [ld_none hld]; rfl
    cases hb : lkB b r.right 0 with
    | false =>
      rw [hb] at hlk
      clear hlk2 hld hb
      generalize lkN b r.right 0 = z at *
      go_enter Tryz.func80, Tryz.ntmps80
      go_wp2_with fail
      refine hlk.mono ?_
      rintro e w2 ⟨rfl, hw2⟩
      obtain rfl := hw2.symm
      go_wp2
      go_ret2
      exact ⟨ret_ib E1.out E2.out, hB⟩
    | true =>
      have hx : ¬ lkN b r.right 0 < 0 := fun h => hld ⟨hb, h⟩
      have hd : decide (lkN b r.right 0 < 0) = false := by simpa using hx
      rw [hb] at hlk
      clear hlk2 hld hb
      generalize lkN b r.right 0 = z at *
      go_enter Tryz.func80, Tryz.ntmps80
      go_wp2_with fail
      refine hlk.mono ?_
      rintro e w2 ⟨rfl, hw2⟩
      obtain rfl := hw2.symm
      go_wp2
      go_ret2
      exact ⟨ret_ib E1.out E2.out, hB⟩

end Go.Proofs.YtcoepmpgclndiaaGreatDoor.EndsFn

namespace Go.Proofs.YtcoepmpgclndiaaGreatDoor.EndsFn
open Go.RowKit Go.Proofs.YtcoepmpgclndiaaGreatDoor.GramMath Go.Proofs.YtcoepmpgclndiaaGreatDoor.GramRow Go.Proofs.YtcoepmpgclndiaaGreatDoor.EndsMath Go.Proofs.YtcoepmpgclndiaaGreatDoor.GramAboveFn
set_option linter.unusedVariables false

theorem shB_some {b : Bool} {r : R} {t : Nat} (h : shO b r = some t) : shB b r = true ∧ shN b r = (t : Int) := by unfold shB shN; rw [h]; exact ⟨rfl, rfl⟩
theorem shB_none {b : Bool} {r : R} (h : shO b r = none) : shB b r = false ∧ shN b r = 0 := by unfold shB shN; rw [h]; exact ⟨rfl, rfl⟩
theorem ldB_some {b : Bool} {r : R} {t : Nat} (h : ldO b r = some t) : ldB b r = true ∧ ldN b r = (t : Int) := by unfold ldB ldN; rw [h]; exact ⟨rfl, rfl⟩
theorem ldB_none {b : Bool} {r : R} (h : ldO b r = none) : ldB b r = false ∧ ldN b r = 0 := by unfold ldB ldN; rw [h]; exact ⟨rfl, rfl⟩

set_option maxRecDepth 100000 in
set_option maxHeartbeats 8000000 in
theorem widen_any (bb : Bool) (B b : Nat) (ra : Option Addr) (rc : Nat) (g : G) (V : Nat → Nat) (w0 w : World) (hg : GoodG g) (ho : okG g) (hR : RRow w0 ra g.rs) (hc : w0.cell? ⟨B, 0, none⟩ = some (.bool bb)) (hb0 : w0.heap.size ≤ b) (hB0 : Below b w0 w) (hbw : b < w.heap.size) (hV : InvE bb g V) (hrow : VRow w b g.ns.length V) :
    Calls Tryz.prog 61 #[.slice (some ⟨b, 0, none⟩) g.ns.length g.ns.length, .slice ra g.rs.length rc, .func (.func 62) #[] #[.pointer (some ⟨B, 0, none⟩)]] w fun e w' => (∃ q V', e = .returned (.bool q) ∧ VRow w' b g.ns.length V' ∧ InvE bb g V' ∧ (q = true → sumV V g.ns.length < sumV V' g.ns.length) ∧ (q = false → ∀ r ∈ g.rs, ShutE bb V' r)) ∧ Below b w w' := by
  obtain ⟨g1, g2, g3, _, g5, _⟩ := id ho
  have hfew := hg.few
  go_enter Tryz.func61, Tryz.ntmps61
  go_wp2
  go_loopw [7, 17] (fun gr i wr => ∃ (k : Nat) (q : Bool) (U : Nat → Nat), k ≤ g.rs.length ∧ i = .int .i64 k ∧ gr = .bool q ∧ VRow wr b g.ns.length U ∧ Hid (Wd bb g V k q U) ∧ Below b w wr) (fun _ i _ => g.rs.length - (intOf i).toNat)
  case atStart => exact ⟨0, false, V, by omega, rfl, rfl, hrow, Wd.start hV, Below.refl _ _⟩
  case round =>
    clear hrow hV
    obtain ⟨k, q, U, hk, rfl, rfl, hrow, hQ, hB⟩ := hrel
    have hBk := hB0.trans hB
    have hszk := hB.size
    have hbk : b < wr.heap.size := by omega
    have hRk := hR.below hBk hb0
    have hck := (hBk.cell (p := ⟨B, 0, none⟩) (Nat.lt_of_lt_of_le (cell_lt hc) hb0)).trans hc
    by_cases hlt : k < g.rs.length
    · obtain ⟨r, hr⟩ : ∃ r, g.rs[k]? = some r := ⟨g.rs[k], List.getElem?_eq_getElem hlt⟩
      obtain ⟨b1, off, qa, qc, hra, d0, d1, hI⟩ := hRk k r hr
      subst hra
      have hU := hQ.out.inv
      have hlt2 : (k : Int) < (g.rs.length : Int) := by omega
      have hrm := List.mem_of_getElem? hr
      have hok := g5 r hrm
      obtain ⟨hl0, hl1⟩ := left_lt hg hrm
      obtain ⟨l, hl⟩ : ∃ l : Nat, r.left = (l : Int) := ⟨r.left.toNat, by omega⟩
      have hlt' : r.left.toNat = l := by omega
      have hln : l < g.ns.length := by omega
      have hln2 : (l : Int) < (g.ns.length : Int) := by omega
      have hBa : Below wr.heap.size wr (wr.alloc (.cells #[.int .i64 (l : Int), .slice qa r.right.length qc] 46)) := (Below.refl _ _).alloc (Nat.le_refl _) _
      have hka : (wr.alloc (.cells #[.int .i64 (l : Int), .slice qa r.right.length qc] 46)).heap.size = wr.heap.size + 1 := by simp
      have f0 : (wr.alloc (.cells #[.int .i64 (l : Int), .slice qa r.right.length qc] 46)).cell? ⟨wr.heap.size, 0, none⟩ = some (.int .i64 (l : Int)) := by simp
      have f1 : (wr.alloc (.cells #[.int .i64 (l : Int), .slice qa r.right.length qc] 46)).cell? ⟨wr.heap.size, 1, none⟩ = some (.slice qa r.right.length qc) := by simp
      have hsh := shows_any bb B qa qc r _ ((hBa.cell (p := ⟨B, 0, none⟩) (cell_lt hck)).trans hck) (hI.below hBa (Nat.le_refl _)) hok
      have hld := fun w2 (hb2 : Below wr.heap.size wr w2) => leads_any bb B qa qc r w2 ((hb2.cell (p := ⟨B, 0, none⟩) (cell_lt hck)).trans hck) (hI.below hb2 (Nat.le_refl _)) hok
      have hws := (wid_inv hg hU hrm).1
      have h60 : ∀ z, z < 2 ^ g.ts.length → z < 1152921504606846976 := fun z hz => by
        have h2 : g.ts.length ≤ 60 := by omega
        have h3 : 2 ^ g.ts.length ≤ 2 ^ 60 := Nat.pow_le_pow_right (by omega) h2
        have h4 : 2 ^ 60 = 1152921504606846976 := by decide
        omega
      replace hws := h60 _ hws
      have hul := ends_small hg hU hln
      have hnx : Hid (∀ q2 : Bool, q2 = (q || !decide (wid bb U r = U l)) → Wd bb g V (k + 1) q2 (upd U l (wid bb U r))) := fun q2 hq2 => hQ.out.next hg hr hlt' hq2
      have hcl := hrow l hln
      have hfl := fun w2 (hb2 : Below wr.heap.size wr w2) => (hb2.frozen (p := ⟨b, l, none⟩) hbk).trans hcl.2
      have HW : Hid (wid bb U r = match ldO bb r with | some m => widS bb U r ||| U m | none => widS bb U r) := rfl
      have HS : Hid (widS bb U r = match shO bb r with | some t => U l ||| 2 ^ t | none => U l) := by
        show _ = _
        unfold widS
        rw [hlt']
        cases shO bb r <;> rfl
      rw [hl] at hsh hld d0
      have hst : ∀ t, shO bb r = some t → t < 60 ∧ 2 ^ t < 1152921504606846976 := fun t h => ⟨by have := sh_lt hg hrm h; omega, h60 _ (Nat.pow_lt_pow_right (by omega) (sh_lt hg hrm h))⟩
      have hlm : ∀ m, ldO bb r = some m → m < g.ns.length ∧ U m < 1152921504606846976 ∧ (wr.cell? ⟨b, m, none⟩ = some (.int .u64 (U m : Int))) := fun m h => ⟨ld_lt hg hrm h, ends_small hg hU (ld_lt hg hrm h), (hrow m (ld_lt hg hrm h)).1⟩
      clear hQ hR hRk hr hI hU hlt' hl hl0 hl1 h60
      have hc1 := hcl.1
      clear hcl
      generalize wid bb U r = y at *
      have hfin : Hid (∀ w2, Below wr.heap.size wr w2 → ∀ q2, q2 = (q || !decide (y = U l)) → ∃ (k' : Nat) (q' : Bool) (U' : Nat → Nat), k' ≤ g.rs.length ∧ Value.int .i64 ((k : Int) + 1) = .int .i64 k' ∧ Value.bool q2 = .bool q' ∧ VRow (w2.setCell ⟨b, l, none⟩ (.int .u64 (y : Int))) b g.ns.length U' ∧ Hid (Wd bb g V k' q' U') ∧ Below b w (w2.setCell ⟨b, l, none⟩ (.int .u64 (y : Int)))) := fun w2 hb q2 hq =>
        ⟨k + 1, q2, _, by omega, by go_num, rfl, (hrow.below hb hbk).set hln, hnx.out q2 hq, (hB.trans (hb.mono (by omega))).setCell (Nat.le_refl _) _⟩
      clear hnx
      rcases hs : shO bb r with _ | t
      · obtain ⟨e1, e2⟩ := shB_none hs
        have hws : Hid (widS bb U r = U l) := by have := HS.out; rw [hs] at this; exact this
        rw [e1, e2] at hsh
        rcases hd : ldO bb r with _ | m
        · obtain ⟨e3, e4⟩ := ldB_none hd
          have hyy : y = U l := by have := HW.out; rw [hd] at this; exact this.trans hws.out
          subst hyy
          rw [e3, e4] at hld
          clear e1 e2 e3 e4 hs hd HW HS hst hlm
          go_wp2_with fail
          refine hsh.mono ?_
          rintro e w2 ⟨rfl, hb2⟩
          have hB2 := hBa.trans (hb2.mono (by omega))
          have x0 := (hb2.cell (p := ⟨wr.heap.size, 0, none⟩) (show wr.heap.size < _ by omega)).trans f0
          have x1 := (hb2.cell (p := ⟨wr.heap.size, 1, none⟩) (show wr.heap.size < _ by omega)).trans f1
          have hz2 := hb2.size
          go_wp2_with fail
          refine (hld w2 hB2).mono ?_
          rintro e w3 ⟨rfl, hb3⟩
          have hB3 := hB2.trans (hb3.mono hB2.size)
          have y0 := (hb3.cell (p := ⟨wr.heap.size, 0, none⟩) (show wr.heap.size < _ by omega)).trans x0
          have c3 := (hB3.cell (p := ⟨b, l, none⟩) hbk).trans hc1
          have z3 := hfl w3 hB3
          clear hld hsh hfl x0 x1 f0 f1 d0 d1 hc1
          cases q with
          | true =>
            go_wp2
            go_roundw
            case rel => exact hfin.out _ hB3 _ (by rfl)
            case measure => simp [intOf]; omega
          | false =>
            have hq2 : Hid (false = (false || !decide (U l = U l))) := by show _ = _; simp
            have hne : ((U l : Int) != (U l : Int)) = false := by simp
            go_wp2
            go_roundw
            case rel => exact hfin.out _ hB3 _ hq2.out
            case measure => simp [intOf]; omega
        · obtain ⟨e3, e4⟩ := ldB_some hd
          obtain ⟨hm1, hm2, hm3⟩ := hlm m hd
          have hmn2 : (m : Int) < (g.ns.length : Int) := by omega
          have hyy : y = U l ||| U m := by have := HW.out; rw [hd, hws.out] at this; exact this
          have hor : bits .or .u64 (U l : Int) (U m : Int) = (y : Int) := by rw [hyy]; exact u64_or_nat _ _ (by omega) (by omega)
          clear hyy
          rw [e3, e4] at hld
          clear e1 e2 e3 e4 hs hd HW HS hst hlm
          go_wp2_with fail
          refine hsh.mono ?_
          rintro e w2 ⟨rfl, hb2⟩
          have hB2 := hBa.trans (hb2.mono (by omega))
          have x0 := (hb2.cell (p := ⟨wr.heap.size, 0, none⟩) (show wr.heap.size < _ by omega)).trans f0
          have x1 := (hb2.cell (p := ⟨wr.heap.size, 1, none⟩) (show wr.heap.size < _ by omega)).trans f1
          have hz2 := hb2.size
          go_wp2_with fail
          refine (hld w2 hB2).mono ?_
          rintro e w3 ⟨rfl, hb3⟩
          have hB3 := hB2.trans (hb3.mono hB2.size)
          have y0 := (hb3.cell (p := ⟨wr.heap.size, 0, none⟩) (show wr.heap.size < _ by omega)).trans x0
          have c3 := (hB3.cell (p := ⟨b, l, none⟩) hbk).trans hc1
          have m3 := (hB3.cell (p := ⟨b, m, none⟩) hbk).trans hm3
          have z3 := hfl w3 hB3
          clear hld hsh hfl x0 x1 f0 f1 d0 d1 hc1
          cases q with
          | true =>
            go_wp2
            go_roundw
            case rel => exact hfin.out _ hB3 _ (by rfl)
            case measure => simp [intOf]; omega
          | false =>
            by_cases hyt : y = U l
            · have hyt2 : ((y : Int) != (U l : Int)) = false := by simp; omega
              have hq2 : Hid (false = (false || !decide (y = U l))) := by show _ = _; simp [hyt]
              clear hyt
              go_wp2
              go_roundw
              case rel => exact hfin.out _ hB3 _ hq2.out
              case measure => simp [intOf]; omega
            · have hyt2 : ((y : Int) != (U l : Int)) = true := by simp; omega
              have hq2 : Hid (true = (false || !decide (y = U l))) := by show _ = _; simp [hyt]
              clear hyt
              go_wp2
              go_roundw
              case rel => exact hfin.out _ hB3 _ hq2.out
              case measure => simp [intOf]; omega
      · obtain ⟨e1, e2⟩ := shB_some hs
        obtain ⟨ht, hpt⟩ := hst t hs
        have hws : Hid (widS bb U r = U l ||| 2 ^ t) := by have := HS.out; rw [hs] at this; exact this
        have hwp := wrap_pow (k := t) ht
        rw [e1, e2] at hsh
        rcases hd : ldO bb r with _ | m
        · obtain ⟨e3, e4⟩ := ldB_none hd
          have hyy : y = U l ||| 2 ^ t := by have := HW.out; rw [hd, hws.out] at this; exact this
          have hor : bits .or .u64 (U l : Int) ((2 ^ t : Nat) : Int) = (y : Int) := by rw [hyy]; exact u64_or_nat _ _ (by omega) (by omega)
          clear hyy hws
          rw [e3, e4] at hld
          generalize 2 ^ t = pt at *
          clear e1 e2 e3 e4 hs hd HW HS hst hlm
          go_wp2_with fail
          refine hsh.mono ?_
          rintro e w2 ⟨rfl, hb2⟩
          have hB2 := hBa.trans (hb2.mono (by omega))
          have x0 := (hb2.cell (p := ⟨wr.heap.size, 0, none⟩) (show wr.heap.size < _ by omega)).trans f0
          have x1 := (hb2.cell (p := ⟨wr.heap.size, 1, none⟩) (show wr.heap.size < _ by omega)).trans f1
          have hz2 := hb2.size
          go_wp2_with fail
          refine (hld w2 hB2).mono ?_
          rintro e w3 ⟨rfl, hb3⟩
          have hB3 := hB2.trans (hb3.mono hB2.size)
          have y0 := (hb3.cell (p := ⟨wr.heap.size, 0, none⟩) (show wr.heap.size < _ by omega)).trans x0
          have c3 := (hB3.cell (p := ⟨b, l, none⟩) hbk).trans hc1
          have z3 := hfl w3 hB3
          clear hld hsh hfl x0 x1 f0 f1 d0 d1 hc1
          cases q with
          | true =>
            go_wp2
            go_roundw
            case rel => exact hfin.out _ hB3 _ (by rfl)
            case measure => simp [intOf]; omega
          | false =>
            by_cases hyt : y = U l
            · have hyt2 : ((y : Int) != (U l : Int)) = false := by simp; omega
              have hq2 : Hid (false = (false || !decide (y = U l))) := by show _ = _; simp [hyt]
              clear hyt
              go_wp2
              go_roundw
              case rel => exact hfin.out _ hB3 _ hq2.out
              case measure => simp [intOf]; omega
            · have hyt2 : ((y : Int) != (U l : Int)) = true := by simp; omega
              have hq2 : Hid (true = (false || !decide (y = U l))) := by show _ = _; simp [hyt]
              clear hyt
              go_wp2
              go_roundw
              case rel => exact hfin.out _ hB3 _ hq2.out
              case measure => simp [intOf]; omega
        · obtain ⟨e3, e4⟩ := ldB_some hd
          obtain ⟨hm1, hm2, hm3⟩ := hlm m hd
          have hmn2 : (m : Int) < (g.ns.length : Int) := by omega
          have hyy : y = U l ||| 2 ^ t ||| U m := by have := HW.out; rw [hd, hws.out] at this; exact this
          obtain ⟨x, hx⟩ : ∃ x, U l ||| 2 ^ t = x := ⟨_, rfl⟩
          have hor1 : bits .or .u64 (U l : Int) ((2 ^ t : Nat) : Int) = (x : Int) := by rw [← hx]; exact u64_or_nat _ _ (by omega) (by omega)
          rw [hx] at hyy
          have hxy : x ≤ y := by rw [hyy]; exact Nat.left_le_or
          have hor : bits .or .u64 (x : Int) (U m : Int) = (y : Int) := by rw [hyy]; exact u64_or_nat _ _ (by omega) (by omega)
          clear hyy hws hx
          rw [e3, e4] at hld
          generalize 2 ^ t = pt at *
          clear e1 e2 e3 e4 hs hd HW HS hst hlm
          go_wp2_with fail
          refine hsh.mono ?_
          rintro e w2 ⟨rfl, hb2⟩
          have hB2 := hBa.trans (hb2.mono (by omega))
          have x0 := (hb2.cell (p := ⟨wr.heap.size, 0, none⟩) (show wr.heap.size < _ by omega)).trans f0
          have x1 := (hb2.cell (p := ⟨wr.heap.size, 1, none⟩) (show wr.heap.size < _ by omega)).trans f1
          have hz2 := hb2.size
          go_wp2_with fail
          refine (hld w2 hB2).mono ?_
          rintro e w3 ⟨rfl, hb3⟩
          have hB3 := hB2.trans (hb3.mono hB2.size)
          have y0 := (hb3.cell (p := ⟨wr.heap.size, 0, none⟩) (show wr.heap.size < _ by omega)).trans x0
          have c3 := (hB3.cell (p := ⟨b, l, none⟩) hbk).trans hc1
          have m3 := (hB3.cell (p := ⟨b, m, none⟩) hbk).trans hm3
          have z3 := hfl w3 hB3
          clear hld hsh hfl x0 x1 f0 f1 d0 d1 hc1
          cases q with
          | true =>
            go_wp2
            go_roundw
            case rel => exact hfin.out _ hB3 _ (by rfl)
            case measure => simp [intOf]; omega
          | false =>
            by_cases hyt : y = U l
            · have hyt2 : ((y : Int) != (U l : Int)) = false := by simp; omega
              have hq2 : Hid (false = (false || !decide (y = U l))) := by show _ = _; simp [hyt]
              clear hyt
              go_wp2
              go_roundw
              case rel => exact hfin.out _ hB3 _ hq2.out
              case measure => simp [intOf]; omega
            · have hyt2 : ((y : Int) != (U l : Int)) = true := by simp; omega
              have hq2 : Hid (true = (false || !decide (y = U l))) := by show _ = _; simp [hyt]
              clear hyt
              go_wp2
              go_roundw
              case rel => exact hfin.out _ hB3 _ hq2.out
              case measure => simp [intOf]; omega
    · have hQ2 : Hid ((q = true → sumV V g.ns.length < sumV U g.ns.length) ∧ (q = false → ∀ r ∈ g.rs, ShutE bb U r)) := ⟨hQ.out.up, hQ.out.end (by omega)⟩
      have hU := hQ.out.inv
      clear hQ hR hRk
      go_wp2
      go_ret
      exact ⟨⟨q, U, rfl, hrow, hU, hQ2.out.1, hQ2.out.2⟩, hB⟩

end Go.Proofs.YtcoepmpgclndiaaGreatDoor.EndsFn

namespace Go.Proofs.YtcoepmpgclndiaaGreatDoor.EndsFn
open Go.RowKit Go.Proofs.YtcoepmpgclndiaaGreatDoor.GramMath Go.Proofs.YtcoepmpgclndiaaGreatDoor.GramRow Go.Proofs.YtcoepmpgclndiaaGreatDoor.GramCheck Go.Proofs.YtcoepmpgclndiaaGreatDoor.EndsMath Go.Proofs.YtcoepmpgclndiaaGreatDoor.GramAboveFn
set_option linter.unusedVariables false

set_option maxHeartbeats 400000 in
theorem facing_any (b : Bool) (w : World) : Calls Tryz.prog 34 #[.bool b] w fun e w' => e = .returned (.func (.func 62) #[] #[.pointer (some ⟨w.heap.size, 0, none⟩)]) ∧ w'.cell? ⟨w.heap.size, 0, none⟩ = some (.bool b) ∧ w'.heap.size = w.heap.size + 1 ∧ Below w.heap.size w w' := by
  have hB : Below w.heap.size w (w.alloc (.cells #[.bool b] 4)) := (Below.refl _ _).alloc (Nat.le_refl _) _
  go_enter Tryz.func34, Tryz.ntmps34
  go_wp2
  go_ret
  exact ⟨rfl, by simp [go_sem], by simp, hB⟩

set_option maxRecDepth 100000 in
set_option maxHeartbeats 4000000 in
theorem shownBy_any (bb : Bool) (B : Nat) (ta na ra : Option Addr) (tc nc rc : Nat) (g : G) (w : World) (hg : GoodG g) (ho : okG g) (hR : RRow w ra g.rs) (hc : w.cell? ⟨B, 0, none⟩ = some (.bool bb)) :
    Calls Tryz.prog 33 #[.agg #[.slice ta g.ts.length tc, .slice na g.ns.length nc, .int .i64 g.ax, .slice ra g.rs.length rc], .func (.func 62) #[] #[.pointer (some ⟨B, 0, none⟩)]] w fun e w' => (∃ b V, e = .returned (.slice (some ⟨b, 0, none⟩) g.ns.length g.ns.length) ∧ w.heap.size ≤ b ∧ b < w'.heap.size ∧ VRow w' b g.ns.length V ∧ IsEnds bb g V) ∧ Below w.heap.size w w' := by
  have hfew := hg.few
  have hB1 : Below w.heap.size w (w.alloc (.cells #[.slice ta g.ts.length tc, .slice na g.ns.length nc, .int .i64 g.ax, .slice ra g.rs.length rc] 30)) := (Below.refl _ _).alloc (Nat.le_refl _) _
  have hsz : (w.alloc (.cells #[.slice ta g.ts.length tc, .slice na g.ns.length nc, .int .i64 g.ax, .slice ra g.rs.length rc] 30)).heap.size = w.heap.size + 1 := by simp
  have b3 : (w.alloc (.cells #[.slice ta g.ts.length tc, .slice na g.ns.length nc, .int .i64 g.ax, .slice ra g.rs.length rc] 30)).cell? ⟨w.heap.size, 3, none⟩ = some (.slice ra g.rs.length rc) := by simp [go_sem]
  have b1 : (w.alloc (.cells #[.slice ta g.ts.length tc, .slice na g.ns.length nc, .int .i64 g.ax, .slice ra g.rs.length rc] 30)).cell? ⟨w.heap.size, 1, none⟩ = some (.slice na g.ns.length nc) := by simp [go_sem]
  have hmk := fun W => made_any g.ns.length (by omega) W
  have hR1 := hR.below hB1 (Nat.le_refl _)
  have hc1 := (hB1.cell (p := ⟨B, 0, none⟩) (cell_lt hc)).trans hc
  have hrow0 := made_row g.ns.length (w.alloc (.cells #[.slice ta g.ts.length tc, .slice na g.ns.length nc, .int .i64 g.ax, .slice ra g.rs.length rc] 30))
  have hBm : Below (w.heap.size + 1) (w.alloc (.cells #[.slice ta g.ts.length tc, .slice na g.ns.length nc, .int .i64 g.ax, .slice ra g.rs.length rc] 30)) ((w.alloc (.cells #[.slice ta g.ts.length tc, .slice na g.ns.length nc, .int .i64 g.ax, .slice ra g.rs.length rc] 30)).alloc (.cells (madeCells #[.int .u64 0] g.ns.length) 83)) := (Below.refl _ _).alloc (by omega) _
  have hsm : ((w.alloc (.cells #[.slice ta g.ts.length tc, .slice na g.ns.length nc, .int .i64 g.ax, .slice ra g.rs.length rc] 30)).alloc (.cells (madeCells #[.int .u64 0] g.ns.length) 83)).heap.size = w.heap.size + 2 := by simp
  rw [hsz] at hrow0
  clear hR hc
  go_enter Tryz.func33, Tryz.ntmps33
  go_wp2
  generalize (w.alloc (.cells #[.slice ta g.ts.length tc, .slice na g.ns.length nc, .int .i64 g.ax, .slice ra g.rs.length rc] 30)).alloc (.cells (madeCells #[.int .u64 0] g.ns.length) 83) = W2 at *
  generalize w.alloc (.cells #[.slice ta g.ts.length tc, .slice na g.ns.length nc, .int .i64 g.ax, .slice ra g.rs.length rc] 30) = W1 at *
  clear hmk
  have hV0 : VRow W2 (w.heap.size + 1) g.ns.length (fun _ => 0) := hrow0.congr (fun i _ => rfl)
  clear hrow0
  go_loopw [] (fun wr2 => ∃ V, VRow wr2 (w.heap.size + 1) g.ns.length V ∧ InvE bb g V ∧ w.heap.size + 1 < wr2.heap.size ∧ Below (w.heap.size + 1) W1 wr2) (fun wr2 => g.ns.length * 1152921504606846976 - sumV (cellN wr2 (w.heap.size + 1)) g.ns.length)
  case atStart => exact ⟨_, hV0, InvE.zero bb g, by omega, hBm⟩
  case round =>
    clear hV0 hBm
    obtain ⟨V, hrow, hinv, hbk, hB⟩ := hrel
    have c3' := (hB.cell (p := ⟨w.heap.size, 3, none⟩) (show w.heap.size < _ by omega)).trans b3
    have hwd := widen_any bb B (w.heap.size + 1) ra rc g V W1 _ hg ho hR1 hc1 (by omega) hB hbk hinv hrow
    have hs3 : Hid (sumV (cellN wr (w.heap.size + 1)) g.ns.length = sumV V g.ns.length) := sumV_congr fun i hi => cellN_row hrow i hi
    go_wp2_with fail
    refine hwd.mono ?_
    rintro e w4 ⟨⟨q, V', rfl, hrow4, hinv4, hq1, hq2⟩, hb4⟩
    have hB4 := hB.trans hb4
    have hs4 := hb4.size
    cases q with
    | true =>
      have hs5 : Hid (sumV (cellN w4 (w.heap.size + 1)) g.ns.length = sumV V' g.ns.length) := sumV_congr fun i hi => cellN_row hrow4 i hi
      have hlt4 : Hid (sumV V g.ns.length < sumV V' g.ns.length) := hq1 rfl
      have hbd : Hid (sumV V' g.ns.length ≤ g.ns.length * 1152921504606846976) := sumV_bound fun i hi => Nat.le_of_lt (ends_small hg hinv4 hi)
      clear hq1 hq2
      go_wp2
      go_roundw
      case rel => exact ⟨V', hrow4, hinv4, by omega, hB4⟩
      case measure =>
        have a1 := hs3.out
        have a2 := hs5.out
        have a3 := hlt4.out
        have a4 := hbd.out
        rw [a1, a2]
        omega
    | false =>
      have hab := ends_of hg hinv4 (hq2 rfl)
      clear hq1 hq2
      go_wp2
      go_ret
      exact ⟨⟨_, V', rfl, by omega, by omega, hrow4, hab⟩, hB1.trans (hB4.mono (by omega))⟩

theorem ck_nil {base : Nat} {p : Nat → Addr} {z : Nat × Option Nat} {w : World} {v : Value} (h : CkV base p z w v) (h0 : z.1 = 0) : v = .nilIface := by
  match z, h, h0 with
  | (0, _), h, _ => exact h
theorem ck_of_nil {base : Nat} {p : Nat → Addr} {z : Nat × Option Nat} {w : World} (h0 : z.1 = 0) : CkV base p z w .nilIface := by
  match z, h0 with
  | (0, _), _ => exact rfl
theorem ck_iface {base : Nat} {p : Nat → Addr} {z : Nat × Option Nat} {w : World} {v : Value} (h : CkV base p z w v) (h0 : z.1 ≠ 0) : ∃ t u, v = .iface t u := by
  match z, h, h0 with
  | (0, _), _, h0 => exact absurd rfl h0
  | (k + 1, none), h, _ => exact ⟨_, _, h⟩
  | (k + 1, some i), ⟨_, _, h, _⟩, _ => exact ⟨_, _, h⟩

theorem _root_.Go.Proofs.YtcoepmpgclndiaaGreatDoor.GramRow.CkV.far {base b i : Nat} {p : Nat → Addr} {z : Nat × Option Nat} {w : World} {v u : Value} (h : CkV base p z w v) (hB : b < base) : CkV base p z (w.setCell ⟨b, i, none⟩ u) v := by
  match z, h with
  | (0, _), h => exact h
  | (k + 1, none), h => exact h
  | (k + 1, some j), ⟨c, h1, h2, h3⟩ => exact ⟨c, h1, h2, by rw [Below.heap_setCell _ _ _ _ (show c ≠ b by omega)]; exact h3⟩

theorem _root_.Go.Proofs.YtcoepmpgclndiaaGreatDoor.GramAboveFn.VRow.far {w : World} {b n c i : Nat} {V : Nat → Nat} {v : Value} (h : VRow w b n V) (hne : c ≠ b) : VRow (w.setCell ⟨c, i, none⟩ v) b n V := fun j hj =>
  ⟨by rw [World.cell?_setCell_other (h := fun e => hne (by cases e; rfl))]; exact (h j hj).1, by rw [World.frozen?_setCell]; exact (h j hj).2⟩

/-- A list of sets that was answered. -/
structure SetsAt (base : Nat) (w : World) (bb : Bool) (g : G) (b : Nat) (V : Nat → Nat) : Prop where
  ge : base ≤ b
  lt : b < w.heap.size
  row : VRow w b g.ns.length V
  ends : IsEnds bb g V

theorem SetsAt.below {base : Nat} {w w' : World} {bb : Bool} {g : G} {b B : Nat} {V : Nat → Nat} (h : SetsAt base w bb g b V) (hb : Below B w w') (hB : w.heap.size ≤ B) : SetsAt base w' bb g b V :=
  ⟨h.ge, Nat.lt_of_lt_of_le h.lt hb.size, h.row.below hb (Nat.lt_of_lt_of_le h.lt hB), h.ends⟩

/-- What Of answers. -/
def OfV (base : Nat) (g : G) (w : World) (u v : Value) : Prop :=
  ((checkG g).1 = 0 ∧ ∃ bl br Vl Vr, u = .slice (some ⟨bl, 0, none⟩) g.ns.length g.ns.length ∧ v = .slice (some ⟨br, 0, none⟩) g.ns.length g.ns.length ∧ SetsAt base w false g bl Vl ∧ SetsAt base w true g br Vr ∧ bl < br) ∨
  ((checkG g).1 ≠ 0 ∧ u = .slice none 0 0 ∧ v = .slice none 0 0)

theorem drew_in (w : World) : Below w.heap.size w w.drew := ⟨rfl, rfl, rfl, Nat.le_refl _, fun _ _ => rfl⟩

set_option maxRecDepth 100000 in
set_option maxHeartbeats 4000000 in
theorem Of_top (ta na ra : Option Addr) (tc nc rc : Nat) (g : G) (p : Nat → Addr) (w : World) (hG : GRow w ta na ra g) (hg : okG g) (htc : g.ts.length ≤ tc) (hnc : g.ns.length ≤ nc) (hS : Sents w p) :
    Calls Tryz.prog 19 #[.agg #[.slice ta g.ts.length tc, .slice na g.ns.length nc, .int .i64 g.ax, .slice ra g.rs.length rc]] w fun e w' => (∃ u v x, e = .returned (.tuple #[.agg #[u, v], x]) ∧ OfV w.heap.size g w' u v ∧ CkV w.heap.size p (checkG g) w' x) ∧ Below w.heap.size w w' := by
  have hneq := neq_nil
  have hB1 : Below w.heap.size w ((w.alloc (.cells #[.slice ta g.ts.length tc, .slice na g.ns.length nc, .int .i64 g.ax, .slice ra g.rs.length rc] 30)).alloc (.cells #[.slice none 0 0, .slice none 0 0] 60)) := ((Below.refl _ _).alloc (Nat.le_refl _) _).alloc (by simp) _
  have hbg : ∀ q v, #[Value.slice ta g.ts.length tc, .slice na g.ns.length nc, .int .i64 g.ax, .slice ra g.rs.length rc][q]? = some v → ((w.alloc (.cells #[.slice ta g.ts.length tc, .slice na g.ns.length nc, .int .i64 g.ax, .slice ra g.rs.length rc] 30)).alloc (.cells #[.slice none 0 0, .slice none 0 0] 60)).cell? ⟨w.heap.size, q, none⟩ = some v := fun q v hq => Lib.cell?_alloc_some _ (by rw [← hq]; exact World.cell?_alloc_mark w _ _ _ q)
  have b0 := hbg 0 _ rfl
  have b1 := hbg 1 _ rfl
  have b2 := hbg 2 _ rfl
  have b3 := hbg 3 _ rfl
  have e0 : ((w.alloc (.cells #[.slice ta g.ts.length tc, .slice na g.ns.length nc, .int .i64 g.ax, .slice ra g.rs.length rc] 30)).alloc (.cells #[.slice none 0 0, .slice none 0 0] 60)).cell? ⟨w.heap.size + 1, 0, none⟩ = some (.slice none 0 0) := by simp [go_sem]
  have e1 : ((w.alloc (.cells #[.slice ta g.ts.length tc, .slice na g.ns.length nc, .int .i64 g.ax, .slice ra g.rs.length rc] 30)).alloc (.cells #[.slice none 0 0, .slice none 0 0] 60)).cell? ⟨w.heap.size + 1, 1, none⟩ = some (.slice none 0 0) := by simp [go_sem]
  have y0 : ((w.alloc (.cells #[.slice ta g.ts.length tc, .slice na g.ns.length nc, .int .i64 g.ax, .slice ra g.rs.length rc] 30)).alloc (.cells #[.slice none 0 0, .slice none 0 0] 60)).frozen? ⟨w.heap.size + 1, 0, none⟩ = false := by simp [go_sem]
  have y1 : ((w.alloc (.cells #[.slice ta g.ts.length tc, .slice na g.ns.length nc, .int .i64 g.ax, .slice ra g.rs.length rc] 30)).alloc (.cells #[.slice none 0 0, .slice none 0 0] 60)).frozen? ⟨w.heap.size + 1, 1, none⟩ = false := by simp [go_sem]
  have hz : ((w.alloc (.cells #[.slice ta g.ts.length tc, .slice na g.ns.length nc, .int .i64 g.ax, .slice ra g.rs.length rc] 30)).alloc (.cells #[.slice none 0 0, .slice none 0 0] 60)).heap.size = w.heap.size + 2 := by simp
  have hck := check_any ta na ra tc nc rc g p _ (hG.below hB1 (Nat.le_refl _)) hg htc hnc (hS.below hB1 (Nat.le_refl _))
  clear hbg
  go_enter Tryz.func19, Tryz.ntmps19
  go_wp2_with fail
  generalize (w.alloc (.cells #[.slice ta g.ts.length tc, .slice na g.ns.length nc, .int .i64 g.ax, .slice ra g.rs.length rc] 30)).alloc (.cells #[.slice none 0 0, .slice none 0 0] 60) = W1 at *
  refine hck.mono ?_
  rintro e w1 ⟨⟨v, rfl, hv⟩, hb1⟩
  have hB2 := hB1.trans (hb1.mono (by omega))
  have c0 := (hb1.cell (p := ⟨w.heap.size, 0, none⟩) (by rw [hz]; simp)).trans b0
  have c1 := (hb1.cell (p := ⟨w.heap.size, 1, none⟩) (by rw [hz]; simp)).trans b1
  have c2 := (hb1.cell (p := ⟨w.heap.size, 2, none⟩) (by rw [hz]; simp)).trans b2
  have c3 := (hb1.cell (p := ⟨w.heap.size, 3, none⟩) (by rw [hz]; simp)).trans b3
  have f0 := (hb1.cell (p := ⟨w.heap.size + 1, 0, none⟩) (by rw [hz]; simp)).trans e0
  have f1 := (hb1.cell (p := ⟨w.heap.size + 1, 1, none⟩) (by rw [hz]; simp)).trans e1
  have x0 := (hb1.frozen (p := ⟨w.heap.size + 1, 0, none⟩) (by rw [hz]; simp)).trans y0
  have x1 := (hb1.frozen (p := ⟨w.heap.size + 1, 1, none⟩) (by rw [hz]; simp)).trans y1
  have hWz : w.heap.size + 1 < w1.heap.size := by have := hb1.size; omega
  clear hck b0 b1 b2 b3 e0 e1 y0 y1
  by_cases h0 : (checkG g).1 = 0
  · have hgood := good_of h0
    obtain rfl := ck_nil hv h0
    have hv2 : Hid (∀ W, CkV w.heap.size p (checkG g) W .nilIface) := fun W => ck_of_nil h0
    have H0 : Hid ((checkG g).1 = 0) := h0
    have hR1 := hG.2.2.below hB2 (Nat.le_refl _)
    clear hv h0 hG
    have hd1 := drew_in w1
    go_wp2_with fail
    have hS : ∀ w', Below w1.heap.size w1 w' → (w'.cell? ⟨w.heap.size, 0, none⟩ = some (.slice ta g.ts.length tc) ∧ w'.cell? ⟨w.heap.size, 1, none⟩ = some (.slice na g.ns.length nc) ∧ w'.cell? ⟨w.heap.size, 2, none⟩ = some (.int .i64 g.ax) ∧ w'.cell? ⟨w.heap.size, 3, none⟩ = some (.slice ra g.rs.length rc)) := fun w' hb => ⟨(hb.cell (p := ⟨w.heap.size, 0, none⟩) (show w.heap.size < w1.heap.size by omega)).trans c0, (hb.cell (p := ⟨w.heap.size, 1, none⟩) (show w.heap.size < w1.heap.size by omega)).trans c1, (hb.cell (p := ⟨w.heap.size, 2, none⟩) (show w.heap.size < w1.heap.size by omega)).trans c2, (hb.cell (p := ⟨w.heap.size, 3, none⟩) (show w.heap.size < w1.heap.size by omega)).trans c3⟩
    refine wp_region_noPanic ?_
    refine wp_region_held_drew (S := (fun w' => w'.cell? ⟨w.heap.size, 0, none⟩ = some (.slice ta g.ts.length tc) ∧ w'.cell? ⟨w.heap.size, 1, none⟩ = some (.slice na g.ns.length nc) ∧ w'.cell? ⟨w.heap.size, 2, none⟩ = some (.int .i64 g.ax) ∧ w'.cell? ⟨w.heap.size, 3, none⟩ = some (.slice ra g.rs.length rc))) (by kernel_rfl) (hS _ hd1) (fun hHeld => ?_)
    refine wpAnyH_take (i := 0) (v := .agg #[.slice ta g.ts.length tc, .slice na g.ns.length nc, .int .i64 g.ax, .slice ra g.rs.length rc]) rfl (by kernel_rfl) (by kernel_rfl) (by kernel_rfl) (fun _ _ _ h => h) (Or.inl ⟨by rfl, fun w9 hSw => ?_⟩) hHeld ?_
    · obtain ⟨s0, s1, s2, s3⟩ := hSw
      go_simp
    simp only [List.getElem_toArray, List.getElem_cons_zero, Act.put, List.setIfInBounds_toArray, List.set_cons_zero, List.set_cons_succ]
    refine wpAnyH_take (i := 3) (v := .agg #[.slice ta g.ts.length tc, .slice na g.ns.length nc, .int .i64 g.ax, .slice ra g.rs.length rc]) rfl (by kernel_rfl) (by kernel_rfl) (by kernel_rfl) (fun _ _ _ h => h) (Or.inl ⟨by rfl, fun w9 hSw => ?_⟩) hHeld ?_
    · obtain ⟨s0, s1, s2, s3⟩ := hSw
      go_simp
    simp only [List.getElem_toArray, List.getElem_cons_zero, List.getElem_cons_succ, Act.put, List.setIfInBounds_toArray, List.set_cons_zero, List.set_cons_succ]
    refine wpAnyH_ready (rs := [1]) (by kernel_rfl) (by simp) ?_
    refine AllReadyH.cons rfl (fun K hK => ?_) AllReadyH.nil
    go_simp
    refine (facing_any false _).mono ?_
    rintro e w2 ⟨rfl, hc2, hz2, hb2⟩
    have hC2 := hd1.trans hb2
    refine hK.out _ _ (hS _ hC2) (fun hHeld2 => ?_)
    clear hK K hHeld
    refine wpAnyH_ready (rs := [2]) (by kernel_rfl) (by simp) ?_
    refine AllReadyH.cons rfl (fun K hK => ?_) AllReadyH.nil
    go_simp
    refine (shownBy_any false _ ta na ra tc nc rc g w2 hgood hg (hR1.below hC2 (Nat.le_refl _)) hc2).mono ?_
    rintro e w3 ⟨⟨bl, Vl, rfl, hl1, hl2, hl3, hl4⟩, hb3⟩
    have hC3 := hC2.trans (hb3.mono hC2.size)
    refine hK.out _ _ (hS _ hC3) (fun hHeld3 => ?_)
    clear hK K hHeld2
    refine wpAnyH_ready (rs := [4]) (by kernel_rfl) (by simp) ?_
    refine AllReadyH.cons rfl (fun K hK => ?_) AllReadyH.nil
    go_simp
    refine (facing_any true _).mono ?_
    rintro e w4 ⟨rfl, hc4, hz4, hb4⟩
    have hC4 := hC3.trans (hb4.mono hC3.size)
    refine hK.out _ _ (hS _ hC4) (fun hHeld4 => ?_)
    clear hK K hHeld3
    refine wpAnyH_ready (rs := [5]) (by kernel_rfl) (by simp) ?_
    refine AllReadyH.cons rfl (fun K hK => ?_) AllReadyH.nil
    go_simp
    refine (shownBy_any true _ ta na ra tc nc rc g w4 hgood hg (hR1.below hC4 (Nat.le_refl _)) hc4).mono ?_
    rintro e w5 ⟨⟨br, Vr, rfl, hr1, hr2, hr3, hr4⟩, hb5⟩
    have hC5 := hC4.trans (hb5.mono hC4.size)
    refine hK.out _ _ (hS _ hC5) (fun hHeld5 => ?_)
    clear hK K hHeld4
    refine wpAnyH_ready (rs := [6]) (by kernel_rfl) (by simp) ?_
    refine AllReadyH.cons rfl (fun K hK => ?_) AllReadyH.nil
    go_simp
    refine hK.out _ _ (hS _ hC5) (fun hHeld6 => ?_)
    clear hK K hHeld5
    have k0 := (hC5.cell (p := ⟨w.heap.size + 1, 0, none⟩) hWz).trans f0
    have k1 := (hC5.cell (p := ⟨w.heap.size + 1, 1, none⟩) hWz).trans f1
    have u0 := (hC5.frozen (p := ⟨w.heap.size + 1, 0, none⟩) hWz).trans x0
    have u1 := (hC5.frozen (p := ⟨w.heap.size + 1, 1, none⟩) hWz).trans x1
    refine wpAnyH_ready (rs := [7]) (by kernel_rfl) (by simp) ?_
    refine AllReadyH.cons rfl (fun K hK => ?_) AllReadyH.nil
    go_simp
    have hS5 := hS _ hC5
    have hne : ∀ o, (⟨w.heap.size + 1, 0, none⟩ : Addr) ≠ ⟨w.heap.size, o, none⟩ ∧ (⟨w.heap.size + 1, 1, none⟩ : Addr) ≠ ⟨w.heap.size, o, none⟩ := fun o => ⟨fun h => by have := congrArg Addr.block h; simp at this, fun h => by have := congrArg Addr.block h; simp at this⟩
    have hfar : ∀ o x y, ((w5.setCell ⟨w.heap.size + 1, 0, none⟩ x).setCell ⟨w.heap.size + 1, 1, none⟩ y).cell? ⟨w.heap.size, o, none⟩ = w5.cell? ⟨w.heap.size, o, none⟩ := fun o x y => by rw [World.cell?_setCell_other (h := (hne o).2), World.cell?_setCell_other (h := (hne o).1)]
    refine hK.out _ _ ⟨(hfar _ _ _).trans hS5.1, (hfar _ _ _).trans hS5.2.1, (hfar _ _ _).trans hS5.2.2.1, (hfar _ _ _).trans hS5.2.2.2⟩ (fun hHeld7 => ?_)
    clear hK K hHeld6
    refine wpAnyH_take (i := 8) (v := .nilIface) rfl (by kernel_rfl) (by kernel_rfl) (by kernel_rfl) (fun _ _ _ h => h) (Or.inl ⟨by rfl, fun w9 hSw => ?_⟩) hHeld7 ?_
    · obtain ⟨s0, s1, s2, s3⟩ := hSw
      go_simp
    simp only [List.getElem_toArray, List.getElem_cons_zero, List.getElem_cons_succ, Act.put, List.setIfInBounds_toArray, List.set_cons_zero, List.set_cons_succ]
    refine wpAnyH_done (by kernel_rfl) (NoPanic.normal ?_) _
    have hz3 := hb3.size
    have hz5 := hb5.size
    have hC5z := hC5.size
    have hC2z := hC2.size
    have hC4z := hC4.size
    have hlne : w.heap.size + 1 ≠ bl := by omega
    have hrne : w.heap.size + 1 ≠ br := by omega
    have hbl : VRow w5 bl g.ns.length Vl := (hl3.below hb4 (by omega)).below hb5 (by omega)
    have hO : Hid (OfV w.heap.size g ((w5.setCell ⟨w.heap.size + 1, 0, none⟩ (.slice (some ⟨bl, 0, none⟩) g.ns.length g.ns.length)).setCell ⟨w.heap.size + 1, 1, none⟩ (.slice (some ⟨br, 0, none⟩) g.ns.length g.ns.length)) (.slice (some ⟨bl, 0, none⟩) g.ns.length g.ns.length) (.slice (some ⟨br, 0, none⟩) g.ns.length g.ns.length)) :=
      .inl ⟨H0.out, bl, br, Vl, Vr, rfl, rfl, ⟨by omega, by simp; omega, (hbl.far hlne).far hlne, hl4⟩, ⟨by omega, by simp; omega, (hr3.far hrne).far hrne, hr4⟩, by omega⟩
    have hBw : Below w.heap.size w ((w5.setCell ⟨w.heap.size + 1, 0, none⟩ (.slice (some ⟨bl, 0, none⟩) g.ns.length g.ns.length)).setCell ⟨w.heap.size + 1, 1, none⟩ (.slice (some ⟨br, 0, none⟩) g.ns.length g.ns.length)) := ((hB2.trans (hC5.mono (by omega))).setCell (by simp) _).setCell (by simp) _
    have q0 : ((w5.setCell ⟨w.heap.size + 1, 0, none⟩ (.slice (some ⟨bl, 0, none⟩) g.ns.length g.ns.length)).setCell ⟨w.heap.size + 1, 1, none⟩ (.slice (some ⟨br, 0, none⟩) g.ns.length g.ns.length)).cell? ⟨w.heap.size + 1, 0, none⟩ = some (.slice (some ⟨bl, 0, none⟩) g.ns.length g.ns.length) := by simp [go_sem, k0]
    have q1 : ((w5.setCell ⟨w.heap.size + 1, 0, none⟩ (.slice (some ⟨bl, 0, none⟩) g.ns.length g.ns.length)).setCell ⟨w.heap.size + 1, 1, none⟩ (.slice (some ⟨br, 0, none⟩) g.ns.length g.ns.length)).cell? ⟨w.heap.size + 1, 1, none⟩ = some (.slice (some ⟨br, 0, none⟩) g.ns.length g.ns.length) := by simp [go_sem, k1]
    clear hfar hS hS5 hbl hl3 hr3 hR1
    generalize (w5.setCell ⟨w.heap.size + 1, 0, none⟩ (.slice (some ⟨bl, 0, none⟩) g.ns.length g.ns.length)).setCell ⟨w.heap.size + 1, 1, none⟩ (.slice (some ⟨br, 0, none⟩) g.ns.length g.ns.length) = W6 at *
    go_wp2
    refine bodyPost_ret (v := .tuple #[.agg #[.slice (some ⟨bl, 0, none⟩) g.ns.length g.ns.length, .slice (some ⟨br, 0, none⟩) g.ns.length g.ns.length], .nilIface]) (by simp [results, Tryz.results19, go_sem, q0, q1]; try rfl) rfl ?_
    exact ⟨⟨_, _, _, rfl, hO.out, hv2.out _⟩, hBw⟩
  · obtain ⟨t, u, rfl⟩ := ck_iface hv h0
    have hv2 : Hid (CkV (w.heap.size + 2) p (checkG g) w1 (.iface t u)) := hv.mono (by omega)
    have H0 : Hid ((checkG g).1 ≠ 0) := h0
    have hv3 := (hv2.out.far (b := w.heap.size + 1) (i := 0) (u := .slice none 0 0) (hB := by omega)).far (b := w.heap.size + 1) (i := 1) (u := .slice none 0 0) (hB := by omega)
    have hv4 : Hid (_) := hv3.mono (base' := w.heap.size) (by omega)
    have hBw : Below w.heap.size w ((w1.setCell ⟨w.heap.size + 1, 0, none⟩ (.slice none 0 0)).setCell ⟨w.heap.size + 1, 1, none⟩ (.slice none 0 0)) := (hB2.setCell (by simp) _).setCell (by simp) _
    have q0 : ((w1.setCell ⟨w.heap.size + 1, 0, none⟩ (.slice none 0 0)).setCell ⟨w.heap.size + 1, 1, none⟩ (.slice none 0 0)).cell? ⟨w.heap.size + 1, 0, none⟩ = some (.slice none 0 0) := by simp [go_sem, f0]
    have q1 : ((w1.setCell ⟨w.heap.size + 1, 0, none⟩ (.slice none 0 0)).setCell ⟨w.heap.size + 1, 1, none⟩ (.slice none 0 0)).cell? ⟨w.heap.size + 1, 1, none⟩ = some (.slice none 0 0) := by simp [go_sem, f1]
    clear h0 hv hv2 hv3
    go_wp2
    refine bodyPost_ret (v := .tuple #[.agg #[.slice none 0 0, .slice none 0 0], .iface t u]) (by simp [results, Tryz.results19, go_sem, q0, q1]; try rfl) rfl ?_
    exact ⟨⟨_, _, _, rfl, .inr ⟨H0.out, rfl, rfl⟩, hv4.out⟩, hBw⟩

end Go.Proofs.YtcoepmpgclndiaaGreatDoor.EndsFn
