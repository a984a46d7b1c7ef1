/-
  What the program's widen, facing and shownBy come to: the sets of one side, for every grammar that may be.
-/
import Derived.Test.YtmepnjnpfmgokaaDoorEndsFn
namespace Go.Proofs.YtmepnjnpfmgokaaDoor.EndsFn
open Go.RowKit Go.Proofs.YtmepnjnpfmgokaaDoor.GramMath Go.Proofs.YtmepnjnpfmgokaaDoor.GramRow Go.Proofs.YtmepnjnpfmgokaaDoor.EndsMath Go.Proofs.YtmepnjnpfmgokaaDoor.GramAboveFn
set_option linter.unusedVariables false

theorem shB_some {b : Bool} {r : R} {t : Nat} (h : shO b r = some t) : shB b r = true ∧ shN b r = (t : Int) := by unfold shB shN; rw [h]; exact ⟨rfl, rfl⟩
theorem shB_none {b : Bool} {r : R} (h : shO b r = none) : shB b r = false ∧ shN b r = 0 := by unfold shB shN; rw [h]; exact ⟨rfl, rfl⟩
theorem ldB_some {b : Bool} {r : R} {t : Nat} (h : ldO b r = some t) : ldB b r = true ∧ ldN b r = (t : Int) := by unfold ldB ldN; rw [h]; exact ⟨rfl, rfl⟩
theorem ldB_none {b : Bool} {r : R} (h : ldO b r = none) : ldB b r = false ∧ ldN b r = 0 := by unfold ldB ldN; rw [h]; exact ⟨rfl, rfl⟩

set_option maxRecDepth 100000 in
set_option maxHeartbeats 8000000 in
theorem widen_any (bb : Bool) (B b : Nat) (ra : Option Addr) (rc : Nat) (g : G) (V : Nat → Nat) (w0 w : World) (hg : GoodG g) (ho : okG g) (hR : RRow w0 ra g.rs) (hc : w0.cell? ⟨B, 0, none⟩ = some (.bool bb)) (hb0 : w0.heap.size ≤ b) (hB0 : Below b w0 w) (hbw : b < w.heap.size) (hV : InvE bb g V) (hrow : VRow w b g.ns.length V) :
    Calls Tryd.prog 43 #[.slice (some ⟨b, 0, none⟩) g.ns.length g.ns.length, .slice ra g.rs.length rc, .func (.func 44) #[] #[.pointer (some ⟨B, 0, none⟩)]] w fun e w' => (∃ q V', e = .returned (.bool q) ∧ VRow w' b g.ns.length V' ∧ InvE bb g V' ∧ (q = true → sumV V g.ns.length < sumV V' g.ns.length) ∧ (q = false → ∀ r ∈ g.rs, ShutE bb V' r)) ∧ Below b w w' := by
  obtain ⟨g1, g2, g3, _, g5, _⟩ := id ho
  have hfew := hg.few
  go_enter Tryd.func43, Tryd.ntmps43
  go_wp2
  go_loopw [7, 17] (fun gr i wr => ∃ (k : Nat) (q : Bool) (U : Nat → Nat), k ≤ g.rs.length ∧ i = .int .i64 k ∧ gr = .bool q ∧ VRow wr b g.ns.length U ∧ Hid (Wd bb g V k q U) ∧ Below b w wr) (fun _ i _ => g.rs.length - (intOf i).toNat)
  case atStart => exact ⟨0, false, V, by omega, rfl, rfl, hrow, Wd.start hV, Below.refl _ _⟩
  case round =>
    clear hrow hV
    obtain ⟨k, q, U, hk, rfl, rfl, hrow, hQ, hB⟩ := hrel
    have hBk := hB0.trans hB
    have hszk := hB.size
    have hbk : b < wr.heap.size := by omega
    have hRk := hR.below hBk hb0
    have hck := (hBk.cell (p := ⟨B, 0, none⟩) (Nat.lt_of_lt_of_le (cell_lt hc) hb0)).trans hc
    by_cases hlt : k < g.rs.length
    · obtain ⟨r, hr⟩ : ∃ r, g.rs[k]? = some r := ⟨g.rs[k], List.getElem?_eq_getElem hlt⟩
      obtain ⟨b1, off, qa, qc, hra, d0, d1, hI⟩ := hRk k r hr
      subst hra
      have hU := hQ.out.inv
      have hlt2 : (k : Int) < (g.rs.length : Int) := by omega
      have hrm := List.mem_of_getElem? hr
      have hok := g5 r hrm
      obtain ⟨hl0, hl1⟩ := left_lt hg hrm
      obtain ⟨l, hl⟩ : ∃ l : Nat, r.left = (l : Int) := ⟨r.left.toNat, by omega⟩
      have hlt' : r.left.toNat = l := by omega
      have hln : l < g.ns.length := by omega
      have hln2 : (l : Int) < (g.ns.length : Int) := by omega
      have hBa : Below wr.heap.size wr (wr.alloc (.cells #[.int .i64 (l : Int), .slice qa r.right.length qc] 55)) := (Below.refl _ _).alloc (Nat.le_refl _) _
      have hka : (wr.alloc (.cells #[.int .i64 (l : Int), .slice qa r.right.length qc] 55)).heap.size = wr.heap.size + 1 := by simp
      have f0 : (wr.alloc (.cells #[.int .i64 (l : Int), .slice qa r.right.length qc] 55)).cell? ⟨wr.heap.size, 0, none⟩ = some (.int .i64 (l : Int)) := by simp
      have f1 : (wr.alloc (.cells #[.int .i64 (l : Int), .slice qa r.right.length qc] 55)).cell? ⟨wr.heap.size, 1, none⟩ = some (.slice qa r.right.length qc) := by simp
      have hsh := shows_any bb B qa qc r _ ((hBa.cell (p := ⟨B, 0, none⟩) (cell_lt hck)).trans hck) (hI.below hBa (Nat.le_refl _)) hok
      have hld := fun w2 (hb2 : Below wr.heap.size wr w2) => leads_any bb B qa qc r w2 ((hb2.cell (p := ⟨B, 0, none⟩) (cell_lt hck)).trans hck) (hI.below hb2 (Nat.le_refl _)) hok
      have hws := (wid_inv hg hU hrm).1
      have h60 : ∀ z, z < 2 ^ g.ts.length → z < 1152921504606846976 := fun z hz => by
        have h2 : g.ts.length ≤ 60 := by omega
        have h3 : 2 ^ g.ts.length ≤ 2 ^ 60 := Nat.pow_le_pow_right (by omega) h2
        have h4 : 2 ^ 60 = 1152921504606846976 := by decide
        omega
      replace hws := h60 _ hws
      have hul := ends_small hg hU hln
      have hnx : Hid (∀ q2 : Bool, q2 = (q || !decide (wid bb U r = U l)) → Wd bb g V (k + 1) q2 (upd U l (wid bb U r))) := fun q2 hq2 => hQ.out.next hg hr hlt' hq2
      have hcl := hrow l hln
      have hfl := fun w2 (hb2 : Below wr.heap.size wr w2) => (hb2.frozen (p := ⟨b, l, none⟩) hbk).trans hcl.2
      have HW : Hid (wid bb U r = match ldO bb r with | some m => widS bb U r ||| U m | none => widS bb U r) := rfl
      have HS : Hid (widS bb U r = match shO bb r with | some t => U l ||| 2 ^ t | none => U l) := by
        show _ = _
        unfold widS
        rw [hlt']
        cases shO bb r <;> rfl
      rw [hl] at hsh hld d0
      have hst : ∀ t, shO bb r = some t → t < 60 ∧ 2 ^ t < 1152921504606846976 := fun t h => ⟨by have := sh_lt hg hrm h; omega, h60 _ (Nat.pow_lt_pow_right (by omega) (sh_lt hg hrm h))⟩
      have hlm : ∀ m, ldO bb r = some m → m < g.ns.length ∧ U m < 1152921504606846976 ∧ (wr.cell? ⟨b, m, none⟩ = some (.int .u64 (U m : Int))) := fun m h => ⟨ld_lt hg hrm h, ends_small hg hU (ld_lt hg hrm h), (hrow m (ld_lt hg hrm h)).1⟩
      clear hQ hR hRk hr hI hU hlt' hl hl0 hl1 h60
      have hc1 := hcl.1
      clear hcl
      generalize wid bb U r = y at *
      have hfin : Hid (∀ w2, Below wr.heap.size wr w2 → ∀ q2, q2 = (q || !decide (y = U l)) → ∃ (k' : Nat) (q' : Bool) (U' : Nat → Nat), k' ≤ g.rs.length ∧ Value.int .i64 ((k : Int) + 1) = .int .i64 k' ∧ Value.bool q2 = .bool q' ∧ VRow (w2.setCell ⟨b, l, none⟩ (.int .u64 (y : Int))) b g.ns.length U' ∧ Hid (Wd bb g V k' q' U') ∧ Below b w (w2.setCell ⟨b, l, none⟩ (.int .u64 (y : Int)))) := fun w2 hb q2 hq =>
        ⟨k + 1, q2, _, by omega, by go_num, rfl, (hrow.below hb hbk).set hln, hnx.out q2 hq, (hB.trans (hb.mono (by omega))).setCell (Nat.le_refl _) _⟩
      clear hnx
      rcases hs : shO bb r with _ | t
      · obtain ⟨e1, e2⟩ := shB_none hs
        have hws : Hid (widS bb U r = U l) := by have := HS.out; rw [hs] at this; exact this
        rw [e1, e2] at hsh
        rcases hd : ldO bb r with _ | m
        · obtain ⟨e3, e4⟩ := ldB_none hd
          have hyy : y = U l := by have := HW.out; rw [hd] at this; exact this.trans hws.out
          subst hyy
          rw [e3, e4] at hld
          clear e1 e2 e3 e4 hs hd HW HS hst hlm
          go_wp2_with fail
          refine hsh.mono ?_
          rintro e w2 ⟨rfl, hb2⟩
          have hB2 := hBa.trans (hb2.mono (by omega))
          have x0 := (hb2.cell (p := ⟨wr.heap.size, 0, none⟩) (show wr.heap.size < _ by omega)).trans f0
          have x1 := (hb2.cell (p := ⟨wr.heap.size, 1, none⟩) (show wr.heap.size < _ by omega)).trans f1
          have hz2 := hb2.size
          go_wp2_with fail
          refine (hld w2 hB2).mono ?_
          rintro e w3 ⟨rfl, hb3⟩
          have hB3 := hB2.trans (hb3.mono hB2.size)
          have y0 := (hb3.cell (p := ⟨wr.heap.size, 0, none⟩) (show wr.heap.size < _ by omega)).trans x0
          have c3 := (hB3.cell (p := ⟨b, l, none⟩) hbk).trans hc1
          have z3 := hfl w3 hB3
          clear hld hsh hfl x0 x1 f0 f1 d0 d1 hc1
          cases q with
          | true =>
            go_wp2
            go_roundw
            case rel => exact hfin.out _ hB3 _ (by rfl)
            case measure => simp [intOf]; omega
          | false =>
            have hq2 : Hid (false = (false || !decide (U l = U l))) := by show _ = _; simp
            have hne : ((U l : Int) != (U l : Int)) = false := by simp
            go_wp2
            go_roundw
            case rel => exact hfin.out _ hB3 _ hq2.out
            case measure => simp [intOf]; omega
        · obtain ⟨e3, e4⟩ := ldB_some hd
          obtain ⟨hm1, hm2, hm3⟩ := hlm m hd
          have hmn2 : (m : Int) < (g.ns.length : Int) := by omega
          have hyy : y = U l ||| U m := by have := HW.out; rw [hd, hws.out] at this; exact this
          have hor : bits .or .u64 (U l : Int) (U m : Int) = (y : Int) := by rw [hyy]; exact u64_or_nat _ _ (by omega) (by omega)
          clear hyy
          rw [e3, e4] at hld
          clear e1 e2 e3 e4 hs hd HW HS hst hlm
          go_wp2_with fail
          refine hsh.mono ?_
          rintro e w2 ⟨rfl, hb2⟩
          have hB2 := hBa.trans (hb2.mono (by omega))
          have x0 := (hb2.cell (p := ⟨wr.heap.size, 0, none⟩) (show wr.heap.size < _ by omega)).trans f0
          have x1 := (hb2.cell (p := ⟨wr.heap.size, 1, none⟩) (show wr.heap.size < _ by omega)).trans f1
          have hz2 := hb2.size
          go_wp2_with fail
          refine (hld w2 hB2).mono ?_
          rintro e w3 ⟨rfl, hb3⟩
          have hB3 := hB2.trans (hb3.mono hB2.size)
          have y0 := (hb3.cell (p := ⟨wr.heap.size, 0, none⟩) (show wr.heap.size < _ by omega)).trans x0
          have c3 := (hB3.cell (p := ⟨b, l, none⟩) hbk).trans hc1
          have m3 := (hB3.cell (p := ⟨b, m, none⟩) hbk).trans hm3
          have z3 := hfl w3 hB3
          clear hld hsh hfl x0 x1 f0 f1 d0 d1 hc1
          cases q with
          | true =>
            go_wp2
            go_roundw
            case rel => exact hfin.out _ hB3 _ (by rfl)
            case measure => simp [intOf]; omega
          | false =>
            by_cases hyt : y = U l
            · have hyt2 : ((y : Int) != (U l : Int)) = false := by simp; omega
              have hq2 : Hid (false = (false || !decide (y = U l))) := by show _ = _; simp [hyt]
              clear hyt
              go_wp2
              go_roundw
              case rel => exact hfin.out _ hB3 _ hq2.out
              case measure => simp [intOf]; omega
            · have hyt2 : ((y : Int) != (U l : Int)) = true := by simp; omega
              have hq2 : Hid (true = (false || !decide (y = U l))) := by show _ = _; simp [hyt]
              clear hyt
              go_wp2
              go_roundw
              case rel => exact hfin.out _ hB3 _ hq2.out
              case measure => simp [intOf]; omega
      · obtain ⟨e1, e2⟩ := shB_some hs
        obtain ⟨ht, hpt⟩ := hst t hs
        have hws : Hid (widS bb U r = U l ||| 2 ^ t) := by have := HS.out; rw [hs] at this; exact this
        have hwp := wrap_pow (k := t) ht
        rw [e1, e2] at hsh
        rcases hd : ldO bb r with _ | m
        · obtain ⟨e3, e4⟩ := ldB_none hd
          have hyy : y = U l ||| 2 ^ t := by have := HW.out; rw [hd, hws.out] at this; exact this
          have hor : bits .or .u64 (U l : Int) ((2 ^ t : Nat) : Int) = (y : Int) := by rw [hyy]; exact u64_or_nat _ _ (by omega) (by omega)
          clear hyy hws
          rw [e3, e4] at hld
          generalize 2 ^ t = pt at *
          clear e1 e2 e3 e4 hs hd HW HS hst hlm
          go_wp2_with fail
          refine hsh.mono ?_
          rintro e w2 ⟨rfl, hb2⟩
          have hB2 := hBa.trans (hb2.mono (by omega))
          have x0 := (hb2.cell (p := ⟨wr.heap.size, 0, none⟩) (show wr.heap.size < _ by omega)).trans f0
          have x1 := (hb2.cell (p := ⟨wr.heap.size, 1, none⟩) (show wr.heap.size < _ by omega)).trans f1
          have hz2 := hb2.size
          go_wp2_with fail
          refine (hld w2 hB2).mono ?_
          rintro e w3 ⟨rfl, hb3⟩
          have hB3 := hB2.trans (hb3.mono hB2.size)
          have y0 := (hb3.cell (p := ⟨wr.heap.size, 0, none⟩) (show wr.heap.size < _ by omega)).trans x0
          have c3 := (hB3.cell (p := ⟨b, l, none⟩) hbk).trans hc1
          have z3 := hfl w3 hB3
          clear hld hsh hfl x0 x1 f0 f1 d0 d1 hc1
          cases q with
          | true =>
            go_wp2
            go_roundw
            case rel => exact hfin.out _ hB3 _ (by rfl)
            case measure => simp [intOf]; omega
          | false =>
            by_cases hyt : y = U l
            · have hyt2 : ((y : Int) != (U l : Int)) = false := by simp; omega
              have hq2 : Hid (false = (false || !decide (y = U l))) := by show _ = _; simp [hyt]
              clear hyt
              go_wp2
              go_roundw
              case rel => exact hfin.out _ hB3 _ hq2.out
              case measure => simp [intOf]; omega
            · have hyt2 : ((y : Int) != (U l : Int)) = true := by simp; omega
              have hq2 : Hid (true = (false || !decide (y = U l))) := by show _ = _; simp [hyt]
              clear hyt
              go_wp2
              go_roundw
              case rel => exact hfin.out _ hB3 _ hq2.out
              case measure => simp [intOf]; omega
        · obtain ⟨e3, e4⟩ := ldB_some hd
          obtain ⟨hm1, hm2, hm3⟩ := hlm m hd
          have hmn2 : (m : Int) < (g.ns.length : Int) := by omega
          have hyy : y = U l ||| 2 ^ t ||| U m := by have := HW.out; rw [hd, hws.out] at this; exact this
          obtain ⟨x, hx⟩ : ∃ x, U l ||| 2 ^ t = x := ⟨_, rfl⟩
          have hor1 : bits .or .u64 (U l : Int) ((2 ^ t : Nat) : Int) = (x : Int) := by rw [← hx]; exact u64_or_nat _ _ (by omega) (by omega)
          rw [hx] at hyy
          have hxy : x ≤ y := by rw [hyy]; exact Nat.left_le_or
          have hor : bits .or .u64 (x : Int) (U m : Int) = (y : Int) := by rw [hyy]; exact u64_or_nat _ _ (by omega) (by omega)
          clear hyy hws hx
          rw [e3, e4] at hld
          generalize 2 ^ t = pt at *
          clear e1 e2 e3 e4 hs hd HW HS hst hlm
          go_wp2_with fail
          refine hsh.mono ?_
          rintro e w2 ⟨rfl, hb2⟩
          have hB2 := hBa.trans (hb2.mono (by omega))
          have x0 := (hb2.cell (p := ⟨wr.heap.size, 0, none⟩) (show wr.heap.size < _ by omega)).trans f0
          have x1 := (hb2.cell (p := ⟨wr.heap.size, 1, none⟩) (show wr.heap.size < _ by omega)).trans f1
          have hz2 := hb2.size
          go_wp2_with fail
          refine (hld w2 hB2).mono ?_
          rintro e w3 ⟨rfl, hb3⟩
          have hB3 := hB2.trans (hb3.mono hB2.size)
          have y0 := (hb3.cell (p := ⟨wr.heap.size, 0, none⟩) (show wr.heap.size < _ by omega)).trans x0
          have c3 := (hB3.cell (p := ⟨b, l, none⟩) hbk).trans hc1
          have m3 := (hB3.cell (p := ⟨b, m, none⟩) hbk).trans hm3
          have z3 := hfl w3 hB3
          clear hld hsh hfl x0 x1 f0 f1 d0 d1 hc1
          cases q with
          | true =>
            go_wp2
            go_roundw
            case rel => exact hfin.out _ hB3 _ (by rfl)
            case measure => simp [intOf]; omega
          | false =>
            by_cases hyt : y = U l
            · have hyt2 : ((y : Int) != (U l : Int)) = false := by simp; omega
              have hq2 : Hid (false = (false || !decide (y = U l))) := by show _ = _; simp [hyt]
              clear hyt
              go_wp2
              go_roundw
              case rel => exact hfin.out _ hB3 _ hq2.out
              case measure => simp [intOf]; omega
            · have hyt2 : ((y : Int) != (U l : Int)) = true := by simp; omega
              have hq2 : Hid (true = (false || !decide (y = U l))) := by show _ = _; simp [hyt]
              clear hyt
              go_wp2
              go_roundw
              case rel => exact hfin.out _ hB3 _ hq2.out
              case measure => simp [intOf]; omega
    · have hQ2 : Hid ((q = true → sumV V g.ns.length < sumV U g.ns.length) ∧ (q = false → ∀ r ∈ g.rs, ShutE bb U r)) := ⟨hQ.out.up, hQ.out.end (by omega)⟩
      have hU := hQ.out.inv
      clear hQ hR hRk
      go_wp2
      go_ret
      exact ⟨⟨q, U, rfl, hrow, hU, hQ2.out.1, hQ2.out.2⟩, hB⟩

end Go.Proofs.YtmepnjnpfmgokaaDoor.EndsFn
