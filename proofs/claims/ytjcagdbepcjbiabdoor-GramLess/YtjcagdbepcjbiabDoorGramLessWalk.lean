/-
  The walk of GramLess: it answers true for every grammar, number and rule, and writes nothing that was there.
-/
import Derived.Test.YtjcagdbepcjbiabDoorGramLessMath
import Derived.Test.YtjcagdbepcjbiabDoorGramRuleOf
import Derived.Test.YtjcagdbepcjbiabDoorGramAwake2
import Derived.Deep.DeepCutAuto
namespace Go.Proofs.YtjcagdbepcjbiabDoor.GramLessW
open Go.RowKit Go.Proofs.YtjcagdbepcjbiabDoor.GramMath Go.Proofs.YtjcagdbepcjbiabDoor.GramRow Go.Proofs.YtjcagdbepcjbiabDoor.GramOne Go.Proofs.YtjcagdbepcjbiabDoor.GramCheck Go.Proofs.YtjcagdbepcjbiabDoor.GramAwake Go.Proofs.YtjcagdbepcjbiabDoor.GramErrs Go.Proofs.YtjcagdbepcjbiabDoor.GramLess
set_option linter.unusedVariables false

theorem infoR : (Tryd.prog.info? 28).map (fun i => (i.zero, i.size, i.bytes)) = some (some (.agg #[.int .i64 0, .slice none 0 0]), 2, 32) := by kernel_rfl

theorem ck_iface {base : Nat} {p : Nat → Addr} {z : Nat × Option Nat} {w : World} {v : Value} (h : CkV base p z w v) (hz : z.1 ≠ 0) : ∃ t u, v = .iface t u := by
  match z, hz, h with
  | (0, _), h, _ => exact absurd rfl h
  | (k + 1, none), _, h => exact ⟨_, _, h⟩
  | (k + 1, some i), _, ⟨b, _, h, _⟩ => exact ⟨_, _, h⟩

theorem check_zero {g : G} (h : (checkG g).1 = 0) : checkG g = (0, none) := by
  unfold checkG at h ⊢
  by_cases h1 : 60 < g.ts.length + g.ns.length ∨ 120 < g.rs.length
  · rw [if_pos h1] at h; cases h
  rw [if_neg h1] at h ⊢
  by_cases h2 : named g.ts = false ∨ named g.ns = false
  · rw [if_pos h2] at h; cases h
  rw [if_neg h2] at h ⊢
  by_cases h3 : leftB g.ns.length g.ax = false
  · rw [if_pos h3] at h; cases h
  · rw [if_neg h3] at h ⊢
    exact rulesK_none h

/-- An append to a row of rules of the call's own, as one step of a region that draws its order; what is appended may be no row at all. -/
theorem stepQ {ops : Array Oper} {o : Oper} {a : Act} {w : World} {K : Act → World → Prop} {Q' : Exit → Act → World → Prop} {E : Prop} (hg : o.guard = none) (s x : Operand)
    (ho : o.op = .call { callee := .builtin .append, args := #[s, x], argTypes := #[23, 23] }) (base : Nat) (v : Value) (n : Nat) (l : List Q) (hn : n = l.length) (hs : a.eval s = v) (hown : w.ownsRow base 28 2 v n (cellsQ l))
    (ab : Option Addr) (k c : Nat) (m : List Q) (hk : k = m.length) (hx : a.eval x = .slice ab k c) (hnil : ab = none → k = 0 ∧ c = 0) (hsrc : ∀ ad, ab = some ad → ∀ j u, (cellsQ m)[j]? = some u → w.cell? (ad.add j) = some u) (hsz : n + k ≤ 1000000) (hbase : base ≤ w.heap.size)
    (h : ∀ v' w', w'.ownsRow base 28 2 v' (n + k) (cellsQ (l ++ m)) → w.grownBy w' v.ownBlock → K (a.put o.dst v') w') :
    if Region.wanted o (yielded ops a.tmps) = true then Oper.wp Tryd.prog o a w K Q' else E := by
  obtain ⟨i0, hi, hz0, hz1, hz2⟩ := info_parts infoR
  have hw : Region.wanted o (yielded ops a.tmps) = true := by simp [Region.wanted, hg]
  rw [if_pos hw]
  cases ab with
  | none =>
    obtain ⟨rfl, rfl⟩ := hnil rfl
    obtain rfl : m = [] := List.eq_nil_of_length_eq_zero hk.symm
    have hrun := run_append_owned_none (P := Tryd.prog) (w := w) base 23 o.type 28 i0 2 Tryd.underlying23 hi v n _ hown
    unfold Oper.wp
    simp [execOp, ho, resolve, invoke, builtin, hs, hx, hrun, Result.andThen]
    exact h v w (by simpa using hown) ⟨rfl, rfl, rfl, Nat.le_refl _, fun _ _ _ => rfl⟩
  | some ad =>
    refine wp_append_own w s x 23 ho base 28 i0 (.agg #[.int .i64 0, .slice none 0 0]) 2 32 Tryd.underlying23 hi hz0 hz1 hz2 rfl (by decide) v n (cellsQ l) hs hown ad k c (cellsQ m) hx (by rw [cellsQ_len, hk]) (hsrc ad rfl) (qv_one m) (by unfold maxLen; omega) (by omega) hbase ?_
    intro v' w' h1 h2 _
    rw [← cellsQ_app] at h1
    exact h v' w' h1 h2

theorem check_changed (ta na ra a : Option Addr) (tc nc c n : Nat) (g : G) (rs' : List R) (lq : List Q) (p : Nat → Addr) (z : Nat × Option Nat) (w W : World) (hG : GRow w ta na ra g) (hB : Below w.heap.size w W) (ho : okG g) (htc : g.ts.length ≤ tc) (hnc : g.ns.length ≤ nc) (hS : Sents w p) (hQ : QRow W a lq) (hI : ∀ x ∈ lq, IRow W x.a x.r.right) (hok : ∀ x ∈ lq, okR x.r) (hn : n = lq.length) (hlq : lq.length ≤ 1000) (hrs : lq.map (·.r) = rs') (hz : checkG (withR g rs') = z) :
    Calls Tryd.prog 4 #[.agg #[.slice ta g.ts.length tc, .slice na g.ns.length nc, .int .i64 g.ax, .slice a n c]] W fun e w' => (∃ v, e = .returned v ∧ CkV W.heap.size p z w' v) ∧ Below W.heap.size W w' := by
  subst hn hrs hz
  have h1 : GRow W ta na a (withR g (lq.map (·.r))) := ⟨hG.1.below hB (Nat.le_refl _), hG.2.1.below hB (Nat.le_refl _), rrow_of hQ hI⟩
  have h2 : okG (withR g (lq.map (·.r))) := ⟨ho.1, ho.2.1, by show (lq.map (·.r)).length ≤ _; rw [List.length_map]; omega, ho.2.2.2.1, fun r hr => by
    obtain ⟨x, hx, rfl⟩ := List.mem_map.1 hr
    exact hok x hx, ho.2.2.2.2.2.1, ho.2.2.2.2.2.2⟩
  have h3 := check_any ta na a tc nc c (withR g (lq.map (·.r))) p W h1 h2 htc hnc (hS.below hB (Nat.le_refl _))
  have e : (withR g (lq.map (·.r))).rs.length = lq.length := by show (lq.map (·.r)).length = _; rw [List.length_map]
  rw [e] at h3
  exact h3

set_option maxRecDepth 100000 in
set_option maxHeartbeats 4000000 in
theorem walk_some (ta na qa : Option Addr) (ra : Addr) (tc nc rc qc : Nat) (g : G) (at' : Int) (bad : R) (p : Nat → Addr) (w : World) (hG : GRow w ta na (some ra) g) (ho : okG g) (htc : g.ts.length ≤ tc) (hnc : g.ns.length ≤ nc) (hrc : g.rs.length ≤ rc) (hat : I64 at') (hbad : IRow w qa bad.right) (hbo : okR bad) (hE : Errs w p) (hT : ErrType w) :
    Calls Tryd.prog 3 #[.agg #[.slice ta g.ts.length tc, .slice na g.ns.length nc, .int .i64 g.ax, .slice (some ra) g.rs.length rc], .int .i64 at', .agg #[.int .i64 bad.left, .slice qa bad.right.length qc]] w fun e w' => e = .returned (.bool true) ∧ Below w.heap.size w w' := by
  have hneq := neq_nil
  have hS := hE.sents
  have hB0 : Below w.heap.size w ((w.alloc (.cells #[.slice ta g.ts.length tc, .slice na g.ns.length nc, .int .i64 g.ax, .slice (some ra) g.rs.length rc] 25)).alloc (.cells #[.int .i64 bad.left, .slice qa bad.right.length qc] 28)) := ((Below.refl _ _).alloc (Nat.le_refl _) _).alloc (by simp) _
  have hsz : ((w.alloc (.cells #[.slice ta g.ts.length tc, .slice na g.ns.length nc, .int .i64 g.ax, .slice (some ra) g.rs.length rc] 25)).alloc (.cells #[.int .i64 bad.left, .slice qa bad.right.length qc] 28)).heap.size = w.heap.size + 2 := by simp
  have b0 : ((w.alloc (.cells #[.slice ta g.ts.length tc, .slice na g.ns.length nc, .int .i64 g.ax, .slice (some ra) g.rs.length rc] 25)).alloc (.cells #[.int .i64 bad.left, .slice qa bad.right.length qc] 28)).cell? ⟨w.heap.size, 0, none⟩ = some (.slice ta g.ts.length tc) := by simp [go_sem]
  have b1 : ((w.alloc (.cells #[.slice ta g.ts.length tc, .slice na g.ns.length nc, .int .i64 g.ax, .slice (some ra) g.rs.length rc] 25)).alloc (.cells #[.int .i64 bad.left, .slice qa bad.right.length qc] 28)).cell? ⟨w.heap.size, 1, none⟩ = some (.slice na g.ns.length nc) := by simp [go_sem]
  have b2 : ((w.alloc (.cells #[.slice ta g.ts.length tc, .slice na g.ns.length nc, .int .i64 g.ax, .slice (some ra) g.rs.length rc] 25)).alloc (.cells #[.int .i64 bad.left, .slice qa bad.right.length qc] 28)).cell? ⟨w.heap.size, 2, none⟩ = some (.int .i64 g.ax) := by simp [go_sem]
  have b3 : ((w.alloc (.cells #[.slice ta g.ts.length tc, .slice na g.ns.length nc, .int .i64 g.ax, .slice (some ra) g.rs.length rc] 25)).alloc (.cells #[.int .i64 bad.left, .slice qa bad.right.length qc] 28)).cell? ⟨w.heap.size, 3, none⟩ = some (.slice (some ra) g.rs.length rc) := by simp [go_sem]
  have b4 : ((w.alloc (.cells #[.slice ta g.ts.length tc, .slice na g.ns.length nc, .int .i64 g.ax, .slice (some ra) g.rs.length rc] 25)).alloc (.cells #[.int .i64 bad.left, .slice qa bad.right.length qc] 28)).cell? ⟨w.heap.size + 1, 0, none⟩ = some (.int .i64 bad.left) := by simp [go_sem]
  have b5 : ((w.alloc (.cells #[.slice ta g.ts.length tc, .slice na g.ns.length nc, .int .i64 g.ax, .slice (some ra) g.rs.length rc] 25)).alloc (.cells #[.int .i64 bad.left, .slice qa bad.right.length qc] 28)).cell? ⟨w.heap.size + 1, 1, none⟩ = some (.slice qa bad.right.length qc) := by simp [go_sem]
  have hck := check_any ta na (some ra) tc nc rc g p _ (hG.below hB0 (Nat.le_refl _)) ho htc hnc (hS.below hB0 (Nat.le_refl _))
  by_cases hz : (checkG g).1 = 0
  · have hgd := good_of hz
    rw [check_zero hz] at hck
    have hrul := hgd.rules
    go_enter Tryd.func3, Tryd.ntmps3
    go_wp2_with fail
    generalize (w.alloc (.cells #[.slice ta g.ts.length tc, .slice na g.ns.length nc, .int .i64 g.ax, .slice (some ra) g.rs.length rc] 25)).alloc (.cells #[.int .i64 bad.left, .slice qa bad.right.length qc] 28) = W0 at *
    refine hck.mono ?_
    rintro e w1 ⟨⟨v, rfl, hv⟩, hb1⟩
    obtain rfl : v = .nilIface := hv
    have hBw1 : Below w.heap.size w w1 := hB0.trans (hb1.mono (by omega))
    rw [hsz] at hb1
    go_wp2_with fail
    refine (awake_any p _ (hS.below hBw1 (Nat.le_refl _))).mono ?_
    rintro e w2 ⟨rfl, hb2⟩
    have hb02 : Below (w.heap.size + 2) W0 w2 := hb1.trans (hb2.mono (by have := hb1.size; omega))
    have hBw2 := hBw1.trans (hb2.mono hBw1.size)
    have hs2 : w.heap.size + 2 ≤ w2.heap.size := by have := hb02.size; omega
    have c0 := (hb02.cell (p := ⟨w.heap.size, 0, none⟩) (by simp)).trans b0
    have c1 := (hb02.cell (p := ⟨w.heap.size, 1, none⟩) (by simp)).trans b1
    have c2 := (hb02.cell (p := ⟨w.heap.size, 2, none⟩) (by simp)).trans b2
    have c3 := (hb02.cell (p := ⟨w.heap.size, 3, none⟩) (by simp)).trans b3
    have c4 := (hb02.cell (p := ⟨w.heap.size + 1, 0, none⟩) (by simp)).trans b4
    have c5 := (hb02.cell (p := ⟨w.heap.size + 1, 1, none⟩) (by simp)).trans b5
    clear hck b0 b1 b2 b3 b4 b5 hb1 hb2 hBw1 hB0 hb02
    have hmod1 := Int.tmod_lt_of_pos at' (show (0 : Int) < (g.rs.length : Int) + 1 by omega)
    have hmod2 : -((g.rs.length : Int) + 1) < at'.tmod ((g.rs.length : Int) + 1) := by
      have := Int.lt_tmod_of_pos at' (show (0 : Int) < (g.rs.length : Int) + 1 by omega)
      omega
    obtain ⟨l, hlr, hQ, hIl⟩ := rrow_list (hG.2.2.below hBw2 (Nat.le_refl _))
    have hll : Hid (l.length = g.rs.length) := by show _ = _; rw [← hlr, List.length_map]
    have hrcl : l.length ≤ rc := by have := hll.out; omega
    go_upto_if 32 with fail
    go_cut [9] (fun s9 wx => ∃ k : Nat, k ≤ g.rs.length ∧ s9 = .int .i64 k ∧ wx = w2)
    case first =>
      by_cases hneg : at'.tmod ((g.rs.length : Int) + 1) < 0
      · go_wp2
        go_meet
        case rel => exact ⟨(at'.tmod ((g.rs.length : Int) + 1) + (g.rs.length : Int) + 1).toNat, by omega, by congr 1; omega, rfl⟩
      · go_wp2
        go_meet
        case rel => exact ⟨(at'.tmod ((g.rs.length : Int) + 1)).toNat, by omega, by congr 1; omega, rfl⟩
    case rest =>
      obtain ⟨k, hkn, rfl, hwc⟩ := hcut
      obtain rfl := hwc.symm
      have hHl : w.heap.size < w2.heap.size := by omega
      have hkc : (k : Int) ≤ (rc : Int) := by omega
      have hlk : Hid (k = (l.take k).length) := by show _ = _; have := hll.out; rw [List.length_take]; omega
      clear hmod1 hmod2
      go_upto_if 39 with fail
      go_cut [] (fun wx => Below w2.heap.size w2 wx)
      case first =>
        by_cases hlt : k < g.rs.length
        · have hlt2 : (k : Int) < (g.rs.length : Int) := by omega
          have hkc1 : (k : Int) + 1 ≤ (g.rs.length : Int) := by omega
          have hkc2 : (k : Int) + 1 ≤ (rc : Int) := by omega
          have hwr : IntKind.i64.wrap ((k : Int) + 1) = (k : Int) + 1 := by rw [IntKind.wrap_i64]; omega
          have hk0 : (0 : Int) ≤ (k : Int) + 1 := by omega
          obtain ⟨ab, hab⟩ : ∃ ab, (if rc = k + 1 then some ra else some (ra.add ((k + 1) * 2))) = ab := ⟨_, rfl⟩
          have habn : ab ≠ none := by rw [← hab]; split <;> simp
          have habc : Hid (∀ (W : World), QRow W (some ra) l → ∀ ad', ab = some ad' → ∀ (j : Nat) u, (cellsQ (l.drop (k + 1)))[j]? = some u → W.cell? (ad'.add j) = some u) := fun W hW ad' had => qrow_cut hW hrcl ad' (hab.trans had)
          have hld : Hid (g.rs.length - (k + 1) = (l.drop (k + 1)).length) := by show _ = _; have := hll.out; rw [List.length_drop, this]
          go_wp2
          generalize hL : w2.alloc (.cells #[.slice ta g.ts.length tc, .slice na g.ns.length nc, .int .i64 g.ax, .slice (some ra) g.rs.length rc] 25) = W3
          have hb3 : Below w2.heap.size w2 W3 := by rw [← hL]; exact (Below.refl _ _).alloc (Nat.le_refl _) _
          have hs3h : Hid (W3.heap.size = w2.heap.size + 1) := by show _ = _; rw [← hL]; simp
          have hs3 : w2.heap.size < W3.heap.size := by have := hs3h.out; omega
          have d0 : W3.cell? ⟨w2.heap.size, 0, none⟩ = some (.slice ta g.ts.length tc) := by rw [← hL]; simp
          have d1 : W3.cell? ⟨w2.heap.size, 1, none⟩ = some (.slice na g.ns.length nc) := by rw [← hL]; simp
          have d2 : W3.cell? ⟨w2.heap.size, 2, none⟩ = some (.int .i64 g.ax) := by rw [← hL]; simp
          have d3 : W3.cell? ⟨w2.heap.size, 3, none⟩ = some (.slice (some ra) g.rs.length rc) := by rw [← hL]; simp
          have d4 : W3.frozen? ⟨w2.heap.size, 3, none⟩ = false := by rw [← hL]; simp
          clear hL
          have e3 := (hb3.cell (p := ⟨w.heap.size, 3, none⟩) hHl).trans c3
          have hQ3 := hQ.below hb3 (Nat.le_refl _)
          have hown0 : (World.alloc W3.drew (.cells #[] 28)).ownsRow W3.heap.size 28 2 (.slice (some ⟨W3.heap.size, 0, none⟩) 0 0) 0 (cellsQ []) := World.ownsRow_lit W3.drew #[] 0 (Nat.le_refl _) (by unfold maxLen; omega) rfl
          have hB4 : Below W3.heap.size W3 (World.alloc W3.drew (.cells #[] 28)) := (show Below W3.heap.size W3 W3.drew from ⟨rfl, rfl, rfl, Nat.le_refl _, fun _ _ => rfl⟩).alloc (Nat.le_refl _) _
          have hsrc0 : Hid (∀ ad', some ra = some ad' → ∀ (j : Nat) u, (cellsQ (l.take k))[j]? = some u → (World.alloc W3.drew (.cells #[] 28)).cell? (ad'.add j) = some u) := qrow_pre (hQ3.below hB4 (Nat.le_refl _)) k
          have hBg : ∀ w4, (World.alloc W3.drew (.cells #[] 28)).grownBy w4 (Value.slice (some ⟨W3.heap.size, 0, none⟩) 0 0).ownBlock → Below W3.heap.size W3 w4 := fun w4 hg => hB4.grown hg (by simp) (fun k hk => by cases hk; exact Nat.le_refl _)
          go_region_held3 (fun w' => w'.cell? ⟨w.heap.size, 3, none⟩ = some (.slice (some ra) g.rs.length rc))
            (first | go_keep | (exact (hB5.cell (show w.heap.size < _ by omega)).trans e3) | (refine (World.cell?_setCell_far _ _ _ _ (show w2.heap.size ≠ w.heap.size by omega)).trans ?_; exact (hB5.cell (show w.heap.size < _ by omega)).trans e3))
            (first
              | (refine stepQ rfl _ _ rfl W3.heap.size _ 0 [] rfl rfl hown0 (some ra) k rc (l.take k) hlk.out rfl (fun h => by cases h) hsrc0.out (by omega) (by simp) ?_; intro v4 w4 hown4 hgrow4; have hB5 := hBg _ hgrow4)
              | (refine stepQ rfl _ _ rfl W3.heap.size _ (0 + k) ([] ++ l.take k) (by rw [Nat.zero_add, List.nil_append]; exact hlk.out) rfl hown4 ab (g.rs.length - (k + 1)) (rc - (k + 1)) (l.drop (k + 1)) hld.out (by rfl) (fun h => absurd h habn) (habc.out _ (hQ3.below hB5 (Nat.le_refl _))) (by omega) hB5.size ?_; intro v5 w5 hown5 hgrow5; have hB6 : Below W3.heap.size W3 w5 := hB5.grown hgrow5 hB5.size (fun k hk => (hown4.lt k hk).1); have hB5 := hB6; obtain ⟨a5, c5', hv5⟩ := own_slice hown5; subst hv5; have f4 := (hB6.frozen (p := ⟨w2.heap.size, 3, none⟩) hs3).trans d4; have f3 := (hB6.cell (p := ⟨w2.heap.size, 3, none⟩) hs3).trans d3))
          have hbW6 : Below w2.heap.size w2 (w5.setCell ⟨w2.heap.size, 3, none⟩ (.slice a5 (k + (g.rs.length - (k + 1))) c5')) := (hb3.trans (hB6.mono (by omega))).setCell (Nat.le_refl _) _
          have hown6 := ownsRow_setCell_below hown5 (a := ⟨w2.heap.size, 3, none⟩) hs3 (.slice a5 (k + (g.rs.length - (k + 1))) c5')
          rw [Nat.zero_add, List.nil_append] at hown6
          have g0 : (w5.setCell ⟨w2.heap.size, 3, none⟩ (.slice a5 (k + (g.rs.length - (k + 1))) c5')).cell? ⟨w2.heap.size, 0, none⟩ = some (.slice ta g.ts.length tc) := (World.cell?_setCell_other (h := show (⟨w2.heap.size, 3, none⟩ : Addr) ≠ ⟨w2.heap.size, 0, none⟩ by simp) ..).trans ((hB6.cell (p := ⟨w2.heap.size, 0, none⟩) hs3).trans d0)
          have g1 : (w5.setCell ⟨w2.heap.size, 3, none⟩ (.slice a5 (k + (g.rs.length - (k + 1))) c5')).cell? ⟨w2.heap.size, 1, none⟩ = some (.slice na g.ns.length nc) := (World.cell?_setCell_other (h := show (⟨w2.heap.size, 3, none⟩ : Addr) ≠ ⟨w2.heap.size, 1, none⟩ by simp) ..).trans ((hB6.cell (p := ⟨w2.heap.size, 1, none⟩) hs3).trans d1)
          have g2 : (w5.setCell ⟨w2.heap.size, 3, none⟩ (.slice a5 (k + (g.rs.length - (k + 1))) c5')).cell? ⟨w2.heap.size, 2, none⟩ = some (.int .i64 g.ax) := (World.cell?_setCell_other (h := show (⟨w2.heap.size, 3, none⟩ : Addr) ≠ ⟨w2.heap.size, 2, none⟩ by simp) ..).trans ((hB6.cell (p := ⟨w2.heap.size, 2, none⟩) hs3).trans d2)
          have g3 : (w5.setCell ⟨w2.heap.size, 3, none⟩ (.slice a5 (k + (g.rs.length - (k + 1))) c5')).cell? ⟨w2.heap.size, 3, none⟩ = some (.slice a5 (k + (g.rs.length - (k + 1))) c5') := World.cell?_setCell_same (h := f3) ..
          have hlen6 : Hid (k + (g.rs.length - (k + 1)) = (l.take k ++ l.drop (k + 1)).length) := by show _ = _; rw [List.length_append, ← hlk.out, ← hld.out]
          have hck6 := check_changed ta na (some ra) a5 tc nc c5' _ g (g.rs.take k ++ g.rs.drop (k + 1)) (l.take k ++ l.drop (k + 1)) p (0, none) w _ hG (hBw2.trans (hbW6.mono (by omega))) ho htc hnc hS (own_qrow hlen6.out hown6) (fun x hx => (hIl x (by rcases List.mem_append.1 hx with h | h; exact List.mem_of_mem_take h; exact List.mem_of_mem_drop h)).below hbW6 (Nat.le_refl _)) (fun x hx => ho.2.2.2.2.1 x.r (by rw [← hlr]; exact List.mem_map.2 ⟨x, by rcases List.mem_append.1 hx with h | h; exact List.mem_of_mem_take h; exact List.mem_of_mem_drop h, rfl⟩)) hlen6.out (by rw [← hlen6.out]; omega) (by rw [List.map_append, List.map_take, List.map_drop, hlr]) (check_less hgd k)
          clear hown4 hown5 hown6 hgrow4 hgrow5 hB5 hBg hsrc0 hown0 hB4 hQ3 e3 f3 f4 d0 d1 d2 d3 d4
          generalize hW6 : w5.setCell ⟨w2.heap.size, 3, none⟩ (.slice a5 (k + (g.rs.length - (k + 1))) c5') = W6
          rw [hW6] at g0 g1 g2 g3 hck6 hbW6
          clear hW6
          go_wp2_with fail
          refine hck6.mono ?_
          rintro e w7 ⟨⟨v, rfl, hv⟩, hb7⟩
          obtain rfl : v = .nilIface := hv
          go_wp2
          go_meet
          case rel => exact hbW6.trans (hb7.mono hbW6.size)
        · have hge : ¬ (k : Int) < (g.rs.length : Int) := by omega
          go_wp2
          go_meet
          case rel => exact Below.refl _ _
      case rest =>
        have hBwc : Below w.heap.size w wc := hBw2.trans (hcut.mono (by omega))
        have hsc := hcut.size
        have h0 := (hcut.cell (p := ⟨w.heap.size, 0, none⟩) hHl).trans c0
        have h1 := (hcut.cell (p := ⟨w.heap.size, 1, none⟩) hHl).trans c1
        have h2 := (hcut.cell (p := ⟨w.heap.size, 2, none⟩) hHl).trans c2
        have h3 := (hcut.cell (p := ⟨w.heap.size, 3, none⟩) hHl).trans c3
        have hHl1 : w.heap.size + 1 < w2.heap.size := by omega
        have h4 := (hcut.cell (p := ⟨w.heap.size + 1, 0, none⟩) hHl1).trans c4
        have h5 := (hcut.cell (p := ⟨w.heap.size + 1, 1, none⟩) hHl1).trans c5
        have hQc := hQ.below hcut (Nat.le_refl _)
        have hIc : ∀ x ∈ l, IRow wc x.a x.r.right := fun x hx => (hIl x hx).below hcut (Nat.le_refl _)
        have hHc : w.heap.size < wc.heap.size := by omega
        have hHc1 : w.heap.size + 1 < wc.heap.size := by omega
        clear c0 c1 c2 c3 c4 c5 hQ hIl hcut
        go_upto_region 14 with fail
        generalize hL : wc.alloc (.cells #[.slice ta g.ts.length tc, .slice na g.ns.length nc, .int .i64 g.ax, .slice (some ra) g.rs.length rc] 25) = W4
        have hb4 : Below wc.heap.size wc W4 := by rw [← hL]; exact (Below.refl _ _).alloc (Nat.le_refl _) _
        have hs4h : Hid (W4.heap.size = wc.heap.size + 1) := by show _ = _; rw [← hL]; simp
        have hs4 : wc.heap.size < W4.heap.size := by have := hs4h.out; omega
        have d0 : W4.cell? ⟨wc.heap.size, 0, none⟩ = some (.slice ta g.ts.length tc) := by rw [← hL]; simp
        have d1 : W4.cell? ⟨wc.heap.size, 1, none⟩ = some (.slice na g.ns.length nc) := by rw [← hL]; simp
        have d2 : W4.cell? ⟨wc.heap.size, 2, none⟩ = some (.int .i64 g.ax) := by rw [← hL]; simp
        have d3 : W4.cell? ⟨wc.heap.size, 3, none⟩ = some (.slice (some ra) g.rs.length rc) := by rw [← hL]; simp
        have d4 : W4.frozen? ⟨wc.heap.size, 3, none⟩ = false := by rw [← hL]; simp
        clear hL
        go_cut [] (fun wx => ∃ a5 c5 w9, wx = w9.setCell ⟨wc.heap.size, 3, none⟩ (.slice a5 (k + 1) c5) ∧ w9.ownsRow W4.heap.size 28 2 (.slice a5 (k + 1) c5) (k + 1) (cellsQ (l.take k ++ [⟨bad, qa, qc⟩])) ∧ Below W4.heap.size W4 w9)
        case first =>
          have e3 := (hb4.cell (p := ⟨w.heap.size, 3, none⟩) hHc).trans h3
          have e4 := (hb4.cell (p := ⟨w.heap.size + 1, 0, none⟩) hHc1).trans h4
          have e5 := (hb4.cell (p := ⟨w.heap.size + 1, 1, none⟩) hHc1).trans h5
          have hQ4 := hQc.below hb4 (Nat.le_refl _)
          have hkn3 : (0 : Int) ≤ (k : Int) := by omega
          have hBd : Below W4.heap.size W4 W4.drew := ⟨rfl, rfl, rfl, Nat.le_refl _, fun _ _ => rfl⟩
          have hZ : ∀ (W : World), Below W4.heap.size W4 W → (W.alloc (.cells #[] 28)).ownsRow W4.heap.size 28 2 (.slice (some ⟨W.heap.size, 0, none⟩) 0 0) 0 (cellsQ []) := fun W hW => World.ownsRow_lit W #[] 0 hW.size (by unfold maxLen; omega) rfl
          have hsrc0 : Hid (∀ (W : World), Below W4.heap.size W4 W → ∀ ad', some ra = some ad' → ∀ (j : Nat) u, (cellsQ (l.take k))[j]? = some u → W.cell? (ad'.add j) = some u) := fun W hW => qrow_pre (hQ4.below hW (Nat.le_refl _)) k
          have hone : Hid (∀ (W : World) (b : Nat), W.heap[b]? = some (.cells #[.int .i64 bad.left, .slice qa bad.right.length qc] 28 (0, 0)) → ∀ ad', some (⟨b, 0, none⟩ : Addr) = some ad' → ∀ (j : Nat) u, (cellsQ [(⟨bad, qa, qc⟩ : Q)])[j]? = some u → W.cell? (ad'.add j) = some u) := fun W b hW ad' had j u hj => by
            obtain rfl := Option.some.inj had
            rw [Addr.add_lit, Nat.zero_add]
            unfold World.cell?
            rw [hW]
            match j, hj with
            | 0, hj => exact hj
            | 1, hj => exact hj
            | n + 2, hj => simp [cellsQ, qv] at hj
          have hlt4 : Hid (0 + k = ([] ++ l.take k).length) := by show _ = _; rw [List.nil_append, Nat.zero_add]; exact hlk.out
          have hBb : Below W4.heap.size W4 ((World.alloc W4.drew (.cells #[] 28)).alloc (.cells #[.int .i64 bad.left, .slice qa bad.right.length qc] 28)) := (hBd.alloc hBd.size _).alloc (hBd.alloc hBd.size _).size _
          have hBc : Below W4.heap.size W4 (World.alloc W4.drew (.cells #[.int .i64 bad.left, .slice qa bad.right.length qc] 28)) := hBd.alloc hBd.size _
          have hBc2 : Below W4.heap.size W4 ((World.alloc W4.drew (.cells #[.int .i64 bad.left, .slice qa bad.right.length qc] 28)).alloc (.cells #[] 28)) := hBc.alloc hBc.size _
          have hblkb : Hid (∀ w4, ((World.alloc W4.drew (.cells #[] 28)).alloc (.cells #[.int .i64 bad.left, .slice qa bad.right.length qc] 28)).grownBy w4 (some W4.heap.size) → w4.heap[W4.heap.size + 1]? = some (.cells #[.int .i64 bad.left, .slice qa bad.right.length qc] 28 (0, 0))) := fun w4 hg => (hg.block (W4.heap.size + 1) (by simp) (by simp)).trans (by have := heap_new (World.alloc W4.drew (.cells #[] 28)) (.cells #[.int .i64 bad.left, .slice qa bad.right.length qc] 28); simpa using this)
          have hblkc : Hid (∀ w4, ((World.alloc W4.drew (.cells #[.int .i64 bad.left, .slice qa bad.right.length qc] 28)).alloc (.cells #[] 28)).grownBy w4 (some (W4.heap.size + 1)) → w4.heap[W4.heap.size]? = some (.cells #[.int .i64 bad.left, .slice qa bad.right.length qc] 28 (0, 0))) := fun w4 hg => (hg.block W4.heap.size (by simp; omega) (by simp)).trans (((Below.refl (W4.heap.size + 1) (World.alloc W4.drew (.cells #[.int .i64 bad.left, .slice qa bad.right.length qc] 28))).alloc (by simp) _).block W4.heap.size (by omega) |>.trans (heap_new W4.drew (.cells #[.int .i64 bad.left, .slice qa bad.right.length qc] 28)))
          have hZc : ((World.alloc W4.drew (.cells #[.int .i64 bad.left, .slice qa bad.right.length qc] 28)).alloc (.cells #[] 28)).ownsRow W4.heap.size 28 2 (.slice (some ⟨W4.heap.size + 1, 0, none⟩) 0 0) 0 (cellsQ []) := by have := hZ _ hBc; simpa using this
          go_region_held3 (fun w' => w'.cell? ⟨w.heap.size, 3, none⟩ = some (.slice (some ra) g.rs.length rc) ∧ w'.cell? ⟨w.heap.size + 1, 0, none⟩ = some (.int .i64 bad.left) ∧ w'.cell? ⟨w.heap.size + 1, 1, none⟩ = some (.slice qa bad.right.length qc))
            (first | go_keep | (exact ⟨(hB5.cell (show w.heap.size < _ by omega)).trans e3, (hB5.cell (show w.heap.size + 1 < _ by omega)).trans e4, (hB5.cell (show w.heap.size + 1 < _ by omega)).trans e5⟩) | (exact ⟨(World.cell?_setCell_far _ _ _ _ (show wc.heap.size ≠ w.heap.size by omega)).trans ((hB5.cell (show w.heap.size < _ by omega)).trans e3), (World.cell?_setCell_far _ _ _ _ (show wc.heap.size ≠ w.heap.size + 1 by omega)).trans ((hB5.cell (show w.heap.size + 1 < _ by omega)).trans e4), (World.cell?_setCell_far _ _ _ _ (show wc.heap.size ≠ w.heap.size + 1 by omega)).trans ((hB5.cell (show w.heap.size + 1 < _ by omega)).trans e5)⟩))
            (first
              | (refine stepQ rfl _ _ rfl W4.heap.size _ 0 [] rfl rfl (hZ W4.drew hBd) (some ra) k rc (l.take k) hlk.out rfl (fun h => by cases h) (hsrc0.out _ (hBd.alloc hBd.size _)) (by omega) (hBd.alloc hBd.size _).size ?_; intro v4 w4 hown4 hgrow4; have hB5 : Below W4.heap.size W4 w4 := (hBd.alloc hBd.size _).grown hgrow4 (hBd.alloc hBd.size _).size (fun k hk => by cases hk; exact hBd.size))
              | (refine stepQ rfl _ _ rfl W4.heap.size _ 0 [] rfl rfl ((hZ W4.drew hBd).alloc _) (some ra) k rc (l.take k) hlk.out rfl (fun h => by cases h) (hsrc0.out _ hBb) (by omega) hBb.size ?_; intro v4 w4 hown4 hgrow4; have hB5 : Below W4.heap.size W4 w4 := hBb.grown hgrow4 hBb.size (fun k hk => by cases hk; exact hBd.size); have hblk := hblkb.out w4 hgrow4)
              | (refine stepQ rfl _ _ rfl W4.heap.size _ 0 [] rfl rfl hZc (some ra) k rc (l.take k) hlk.out rfl (fun h => by cases h) (hsrc0.out _ hBc2) (by omega) hBc2.size ?_; intro v4 w4 hown4 hgrow4; have hB5 : Below W4.heap.size W4 w4 := hBc2.grown hgrow4 hBc2.size (fun k hk => by cases hk; exact Nat.le_succ _); have hblk := hblkc.out w4 hgrow4)
              | (refine stepQ rfl _ _ rfl W4.heap.size _ (0 + k) ([] ++ l.take k) hlt4.out rfl hown4 (some ⟨_, 0, none⟩) 1 1 [⟨bad, qa, qc⟩] rfl rfl (fun h => by cases h) (hone.out _ _ hblk) (by omega) hB5.size ?_; intro v5 w5 hown5 hgrow5; have hB6 : Below W4.heap.size W4 w5 := hB5.grown hgrow5 hB5.size (fun k hk => (hown4.lt k hk).1); have hB5 := hB6; obtain ⟨a5, c5, hv5⟩ := own_slice hown5; subst hv5; have f4 := (hB6.frozen (p := ⟨wc.heap.size, 3, none⟩) hs4).trans d4; have f3 := (hB6.cell (p := ⟨wc.heap.size, 3, none⟩) hs4).trans d3)
              | (refine stepQ rfl _ _ rfl W4.heap.size _ (0 + k) ([] ++ l.take k) hlt4.out rfl (hown4.alloc _) (some ⟨w4.heap.size, 0, none⟩) 1 1 [⟨bad, qa, qc⟩] rfl rfl (fun h => by cases h) (hone.out _ _ (heap_new _ _)) (by omega) (hB5.alloc hB5.size _).size ?_; intro v5 w5 hown5 hgrow5; have hB6 : Below W4.heap.size W4 w5 := (hB5.alloc hB5.size _).grown hgrow5 (hB5.alloc hB5.size _).size (fun k hk => (hown4.lt k hk).1); have hB5 := hB6; obtain ⟨a5, c5, hv5⟩ := own_slice hown5; subst hv5; have f4 := (hB6.frozen (p := ⟨wc.heap.size, 3, none⟩) hs4).trans d4; have f3 := (hB6.cell (p := ⟨wc.heap.size, 3, none⟩) hs4).trans d3))
          all_goals
            go_wp2
            go_meet
            case rel => exact ⟨a5, c5, w5, by simp, by simpa using hown5, hB6⟩
        case rest =>
          rename World => wd
          obtain ⟨a5, c5, w9, hwd, hown9, hB9⟩ := hcut
          have hbW : Below wc.heap.size wc wd := by rw [hwd]; exact (hb4.trans (hB9.mono (by omega))).setCell (Nat.le_refl _) _
          have hownd : wd.ownsRow W4.heap.size 28 2 (.slice a5 (k + 1) c5) (k + 1) (cellsQ (l.take k ++ [⟨bad, qa, qc⟩])) := by rw [hwd]; exact ownsRow_setCell_below hown9 (a := ⟨wc.heap.size, 3, none⟩) hs4 _
          have m0 : wd.cell? ⟨wc.heap.size, 0, none⟩ = some (.slice ta g.ts.length tc) := by rw [hwd]; exact (World.cell?_setCell_other (h := show (⟨wc.heap.size, 3, none⟩ : Addr) ≠ ⟨wc.heap.size, 0, none⟩ by simp) ..).trans ((hB9.cell (p := ⟨wc.heap.size, 0, none⟩) hs4).trans d0)
          have m1 : wd.cell? ⟨wc.heap.size, 1, none⟩ = some (.slice na g.ns.length nc) := by rw [hwd]; exact (World.cell?_setCell_other (h := show (⟨wc.heap.size, 3, none⟩ : Addr) ≠ ⟨wc.heap.size, 1, none⟩ by simp) ..).trans ((hB9.cell (p := ⟨wc.heap.size, 1, none⟩) hs4).trans d1)
          have m2 : wd.cell? ⟨wc.heap.size, 2, none⟩ = some (.int .i64 g.ax) := by rw [hwd]; exact (World.cell?_setCell_other (h := show (⟨wc.heap.size, 3, none⟩ : Addr) ≠ ⟨wc.heap.size, 2, none⟩ by simp) ..).trans ((hB9.cell (p := ⟨wc.heap.size, 2, none⟩) hs4).trans d2)
          have m3 : wd.cell? ⟨wc.heap.size, 3, none⟩ = some (.slice a5 (k + 1) c5) := by rw [hwd]; exact World.cell?_setCell_same (h := (hB9.cell (p := ⟨wc.heap.size, 3, none⟩) hs4).trans d3) ..
          have m4 : wd.frozen? ⟨wc.heap.size, 3, none⟩ = false := by rw [hwd, World.frozen?_setCell]; exact (hB9.frozen (p := ⟨wc.heap.size, 3, none⟩) hs4).trans d4
          have hsd : W4.heap.size ≤ wd.heap.size := by rw [hwd]; simpa using hB9.size
          clear hown9 hB9 d0 d1 d2 d3 d4 hwd hb4
          have e3 := (hbW.cell (p := ⟨w.heap.size, 3, none⟩) hHc).trans h3
          have hQd := hQc.below hbW (Nat.le_refl _)
          have hld0 : Hid (g.rs.length - k = (l.drop k).length) := by show _ = _; have := hll.out; rw [List.length_drop, this]
          have hkn2 : (k : Int) ≤ (g.rs.length : Int) := by omega
          have hkn3 : (0 : Int) ≤ (k : Int) := by omega
          obtain ⟨ab, hab⟩ : ∃ ab, (if rc = k then some ra else some (ra.add (k * 2))) = ab := ⟨_, rfl⟩
          have habn : ab ≠ none := by rw [← hab]; split <;> simp
          have habc : Hid (∀ (W : World), QRow W (some ra) l → ∀ ad', ab = some ad' → ∀ (j : Nat) u, (cellsQ (l.drop k))[j]? = some u → W.cell? (ad'.add j) = some u) := fun W hW ad' had => qrow_cut hW hrcl ad' (hab.trans had)
          have hown1 : (World.drew wd).ownsRow W4.heap.size 28 2 (.slice a5 (k + 1) c5) (k + 1) (cellsQ (l.take k ++ [⟨bad, qa, qc⟩])) := hownd.drew
          have hlen1 : Hid (k + 1 = (l.take k ++ [(⟨bad, qa, qc⟩ : Q)]).length) := by show _ = _; rw [List.length_append, ← hlk.out]; rfl
          have hBd0 : Below wd.heap.size wd (World.drew wd) := ⟨rfl, rfl, rfl, Nat.le_refl _, fun _ _ => rfl⟩
          go_upto_region 15 with fail
          refine wp_region_noPanic ?_
          refine wp_region_held_drew (S := (fun w' => w'.cell? ⟨w.heap.size, 3, none⟩ = some (.slice (some ra) g.rs.length rc))) (by kernel_rfl) e3 (fun hHeld => ?_)
          refine wpAnyH_take (i := 0) (v := .pointer (some ⟨wc.heap.size, 3, none⟩)) rfl (by kernel_rfl) (by kernel_rfl) (by kernel_rfl) (fun _ _ _ h => h) (Or.inl ⟨by rfl, fun w9 hSw => ?_⟩) hHeld ?_
          · go_simp
          simp only [List.getElem_toArray, List.getElem_cons_zero, Act.put, List.setIfInBounds_toArray, List.set_cons_zero, List.set_cons_succ]
          refine wpAnyH_take (i := 2) (v := .pointer (some ⟨w.heap.size, 3, none⟩)) rfl (by kernel_rfl) (by kernel_rfl) (by kernel_rfl) (fun _ _ _ h => h) (Or.inl ⟨by rfl, fun w9 hSw => ?_⟩) hHeld ?_
          · go_simp
          simp only [List.getElem_toArray, List.getElem_cons_zero, List.getElem_cons_succ, Act.put, List.setIfInBounds_toArray, List.set_cons_zero, List.set_cons_succ]
          refine wpAnyH_take (i := 3) (v := .slice (some ra) g.rs.length rc) rfl (by kernel_rfl) (by kernel_rfl) (by kernel_rfl) (fun _ _ _ h => h) (Or.inl ⟨by rfl, fun w9 hSw => ?_⟩) hHeld ?_
          · go_simp
          simp only [List.getElem_toArray, List.getElem_cons_zero, List.getElem_cons_succ, Act.put, List.setIfInBounds_toArray, List.set_cons_zero, List.set_cons_succ]
          refine wpAnyH_take (i := 4) (v := .int .i64 (k : Int)) rfl (by kernel_rfl) (by kernel_rfl) (by kernel_rfl) (fun _ _ _ h => h) (Or.inl ⟨by rfl, fun w9 hSw => ?_⟩) hHeld ?_
          · go_simp
          simp only [List.getElem_toArray, List.getElem_cons_zero, List.getElem_cons_succ, Act.put, List.setIfInBounds_toArray, List.set_cons_zero, List.set_cons_succ]
          refine wpAnyH_take (i := 5) (v := .slice ab (g.rs.length - k) (rc - k)) rfl (by kernel_rfl) (by kernel_rfl) (by kernel_rfl) (fun _ _ _ h => h) (Or.inl ⟨by rfl, fun w9 hSw => ?_⟩) hHeld ?_
          · go_simp
          simp only [List.getElem_toArray, List.getElem_cons_zero, List.getElem_cons_succ, Act.put, List.setIfInBounds_toArray, List.set_cons_zero, List.set_cons_succ]
          refine wpAnyH_ready (rs := [1]) (by kernel_rfl) (by simp) ?_
          refine AllReadyH.cons rfl (fun K hK => ?_) AllReadyH.nil
          go_simp
          refine hK.out _ _ hHeld (fun hHeld2 => ?_)
          clear hK K hHeld
          refine wpAnyH_ready (rs := [6]) (by kernel_rfl) (by simp) ?_
          refine AllReadyH.cons rfl (fun K hK => ?_) AllReadyH.nil
          refine stepQ rfl _ _ rfl W4.heap.size _ (k + 1) (l.take k ++ [⟨bad, qa, qc⟩]) hlen1.out (by rfl) hown1 ab (g.rs.length - k) (rc - k) (l.drop k) hld0.out (by rfl) (fun h => absurd h habn) (habc.out _ (hQd.below hBd0 (Nat.le_refl _))) (by omega) hsd ?_
          intro v5 w5 hown5 hgrow5
          have hB5 : Below W4.heap.size wd w5 := (hBd0.mono hsd).grown hgrow5 hsd (fun k hk => (hown1.lt k hk).1)
          obtain ⟨a6, c6, hv6⟩ := own_slice hown5
          subst hv6
          have f4 := (hB5.frozen (p := ⟨wc.heap.size, 3, none⟩) hs4).trans m4
          have f3 := (hB5.cell (p := ⟨wc.heap.size, 3, none⟩) hs4).trans m3
          refine hK.out _ _ ((hB5.cell (show w.heap.size < _ by omega)).trans e3) (fun hHeld => ?_)
          clear hK K hHeld2
          simp only [List.getElem_toArray, List.getElem_cons_zero, List.getElem_cons_succ, Act.put, List.setIfInBounds_toArray, List.set_cons_zero, List.set_cons_succ]
          refine wpAnyH_take (i := 7) (v := .pointer (some ⟨wc.heap.size, 3, none⟩)) rfl (by kernel_rfl) (by kernel_rfl) (by kernel_rfl) (fun _ _ _ h => h) (Or.inl ⟨by rfl, fun w9 hSw => ?_⟩) hHeld ?_
          · go_simp
          simp only [List.getElem_toArray, List.getElem_cons_zero, List.getElem_cons_succ, Act.put, List.setIfInBounds_toArray, List.set_cons_zero, List.set_cons_succ]
          refine wpAnyH_ready (rs := [8]) (by kernel_rfl) (by simp) ?_
          refine AllReadyH.cons rfl (fun K hK => ?_) AllReadyH.nil
          go_simp
          refine hK.out _ _ ((World.cell?_setCell_far _ _ _ _ (show wc.heap.size ≠ w.heap.size by omega)).trans ((hB5.cell (show w.heap.size < _ by omega)).trans e3)) (fun _ => ?_)
          clear hK K
          refine wpAnyH_done (by kernel_rfl) (NoPanic.normal ?_) _
          have hbW6 : Below wc.heap.size wc (w5.setCell ⟨wc.heap.size, 3, none⟩ (.slice a6 (k + 1 + (g.rs.length - k)) c6)) := (hbW.trans (hB5.mono (by omega))).setCell (Nat.le_refl _) _
          have hown6 := ownsRow_setCell_below hown5 (a := ⟨wc.heap.size, 3, none⟩) hs4 (.slice a6 (k + 1 + (g.rs.length - k)) c6)
          have g0 : (w5.setCell ⟨wc.heap.size, 3, none⟩ (.slice a6 (k + 1 + (g.rs.length - k)) c6)).cell? ⟨wc.heap.size, 0, none⟩ = some (.slice ta g.ts.length tc) := (World.cell?_setCell_other (h := show (⟨wc.heap.size, 3, none⟩ : Addr) ≠ ⟨wc.heap.size, 0, none⟩ by simp) ..).trans ((hB5.cell (p := ⟨wc.heap.size, 0, none⟩) hs4).trans m0)
          have g1 : (w5.setCell ⟨wc.heap.size, 3, none⟩ (.slice a6 (k + 1 + (g.rs.length - k)) c6)).cell? ⟨wc.heap.size, 1, none⟩ = some (.slice na g.ns.length nc) := (World.cell?_setCell_other (h := show (⟨wc.heap.size, 3, none⟩ : Addr) ≠ ⟨wc.heap.size, 1, none⟩ by simp) ..).trans ((hB5.cell (p := ⟨wc.heap.size, 1, none⟩) hs4).trans m1)
          have g2 : (w5.setCell ⟨wc.heap.size, 3, none⟩ (.slice a6 (k + 1 + (g.rs.length - k)) c6)).cell? ⟨wc.heap.size, 2, none⟩ = some (.int .i64 g.ax) := (World.cell?_setCell_other (h := show (⟨wc.heap.size, 3, none⟩ : Addr) ≠ ⟨wc.heap.size, 2, none⟩ by simp) ..).trans ((hB5.cell (p := ⟨wc.heap.size, 2, none⟩) hs4).trans m2)
          have g3 : (w5.setCell ⟨wc.heap.size, 3, none⟩ (.slice a6 (k + 1 + (g.rs.length - k)) c6)).cell? ⟨wc.heap.size, 3, none⟩ = some (.slice a6 (k + 1 + (g.rs.length - k)) c6) := World.cell?_setCell_same (h := f3) ..
          have hlen6 : Hid (k + 1 + (g.rs.length - k) = (l.take k ++ [(⟨bad, qa, qc⟩ : Q)] ++ l.drop k).length) := by show _ = _; rw [List.length_append, ← hlen1.out, ← hld0.out]
          have hs6 : wc.heap.size < (w5.setCell ⟨wc.heap.size, 3, none⟩ (.slice a6 (k + 1 + (g.rs.length - k)) c6)).heap.size := by have := hB5.size; simp; omega
          clear hown5 hgrow5 hB5 hownd hown1 hBd0 f3 f4 e3 hQd m0 m1 m2 m3 m4 hab habc habn
          generalize hW6 : w5.setCell ⟨wc.heap.size, 3, none⟩ (.slice a6 (k + 1 + (g.rs.length - k)) c6) = W6
          rw [hW6] at g0 g1 g2 g3 hbW6 hown6 hs6
          clear hW6
          have k0 := (hbW6.cell (p := ⟨w.heap.size, 0, none⟩) hHc).trans h0
          have k1 := (hbW6.cell (p := ⟨w.heap.size, 1, none⟩) hHc).trans h1
          have k2 := (hbW6.cell (p := ⟨w.heap.size, 2, none⟩) hHc).trans h2
          have k3 := (hbW6.cell (p := ⟨w.heap.size, 3, none⟩) hHc).trans h3
          have k4 := (hbW6.cell (p := ⟨w.heap.size + 1, 0, none⟩) hHc1).trans h4
          have k5 := (hbW6.cell (p := ⟨w.heap.size + 1, 1, none⟩) hHc1).trans h5
          have hHw6 : w.heap.size < W6.heap.size := by omega
          have hHw61 : w.heap.size + 1 < W6.heap.size := by omega
          have hBw6 : Below w.heap.size w W6 := hBwc.trans (hbW6.mono (by omega))
          have hI6 : ∀ x ∈ l, IRow W6 x.a x.r.right := fun x hx => (hIc x hx).below hbW6 (Nat.le_refl _)
          have hbad6 := hbad.below hBw6 (Nat.le_refl _)
          have hb67 : Below W6.heap.size W6 ((W6.alloc (.cells #[.slice ta g.ts.length tc, .slice na g.ns.length nc, .int .i64 g.ax, .slice (some ⟨W6.heap.size + 1, 0, none⟩) 1 1] 25)).alloc (.cells #[.int .i64 bad.left, .slice qa bad.right.length qc] 28)) := ((Below.refl _ _).alloc (Nat.le_refl _) _).alloc (by simp) _
          have hQ7 : QRow ((W6.alloc (.cells #[.slice ta g.ts.length tc, .slice na g.ns.length nc, .int .i64 g.ax, .slice (some ⟨W6.heap.size + 1, 0, none⟩) 1 1] 25)).alloc (.cells #[.int .i64 bad.left, .slice qa bad.right.length qc] 28)) (some ⟨W6.heap.size + 1, 0, none⟩) [⟨bad, qa, qc⟩] := fun i x hx => by
            match i, hx with
            | 0, hx =>
              obtain rfl : (⟨bad, qa, qc⟩ : Q) = x := by simpa using hx
              exact ⟨_, 0, rfl, by simp [go_sem], by simp [go_sem]⟩
            | n + 1, hx => simp at hx
          have hck7 := check_changed ta na (some ra) (some ⟨W6.heap.size + 1, 0, none⟩) tc nc 1 1 g [bad] [⟨bad, qa, qc⟩] p _ w _ hG (hBw6.trans (hb67.mono hBw6.size)) ho htc hnc hS hQ7 (fun x hx => by obtain rfl := List.mem_singleton.1 hx; exact hbad6.below hb67 (Nat.le_refl _)) (fun x hx => by obtain rfl := List.mem_singleton.1 hx; exact hbo) rfl (by simp) rfl rfl
          have hQ6 := own_qrow hlen6.out hown6
          have heql := eql_nil
          go_wp2_with fail
          refine hck7.mono ?_
          rintro e w8 ⟨⟨vf, rfl, hvf⟩, hb8⟩
          have hb68 : Below W6.heap.size W6 w8 := hb67.trans (hb8.mono hb67.size)
          have hBw8 : Below w.heap.size w w8 := hBw6.trans (hb68.mono hBw6.size)
          have n0 := (hb68.cell (p := ⟨wc.heap.size, 0, none⟩) hs6).trans g0
          have n1 := (hb68.cell (p := ⟨wc.heap.size, 1, none⟩) hs6).trans g1
          have n2 := (hb68.cell (p := ⟨wc.heap.size, 2, none⟩) hs6).trans g2
          have n3 := (hb68.cell (p := ⟨wc.heap.size, 3, none⟩) hs6).trans g3
          have hmem : ∀ x : Q, x ∈ l.take k ++ [(⟨bad, qa, qc⟩ : Q)] ++ l.drop k → x ∈ l ∨ x = ⟨bad, qa, qc⟩ := fun x hx => by
            rcases List.mem_append.1 hx with h | h
            · rcases List.mem_append.1 h with h | h
              · exact .inl (List.mem_of_mem_take h)
              · exact .inr (List.mem_singleton.1 h)
            · exact .inl (List.mem_of_mem_drop h)
          have hck8 := check_changed ta na (some ra) a6 tc nc c6 _ g (g.rs.take k ++ bad :: g.rs.drop k) (l.take k ++ [(⟨bad, qa, qc⟩ : Q)] ++ l.drop k) p _ w w8 hG hBw8 ho htc hnc hS (hQ6.below hb68 (Nat.le_refl _)) (fun x hx => by
            rcases hmem x hx with h | rfl
            · exact (hI6 x h).below hb68 (Nat.le_refl _)
            · exact hbad6.below hb68 (Nat.le_refl _)) (fun x hx => by
            rcases hmem x hx with h | rfl
            · exact ho.2.2.2.2.1 x.r (by rw [← hlr]; exact List.mem_map.2 ⟨x, h, rfl⟩)
            · exact hbo) hlen6.out (by rw [← hlen6.out]; omega) (by rw [List.map_append, List.map_append, List.map_take, List.map_drop, hlr]; simp) rfl
          have hz1 := check_one hgd bad
          have hz2 := check_more hgd bad hkn
          clear hck7 hb67 hQ7 k0 k1 k2 k3 k4 k5 g0 g1 g2 g3 hown6 hQ6 hI6 hmem h0 h1 h2 h3 h4 h5 hQc hIc
          go_wp2_with fail
          refine hck8.mono ?_
          rintro e w9 ⟨⟨vh, rfl, hvh⟩, hb9⟩
          clear hck8 n0 n1 n2 n3
          have hBw9 : Below w.heap.size w w9 := hBw8.trans (hb9.mono hBw8.size)
          have hvf9 := hvf.below hb9 (Nat.le_refl _)
          have hE9 := hE.below hBw9 (Nat.le_refl _)
          have hT9 := hT.below hBw9 (Nat.le_refl _)
          rw [hz1] at hvf9
          rw [hz2] at hvh
          clear hz1 hz2 hvf
          by_cases h120 : g.rs.length = 120
          · rw [if_pos h120] at hvh
            have hb120 : ((g.rs.length : Int) == 120) = true := by simp; omega
            have hK := kind_ck _ p (3, none) w9 vh hE9 (by decide) hvh
            have hR := fun W hW => rule_ck W.heap.size p (3, none) W vh hW
            clear h120 hvf9
            go_wp2_with fail
            refine hK.mono ?_
            rintro e w10 ⟨rfl, hb10⟩
            have hvh10 := (hvh.below hb10 (Nat.le_refl _))
            have hR10 := rule_ck _ p (3, none) w10 vh (hT9.below hb10 (Nat.le_refl _)) hvh10
            clear hR
            go_wp2_with fail
            refine hR10.mono ?_
            rintro e w11 ⟨rfl, hb11⟩
            go_wp2
            go_ret
            exact ⟨rfl, hBw9.trans ((hb10.trans (hb11.mono hb10.size)).mono hBw9.size)⟩
          · rw [if_neg h120] at hvh
            have hb120 : ((g.rs.length : Int) == 120) = false := by simp; omega
            clear h120
            rcases ruleK_cases g.ts.length g.ns.length bad with h0 | h0 | h0
            · rw [if_pos h0] at hvf9 hvh
              obtain rfl : vf = .nilIface := hvf9
              obtain rfl : vh = .nilIface := hvh
              clear h0
              go_wp2
              go_ret
              exact ⟨rfl, hBw9⟩
            all_goals
              rw [if_neg (by omega), h0] at hvf9 hvh
              clear h0
              obtain ⟨t1, u1, rfl⟩ := ck_iface hvf9 (by simp)
              obtain ⟨t2, u2, rfl⟩ := ck_iface hvh (by simp)
              have hK := kind_ck _ p _ w9 _ hE9 (by simp) hvh
              go_wp2_with fail
              refine hK.mono ?_
              rintro e w10 ⟨rfl, hb10⟩
              have hvf10 := hvf9.below hb10 (Nat.le_refl _)
              have hvh10 := hvh.below hb10 (Nat.le_refl _)
              have hK2 := kind_ck _ p _ w10 _ (hE9.below hb10 (Nat.le_refl _)) (by simp) hvf10
              clear hK
              go_wp2_with fail
              refine hK2.mono ?_
              rintro e w11 ⟨rfl, hb11⟩
              have hvf11 := hvf10.below hb11 (Nat.le_refl _)
              have hvh11 := hvh10.below hb11 (Nat.le_refl _)
              have hT11 := (hT9.below hb10 (Nat.le_refl _)).below hb11 (Nat.le_refl _)
              have hR1 := rule_ck _ p _ w11 _ hT11 hvh11
              clear hK2
              go_wp2_with fail
              refine hR1.mono ?_
              rintro e w12 ⟨rfl, hb12⟩
              have hR2 := rule_ck _ p _ w12 _ (hT11.below hb12 (Nat.le_refl _)) (hvf11.below hb12 (Nat.le_refl _))
              have hkk : (ruleZ (1, some k) == (k : Int)) = true := by simp [ruleZ]
              have hkz : (ruleZ (1, some 0) == 0) = true := by simp [ruleZ]
              clear hR1
              go_wp2_with fail
              refine hR2.mono ?_
              rintro e w13 ⟨rfl, hb13⟩
              go_wp2
              go_ret
              exact ⟨rfl, hBw9.trans ((hb10.trans ((hb11.trans ((hb12.trans (hb13.mono hb12.size)).mono hb11.size)).mono hb10.size)).mono hBw9.size)⟩
  · go_enter Tryd.func3, Tryd.ntmps3
    go_wp2_with fail
    refine hck.mono ?_
    rintro e w1 ⟨⟨v, rfl, hv⟩, hb1⟩
    obtain ⟨t, u, rfl⟩ := ck_iface hv hz
    have hBw1 : Below w.heap.size w w1 := hB0.trans (hb1.mono (by omega))
    go_wp2_with fail
    refine (awake_any p _ (hS.below hBw1 (Nat.le_refl _))).mono ?_
    rintro e w2 ⟨rfl, hb2⟩
    go_wp2
    go_ret
    exact ⟨rfl, hBw1.trans (hb2.mono hBw1.size)⟩

end Go.Proofs.YtjcagdbepcjbiabDoor.GramLessW
