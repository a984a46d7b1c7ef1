/-
  Texts that stand together: SpecRead, GramEq2.
-/
import Derived.Test.YtbeflhpekklgoaaGreatDoorBSpecGram
import Derived.Test.YtbeflhpekklgoaaGreatDoorBagGramAboveFn
namespace Go.Proofs.YtbeflhpekklgoaaGreatDoor.SpecMem
open Go.Proofs.YtbeflhpekklgoaaGreatDoor.GramLess Go.RowKit Go.Maps Go.WideMaps Go.Proofs.YtbeflhpekklgoaaGreatDoor.GramMath Go.Proofs.YtbeflhpekklgoaaGreatDoor.GramRow Go.Proofs.YtbeflhpekklgoaaGreatDoor.GramOne Go.Proofs.YtbeflhpekklgoaaGreatDoor.GramApart Go.Proofs.YtbeflhpekklgoaaGreatDoor.GramRoll Go.Proofs.YtbeflhpekklgoaaGreatDoor.GramCopy Go.Proofs.YtbeflhpekklgoaaGreatDoor.LineMath Go.Proofs.YtbeflhpekklgoaaGreatDoor.SpecLn Go.Proofs.YtbeflhpekklgoaaGreatDoor.SpecMd Go.Proofs.YtbeflhpekklgoaaGreatDoor.SpecTx Go.Proofs.YtbeflhpekklgoaaGreatDoor.SpecRun Go.Proofs.YtbeflhpekklgoaaGreatDoor.WordsBytes
set_option linter.unusedVariables false
set_option linter.unusedSimpArgs false

/-- What Read answers. -/
def ReR (aS : Addr) (p : Nat → Addr) (B : Nat) (z : Except Nat (List Sd)) (e : Ending) (w' : World) : Prop :=
  match z with
  | .error q => ∃ v, e = .returned (.tuple #[.agg #[.slice none 0 0, .slice none 0 0, .int .i64 0, .slice none 0 0], v]) ∧ ErrAt B aS q w' v
  | .ok all => GraR p B (madeZ all) e w'

/-- A grammar put into a box that is given back. -/
theorem res_gram (tmps : Array Value) (W : World) (R : Nat) (a b c d v : Value) (hR : RowAt W R 25 #[a, b, c, d]) (h4 : tmps[2]? = some (.pointer (some ⟨R, 0, none⟩))) (h5 : tmps[3]? = some v) :
    (results Tryz.f7 tmps).run Tryz.prog W = .ok (.tuple #[.agg #[a, b, c, d], v]) W := by
  have x0 := hR.cell (q := 0) rfl
  have x1 := hR.cell (q := 1) rfl
  have x2 := hR.cell (q := 2) rfl
  have x3 := hR.cell (q := 3) rfl
  simp [results, Tryz.results7, go_sem, h4, h5, x0, x1, x2, x3]
theorem put4 (W : World) (R : Nat) {t : TypeId} {a0 b0 c0 d0 : Value} (hR : RowAt W R t #[a0, b0, c0, d0]) (a b c d : Value) (W' : World) (hW : W' = (((W.setCell ⟨R, 0, none⟩ a).setCell ⟨R, 1, none⟩ b).setCell ⟨R, 2, none⟩ c).setCell ⟨R, 3, none⟩ d) :
    RowAt W' R t #[a, b, c, d] ∧ (∀ j, j ≠ R → W'.heap[j]? = W.heap[j]?) ∧ W'.heap.size = W.heap.size ∧ (∀ B w, Below B w W → B ≤ R → Below B w W') := by
  subst hW
  refine ⟨(((hR.set 0 a).set 1 b).set 2 c).set 3 d, fun j h1 => ?_, by simp, fun B w h h1 => ?_⟩
  · rw [Below.heap_setCell _ ⟨R, 3, none⟩ _ _ h1, Below.heap_setCell _ ⟨R, 2, none⟩ _ _ h1, Below.heap_setCell _ ⟨R, 1, none⟩ _ _ h1, Below.heap_setCell _ ⟨R, 0, none⟩ _ _ h1]
  · exact (((h.setCell (p := ⟨R, 0, none⟩) h1 _).setCell (p := ⟨R, 1, none⟩) h1 _).setCell (p := ⟨R, 2, none⟩) h1 _).setCell (p := ⟨R, 3, none⟩) h1 _
theorem CkV.keep {B B' : Nat} {p : Nat → Addr} {z : Nat × Option Nat} {w w' : World} {v : Value} (h : CkV B p z w v) (hB : B' ≤ B) (hk : ∀ b, B ≤ b → w'.heap[b]? = w.heap[b]?) : CkV B' p z w' v := by
  match z, h with
  | (0, _), h => exact h
  | (k + 1, none), h => exact h
  | (k + 1, some i), h =>
    obtain ⟨b, hb, e, hh⟩ := h
    exact ⟨b, by omega, e, (hk b hb).trans hh⟩

set_option maxRecDepth 100000 in
set_option maxHeartbeats 4000000 in
theorem read_any (l : List UInt8) (p : Nat → Addr) (w : World) (hl : l.length ≤ 4194304) (hp : ∀ x ∈ splitGo [] l, x.length ≤ 1048576) (hS : WordsBytes.Sent w 4 (p 2)) (hE : Sents w p) (hT : GramErrs.ErrType w) :
    Calls Tryz.prog 7 #[.string ⟨l.toArray⟩] w fun e w' => ReR (p 2) p w.heap.size (sidesZ l) e w' ∧ Below w.heap.size w w' := by
  have hB0 : Below w.heap.size w (w.alloc (.cells #[.slice none 0 0, .slice none 0 0, .int .i64 0, .slice none 0 0] 25)) := (Below.refl _ _).alloc (Nat.le_refl _) _
  have hz0 : (w.alloc (.cells #[.slice none 0 0, .slice none 0 0, .int .i64 0, .slice none 0 0] 25)).heap.size = w.heap.size + 1 := by simp
  have rG0 : RowAt (w.alloc (.cells #[.slice none 0 0, .slice none 0 0, .int .i64 0, .slice none 0 0] 25)) w.heap.size 25 #[.slice none 0 0, .slice none 0 0, .int .i64 0, .slice none 0 0] := World.alloc_heap_new w _
  have hrl := readLines_any l (p 2) _ hl hp (hS.below hB0 (Nat.le_refl _)) (hT.below hB0 (Nat.le_refl _))
  have hneq0 : ∀ W : World, (binOp .neq 28 .nilIface .nilIface).run Tryz.prog W = .ok (.bool false) W := fun W => by kernel_rfl
  cases hz : sidesZ l with
  | error q =>
    rw [hz] at hrl
    go_enter Tryz.func7, Tryz.ntmps7
    go_wp2_with fail
    refine hrl.mono ?_
    rintro e w1 ⟨⟨r, v, rfl, rfl, hv⟩, hb1⟩
    have hv2 := hv
    obtain ⟨b, hbb, rfl, hblk⟩ := hv
    have hne := fun W => iface_nil 116 (.pointer (some ⟨b, 0, none⟩)) W
    have hB1 := hB0.trans (hb1.mono (by omega))
    have rG1 := rG0.below hb1 (by omega)
    have g0 := rG1.cell (q := 0) rfl
    have g1 := rG1.cell (q := 1) rfl
    have g2 := rG1.cell (q := 2) rfl
    have g3 := rG1.cell (q := 3) rfl
    have f0 := rG1.frozen 0
    have f1 := rG1.frozen 1
    have f2 := rG1.frozen 2
    have f3 := rG1.frozen 3
    obtain ⟨Wf, hWf⟩ : ∃ Wf, Wf = (((w1.setCell ⟨w.heap.size, 0, none⟩ (.slice none 0 0)).setCell ⟨w.heap.size, 1, none⟩ (.slice none 0 0)).setCell ⟨w.heap.size, 2, none⟩ (.int .i64 0)).setCell ⟨w.heap.size, 3, none⟩ (.slice none 0 0) := ⟨_, rfl⟩
    obtain ⟨k1, k2, k3, k4⟩ := put4 w1 w.heap.size rG1 (.slice none 0 0) (.slice none 0 0) (.int .i64 0) (.slice none 0 0) Wf hWf
    have hBf := k4 _ _ hB1 (Nat.le_refl _)
    have hvf := ErrAt.weak (B' := w.heap.size) (ErrAt.keep hv2 (fun b hb _ => k2 b (by omega))) (by omega)
    clear hrl hblk hb1 hv2
    go_wp2
    rw [← hWf]
    exact bodyPost_ret (res_gram _ _ _ _ _ _ _ _ k1 rfl rfl) rfl ⟨⟨_, rfl, hvf⟩, hBf⟩
  | ok all =>
    rw [hz] at hrl
    obtain ⟨hfit, hsum⟩ := sides_fit hz
    go_enter Tryz.func7, Tryz.ntmps7
    go_wp2_with fail
    refine hrl.mono ?_
    rintro e w1 ⟨⟨r, v, rfl, rfl, rb, bb, mb, base, nx, start, ln, ns, qs, D, rv, nv, mv, rfl, hR, hqs, hns, hbs, h1, h2, h3, h4, hql, hqn⟩, hb1⟩
    have hB1 := hB0.trans (hb1.mono (by omega))
    have rG1 := rG0.below hb1 (by omega)
    have hal : all.length ≤ 16777216 := by rw [← hqs, List.length_map]; exact hql
    subst hns
    have hgr := grammar_any rb bb mb base start nx ln all qs D rv _ _ nv mv _ _ p w1 w hR.k (hR.bld hbs) hqs hE hB1 (by omega) (by omega) (by omega) (by omega) (fun s hs => ⟨hfit s hs, by
      rw [← hqs] at hs
      obtain ⟨q, hq, rfl⟩ := List.mem_map.1 hs
      have := hqn q hq
      omega⟩)
    have hs1 := hb1.size
    clear hrl hqs hqn hR
    go_wp2_with fail
    refine hgr.mono ?_
    rintro e w2 ⟨hGr, hC, -⟩
    have hB2 : Below w.heap.size w w2 := hB1.trans (hC.below (by omega) (by omega))
    have rG2 : RowAt w2 w.heap.size 25 _ := (hC.block w.heap.size (by omega) (by omega)).trans rG1
    have g0 := rG2.cell (q := 0) rfl
    have g1 := rG2.cell (q := 1) rfl
    have g2 := rG2.cell (q := 2) rfl
    have g3 := rG2.cell (q := 3) rfl
    have f0 := rG2.frozen 0
    have f1 := rG2.frozen 1
    have f2 := rG2.frozen 2
    have f3 := rG2.frozen 3
    rcases hGr with ⟨hck, b1, b2, b3, bs, rfl, hcp⟩ | ⟨hck, v, rfl, hv⟩
    · generalize hgz : madeZ all = g at *
      obtain ⟨Wf, hWf⟩ : ∃ Wf, Wf = (((w2.setCell ⟨w.heap.size, 0, none⟩ (.slice (some ⟨b1, 0, none⟩) g.ts.length g.ts.length)).setCell ⟨w.heap.size, 1, none⟩ (.slice (some ⟨b2, 0, none⟩) g.ns.length g.ns.length)).setCell ⟨w.heap.size, 2, none⟩ (.int .i64 g.ax)).setCell ⟨w.heap.size, 3, none⟩ (.slice (some ⟨b3, 0, none⟩) g.rs.length g.rs.length) := ⟨_, rfl⟩
      obtain ⟨k1, k2, k3, k4⟩ := put4 w2 w.heap.size rG2 (.slice (some ⟨b1, 0, none⟩) g.ts.length g.ts.length) (.slice (some ⟨b2, 0, none⟩) g.ns.length g.ns.length) (.int .i64 g.ax) (.slice (some ⟨b3, 0, none⟩) g.rs.length g.rs.length) Wf hWf
      have hBf := k4 _ _ hB2 (Nat.le_refl _)
      have hcf := GramRoll.CopyAt.kept hcp (C := w.heap.size) (w' := Wf) (fun i h1 h2 => k2 i (by omega)) (by omega) (by omega)
      have HGZ : Hid (madeZ all = g) := hgz
      clear hgr hcp hC hgz hB2 hE hT hS
      go_wp2
      rw [← hWf]
      refine bodyPost_ret (res_gram _ _ _ _ _ _ _ _ k1 rfl rfl) rfl ⟨?_, hBf⟩
      show GraR p w.heap.size (madeZ all) _ _
      rw [HGZ.out]
      exact .inl ⟨hck, b1, b2, b3, bs, rfl, hcf⟩
    · obtain ⟨Wf, hWf⟩ : ∃ Wf, Wf = (((w2.setCell ⟨w.heap.size, 0, none⟩ (.slice none 0 0)).setCell ⟨w.heap.size, 1, none⟩ (.slice none 0 0)).setCell ⟨w.heap.size, 2, none⟩ (.int .i64 0)).setCell ⟨w.heap.size, 3, none⟩ (.slice none 0 0) := ⟨_, rfl⟩
      obtain ⟨k1, k2, k3, k4⟩ := put4 w2 w.heap.size rG2 (.slice none 0 0) (.slice none 0 0) (.int .i64 0) (.slice none 0 0) Wf hWf
      have hBf := k4 _ _ hB2 (Nat.le_refl _)
      have hvf := CkV.keep (B' := w.heap.size) hv (by omega) (fun b hb => k2 b (by omega))
      clear hgr hv hC hB2 hE hT hS
      go_wp2
      rw [← hWf]
      exact bodyPost_ret (res_gram _ _ _ _ _ _ _ _ k1 rfl rfl) rfl ⟨.inr ⟨hck, v, rfl, hvf⟩, hBf⟩

end Go.Proofs.YtbeflhpekklgoaaGreatDoor.SpecMem

namespace Go.Proofs.YtbeflhpekklgoaaGreatDoor.GramSame
open Go.RowKit Go.Proofs.YtbeflhpekklgoaaGreatDoor.GramMath Go.Proofs.YtbeflhpekklgoaaGreatDoor.GramRow Go.Proofs.YtbeflhpekklgoaaGreatDoor.GramOne
set_option linter.unusedVariables false

set_option maxRecDepth 100000 in
set_option maxHeartbeats 4000000 in
theorem grammar_any (ta na ra tb nb rb : Option Addr) (tc nc rc td nd rd : Nat) (g h : G) (w : World) (hG : GRow w ta na ra g) (hH : GRow w tb nb rb h) (og : okG g) (oh : okG h) :
    Calls Tryz.prog 8 #[.agg #[.slice ta g.ts.length tc, .slice na g.ns.length nc, .int .i64 g.ax, .slice ra g.rs.length rc], .agg #[.slice tb h.ts.length td, .slice nb h.ns.length nd, .int .i64 h.ax, .slice rb h.rs.length rd]] w fun e w' => e = .returned (.bool (eqG g h)) ∧ Below w.heap.size w w' := by
  have hB : Below w.heap.size w ((w.alloc (.cells #[.slice ta g.ts.length tc, .slice na g.ns.length nc, .int .i64 g.ax, .slice ra g.rs.length rc] 25)).alloc (.cells #[.slice tb h.ts.length td, .slice nb h.ns.length nd, .int .i64 h.ax, .slice rb h.rs.length rd] 25)) := ((Below.refl _ _).alloc (Nat.le_refl _) _).alloc (by simp) _
  obtain ⟨G1, G2, G3⟩ := hG.below hB (Nat.le_refl _)
  obtain ⟨H1, H2, H3⟩ := hH.below hB (Nat.le_refl _)
  obtain ⟨p1, p2, p3, _, p5, _⟩ := og
  obtain ⟨q1, q2, q3, _, q5, _⟩ := oh
  have hand := eqG_and g h
  have ht := fun q => strs_any ta tb tc td g.ts h.ts (World.drewN ((w.alloc (.cells #[.slice ta g.ts.length tc, .slice na g.ns.length nc, .int .i64 g.ax, .slice ra g.rs.length rc] 25)).alloc (.cells #[.slice tb h.ts.length td, .slice nb h.ns.length nd, .int .i64 h.ax, .slice rb h.rs.length rd] 25)) q) G1 H1 p1 q1
  have hn := fun q => strs_any na nb nc nd g.ns h.ns (World.drewN ((w.alloc (.cells #[.slice ta g.ts.length tc, .slice na g.ns.length nc, .int .i64 g.ax, .slice ra g.rs.length rc] 25)).alloc (.cells #[.slice tb h.ts.length td, .slice nb h.ns.length nd, .int .i64 h.ax, .slice rb h.rs.length rd] 25)) q) G2 H2 p2 q2
  have hr := fun q => rules_any ra rb rc rd g.rs h.rs (World.drewN ((w.alloc (.cells #[.slice ta g.ts.length tc, .slice na g.ns.length nc, .int .i64 g.ax, .slice ra g.rs.length rc] 25)).alloc (.cells #[.slice tb h.ts.length td, .slice nb h.ns.length nd, .int .i64 h.ax, .slice rb h.rs.length rd] 25)) q) G3 H3 p3 q3 p5 q5
  cases ht1 : eqS g.ts h.ts with
  | false =>
    rw [ht1, Bool.false_and, Bool.false_and, Bool.false_and] at hand
    have E : Hid (eqG g h = false) := hand
    rw [ht1] at ht
    clear hand ht1
    go_enter Tryz.func8, Tryz.ntmps8
    go_wp2_with fail
    refine (ht 0).mono ?_
    rintro e w1 ⟨rfl, q, rfl⟩
    go_wp2
    go_ret
    exact ⟨ret_bool E.out.symm, hB.os, hB.tape, hB.output, hB.size, hB.block⟩
  | true =>
    rw [ht1, Bool.true_and] at hand
    rw [ht1] at ht
    cases hn1 : eqS g.ns h.ns with
    | false =>
      rw [hn1, Bool.false_and, Bool.false_and] at hand
      have E : Hid (eqG g h = false) := hand
      rw [hn1] at hn
      clear hand ht1 hn1
      go_enter Tryz.func8, Tryz.ntmps8
      go_wp2_with fail
      refine (ht 0).mono ?_
      rintro e w1 ⟨rfl, q, rfl⟩
      go_wp2_with fail
      refine (hn _).mono ?_
      rintro e w1 ⟨rfl, q2, rfl⟩
      go_wp2
      go_ret
      exact ⟨ret_bool E.out.symm, hB.os, hB.tape, hB.output, hB.size, hB.block⟩
    | true =>
      rw [hn1, Bool.true_and] at hand
      rw [hn1] at hn
      by_cases hax : g.ax = h.ax
      · have hf : (g.ax == h.ax) = true := by simpa using hax
        rw [decide_eq_true hax, Bool.true_and] at hand
        have E : Hid (eqG g h = eqRs g.rs h.rs) := hand
        clear hand hax ht1 hn1
        go_enter Tryz.func8, Tryz.ntmps8
        go_wp2_with fail
        refine (ht 0).mono ?_
        rintro e w1 ⟨rfl, q, rfl⟩
        go_wp2_with fail
        refine (hn _).mono ?_
        rintro e w1 ⟨rfl, q2, rfl⟩
        rw [World.drewN_drewN]
        go_wp2_with fail
        refine (hr _).mono ?_
        rintro e w1 ⟨rfl, q3, rfl⟩
        go_wp2
        go_ret
        exact ⟨ret_bool E.out.symm, hB.os, hB.tape, hB.output, hB.size, hB.block⟩
      · have hf : (g.ax == h.ax) = false := by simpa using hax
        rw [decide_eq_false hax, Bool.false_and] at hand
        have E : Hid (eqG g h = false) := hand
        clear hand hax ht1 hn1 hr
        go_enter Tryz.func8, Tryz.ntmps8
        go_wp2_with fail
        refine (ht 0).mono ?_
        rintro e w1 ⟨rfl, q, rfl⟩
        go_wp2_with fail
        refine (hn _).mono ?_
        rintro e w1 ⟨rfl, q2, rfl⟩
        go_wp2
        go_ret
        exact ⟨ret_bool E.out.symm, hB.os, hB.tape, hB.output, hB.size, hB.block⟩

end Go.Proofs.YtbeflhpekklgoaaGreatDoor.GramSame
