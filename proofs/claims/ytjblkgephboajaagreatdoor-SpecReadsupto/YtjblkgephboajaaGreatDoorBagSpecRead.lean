/-
  Texts that stand together: SpecRead, SpecRf7.
-/
import Derived.Test.YtjblkgephboajaaGreatDoorBSpecGram
import Derived.Test.YtjblkgephboajaaGreatDoorBSpecRf6
namespace Go.Proofs.YtjblkgephboajaaGreatDoor.SpecMem
open GramLess Go.RowKit Go.Maps Go.WideMaps GramMath GramRow GramOne GramApart GramRoll GramCopy LineMath SpecLn SpecMd SpecTx SpecRun WordsBytes
set_option linter.unusedVariables false
set_option linter.unusedSimpArgs false

/-- What Read answers. -/
def ReR (aS : Addr) (p : Nat → Addr) (B : Nat) (z : Except Nat (List Sd)) (e : Ending) (w' : World) : Prop :=
  match z with
  | .error q => ∃ v, e = .returned (.tuple #[.agg #[.slice none 0 0, .slice none 0 0, .int .i64 0, .slice none 0 0], v]) ∧ ErrAt B aS q w' v
  | .ok all => GraR p B (madeZ all) e w'

/-- A grammar put into a box that is given back. -/
theorem res_gram (tmps : Array Value) (W : World) (R : Nat) (a b c d v : Value) (hR : RowAt W R 25 #[a, b, c, d]) (h4 : tmps[2]? = some (.pointer (some ⟨R, 0, none⟩))) (h5 : tmps[3]? = some v) :
    (results Tryz.f7 tmps).run Tryz.prog W = .ok (.tuple #[.agg #[a, b, c, d], v]) W := by
  have x0 := hR.cell (q := 0) rfl
  have x1 := hR.cell (q := 1) rfl
  have x2 := hR.cell (q := 2) rfl
  have x3 := hR.cell (q := 3) rfl
  simp [results, Tryz.results7, go_sem, h4, h5, x0, x1, x2, x3]
theorem put4 (W : World) (R : Nat) {t : TypeId} {a0 b0 c0 d0 : Value} (hR : RowAt W R t #[a0, b0, c0, d0]) (a b c d : Value) (W' : World) (hW : W' = (((W.setCell ⟨R, 0, none⟩ a).setCell ⟨R, 1, none⟩ b).setCell ⟨R, 2, none⟩ c).setCell ⟨R, 3, none⟩ d) :
    RowAt W' R t #[a, b, c, d] ∧ (∀ j, j ≠ R → W'.heap[j]? = W.heap[j]?) ∧ W'.heap.size = W.heap.size ∧ (∀ B w, Below B w W → B ≤ R → Below B w W') := by
  subst hW
  refine ⟨(((hR.set 0 a).set 1 b).set 2 c).set 3 d, fun j h1 => ?_, by simp, fun B w h h1 => ?_⟩
  · rw [Below.heap_setCell _ ⟨R, 3, none⟩ _ _ h1, Below.heap_setCell _ ⟨R, 2, none⟩ _ _ h1, Below.heap_setCell _ ⟨R, 1, none⟩ _ _ h1, Below.heap_setCell _ ⟨R, 0, none⟩ _ _ h1]
  · exact (((h.setCell (p := ⟨R, 0, none⟩) h1 _).setCell (p := ⟨R, 1, none⟩) h1 _).setCell (p := ⟨R, 2, none⟩) h1 _).setCell (p := ⟨R, 3, none⟩) h1 _
theorem CkV.keep {B B' : Nat} {p : Nat → Addr} {z : Nat × Option Nat} {w w' : World} {v : Value} (h : CkV B p z w v) (hB : B' ≤ B) (hk : ∀ b, B ≤ b → w'.heap[b]? = w.heap[b]?) : CkV B' p z w' v := by
  match z, h with
  | (0, _), h => exact h
  | (k + 1, none), h => exact h
  | (k + 1, some i), h =>
    obtain ⟨b, hb, e, hh⟩ := h
    exact ⟨b, by omega, e, (hk b hb).trans hh⟩

set_option maxRecDepth 100000 in
set_option maxHeartbeats 4000000 in
theorem read_any (l : List UInt8) (p : Nat → Addr) (w : World) (hl : l.length ≤ 4194304) (hp : ∀ x ∈ splitGo [] l, x.length ≤ 1048576) (hS : WordsBytes.Sent w 1 (p 2)) (hE : Sents w p) (hT : GramErrs.ErrType w) :
    Calls Tryz.prog 7 #[.string ⟨l.toArray⟩] w fun e w' => ReR (p 2) p w.heap.size (sidesZ l) e w' ∧ Below w.heap.size w w' := by
  have hB0 : Below w.heap.size w (w.alloc (.cells #[.slice none 0 0, .slice none 0 0, .int .i64 0, .slice none 0 0] 25)) := (Below.refl _ _).alloc (Nat.le_refl _) _
  have hz0 : (w.alloc (.cells #[.slice none 0 0, .slice none 0 0, .int .i64 0, .slice none 0 0] 25)).heap.size = w.heap.size + 1 := by simp
  have rG0 : RowAt (w.alloc (.cells #[.slice none 0 0, .slice none 0 0, .int .i64 0, .slice none 0 0] 25)) w.heap.size 25 #[.slice none 0 0, .slice none 0 0, .int .i64 0, .slice none 0 0] := World.alloc_heap_new w _
  have hrl := readLines_any l (p 2) _ hl hp (hS.below hB0 (Nat.le_refl _)) (hT.below hB0 (Nat.le_refl _))
  have hneq0 : ∀ W : World, (binOp .neq 27 .nilIface .nilIface).run Tryz.prog W = .ok (.bool false) W := fun W => by kernel_rfl
  cases hz : sidesZ l with
  | error q =>
    rw [hz] at hrl
    go_enter Tryz.func7, Tryz.ntmps7
    go_wp2_with fail
    refine hrl.mono ?_
    rintro e w1 ⟨⟨r, v, rfl, rfl, hv⟩, hb1⟩
    have hv2 := hv
    obtain ⟨b, hbb, rfl, hblk⟩ := hv
    have hne := fun W => iface_nil 68 (.pointer (some ⟨b, 0, none⟩)) W
    have hB1 := hB0.trans (hb1.mono (by omega))
    have rG1 := rG0.below hb1 (by omega)
    have g0 := rG1.cell (q := 0) rfl
    have g1 := rG1.cell (q := 1) rfl
    have g2 := rG1.cell (q := 2) rfl
    have g3 := rG1.cell (q := 3) rfl
    have f0 := rG1.frozen 0
    have f1 := rG1.frozen 1
    have f2 := rG1.frozen 2
    have f3 := rG1.frozen 3
    obtain ⟨Wf, hWf⟩ : ∃ Wf, Wf = (((w1.setCell ⟨w.heap.size, 0, none⟩ (.slice none 0 0)).setCell ⟨w.heap.size, 1, none⟩ (.slice none 0 0)).setCell ⟨w.heap.size, 2, none⟩ (.int .i64 0)).setCell ⟨w.heap.size, 3, none⟩ (.slice none 0 0) := ⟨_, rfl⟩
    obtain ⟨k1, k2, k3, k4⟩ := put4 w1 w.heap.size rG1 (.slice none 0 0) (.slice none 0 0) (.int .i64 0) (.slice none 0 0) Wf hWf
    have hBf := k4 _ _ hB1 (Nat.le_refl _)
    have hvf := ErrAt.weak (B' := w.heap.size) (ErrAt.keep hv2 (fun b hb _ => k2 b (by omega))) (by omega)
    clear hrl hblk hb1 hv2
    go_wp2
    rw [← hWf]
    exact bodyPost_ret (res_gram _ _ _ _ _ _ _ _ k1 rfl rfl) rfl ⟨⟨_, rfl, hvf⟩, hBf⟩
  | ok all =>
    rw [hz] at hrl
    obtain ⟨hfit, hsum⟩ := sides_fit hz
    go_enter Tryz.func7, Tryz.ntmps7
    go_wp2_with fail
    refine hrl.mono ?_
    rintro e w1 ⟨⟨r, v, rfl, rfl, rb, bb, mb, base, nx, start, ln, ns, qs, D, rv, nv, mv, rfl, hR, hqs, hns, hbs, h1, h2, h3, h4, hql, hqn⟩, hb1⟩
    have hB1 := hB0.trans (hb1.mono (by omega))
    have rG1 := rG0.below hb1 (by omega)
    have hal : all.length ≤ 16777216 := by rw [← hqs, List.length_map]; exact hql
    subst hns
    have hgr := grammar_any rb bb mb base start nx ln all qs D rv _ _ nv mv _ _ p w1 w hR.k (hR.bld hbs) hqs hE hB1 (by omega) (by omega) (by omega) (by omega) (fun s hs => ⟨hfit s hs, by
      rw [← hqs] at hs
      obtain ⟨q, hq, rfl⟩ := List.mem_map.1 hs
      have := hqn q hq
      omega⟩)
    have hs1 := hb1.size
    clear hrl hqs hqn hR
    go_wp2_with fail
    refine hgr.mono ?_
    rintro e w2 ⟨hGr, hC, -⟩
    have hB2 : Below w.heap.size w w2 := hB1.trans (hC.below (by omega) (by omega))
    have rG2 : RowAt w2 w.heap.size 25 _ := (hC.block w.heap.size (by omega) (by omega)).trans rG1
    have g0 := rG2.cell (q := 0) rfl
    have g1 := rG2.cell (q := 1) rfl
    have g2 := rG2.cell (q := 2) rfl
    have g3 := rG2.cell (q := 3) rfl
    have f0 := rG2.frozen 0
    have f1 := rG2.frozen 1
    have f2 := rG2.frozen 2
    have f3 := rG2.frozen 3
    rcases hGr with ⟨hck, b1, b2, b3, bs, rfl, hcp⟩ | ⟨hck, v, rfl, hv⟩
    · generalize hgz : madeZ all = g at *
      obtain ⟨Wf, hWf⟩ : ∃ Wf, Wf = (((w2.setCell ⟨w.heap.size, 0, none⟩ (.slice (some ⟨b1, 0, none⟩) g.ts.length g.ts.length)).setCell ⟨w.heap.size, 1, none⟩ (.slice (some ⟨b2, 0, none⟩) g.ns.length g.ns.length)).setCell ⟨w.heap.size, 2, none⟩ (.int .i64 g.ax)).setCell ⟨w.heap.size, 3, none⟩ (.slice (some ⟨b3, 0, none⟩) g.rs.length g.rs.length) := ⟨_, rfl⟩
      obtain ⟨k1, k2, k3, k4⟩ := put4 w2 w.heap.size rG2 (.slice (some ⟨b1, 0, none⟩) g.ts.length g.ts.length) (.slice (some ⟨b2, 0, none⟩) g.ns.length g.ns.length) (.int .i64 g.ax) (.slice (some ⟨b3, 0, none⟩) g.rs.length g.rs.length) Wf hWf
      have hBf := k4 _ _ hB2 (Nat.le_refl _)
      have hcf := GramRoll.CopyAt.kept hcp (C := w.heap.size) (w' := Wf) (fun i h1 h2 => k2 i (by omega)) (by omega) (by omega)
      have HGZ : Hid (madeZ all = g) := hgz
      clear hgr hcp hC hgz hB2 hE hT hS
      go_wp2
      rw [← hWf]
      refine bodyPost_ret (res_gram _ _ _ _ _ _ _ _ k1 rfl rfl) rfl ⟨?_, hBf⟩
      show GraR p w.heap.size (madeZ all) _ _
      rw [HGZ.out]
      exact .inl ⟨hck, b1, b2, b3, bs, rfl, hcf⟩
    · obtain ⟨Wf, hWf⟩ : ∃ Wf, Wf = (((w2.setCell ⟨w.heap.size, 0, none⟩ (.slice none 0 0)).setCell ⟨w.heap.size, 1, none⟩ (.slice none 0 0)).setCell ⟨w.heap.size, 2, none⟩ (.int .i64 0)).setCell ⟨w.heap.size, 3, none⟩ (.slice none 0 0) := ⟨_, rfl⟩
      obtain ⟨k1, k2, k3, k4⟩ := put4 w2 w.heap.size rG2 (.slice none 0 0) (.slice none 0 0) (.int .i64 0) (.slice none 0 0) Wf hWf
      have hBf := k4 _ _ hB2 (Nat.le_refl _)
      have hvf := CkV.keep (B' := w.heap.size) hv (by omega) (fun b hb => k2 b (by omega))
      clear hgr hv hC hB2 hE hT hS
      go_wp2
      rw [← hWf]
      exact bodyPost_ret (res_gram _ _ _ _ _ _ _ _ k1 rfl rfl) rfl ⟨.inr ⟨hck, v, rfl, hvf⟩, hBf⟩

end Go.Proofs.YtjblkgephboajaaGreatDoor.SpecMem

namespace Go.Proofs.YtjblkgephboajaaGreatDoor.SpecRb
open Go.RowKit Go.Maps GramRef GramMath GramLess GramOne GramApart GramCopy GramRow SpecMd SpecMem SpecFn SpecRf LineMath SpecLn
set_option linter.unusedVariables false
set_option linter.unusedSimpArgs false

theorem own_blk {w w' : World} {B : Nat} {e : TypeId} {s n : Nat} {v : Value} {xs : List Value} (h : w.ownsRow B e s v n xs) (hk : ∀ j, B ≤ j → j < w.heap.size → w'.heap[j]? = w.heap[j]?) : w'.ownsRow B e s v n xs := by
  obtain ⟨h1, h2 | ⟨g, cap, cur, hv, hbb, hr, rest⟩⟩ := h
  · exact ⟨h1, .inl h2⟩
  · exact ⟨h1, .inr ⟨g, cap, cur, hv, hbb, (hk g hbb (Array.getElem?_eq_some_iff.1 hr).1).trans hr, rest⟩⟩
theorem RB.blk {w w' : World} {b base : Nat} {g : G} {tv nv rv : Value} {lq : List Q} (h : RB w b base g tv nv rv lq) (hb : w'.heap[b]? = w.heap[b]?) (hk : ∀ j, base ≤ j → j < w.heap.size → w'.heap[j]? = w.heap[j]?) : RB w' b base g tv nv rv lq :=
  ⟨hb.trans h.box, own_blk h.ts hk, own_blk h.ns hk, own_blk h.rs hk, h.len, fun i q hq => own_blk (h.each i q hq) hk, h.far⟩
theorem cellsQ_at : ∀ (lq : List Q) (i : Nat) (q : Q), lq[i]? = some q → (cellsQ lq)[i * 2]? = some (.int .i64 q.r.left) ∧ (cellsQ lq)[i * 2 + 1]? = some (.slice q.a q.r.right.length q.c)
  | x :: l, 0, q, h => by cases h; exact ⟨rfl, rfl⟩
  | x :: l, i + 1, q, h => by
    have ih := cellsQ_at l i q (by simpa using h)
    have e : cellsQ (x :: l) = qv x ++ cellsQ l := rfl
    have hl : (qv x).length = 2 := rfl
    rw [e]
    refine ⟨?_, ?_⟩
    · rw [List.getElem?_append_right (by rw [hl]; omega), hl, show (i + 1) * 2 - 2 = i * 2 by omega]; exact ih.1
    · rw [List.getElem?_append_right (by rw [hl]; omega), hl, show (i + 1) * 2 + 1 - 2 = i * 2 + 1 by omega]; exact ih.2
theorem irow_own {w : World} {B n c : Nat} {a : Option Addr} {zs : List Int} (h : w.ownsRow B 3 1 (.slice a n c) n (zs.map (Value.int .i64))) : IRow w a zs := by
  intro i x hx
  have hl : n = zs.length := by have := h.1; simp at this; omega
  have hi := (List.getElem?_eq_some_iff.1 hx).1
  obtain ⟨g, cap, e, _, _⟩ := h.form (by omega)
  cases e
  refine ⟨g, 0, rfl, ?_⟩
  rw [Nat.zero_add, h.cellAt i (by omega), List.getElem?_map, hx]
  rfl
/-- What it holds is read as a grammar. -/
theorem RB.grow {w : World} {b base tn nn rn tc nc rc : Nat} {g : G} {ta na ra : Option Addr} {lq : List Q} (h : RB w b base g (.slice ta tn tc) (.slice na nn nc) (.slice ra rn rc) lq) (h1 : tn = g.ts.length) (h2 : nn = g.ns.length) (h3 : rn = g.rs.length) : GRow w ta na ra g := by
  subst h1
  subst h2
  subst h3
  refine ⟨srow_own h.ts, srow_own h.ns, fun i r hr => ?_⟩
  have hr2 : (lq.map (·.r))[i]? = some r := by rw [h.len]; exact hr
  rw [List.getElem?_map] at hr2
  cases hq : lq[i]? with
  | none => rw [hq] at hr2; cases hr2
  | some q =>
    rw [hq] at hr2
    cases hr2
    have hi := (List.getElem?_eq_some_iff.1 hr).1
    have hrs := h.rs
    obtain ⟨gb, cap, e, _, _⟩ := hrs.form (by omega)
    cases e
    obtain ⟨q0, q1⟩ := cellsQ_at lq i q hq
    refine ⟨gb, 0, q.a, q.c, rfl, ?_, ?_, irow_own (h.each i q hq)⟩
    · rw [Nat.zero_add, hrs.cellAt _ (by omega)]; exact q0
    · rw [Nat.zero_add, hrs.cellAt _ (by omega)]; exact q1
theorem cellsN_at : ∀ (l : List Wd) (i : Nat) (x : Wd), l[i]? = some x → (cellsN l)[i * 2]? = some (.string ⟨x.text.toArray⟩) ∧ (cellsN l)[i * 2 + 1]? = some (.bool x.quoted)
  | y :: l, 0, x, h => by cases h; exact ⟨rfl, rfl⟩
  | y :: l, i + 1, x, h => by
    have ih := cellsN_at l i x (by simpa using h)
    have e : cellsN (y :: l) = wn y ++ cellsN l := rfl
    have hl : (wn y).length = 2 := rfl
    rw [e]
    refine ⟨?_, ?_⟩
    · rw [List.getElem?_append_right (by rw [hl]; omega), hl, show (i + 1) * 2 - 2 = i * 2 by omega]; exact ih.1
    · rw [List.getElem?_append_right (by rw [hl]; omega), hl, show (i + 1) * 2 + 1 - 2 = i * 2 + 1 by omega]; exact ih.2
/-- How alternatives are read in later worlds. -/
theorem AllAt.reads {w : World} {base n vc : Nat} {va : Option Addr} {qs : List Sq} (h : AllAt w base (.slice va n vc) qs) : ∀ W, Below w.heap.size w W → ∀ (i : Nat) (q : Sq), qs[i]? = some q → ∃ g, va = some ⟨g, 0, none⟩ ∧ W.cell? ⟨g, i * 3, none⟩ = some (.string ⟨q.s.left.toArray⟩) ∧ W.cell? ⟨g, i * 3 + 1, none⟩ = some q.v := by
  intro W hB i q hq
  have hi := (List.getElem?_eq_some_iff.1 hq).1
  have hn : n = qs.length := by
    obtain ⟨_, ⟨e1, e2⟩ | ⟨g, cap, cur, e1, _⟩⟩ := h.row
    · omega
    · have h9 : va = some ⟨g, 0, none⟩ ∧ n = qs.length ∧ vc = cap := by simpa using e1
      exact h9.2.1
  subst hn
  have hrow := h.row
  obtain ⟨g, cap, e, _, hg⟩ := hrow.form (by omega)
  cases e
  obtain ⟨q0, q1, _⟩ := cellsS_at qs i q hq
  refine ⟨g, rfl, (hB.cell (p := ⟨g, i * 3, none⟩) hg).trans ?_, (hB.cell (p := ⟨g, i * 3 + 1, none⟩) hg).trans ?_⟩
  · rw [hrow.cellAt _ (by omega)]; exact q0
  · rw [hrow.cellAt _ (by omega)]; exact q1
theorem names_reads {w : World} {base n nc : Nat} {na : Option Addr} {l : List Wd} (h : w.ownsRow base 125 2 (.slice na n nc) l.length (cellsN l)) : ∀ W, Below w.heap.size w W → ∀ (j : Nat) (x : Wd), l[j]? = some x → ∃ g, na = some ⟨g, 0, none⟩ ∧ W.cell? ⟨g, j * 2, none⟩ = some (.string ⟨x.text.toArray⟩) ∧ W.cell? ⟨g, j * 2 + 1, none⟩ = some (.bool x.quoted) := by
  intro W hB j x hx
  have hj := (List.getElem?_eq_some_iff.1 hx).1
  have hn : n = l.length := by
    obtain ⟨_, ⟨e1, e2⟩ | ⟨g, cap, cur, e1, _⟩⟩ := h
    · omega
    · have h9 : na = some ⟨g, 0, none⟩ ∧ n = l.length ∧ nc = cap := by simpa using e1
      exact h9.2.1
  subst hn
  obtain ⟨g, cap, e, _, hg⟩ := h.form (by omega)
  cases e
  obtain ⟨q0, q1⟩ := cellsN_at l j x hx
  refine ⟨g, rfl, (hB.cell (p := ⟨g, j * 2, none⟩) hg).trans ?_, (hB.cell (p := ⟨g, j * 2 + 1, none⟩) hg).trans ?_⟩
  · rw [h.cellAt _ (by omega)]; exact q0
  · rw [h.cellAt _ (by omega)]; exact q1

end Go.Proofs.YtjblkgephboajaaGreatDoor.SpecRb
