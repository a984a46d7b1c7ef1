/-
  Text, by the document; the walk of ShowTexts: it answers true for every grammar, and writes nothing that was there.
-/
import Derived.Test.YtkbljcfkokiceaaDoorShowText
import Derived.Test.YtkbljcfkokiceaaDoorShowRRead
import Derived.Test.YtkbljcfkokiceaaDoorGramLentG
import Derived.Test.YtkbljcfkokiceaaDoorGramOpenL
import Derived.Test.YtkbljcfkokiceaaDoorGramRuleOf
namespace Go.Proofs.YtkbljcfkokiceaaDoor.ShowTxt
open Go.RowKit Go.Proofs.YtkbljcfkokiceaaDoor.GramMath Go.Proofs.YtkbljcfkokiceaaDoor.GramRow Go.Proofs.YtkbljcfkokiceaaDoor.GramOne Go.Proofs.YtkbljcfkokiceaaDoor.GramCheck Go.Proofs.YtkbljcfkokiceaaDoor.GramApart Go.Proofs.YtkbljcfkokiceaaDoor.GramCopy Go.Proofs.YtkbljcfkokiceaaDoor.ShowMath Go.Proofs.YtkbljcfkokiceaaDoor.ShowWord Go.Proofs.YtkbljcfkokiceaaDoor.ShowSym Go.Proofs.YtkbljcfkokiceaaDoor.ShowOrd
set_option linter.unusedVariables false

/-- The symbols of a right side, a blank ahead of each. -/
def flatL (g : G) (l : List Int) : List UInt8 := l.flatMap (fun x => 32 :: (symS g x).data.toList)

theorem flat_step {g : G} {l : List Int} {k : Nat} {x : Int} (h : l[k]? = some x) : flatL g (l.take (k + 1)) = flatL g (l.take k) ++ [32] ++ (symS g x).data.toList := by
  obtain ⟨hk, e⟩ := List.getElem?_eq_some_iff.1 h
  rw [List.take_succ_eq_append_getElem hk, e]
  unfold flatL
  simp
theorem flat_right (g : G) (r : R) : (rightS g r).data.toList = flatL g r.right := by
  unfold rightS
  by_cases h : r.right.length = 0
  · rw [if_pos h, List.eq_nil_of_length_eq_zero h]
    rfl
  · rw [if_neg h, ByteArray.data_append]
    obtain ⟨x, l, e⟩ : ∃ x l, r.right = x :: l := by
      cases e : r.right with
      | nil => rw [e] at h; exact absurd rfl h
      | cons x l => exact ⟨x, l, rfl⟩
    rw [e]
    unfold symsS symsL flatL
    rw [List.map_cons, List.map_cons, Lib.join_cons]
    simp [Lib.joinTail, List.flatMap_def]
    rfl
theorem flat_one {g : G} {N : Nat} (h : ∀ s ∈ g.ts, s.size ≤ N) (h2 : ∀ s ∈ g.ns, s.size ≤ N) : ∀ l : List Int, (flatL g l).length ≤ l.length * (4 * N + 5)
  | [] => by simp [flatL]
  | x :: l => by
    have ih := flat_one h h2 l
    have hx := symS_size (g := g) x h h2
    have e : (flatL g (x :: l)).length = 1 + (symS g x).size + (flatL g l).length := by
      rw [← WordsOne.list_size]
      unfold flatL
      simp
      omega
    rw [e, List.length_cons, Nat.succ_mul]
    omega
theorem flat_len {g : G} (h : ∀ s ∈ g.ts, s.size ≤ 32) (h2 : ∀ s ∈ g.ns, s.size ≤ 32) (l : List Int) (j : Nat) : (flatL g (l.take j)).length ≤ l.length * 133 :=
  Nat.le_trans (flat_one h h2 _) (Nat.mul_le_mul_right _ (by rw [List.length_take]; omega))

/-- The text so far in a row of bytes, and a rule in its box. -/
structure Tn (W1 : World) (B : Nat) (out : List UInt8) (v : Value) (rb : Nat) (l : Int) (qa : Option Addr) (m qc : Nat) (W : World) : Prop where
  own : W.ownsRow B 5 1 v out.length (Lib.byteCells out)
  hB : Below W1.heap.size W1 W
  base : B = W1.heap.size
  rule : RowAt W rb 49 #[.int .i64 l, .slice qa m qc]

theorem Tn.below {W1 : World} {B : Nat} {out : List UInt8} {v : Value} {rb : Nat} {l : Int} {qa : Option Addr} {m qc : Nat} {W W' : World} (h : Tn W1 B out v rb l qa m qc W) (hb : Below W.heap.size W W') : Tn W1 B out v rb l qa m qc W' :=
  ⟨GramLent.own_below h.own hb, h.hB.trans (hb.mono h.hB.size), h.base, h.rule.below hb h.rule.lt⟩

theorem Tn.cells {W1 : World} {B : Nat} {out : List UInt8} {v : Value} {rb : Nat} {l : Int} {qa : Option Addr} {m qc : Nat} {W : World} (h : Tn W1 B out v rb l qa m qc W) : W.cell? ⟨rb, 0, none⟩ = some (.int .i64 l) ∧ W.cell? ⟨rb, 1, none⟩ = some (.slice qa m qc) := ⟨h.rule.cell rfl, h.rule.cell rfl⟩

theorem Tn.str {W1 : World} {B : Nat} {out out' : List UInt8} {v v' : Value} {rb : Nat} {l : Int} {qa : Option Addr} {m qc : Nat} {W W' : World} {s : ByteArray} (h : Tn W1 B out v rb l qa m qc W) (hown : W'.ownsRow B 5 1 v' (out.length + s.size) (Lib.byteCells out ++ Lib.strCells s)) (hg : W.grownBy W' v.ownBlock) (e : out' = out ++ s.data.toList) : Tn W1 B out' v' rb l qa m qc W' :=
  ⟨WordsBytes.row_any hown (show Lib.strCells s = Lib.byteCells s.data.toList from rfl) (WordsOne.list_size s).symm e, h.hB.grown hg h.hB.size (fun j hj => by have := (h.own.lt j hj).1; rw [h.base] at this; exact this), h.base, h.rule.grown hg (h.rule.not_own (by decide) h.own)⟩

theorem Tn.byte {W1 : World} {B : Nat} {out out' : List UInt8} {v v' : Value} {rb : Nat} {l : Int} {qa : Option Addr} {m qc : Nat} {W W' : World} {o : Obj} {xs : List Value} {c : UInt8} (h : Tn W1 B out v rb l qa m qc W) (hown : W'.ownsRow B 5 1 v' (out.length + 1) (Lib.byteCells out ++ xs)) (hg : (W.alloc o).grownBy W' v.ownBlock) (ex : xs = Lib.byteCells [c]) (e : out' = out ++ [c]) : Tn W1 B out' v' rb l qa m qc W' :=
  ⟨WordsBytes.row_any hown ex rfl e, (h.hB.alloc h.hB.size o).grown hg (Nat.le_trans h.hB.size (by simp)) (fun j hj => by have := (h.own.lt j hj).1; rw [h.base] at this; exact this), h.base, (h.rule.alloc o).grown hg (h.rule.not_own (by decide) h.own)⟩

theorem slice_of {W : World} {B : Nat} {v : Value} {l : List UInt8} (h : W.ownsRow B 5 1 v l.length (Lib.byteCells l)) : ∃ a c, v = .slice a l.length c := by
  obtain ⟨h1, ⟨rfl, h2⟩ | ⟨g, cap, cur, rfl, h2⟩⟩ := h
  · have : l.length = 0 := h2
    exact ⟨none, 0, by rw [this]⟩
  · exact ⟨_, _, rfl⟩

set_option maxRecDepth 100000 in
set_option maxHeartbeats 8000000 in
theorem rtext_any (ta na ra : Option Addr) (tc nc rc : Nat) (g : G) (w : World) (hG : GRow w ta na ra g) (ho : okG g) :
    Calls Tryd.prog 9 #[.agg #[.slice ta g.ts.length tc, .slice na g.ns.length nc, .int .i64 g.ax, .slice ra g.rs.length rc]] w fun e w' => e = .returned (.tuple #[.string (txT g), .int .i64 ((rdZ g).1 : Int)]) ∧ Below w.heap.size w w' := by
  obtain ⟨i0, hi, hz0, hz1, hz2⟩ := info_parts WordsBytes.info5
  have hB1 : Below w.heap.size w (w.alloc (.cells #[.slice ta g.ts.length tc, .slice na g.ns.length nc, .int .i64 g.ax, .slice ra g.rs.length rc] 25)) := (Below.refl _ _).alloc (Nat.le_refl _) _
  have hrd := rreadable_any ta na ra tc nc rc g _ (hG.below hB1 (Nat.le_refl _)) ho
  have hbox := GBox.new w ta na ra tc nc rc g 25
  have hG1 := hG.below hB1 (Nat.le_refl _)
  have hs1 : (w.alloc (.cells #[.slice ta g.ts.length tc, .slice na g.ns.length nc, .int .i64 g.ax, .slice ra g.rs.length rc] 25)).heap.size = w.heap.size + 1 := by simp
  by_cases hc : (rdZ g).1 = 0
  · obtain ⟨hck, hA, _⟩ := rd_check hc
    have hgood := good_of hck
    have hsh := good_short hgood
    have hSh := Short.of_good hgood
    have hrs := hgood.rules
    have hsm := text_small hgood
    have E : Hid (txT g = txS g) := by show _ = _; unfold txT; rw [if_pos hc]
    have Ez : Hid ((rdZ g).1 = 0) := hc
    have E32 : Hid ([Value.int .u8 32] = Lib.byteCells [32]) := by show _ = _; simp [Lib.byteCells]
    have E10 : Hid ([Value.int .u8 10] = Lib.byteCells [10]) := by show _ = _; simp [Lib.byteCells]
    have hlen : ∀ k, k ≤ g.rs.length → (textTo g k).length ≤ 527040 := fun k hk => Nat.le_trans (text_len hgood k) (Nat.le_trans (Nat.mul_le_mul_right _ (Nat.le_trans hk hrs)) (by decide))
    rw [hc] at hrd
    clear hck
    go_enter Tryd.func9, Tryd.ntmps9
    go_wp2_with fail
    refine hrd.mono ?_
    rintro e w1 ⟨rfl, hb1⟩
    have hbox1 := hbox.below hb1 (Nat.le_refl _)
    have hBw : Below w.heap.size w w1 := hB1.trans (hb1.mono (by rw [hs1]; omega))
    replace hG1 := hG1.below hb1 (Nat.le_refl _)
    have hT1 := hG1.1
    have hN1 := hG1.2.1
    clear hc hrd hG hs1 hbox hB1 hb1
    go_wp2
    go_loopw [5, 6] (fun v i wr => ∃ k : Nat, k ≤ g.rs.length ∧ i = .int .i64 k ∧ wr.ownsRow w1.heap.size 5 1 v (textTo g k).length (Lib.byteCells (textTo g k)) ∧ Below w1.heap.size w1 wr) (fun _ i _ => g.rs.length - (intOf i).toNat)
    case atStart => exact ⟨0, by omega, rfl, World.ownsRow_nil _ _ _ _, Below.refl _ _⟩
    case round =>
      obtain ⟨k, hk, rfl, hrow, hB⟩ := hrel
      have hsB := hB.size
      have hl0 := hlen k hk
      by_cases hlt : k < g.rs.length
      · obtain ⟨r, hr⟩ : ∃ r, g.rs[k]? = some r := ⟨g.rs[k], List.getElem?_eq_getElem hlt⟩
        have hrm := List.mem_of_getElem? hr
        obtain ⟨h32, ⟨hL0, hL1⟩, _⟩ := good_rule hgood hrm
        obtain ⟨r1, r2, r3⟩ := ho.2.2.2.2.1 r hrm
        obtain ⟨b, off, qa, qc, rfl, X0, X1, x2⟩ := hG1.2.2 k r hr
        obtain ⟨y, hy⟩ : ∃ y, g.ns[r.left.toNat]? = some y := ⟨g.ns[r.left.toNat]'(by omega), List.getElem?_eq_getElem (by omega)⟩
        obtain ⟨nb, noff, rfl, hnm⟩ := hG1.2.1 _ y hy
        have hy32 := hsh.2 y (List.mem_of_getElem? hy)
        have EL : Hid ((leftS g r).data.toList = y.data.toList ++ [32, 58]) := by
          show _ = _
          have e1 : symS g (-1 - r.left) = y := by
            have h1 := symS_nat hy
            rw [Int.toNat_of_nonneg hL0] at h1
            rw [h1]
            unfold ntS
            rw [if_pos (List.all_eq_true.1 hA y (List.mem_of_getElem? hy))]
          unfold leftS
          rw [e1, ByteArray.data_append]
          simp
        have x0 := (hB.cell (cell_lt X0)).trans X0
        have x1 := (hB.cell (cell_lt X1)).trans X1
        have x2' : Hid (IRow w1 qa r.right) := x2
        have hlt2 : (k : Int) < (g.rs.length : Int) := by omega
        have hL2 : r.left < (g.ns.length : Int) := hL1
        have F0 : Hid (_) := text_step hr
        have ER : Hid ((rightS g r).data.toList = flatL g r.right) := flat_right g r
        have tn : Tn w1 w1.heap.size (textTo g k) u5 wr.heap.size r.left qa r.right.length qc (wr.alloc (.cells #[.int .i64 r.left, .slice qa r.right.length qc] 49)) :=
          ⟨hrow.alloc _, hB.alloc hsB _, rfl, heap_new _ _⟩
        obtain ⟨c0, c1, c2, c3⟩ := hbox1.below hB (Nat.le_refl _)
        clear X0 X1 x2 hrow hlen hrm hy hA
        go_wp2_with fail
        clear c0 c1 c2 c3 x0 x1
        generalize wr.alloc (.cells #[.int .i64 r.left, .slice qa r.right.length qc] 49) = Wr at *
        generalize hrb : wr.heap.size = rb at *
        obtain ⟨c0, c1, c2, c3⟩ := hbox1.below tn.hB (Nat.le_refl _)
        obtain ⟨y0, y1⟩ := tn.cells
        by_cases h0 : k = 0
        · have hk0 : ¬ (0 : Int) < (k : Int) := by omega
          have hd1 : decide ((0 : Int) < (k : Int)) = false := decide_eq_false hk0
          have hd2 : decide (0 < k) = false := decide_eq_false (by omega)
          have F : Hid (textTo g (k + 1) = textTo g k ++ y.data.toList ++ [32, 58] ++ flatL g r.right) := by
            show _ = _
            rw [F0.out]
            unfold headL sameB
            rw [decide_eq_false (show ¬ 0 < k by omega), if_neg (by simp), if_neg (by omega), EL.out, ER.out]
            simp
          clear h0 hr hG1 F0 EL ER
          have c0' := In.cell c0
          have c1' := In.cell c1
          have c2' := In.cell c2
          have c3' := In.cell c3
          have y0' := In.cell y0
          have y1' := In.cell y1
          have hne : Nonempty (In Wr) := ⟨⟨Wr, Below.refl _ _⟩⟩
          refine wp_region_in (by kernel_rfl) (by kernel_rfl) ?_
          repeat (go_big_quiet_step (fail))
          refine wpQuiet_nil ?_
          rintro _ ⟨u, rfl⟩
          have tn0 := tn.below u.h
          obtain ⟨W3, hW3⟩ := u
          clear c0' c1' c2' c3' y0' y1' hne c0 c1 c2 c3 y0 y1 tn
          dsimp only at tn0 ⊢
          obtain ⟨c0, c1, c2, c3⟩ := hbox1.below tn0.hB (Nat.le_refl _)
          obtain ⟨y0, y1⟩ := tn0.cells
          have n0 := (tn0.hB.cell (cell_lt hnm)).trans hnm
          go_wp2_with (first | (at_builtin; refine Lib.wpList_append_own_string _ rfl _ _ 54 9 rfl w1.heap.size 5 i0 Tryd.underlying54 Tryd.underlying9 hi hz0 hz1 hz2 _ _ _ rfl tn0.own y rfl (by unfold maxLen; omega) (by omega) tn0.hB.size ?_; intro v5 W5 hown5 hgrow5 _; have tn5 := tn0.str hown5 hgrow5 rfl; obtain ⟨c0, c1, c2, c3⟩ := hbox1.below tn5.hB (Nat.le_refl _); obtain ⟨y0, y1⟩ := tn5.cells; have n5 := tn5.hB.size) | (at_builtin; refine Lib.wpList_append_own_string _ rfl _ _ 54 9 rfl w1.heap.size 5 i0 Tryd.underlying54 Tryd.underlying9 hi hz0 hz1 hz2 _ _ _ rfl tn5.own ⟨#[32, 58]⟩ rfl (by unfold maxLen; (rw [List.length_append, WordsOne.list_size]; show _ + _ + 2 ≤ _; omega)) (by (rw [List.length_append, WordsOne.list_size]; show _ + _ + 2 ≤ _; omega)) tn5.hB.size ?_; intro v6 W6 hown6 hgrow6 _; have tn6 := tn5.str hown6 hgrow6 rfl; obtain ⟨c0, c1, c2, c3⟩ := hbox1.below tn6.hB (Nat.le_refl _); obtain ⟨y0, y1⟩ := tn6.cells))
          clear hown5 hgrow5 hown6 hgrow6 tn5 tn0 n0
          have hlp : (textTo g k ++ y.data.toList ++ [32, 58]).length ≤ 600000 := by (rw [List.length_append, List.length_append, WordsOne.list_size]; show _ + _ + 2 ≤ _; omega)
          generalize hpre : textTo g k ++ y.data.toList ++ [32, 58] = pre at *
          clear hpre c0 c1 c2 c3 y0 y1
          go_loopw [5, 8] (fun v i wr => ∃ j : Nat, j ≤ r.right.length ∧ i = .int .i64 j ∧ Tn w1 w1.heap.size (pre ++ flatL g (r.right.take j)) v rb r.left qa r.right.length qc wr) (fun _ i _ => r.right.length - (intOf i).toNat)
          case atStart => exact ⟨0, by omega, rfl, by simpa [flatL] using tn6⟩
          case round =>
            clear tn6
            obtain ⟨j, hj, rfl, tn⟩ := hrel
            obtain ⟨c0, c1, c2, c3⟩ := hbox1.below tn.hB (Nat.le_refl _)
            obtain ⟨y0, y1⟩ := tn.cells
            by_cases hjl : j < r.right.length
            · obtain ⟨x, hx⟩ : ∃ x, r.right[j]? = some x := ⟨r.right[j], List.getElem?_eq_getElem hjl⟩
              have hxI := r2 x (List.mem_of_getElem? hx)
              have hjl2 : (j : Int) < (r.right.length : Int) := by omega
              have F2 : Hid (pre ++ flatL g (r.right.take (j + 1)) = pre ++ flatL g (r.right.take j) ++ [32] ++ (symS g x).data.toList) := by show _ = _; rw [flat_step hx]; simp
              have hlx := symS_size (g := g) x hsh.1 hsh.2
              have hlf := flat_len hsh.1 hsh.2 r.right j
              have hll : (pre ++ flatL g (r.right.take j)).length ≤ 700000 := by rw [List.length_append]; omega
              have hll2 : (pre ++ flatL g (r.right.take j) ++ [32]).length ≤ 700001 := by rw [List.length_append]; exact Nat.add_le_add_right hll 1
              have hX := (x2'.out.below tn.hB (Nat.le_refl _)) j x hx
              obtain ⟨qb, qo, rfl, hcq⟩ := x2'.out j x hx
              have hcl : qb < w1.heap.size := cell_lt hcq
              clear hx hX x2'
              generalize pre ++ flatL g (r.right.take j) = acc at *
              go_wp2_with (at_builtin; refine wpList_append_own _ rfl _ _ 54 rfl w1.heap.size 5 i0 (.int .u8 0) 1 1 Tryd.underlying54 hi hz0 hz1 hz2 rfl (by decide) _ _ _ rfl (tn.own.alloc _) ⟨wr.heap.size, 0, none⟩ 1 1 [.int .u8 32] rfl rfl (WordsBytes.cells_new _ #[_] _) (by simp [Value.oneCell']) (by unfold maxLen; omega) (by omega) (by simp; have := tn.hB.size; omega) ?_; intro v2 W2 hown2 hgrow2 _; have tn2 := tn.byte hown2 hgrow2 E32.out rfl; obtain ⟨c0, c1, c2, c3⟩ := hbox1.below tn2.hB (Nat.le_refl _); obtain ⟨y0, y1⟩ := tn2.cells)
              clear tn hown2 hgrow2 c0 c1 c2 c3 y0 y1
              have hdZ : Below W2.heap.size W2 W2.drew := ⟨rfl, rfl, rfl, Nat.le_refl W2.heap.size, fun _ _ => rfl⟩
              have tnd := tn2.below hdZ
              have hsym := rsymbol_any ta (some ⟨nb, noff, none⟩) (some ⟨b, off, none⟩) tc nc rc g x W2.drew (hT1.below tnd.hB (Nat.le_refl _)) (hN1.below tnd.hB (Nat.le_refl _)) ho hxI hSh
              clear tn2
              refine wp_region_noPanic ?_
              refine wp_region_held_drew (S := (fun w' => Below w1.heap.size w1 w' ∧ RowAt w' rb 49 #[.int .i64 r.left, .slice (some ⟨qb, qo, none⟩) r.right.length qc])) (by kernel_rfl) ⟨tnd.hB, tnd.rule⟩ (fun hHeld => ?_)
              refine wpAnyH_take (i := 0) (v := v2) rfl (by kernel_rfl) (by kernel_rfl) (by kernel_rfl) (fun _ _ _ h => h) (Or.inl ⟨by rfl, fun w9 hSw => ?_⟩) hHeld ?_
              · go_simp
              simp only [List.getElem_toArray, List.getElem_cons_zero, Act.put, List.setIfInBounds_toArray, List.set_cons_zero, List.set_cons_succ]
              refine wpAnyH_take (i := 1) (v := (.agg #[.slice ta g.ts.length tc, .slice (some ⟨nb, noff, none⟩) g.ns.length nc, .int .i64 g.ax, .slice (some ⟨b, off, none⟩) g.rs.length rc])) rfl (by kernel_rfl) (by kernel_rfl) (by kernel_rfl) (fun _ _ _ h => h) (Or.inl ⟨by rfl, fun w9 hSw => ?_⟩) hHeld ?_
              · obtain ⟨c0, c1, c2, c3⟩ := hbox1.below hSw.1 (Nat.le_refl _)
                go_simp
              simp only [List.getElem_toArray, List.getElem_cons_zero, List.getElem_cons_succ, Act.put, List.setIfInBounds_toArray, List.set_cons_zero, List.set_cons_succ]
              refine wpAnyH_take (i := 2) (v := .pointer (some ⟨rb, 1, none⟩)) rfl (by kernel_rfl) (by kernel_rfl) (by kernel_rfl) (fun _ _ _ h => h) (Or.inl ⟨by rfl, fun w9 hSw => ?_⟩) hHeld ?_
              · go_simp
              simp only [List.getElem_toArray, List.getElem_cons_zero, List.getElem_cons_succ, Act.put, List.setIfInBounds_toArray, List.set_cons_zero, List.set_cons_succ]
              refine wpAnyH_take (i := 3) (v := .slice (some ⟨qb, qo, none⟩) r.right.length qc) rfl (by kernel_rfl) (by kernel_rfl) (by kernel_rfl) (fun _ _ _ h => h) (Or.inl ⟨by rfl, fun w9 hSw => ?_⟩) hHeld ?_
              · have y1 := hSw.2.cell (q := 1) (v := .slice (some ⟨qb, qo, none⟩) r.right.length qc) rfl
                go_simp
              simp only [List.getElem_toArray, List.getElem_cons_zero, List.getElem_cons_succ, Act.put, List.setIfInBounds_toArray, List.set_cons_zero, List.set_cons_succ]
              refine wpAnyH_take (i := 4) (v := .int .i64 (j : Int)) rfl (by kernel_rfl) (by kernel_rfl) (by kernel_rfl) (fun _ _ _ h => h) (Or.inl ⟨by rfl, fun w9 hSw => ?_⟩) hHeld ?_
              · go_simp
              simp only [List.getElem_toArray, List.getElem_cons_zero, List.getElem_cons_succ, Act.put, List.setIfInBounds_toArray, List.set_cons_zero, List.set_cons_succ]
              refine wpAnyH_take (i := 5) (v := .pointer (some ⟨qb, qo + j, none⟩)) rfl (by kernel_rfl) (by kernel_rfl) (by kernel_rfl) (fun _ _ _ h => h) (Or.inl ⟨by rfl, fun w9 hSw => ?_⟩) hHeld ?_
              · go_simp
              simp only [List.getElem_toArray, List.getElem_cons_zero, List.getElem_cons_succ, Act.put, List.setIfInBounds_toArray, List.set_cons_zero, List.set_cons_succ]
              refine wpAnyH_take (i := 6) (v := .int .i64 x) rfl (by kernel_rfl) (by kernel_rfl) (by kernel_rfl) (fun _ _ _ h => h) (Or.inl ⟨by rfl, fun w9 hSw => ?_⟩) hHeld ?_
              · have hc2 := (hSw.1.cell hcl).trans hcq
                go_simp
              simp only [List.getElem_toArray, List.getElem_cons_zero, List.getElem_cons_succ, Act.put, List.setIfInBounds_toArray, List.set_cons_zero, List.set_cons_succ]
              refine wpAnyH_ready (rs := [7]) (by kernel_rfl) (by simp) ?_
              refine AllReadyH.cons rfl (fun K hK => ?_) AllReadyH.nil
              go_simp
              refine hsym.mono ?_
              rintro e w3 ⟨rfl, hb3⟩
              have tn3 := tnd.below hb3
              refine hK.out _ _ ⟨tn3.hB, tn3.rule⟩ (fun hHeld2 => ?_)
              clear hK K hHeld
              refine wpAnyH_ready (rs := [8]) (by kernel_rfl) (by simp) ?_
              refine AllReadyH.cons rfl (fun K hK => ?_) AllReadyH.nil
              refine step_append_str rfl _ _ 54 9 rfl w1.heap.size 5 i0 Tryd.underlying54 Tryd.underlying9 hi hz0 hz1 hz2 v2 (acc ++ [32]).length (Lib.byteCells (acc ++ [32])) (by rfl) tn3.own (symS g x) (by rfl) (by unfold maxLen; omega) (by omega) tn3.hB.size ?_
              intro v4 w4 hown4 hgrow4
              have tn4 := tn3.str hown4 hgrow4 F2.out
              refine hK.out _ _ ⟨tn4.hB, tn4.rule⟩ (fun hHeld3 => ?_)
              clear hK K hHeld2
              simp only [List.getElem_toArray, List.getElem_cons_zero, List.getElem_cons_succ, Act.put, List.setIfInBounds_toArray, List.set_cons_zero, List.set_cons_succ]
              refine wpAnyH_ready (rs := [9]) (by kernel_rfl) (by simp) ?_
              refine AllReadyH.cons rfl (fun K hK => ?_) AllReadyH.nil
              go_simp
              refine hK.out _ _ ⟨tn4.hB, tn4.rule⟩ (fun _ => ?_)
              clear hK K
              refine wpAnyH_done (by kernel_rfl) (NoPanic.normal ?_) _
              clear hsym tnd tn3 hown4 hgrow4 hdZ
              go_wp2
              go_roundw
              case rel => exact ⟨j + 1, by omega, by go_num, tn4⟩
              case measure => simp [intOf]; omega
            · obtain rfl : j = r.right.length := by omega
              rw [List.take_length] at tn
              have hnl : ¬ (r.right.length : Int) < (r.right.length : Int) := by omega
              have hfin : wr.ownsRow w1.heap.size 5 1 u5 (textTo g (k + 1)).length (Lib.byteCells (textTo g (k + 1))) := by rw [F.out]; exact tn.own
              have hBf := tn.hB
              clear tn
              go_wp2
              go_roundw
              case rel => exact ⟨k + 1, by omega, by go_num, hfin, hBf⟩
              case measure => simp [intOf]; omega
        · obtain ⟨k', rfl⟩ : ∃ k', k = k' + 1 := ⟨k - 1, by omega⟩
          have hk0 : (0 : Int) < ((k' + 1 : Nat) : Int) := by omega
          obtain ⟨r', hr'⟩ : ∃ r', g.rs[k']? = some r' := ⟨g.rs[k']'(by omega), List.getElem?_eq_getElem (by omega)⟩
          obtain ⟨b2, off2, qa2, qc2, e2, P0, _, _⟩ := hG1.2.2 k' r' hr'
          cases e2
          have p0' := In.cell ((tn.hB.cell (cell_lt P0)).trans P0)
          have hk2 : (k' : Int) < (g.rs.length : Int) := by omega
          have hks : ((k' + 1 : Nat) : Int) - 1 = (k' : Int) := by omega
          by_cases hsame : r.left = r'.left
          · have F : Hid (textTo g (k' + 1 + 1) = textTo g (k' + 1) ++ [32, 124] ++ flatL g r.right) := by
              show _ = _
              rw [F0.out]
              unfold headL sameB
              rw [show k' + 1 - 1 = k' by omega, hr', if_pos (by simp [hsame]), ER.out]
              simp
            have hsb : (r'.left == r.left) = true := by simpa using hsame.symm
            clear h0 hr hG1 F0 hsame hr' P0 EL ER
            generalize hkk : k' + 1 = k at *
            have hd1 : decide ((0 : Int) < (k : Int)) = true := decide_eq_true hk0
            have hd2 : decide (0 < k) = true := decide_eq_true (by omega)
            have c0' := In.cell c0
            have c1' := In.cell c1
            have c2' := In.cell c2
            have c3' := In.cell c3
            have y0' := In.cell y0
            have y1' := In.cell y1
            have hne : Nonempty (In Wr) := ⟨⟨Wr, Below.refl _ _⟩⟩
            refine wp_region_in (by kernel_rfl) (by kernel_rfl) ?_
            repeat (go_big_quiet_step (fail))
            refine wpQuiet_nil ?_
            rintro _ ⟨u, rfl⟩
            have tn0 := tn.below u.h
            obtain ⟨W3, hW3⟩ := u
            clear c0' c1' c2' c3' y0' y1' hne c0 c1 c2 c3 y0 y1 tn
            clear p0'
            dsimp only at tn0 ⊢
            obtain ⟨c0, c1, c2, c3⟩ := hbox1.below tn0.hB (Nat.le_refl _)
            obtain ⟨y0, y1⟩ := tn0.cells
            have n0 := (tn0.hB.cell (cell_lt hnm)).trans hnm
            go_wp2_with (at_builtin; refine Lib.wpList_append_own_string _ rfl _ _ 54 9 rfl w1.heap.size 5 i0 Tryd.underlying54 Tryd.underlying9 hi hz0 hz1 hz2 _ _ _ rfl tn0.own ⟨#[32, 124]⟩ rfl (by unfold maxLen; (show _ + 2 ≤ _; omega)) (by (show _ + 2 ≤ _; omega)) tn0.hB.size ?_; intro v6 W6 hown6 hgrow6 _; have tn6 := tn0.str hown6 hgrow6 rfl; obtain ⟨c0, c1, c2, c3⟩ := hbox1.below tn6.hB (Nat.le_refl _); obtain ⟨y0, y1⟩ := tn6.cells)
            clear hown6 hgrow6 tn0 n0
            have hlp : (textTo g k ++ [32, 124]).length ≤ 600000 := by (rw [List.length_append]; show _ + 2 ≤ _; omega)
            generalize hpre : textTo g k ++ [32, 124] = pre at *
            clear hpre c0 c1 c2 c3 y0 y1
            go_loopw [5, 8] (fun v i wr => ∃ j : Nat, j ≤ r.right.length ∧ i = .int .i64 j ∧ Tn w1 w1.heap.size (pre ++ flatL g (r.right.take j)) v rb r.left qa r.right.length qc wr) (fun _ i _ => r.right.length - (intOf i).toNat)
            case atStart => exact ⟨0, by omega, rfl, by simpa [flatL] using tn6⟩
            case round =>
              clear tn6
              obtain ⟨j, hj, rfl, tn⟩ := hrel
              obtain ⟨c0, c1, c2, c3⟩ := hbox1.below tn.hB (Nat.le_refl _)
              obtain ⟨y0, y1⟩ := tn.cells
              by_cases hjl : j < r.right.length
              · obtain ⟨x, hx⟩ : ∃ x, r.right[j]? = some x := ⟨r.right[j], List.getElem?_eq_getElem hjl⟩
                have hxI := r2 x (List.mem_of_getElem? hx)
                have hjl2 : (j : Int) < (r.right.length : Int) := by omega
                have F2 : Hid (pre ++ flatL g (r.right.take (j + 1)) = pre ++ flatL g (r.right.take j) ++ [32] ++ (symS g x).data.toList) := by show _ = _; rw [flat_step hx]; simp
                have hlx := symS_size (g := g) x hsh.1 hsh.2
                have hlf := flat_len hsh.1 hsh.2 r.right j
                have hll : (pre ++ flatL g (r.right.take j)).length ≤ 700000 := by rw [List.length_append]; omega
                have hll2 : (pre ++ flatL g (r.right.take j) ++ [32]).length ≤ 700001 := by rw [List.length_append]; exact Nat.add_le_add_right hll 1
                have hX := (x2'.out.below tn.hB (Nat.le_refl _)) j x hx
                obtain ⟨qb, qo, rfl, hcq⟩ := x2'.out j x hx
                have hcl : qb < w1.heap.size := cell_lt hcq
                clear hx hX x2'
                generalize pre ++ flatL g (r.right.take j) = acc at *
                go_wp2_with (at_builtin; refine wpList_append_own _ rfl _ _ 54 rfl w1.heap.size 5 i0 (.int .u8 0) 1 1 Tryd.underlying54 hi hz0 hz1 hz2 rfl (by decide) _ _ _ rfl (tn.own.alloc _) ⟨wr.heap.size, 0, none⟩ 1 1 [.int .u8 32] rfl rfl (WordsBytes.cells_new _ #[_] _) (by simp [Value.oneCell']) (by unfold maxLen; omega) (by omega) (by simp; have := tn.hB.size; omega) ?_; intro v2 W2 hown2 hgrow2 _; have tn2 := tn.byte hown2 hgrow2 E32.out rfl; obtain ⟨c0, c1, c2, c3⟩ := hbox1.below tn2.hB (Nat.le_refl _); obtain ⟨y0, y1⟩ := tn2.cells)
                clear tn hown2 hgrow2 c0 c1 c2 c3 y0 y1
                have hdZ : Below W2.heap.size W2 W2.drew := ⟨rfl, rfl, rfl, Nat.le_refl W2.heap.size, fun _ _ => rfl⟩
                have tnd := tn2.below hdZ
                have hsym := rsymbol_any ta (some ⟨nb, noff, none⟩) (some ⟨b, off, none⟩) tc nc rc g x W2.drew (hT1.below tnd.hB (Nat.le_refl _)) (hN1.below tnd.hB (Nat.le_refl _)) ho hxI hSh
                clear tn2
                refine wp_region_noPanic ?_
                refine wp_region_held_drew (S := (fun w' => Below w1.heap.size w1 w' ∧ RowAt w' rb 49 #[.int .i64 r.left, .slice (some ⟨qb, qo, none⟩) r.right.length qc])) (by kernel_rfl) ⟨tnd.hB, tnd.rule⟩ (fun hHeld => ?_)
                refine wpAnyH_take (i := 0) (v := v2) rfl (by kernel_rfl) (by kernel_rfl) (by kernel_rfl) (fun _ _ _ h => h) (Or.inl ⟨by rfl, fun w9 hSw => ?_⟩) hHeld ?_
                · go_simp
                simp only [List.getElem_toArray, List.getElem_cons_zero, Act.put, List.setIfInBounds_toArray, List.set_cons_zero, List.set_cons_succ]
                refine wpAnyH_take (i := 1) (v := (.agg #[.slice ta g.ts.length tc, .slice (some ⟨nb, noff, none⟩) g.ns.length nc, .int .i64 g.ax, .slice (some ⟨b, off, none⟩) g.rs.length rc])) rfl (by kernel_rfl) (by kernel_rfl) (by kernel_rfl) (fun _ _ _ h => h) (Or.inl ⟨by rfl, fun w9 hSw => ?_⟩) hHeld ?_
                · obtain ⟨c0, c1, c2, c3⟩ := hbox1.below hSw.1 (Nat.le_refl _)
                  go_simp
                simp only [List.getElem_toArray, List.getElem_cons_zero, List.getElem_cons_succ, Act.put, List.setIfInBounds_toArray, List.set_cons_zero, List.set_cons_succ]
                refine wpAnyH_take (i := 2) (v := .pointer (some ⟨rb, 1, none⟩)) rfl (by kernel_rfl) (by kernel_rfl) (by kernel_rfl) (fun _ _ _ h => h) (Or.inl ⟨by rfl, fun w9 hSw => ?_⟩) hHeld ?_
                · go_simp
                simp only [List.getElem_toArray, List.getElem_cons_zero, List.getElem_cons_succ, Act.put, List.setIfInBounds_toArray, List.set_cons_zero, List.set_cons_succ]
                refine wpAnyH_take (i := 3) (v := .slice (some ⟨qb, qo, none⟩) r.right.length qc) rfl (by kernel_rfl) (by kernel_rfl) (by kernel_rfl) (fun _ _ _ h => h) (Or.inl ⟨by rfl, fun w9 hSw => ?_⟩) hHeld ?_
                · have y1 := hSw.2.cell (q := 1) (v := .slice (some ⟨qb, qo, none⟩) r.right.length qc) rfl
                  go_simp
                simp only [List.getElem_toArray, List.getElem_cons_zero, List.getElem_cons_succ, Act.put, List.setIfInBounds_toArray, List.set_cons_zero, List.set_cons_succ]
                refine wpAnyH_take (i := 4) (v := .int .i64 (j : Int)) rfl (by kernel_rfl) (by kernel_rfl) (by kernel_rfl) (fun _ _ _ h => h) (Or.inl ⟨by rfl, fun w9 hSw => ?_⟩) hHeld ?_
                · go_simp
                simp only [List.getElem_toArray, List.getElem_cons_zero, List.getElem_cons_succ, Act.put, List.setIfInBounds_toArray, List.set_cons_zero, List.set_cons_succ]
                refine wpAnyH_take (i := 5) (v := .pointer (some ⟨qb, qo + j, none⟩)) rfl (by kernel_rfl) (by kernel_rfl) (by kernel_rfl) (fun _ _ _ h => h) (Or.inl ⟨by rfl, fun w9 hSw => ?_⟩) hHeld ?_
                · go_simp
                simp only [List.getElem_toArray, List.getElem_cons_zero, List.getElem_cons_succ, Act.put, List.setIfInBounds_toArray, List.set_cons_zero, List.set_cons_succ]
                refine wpAnyH_take (i := 6) (v := .int .i64 x) rfl (by kernel_rfl) (by kernel_rfl) (by kernel_rfl) (fun _ _ _ h => h) (Or.inl ⟨by rfl, fun w9 hSw => ?_⟩) hHeld ?_
                · have hc2 := (hSw.1.cell hcl).trans hcq
                  go_simp
                simp only [List.getElem_toArray, List.getElem_cons_zero, List.getElem_cons_succ, Act.put, List.setIfInBounds_toArray, List.set_cons_zero, List.set_cons_succ]
                refine wpAnyH_ready (rs := [7]) (by kernel_rfl) (by simp) ?_
                refine AllReadyH.cons rfl (fun K hK => ?_) AllReadyH.nil
                go_simp
                refine hsym.mono ?_
                rintro e w3 ⟨rfl, hb3⟩
                have tn3 := tnd.below hb3
                refine hK.out _ _ ⟨tn3.hB, tn3.rule⟩ (fun hHeld2 => ?_)
                clear hK K hHeld
                refine wpAnyH_ready (rs := [8]) (by kernel_rfl) (by simp) ?_
                refine AllReadyH.cons rfl (fun K hK => ?_) AllReadyH.nil
                refine step_append_str rfl _ _ 54 9 rfl w1.heap.size 5 i0 Tryd.underlying54 Tryd.underlying9 hi hz0 hz1 hz2 v2 (acc ++ [32]).length (Lib.byteCells (acc ++ [32])) (by rfl) tn3.own (symS g x) (by rfl) (by unfold maxLen; omega) (by omega) tn3.hB.size ?_
                intro v4 w4 hown4 hgrow4
                have tn4 := tn3.str hown4 hgrow4 F2.out
                refine hK.out _ _ ⟨tn4.hB, tn4.rule⟩ (fun hHeld3 => ?_)
                clear hK K hHeld2
                simp only [List.getElem_toArray, List.getElem_cons_zero, List.getElem_cons_succ, Act.put, List.setIfInBounds_toArray, List.set_cons_zero, List.set_cons_succ]
                refine wpAnyH_ready (rs := [9]) (by kernel_rfl) (by simp) ?_
                refine AllReadyH.cons rfl (fun K hK => ?_) AllReadyH.nil
                go_simp
                refine hK.out _ _ ⟨tn4.hB, tn4.rule⟩ (fun _ => ?_)
                clear hK K
                refine wpAnyH_done (by kernel_rfl) (NoPanic.normal ?_) _
                clear hsym tnd tn3 hown4 hgrow4 hdZ
                go_wp2
                go_roundw
                case rel => exact ⟨j + 1, by omega, by go_num, tn4⟩
                case measure => simp [intOf]; omega
              · obtain rfl : j = r.right.length := by omega
                rw [List.take_length] at tn
                have hnl : ¬ (r.right.length : Int) < (r.right.length : Int) := by omega
                have hfin : wr.ownsRow w1.heap.size 5 1 u5 (textTo g (k + 1)).length (Lib.byteCells (textTo g (k + 1))) := by rw [F.out]; exact tn.own
                have hBf := tn.hB
                clear tn
                go_wp2
                go_roundw
                case rel => exact ⟨k + 1, by omega, by go_num, hfin, hBf⟩
                case measure => simp [intOf]; omega
          · have F : Hid (textTo g (k' + 1 + 1) = textTo g (k' + 1) ++ [10] ++ y.data.toList ++ [32, 58] ++ flatL g r.right) := by
              show _ = _
              rw [F0.out]
              unfold headL sameB
              rw [show k' + 1 - 1 = k' by omega, hr', if_neg (by simp; exact fun e => hsame e.symm), if_pos (by omega), EL.out, ER.out]
              simp
            have hsb : (r'.left == r.left) = false := by simpa using (fun e : r'.left = r.left => hsame e.symm)
            clear h0 hr hG1 F0 hsame hr' P0 EL ER
            generalize hkk : k' + 1 = k at *
            have hd1 : decide ((0 : Int) < (k : Int)) = true := decide_eq_true hk0
            have hd2 : decide (0 < k) = true := decide_eq_true (by omega)
            have c0' := In.cell c0
            have c1' := In.cell c1
            have c2' := In.cell c2
            have c3' := In.cell c3
            have y0' := In.cell y0
            have y1' := In.cell y1
            have hne : Nonempty (In Wr) := ⟨⟨Wr, Below.refl _ _⟩⟩
            refine wp_region_in (by kernel_rfl) (by kernel_rfl) ?_
            repeat (go_big_quiet_step (fail))
            refine wpQuiet_nil ?_
            rintro _ ⟨u, rfl⟩
            have tn0 := tn.below u.h
            obtain ⟨W3, hW3⟩ := u
            clear c0' c1' c2' c3' y0' y1' hne c0 c1 c2 c3 y0 y1 tn
            clear p0'
            dsimp only at tn0 ⊢
            obtain ⟨c0, c1, c2, c3⟩ := hbox1.below tn0.hB (Nat.le_refl _)
            obtain ⟨y0, y1⟩ := tn0.cells
            have n0 := (tn0.hB.cell (cell_lt hnm)).trans hnm
            go_wp2_with (first | (at_builtin; refine wpList_append_own _ rfl _ _ 54 rfl w1.heap.size 5 i0 (.int .u8 0) 1 1 Tryd.underlying54 hi hz0 hz1 hz2 rfl (by decide) _ _ _ rfl (tn0.own.alloc _) ⟨W3.heap.size, 0, none⟩ 1 1 [.int .u8 10] rfl rfl (WordsBytes.cells_new _ #[_] _) (by simp [Value.oneCell']) (by unfold maxLen; omega) (by omega) (by simp; have := tn0.hB.size; omega) ?_; intro v4 W4 hown4 hgrow4 _; have tn4 := tn0.byte hown4 hgrow4 E10.out rfl; obtain ⟨c0, c1, c2, c3⟩ := hbox1.below tn4.hB (Nat.le_refl _); obtain ⟨y0, y1⟩ := tn4.cells; have n4 := (tn4.hB.cell (cell_lt hnm)).trans hnm) | (at_builtin; refine Lib.wpList_append_own_string _ rfl _ _ 54 9 rfl w1.heap.size 5 i0 Tryd.underlying54 Tryd.underlying9 hi hz0 hz1 hz2 _ _ _ rfl tn4.own y rfl (by unfold maxLen; (rw [List.length_append]; show _ + 1 + _ ≤ _; omega)) (by (rw [List.length_append]; show _ + 1 + _ ≤ _; omega)) tn4.hB.size ?_; intro v5 W5 hown5 hgrow5 _; have tn5 := tn4.str hown5 hgrow5 rfl; obtain ⟨c0, c1, c2, c3⟩ := hbox1.below tn5.hB (Nat.le_refl _); obtain ⟨y0, y1⟩ := tn5.cells) | (at_builtin; refine Lib.wpList_append_own_string _ rfl _ _ 54 9 rfl w1.heap.size 5 i0 Tryd.underlying54 Tryd.underlying9 hi hz0 hz1 hz2 _ _ _ rfl tn5.own ⟨#[32, 58]⟩ rfl (by unfold maxLen; (rw [List.length_append, List.length_append, WordsOne.list_size]; show _ + 1 + _ + 2 ≤ _; omega)) (by (rw [List.length_append, List.length_append, WordsOne.list_size]; show _ + 1 + _ + 2 ≤ _; omega)) tn5.hB.size ?_; intro v6 W6 hown6 hgrow6 _; have tn6 := tn5.str hown6 hgrow6 rfl; obtain ⟨c0, c1, c2, c3⟩ := hbox1.below tn6.hB (Nat.le_refl _); obtain ⟨y0, y1⟩ := tn6.cells))
            clear hown4 hgrow4 hown5 hgrow5 hown6 hgrow6 tn4 tn5 tn0 n0 n4
            have hlp : (textTo g k ++ [10] ++ y.data.toList ++ [32, 58]).length ≤ 600000 := by (rw [List.length_append, List.length_append, List.length_append, WordsOne.list_size]; show _ + 1 + _ + 2 ≤ _; omega)
            generalize hpre : textTo g k ++ [10] ++ y.data.toList ++ [32, 58] = pre at *
            clear hpre c0 c1 c2 c3 y0 y1
            go_loopw [5, 8] (fun v i wr => ∃ j : Nat, j ≤ r.right.length ∧ i = .int .i64 j ∧ Tn w1 w1.heap.size (pre ++ flatL g (r.right.take j)) v rb r.left qa r.right.length qc wr) (fun _ i _ => r.right.length - (intOf i).toNat)
            case atStart => exact ⟨0, by omega, rfl, by simpa [flatL] using tn6⟩
            case round =>
              clear tn6
              obtain ⟨j, hj, rfl, tn⟩ := hrel
              obtain ⟨c0, c1, c2, c3⟩ := hbox1.below tn.hB (Nat.le_refl _)
              obtain ⟨y0, y1⟩ := tn.cells
              by_cases hjl : j < r.right.length
              · obtain ⟨x, hx⟩ : ∃ x, r.right[j]? = some x := ⟨r.right[j], List.getElem?_eq_getElem hjl⟩
                have hxI := r2 x (List.mem_of_getElem? hx)
                have hjl2 : (j : Int) < (r.right.length : Int) := by omega
                have F2 : Hid (pre ++ flatL g (r.right.take (j + 1)) = pre ++ flatL g (r.right.take j) ++ [32] ++ (symS g x).data.toList) := by show _ = _; rw [flat_step hx]; simp
                have hlx := symS_size (g := g) x hsh.1 hsh.2
                have hlf := flat_len hsh.1 hsh.2 r.right j
                have hll : (pre ++ flatL g (r.right.take j)).length ≤ 700000 := by rw [List.length_append]; omega
                have hll2 : (pre ++ flatL g (r.right.take j) ++ [32]).length ≤ 700001 := by rw [List.length_append]; exact Nat.add_le_add_right hll 1
                have hX := (x2'.out.below tn.hB (Nat.le_refl _)) j x hx
                obtain ⟨qb, qo, rfl, hcq⟩ := x2'.out j x hx
                have hcl : qb < w1.heap.size := cell_lt hcq
                clear hx hX x2'
                generalize pre ++ flatL g (r.right.take j) = acc at *
                go_wp2_with (at_builtin; refine wpList_append_own _ rfl _ _ 54 rfl w1.heap.size 5 i0 (.int .u8 0) 1 1 Tryd.underlying54 hi hz0 hz1 hz2 rfl (by decide) _ _ _ rfl (tn.own.alloc _) ⟨wr.heap.size, 0, none⟩ 1 1 [.int .u8 32] rfl rfl (WordsBytes.cells_new _ #[_] _) (by simp [Value.oneCell']) (by unfold maxLen; omega) (by omega) (by simp; have := tn.hB.size; omega) ?_; intro v2 W2 hown2 hgrow2 _; have tn2 := tn.byte hown2 hgrow2 E32.out rfl; obtain ⟨c0, c1, c2, c3⟩ := hbox1.below tn2.hB (Nat.le_refl _); obtain ⟨y0, y1⟩ := tn2.cells)
                clear tn hown2 hgrow2 c0 c1 c2 c3 y0 y1
                have hdZ : Below W2.heap.size W2 W2.drew := ⟨rfl, rfl, rfl, Nat.le_refl W2.heap.size, fun _ _ => rfl⟩
                have tnd := tn2.below hdZ
                have hsym := rsymbol_any ta (some ⟨nb, noff, none⟩) (some ⟨b, off, none⟩) tc nc rc g x W2.drew (hT1.below tnd.hB (Nat.le_refl _)) (hN1.below tnd.hB (Nat.le_refl _)) ho hxI hSh
                clear tn2
                refine wp_region_noPanic ?_
                refine wp_region_held_drew (S := (fun w' => Below w1.heap.size w1 w' ∧ RowAt w' rb 49 #[.int .i64 r.left, .slice (some ⟨qb, qo, none⟩) r.right.length qc])) (by kernel_rfl) ⟨tnd.hB, tnd.rule⟩ (fun hHeld => ?_)
                refine wpAnyH_take (i := 0) (v := v2) rfl (by kernel_rfl) (by kernel_rfl) (by kernel_rfl) (fun _ _ _ h => h) (Or.inl ⟨by rfl, fun w9 hSw => ?_⟩) hHeld ?_
                · go_simp
                simp only [List.getElem_toArray, List.getElem_cons_zero, Act.put, List.setIfInBounds_toArray, List.set_cons_zero, List.set_cons_succ]
                refine wpAnyH_take (i := 1) (v := (.agg #[.slice ta g.ts.length tc, .slice (some ⟨nb, noff, none⟩) g.ns.length nc, .int .i64 g.ax, .slice (some ⟨b, off, none⟩) g.rs.length rc])) rfl (by kernel_rfl) (by kernel_rfl) (by kernel_rfl) (fun _ _ _ h => h) (Or.inl ⟨by rfl, fun w9 hSw => ?_⟩) hHeld ?_
                · obtain ⟨c0, c1, c2, c3⟩ := hbox1.below hSw.1 (Nat.le_refl _)
                  go_simp
                simp only [List.getElem_toArray, List.getElem_cons_zero, List.getElem_cons_succ, Act.put, List.setIfInBounds_toArray, List.set_cons_zero, List.set_cons_succ]
                refine wpAnyH_take (i := 2) (v := .pointer (some ⟨rb, 1, none⟩)) rfl (by kernel_rfl) (by kernel_rfl) (by kernel_rfl) (fun _ _ _ h => h) (Or.inl ⟨by rfl, fun w9 hSw => ?_⟩) hHeld ?_
                · go_simp
                simp only [List.getElem_toArray, List.getElem_cons_zero, List.getElem_cons_succ, Act.put, List.setIfInBounds_toArray, List.set_cons_zero, List.set_cons_succ]
                refine wpAnyH_take (i := 3) (v := .slice (some ⟨qb, qo, none⟩) r.right.length qc) rfl (by kernel_rfl) (by kernel_rfl) (by kernel_rfl) (fun _ _ _ h => h) (Or.inl ⟨by rfl, fun w9 hSw => ?_⟩) hHeld ?_
                · have y1 := hSw.2.cell (q := 1) (v := .slice (some ⟨qb, qo, none⟩) r.right.length qc) rfl
                  go_simp
                simp only [List.getElem_toArray, List.getElem_cons_zero, List.getElem_cons_succ, Act.put, List.setIfInBounds_toArray, List.set_cons_zero, List.set_cons_succ]
                refine wpAnyH_take (i := 4) (v := .int .i64 (j : Int)) rfl (by kernel_rfl) (by kernel_rfl) (by kernel_rfl) (fun _ _ _ h => h) (Or.inl ⟨by rfl, fun w9 hSw => ?_⟩) hHeld ?_
                · go_simp
                simp only [List.getElem_toArray, List.getElem_cons_zero, List.getElem_cons_succ, Act.put, List.setIfInBounds_toArray, List.set_cons_zero, List.set_cons_succ]
                refine wpAnyH_take (i := 5) (v := .pointer (some ⟨qb, qo + j, none⟩)) rfl (by kernel_rfl) (by kernel_rfl) (by kernel_rfl) (fun _ _ _ h => h) (Or.inl ⟨by rfl, fun w9 hSw => ?_⟩) hHeld ?_
                · go_simp
                simp only [List.getElem_toArray, List.getElem_cons_zero, List.getElem_cons_succ, Act.put, List.setIfInBounds_toArray, List.set_cons_zero, List.set_cons_succ]
                refine wpAnyH_take (i := 6) (v := .int .i64 x) rfl (by kernel_rfl) (by kernel_rfl) (by kernel_rfl) (fun _ _ _ h => h) (Or.inl ⟨by rfl, fun w9 hSw => ?_⟩) hHeld ?_
                · have hc2 := (hSw.1.cell hcl).trans hcq
                  go_simp
                simp only [List.getElem_toArray, List.getElem_cons_zero, List.getElem_cons_succ, Act.put, List.setIfInBounds_toArray, List.set_cons_zero, List.set_cons_succ]
                refine wpAnyH_ready (rs := [7]) (by kernel_rfl) (by simp) ?_
                refine AllReadyH.cons rfl (fun K hK => ?_) AllReadyH.nil
                go_simp
                refine hsym.mono ?_
                rintro e w3 ⟨rfl, hb3⟩
                have tn3 := tnd.below hb3
                refine hK.out _ _ ⟨tn3.hB, tn3.rule⟩ (fun hHeld2 => ?_)
                clear hK K hHeld
                refine wpAnyH_ready (rs := [8]) (by kernel_rfl) (by simp) ?_
                refine AllReadyH.cons rfl (fun K hK => ?_) AllReadyH.nil
                refine step_append_str rfl _ _ 54 9 rfl w1.heap.size 5 i0 Tryd.underlying54 Tryd.underlying9 hi hz0 hz1 hz2 v2 (acc ++ [32]).length (Lib.byteCells (acc ++ [32])) (by rfl) tn3.own (symS g x) (by rfl) (by unfold maxLen; omega) (by omega) tn3.hB.size ?_
                intro v4 w4 hown4 hgrow4
                have tn4 := tn3.str hown4 hgrow4 F2.out
                refine hK.out _ _ ⟨tn4.hB, tn4.rule⟩ (fun hHeld3 => ?_)
                clear hK K hHeld2
                simp only [List.getElem_toArray, List.getElem_cons_zero, List.getElem_cons_succ, Act.put, List.setIfInBounds_toArray, List.set_cons_zero, List.set_cons_succ]
                refine wpAnyH_ready (rs := [9]) (by kernel_rfl) (by simp) ?_
                refine AllReadyH.cons rfl (fun K hK => ?_) AllReadyH.nil
                go_simp
                refine hK.out _ _ ⟨tn4.hB, tn4.rule⟩ (fun _ => ?_)
                clear hK K
                refine wpAnyH_done (by kernel_rfl) (NoPanic.normal ?_) _
                clear hsym tnd tn3 hown4 hgrow4 hdZ
                go_wp2
                go_roundw
                case rel => exact ⟨j + 1, by omega, by go_num, tn4⟩
                case measure => simp [intOf]; omega
              · obtain rfl : j = r.right.length := by omega
                rw [List.take_length] at tn
                have hnl : ¬ (r.right.length : Int) < (r.right.length : Int) := by omega
                have hfin : wr.ownsRow w1.heap.size 5 1 u5 (textTo g (k + 1)).length (Lib.byteCells (textTo g (k + 1))) := by rw [F.out]; exact tn.own
                have hBf := tn.hB
                clear tn
                go_wp2
                go_roundw
                case rel => exact ⟨k + 1, by omega, by go_num, hfin, hBf⟩
                case measure => simp [intOf]; omega
      · obtain rfl : k = g.rs.length := by omega
        have hnl : ¬ (g.rs.length : Int) < (g.rs.length : Int) := by omega
        obtain ⟨c0, c1, c2, c3⟩ := hbox1.below hB (Nat.le_refl _)
        have hlt5 : (textL g).length ≤ 527041 := by unfold textL; rw [List.length_append]; exact Nat.succ_le_succ hl0
        have hle : ¬ (1048576 : Int) < ((textL g).length : Int) := by omega
        clear hG1 hlen
        go_wp2_with (at_builtin; refine wpList_append_own _ rfl _ _ 54 rfl w1.heap.size 5 i0 (.int .u8 0) 1 1 Tryd.underlying54 hi hz0 hz1 hz2 rfl (by decide) _ _ _ rfl (hrow.alloc _) ⟨wr.heap.size, 0, none⟩ 1 1 [.int .u8 10] rfl rfl (WordsBytes.cells_new _ #[_] _) (by simp [Value.oneCell']) (by unfold maxLen; omega) (by omega) (by simp; omega) ?_; intro v2 W2 hown2 hgrow2 _; have hr2 : W2.ownsRow w1.heap.size 5 1 v2 (textL g).length (Lib.byteCells (textL g)) := WordsBytes.row_any hown2 E10.out rfl rfl; have hB2 := WordsBytes.Below.app hB hsB hrow hgrow2; obtain ⟨ga, gc, rfl⟩ := slice_of hr2; have hcv := WordsBytes.bytes_str_any hr2)
        go_ret2
        exact ⟨ret_si (by rw [E.out]; rfl) (by rw [Ez.out]; rfl), hBw.trans (hB2.mono hBw.size)⟩
  · have E : Hid (txT g = ⟨#[]⟩) := by show _ = _; unfold txT; rw [if_neg hc]
    have hcn : (((rdZ g).1 : Int) == 0) = false := beq_eq_false_iff_ne.2 (by omega)
    generalize (rdZ g).1 = z at *
    go_enter Tryd.func9, Tryd.ntmps9
    go_wp2_with fail
    refine hrd.mono ?_
    rintro e w1 ⟨rfl, hb1⟩
    clear hc hrd hG hG1
    go_wp2
    go_ret2
    exact ⟨ret_si E.out.symm rfl, hB1.trans (hb1.mono (by rw [hs1]; omega))⟩

end Go.Proofs.YtkbljcfkokiceaaDoor.ShowTxt

namespace Go.Proofs.YtkbljcfkokiceaaDoor.ShowTextsW
open Go.RowKit Go.Proofs.YtkbljcfkokiceaaDoor.GramMath Go.Proofs.YtkbljcfkokiceaaDoor.GramRow Go.Proofs.YtkbljcfkokiceaaDoor.GramOne Go.Proofs.YtkbljcfkokiceaaDoor.GramName Go.Proofs.YtkbljcfkokiceaaDoor.GramLent Go.Proofs.YtkbljcfkokiceaaDoor.GramErrs Go.Proofs.YtkbljcfkokiceaaDoor.GramSame Go.Proofs.YtkbljcfkokiceaaDoor.GramLess Go.Proofs.YtkbljcfkokiceaaDoor.ShowMath Go.Proofs.YtkbljcfkokiceaaDoor.ShowWord Go.Proofs.YtkbljcfkokiceaaDoor.ShowSym Go.Proofs.YtkbljcfkokiceaaDoor.ShowOrd Go.Proofs.YtkbljcfkokiceaaDoor.ShowTxt
set_option linter.unusedVariables false

/-- What lies in memory throughout: the grammar as it came in, what is lent of it, the errors. -/
structure St (w : World) (b1 b2 : Nat) (ta na ra : Option Addr) (tc nc rc : Nat) (g1 c1 g2 c2 g3 c3 : Nat) (lq : List Q) (g : G) (p : Nat → Addr) : Prop where
  own : GBox w b1 ta na ra tc nc rc g
  lent : GBox w b2 (some ⟨g1, 0, none⟩) (some ⟨g2, 0, none⟩) (some ⟨g3, 0, none⟩) c1 c2 c3 g
  row : GRow w ta na ra g
  lrow : LentG w g1 c1 g2 c2 g3 c3 lq g
  errs : Errs w p

theorem St.below {w w' : World} {b1 b2 : Nat} {ta na ra : Option Addr} {tc nc rc : Nat} {g1 c1 g2 c2 g3 c3 : Nat} {lq : List Q} {g : G} {p : Nat → Addr} (h : St w b1 b2 ta na ra tc nc rc g1 c1 g2 c2 g3 c3 lq g p) (hb : Below w.heap.size w w') : St w' b1 b2 ta na ra tc nc rc g1 c1 g2 c2 g3 c3 lq g p :=
  ⟨h.own.below hb (Nat.le_refl _), h.lent.below hb (Nat.le_refl _), h.row.below hb (Nat.le_refl _), h.lrow.below hb (Nat.le_refl _), h.errs.below hb (Nat.le_refl _)⟩

theorem rulesK_le (t n : Nat) : ∀ (rs : List R) (i : Nat), (rulesK t n rs i).1 ≤ 15
  | [], _ => by simp [rulesK]
  | r :: l, i => by
    unfold rulesK
    by_cases h : ruleK t n r = 0
    · rw [if_pos h]; exact rulesK_le t n l (i + 1)
    · rw [if_neg h]
      show ruleK t n r ≤ 15
      rcases ruleK_cases t n r with h | h | h <;> omega

theorem checkG_le (g : G) : (checkG g).1 ≤ 15 := by
  unfold checkG
  split
  · decide
  · split
    · decide
    · split
      · decide
      · exact rulesK_le _ _ _ _

theorem rdZ_le (g : G) : (rdZ g).1 ≤ 15 := by
  unfold rdZ
  split
  · split
    · split <;> decide
    · decide
  · exact checkG_le g

set_option maxRecDepth 100000 in
set_option maxHeartbeats 8000000 in
theorem walk (ta na ra : Option Addr) (tc nc rc : Nat) (g : G) (p : Nat → Addr) (w : World) (hL : Lendable w ta na ra tc nc g) (ho : okG g) (hE : Errs w p) :
    Calls Tryd.prog 3 #[.agg #[.slice ta g.ts.length tc, .slice na g.ns.length nc, .int .i64 g.ax, .slice ra g.rs.length rc]] w fun e w' => e = .returned (.bool true) ∧ Below w.heap.size w w' := by
  have hB0 : Below w.heap.size w (w.alloc (.cells #[.slice ta g.ts.length tc, .slice na g.ns.length nc, .int .i64 g.ax, .slice ra g.rs.length rc] 25)) := (Below.refl _ _).alloc (Nat.le_refl _) _
  have hL0 : Lendable (w.alloc (.cells #[.slice ta g.ts.length tc, .slice na g.ns.length nc, .int .i64 g.ax, .slice ra g.rs.length rc] 25)) ta na ra tc nc g := ⟨hL.ts.below hB0 (Nat.le_refl _), hL.ns.below hB0 (Nat.le_refl _), hL.rs.below hB0 (Nat.le_refl _), hL.tn, hL.nn, hL.tm, hL.nm, hL.rm, hL.each⟩
  have hlend := lentG ta na ra tc nc rc g _ hL0
  have hrow0 := GramOpen.lendable_row hL0
  have hbox0 := GBox.new w ta na ra tc nc rc g 25
  have hE0 := hE.below hB0 (Nat.le_refl _)
  have hz : (w.alloc (.cells #[.slice ta g.ts.length tc, .slice na g.ns.length nc, .int .i64 g.ax, .slice ra g.rs.length rc] 25)).heap.size = w.heap.size + 1 := by simp
  clear hL hL0 hE
  go_enter Tryd.func3, Tryd.ntmps3
  go_wp2_with fail
  refine hlend.mono ?_
  rintro e w1 ⟨⟨g1, c1, g2, c2, g3, c3, lq, rfl, hlg⟩, hb1⟩
  have hB1 : Below w.heap.size w w1 := hB0.trans (hb1.mono (by omega))
  have hbox1 := hbox0.below hb1 (Nat.le_refl _)
  have hrow1 := hrow0.below hb1 (Nat.le_refl _)
  have hE1 := hE0.below hb1 (Nat.le_refl _)
  have hbl : Below w1.heap.size w1 (w1.alloc (.cells #[.slice (some ⟨g1, 0, none⟩) g.ts.length c1, .slice (some ⟨g2, 0, none⟩) g.ns.length c2, .int .i64 g.ax, .slice (some ⟨g3, 0, none⟩) g.rs.length c3] 25)) := (Below.refl _ _).alloc (Nat.le_refl _) _
  have st : St (w1.alloc (.cells #[.slice (some ⟨g1, 0, none⟩) g.ts.length c1, .slice (some ⟨g2, 0, none⟩) g.ns.length c2, .int .i64 g.ax, .slice (some ⟨g3, 0, none⟩) g.rs.length c3] 25)) w.heap.size w1.heap.size ta na ra tc nc rc g1 c1 g2 c2 g3 c3 lq g p :=
    ⟨hbox1.below hbl (Nat.le_refl _), GBox.new w1 _ _ _ _ _ _ g _, hrow1.below hbl (Nat.le_refl _), hlg.below hbl (Nat.le_refl _), hE1.below hbl (Nat.le_refl _)⟩
  have hB3 : Below w.heap.size w (w1.alloc (.cells #[.slice (some ⟨g1, 0, none⟩) g.ts.length c1, .slice (some ⟨g2, 0, none⟩) g.ns.length c2, .int .i64 g.ax, .slice (some ⟨g3, 0, none⟩) g.rs.length c3] 25)) := hB1.alloc hB1.size _
  have htc := hlg.tc
  have hnc := hlg.nc
  clear hlend hrow0 hbox0 hE0 hlg hbox1 hrow1 hE1 hbl hB0 hB1 hb1 hz
  obtain ⟨q0, q1, q2, q3⟩ := id st.own
  obtain ⟨l0, l1, l2, l3⟩ := id st.lent
  go_wp2_with fail
  refine (text_any _ _ _ _ _ _ g p _ st.lrow.row ho (Nat.le_of_lt htc) (Nat.le_of_lt hnc) st.errs).mono ?_
  rintro e w4 ⟨⟨v, rfl, hv⟩, hb⟩
  have hB4 := hB3.trans (hb.mono hB3.size)
  replace st := st.below hb
  clear hb hB3 q0 q1 q2 q3 l0 l1 l2 l3
  obtain ⟨q0, q1, q2, q3⟩ := id st.own
  obtain ⟨l0, l1, l2, l3⟩ := id st.lent
  go_wp2_with fail
  refine (rtext_any _ _ _ _ _ _ g _ st.row ho).mono ?_
  rintro e w5 ⟨rfl, hb⟩
  have hB5 := hB4.trans (hb.mono hB4.size)
  replace st := st.below hb
  have hv5 := hv.below hb (Nat.le_refl _)
  clear hb hB4 q0 q1 q2 q3 l0 l1 l2 l3 hv
  go_wp2_with fail
  have hle := rdZ_le g
  have es := str_eq (txT g)
  have hdZ : Below w5.heap.size w5 w5.drew := ⟨rfl, rfl, rfl, Nat.le_refl w5.heap.size, fun _ _ => rfl⟩
  refine wp_region_noPanic ?_
  refine wp_region_held_drew (S := (fun w' => Below w5.heap.size w5 w')) (by kernel_rfl) hdZ (fun hHeld => ?_)
  refine wpAnyH_take (i := 0) (v := .string (txT g)) rfl (by kernel_rfl) (by kernel_rfl) (by kernel_rfl) (fun _ _ _ h => h) (Or.inl ⟨by rfl, fun w9 hSw => ?_⟩) hHeld ?_
  · go_simp
  simp only [List.getElem_toArray, List.getElem_cons_zero, Act.put, List.setIfInBounds_toArray, List.set_cons_zero, List.set_cons_succ]
  refine wpAnyH_take (i := 1) (v := .string (txT g)) rfl (by kernel_rfl) (by kernel_rfl) (by kernel_rfl) (fun _ _ _ h => h) (Or.inl ⟨by rfl, fun w9 hSw => ?_⟩) hHeld ?_
  · go_simp
  simp only [List.getElem_toArray, List.getElem_cons_zero, List.getElem_cons_succ, Act.put, List.setIfInBounds_toArray, List.set_cons_zero, List.set_cons_succ]
  refine wpAnyH_take (i := 2) (v := .bool true) rfl (by kernel_rfl) (by kernel_rfl) (by kernel_rfl) (fun _ _ _ h => h) (Or.inl ⟨by rfl, fun w9 hSw => ?_⟩) hHeld ?_
  · go_simp
  simp only [List.getElem_toArray, List.getElem_cons_zero, List.getElem_cons_succ, Act.put, List.setIfInBounds_toArray, List.set_cons_zero, List.set_cons_succ]
  refine wpAnyH_take (i := 3) (v := .bool true) rfl (by kernel_rfl) (by kernel_rfl) (by kernel_rfl) (fun _ _ _ h => h) (Or.inl ⟨by rfl, fun w9 hSw => ?_⟩) hHeld ?_
  · go_simp
  simp only [List.getElem_toArray, List.getElem_cons_zero, List.getElem_cons_succ, Act.put, List.setIfInBounds_toArray, List.set_cons_zero, List.set_cons_succ]
  refine wpAnyH_take (i := 4) (v := v) rfl (by kernel_rfl) (by kernel_rfl) (by kernel_rfl) (fun _ _ _ h => h) (Or.inl ⟨by rfl, fun w9 hSw => ?_⟩) hHeld ?_
  · go_simp
  simp only [List.getElem_toArray, List.getElem_cons_zero, List.getElem_cons_succ, Act.put, List.setIfInBounds_toArray, List.set_cons_zero, List.set_cons_succ]
  refine wpAnyH_take (i := 6) (v := .int .i64 ((rdZ g).1 : Int)) rfl (by kernel_rfl) (by kernel_rfl) (by kernel_rfl) (fun _ _ _ h => h) (Or.inl ⟨by rfl, fun w9 hSw => ?_⟩) hHeld ?_
  · go_simp
  simp only [List.getElem_toArray, List.getElem_cons_zero, List.getElem_cons_succ, Act.put, List.setIfInBounds_toArray, List.set_cons_zero, List.set_cons_succ]
  refine wpAnyH_ready (rs := [5]) (by kernel_rfl) (by simp) ?_
  refine AllReadyH.cons rfl (fun K hK => ?_) AllReadyH.nil
  go_simp
  refine (kind_ck _ p (rdZ g) _ v (st.errs.below hdZ (Nat.le_refl _)) hle (hv5.below hdZ (Nat.le_refl _))).mono ?_
  rintro e w6 ⟨rfl, hb6⟩
  have hB6 : Below w5.heap.size w5 w6 := hdZ.trans hb6
  refine hK.out _ _ hB6 (fun hH6 => ?_)
  clear hK K
  refine wpAnyH_take (i := 7) (v := .bool true) rfl (by kernel_rfl) (by kernel_rfl) (by kernel_rfl) (fun _ _ _ h => h) (Or.inl ⟨by rfl, fun w9 hSw => ?_⟩) hH6 ?_
  · go_simp
  simp only [List.getElem_toArray, List.getElem_cons_zero, List.getElem_cons_succ, Act.put, List.setIfInBounds_toArray, List.set_cons_zero, List.set_cons_succ]
  refine wpAnyH_take (i := 8) (v := .bool true) rfl (by kernel_rfl) (by kernel_rfl) (by kernel_rfl) (fun _ _ _ h => h) (Or.inl ⟨by rfl, fun w9 hSw => ?_⟩) hH6 ?_
  · go_simp
  simp only [List.getElem_toArray, List.getElem_cons_zero, List.getElem_cons_succ, Act.put, List.setIfInBounds_toArray, List.set_cons_zero, List.set_cons_succ]
  refine wpAnyH_take (i := 9) (v := .bool true) rfl (by kernel_rfl) (by kernel_rfl) (by kernel_rfl) (fun _ _ _ h => h) (Or.inl ⟨by rfl, fun w9 hSw => ?_⟩) hH6 ?_
  · go_simp
  simp only [List.getElem_toArray, List.getElem_cons_zero, List.getElem_cons_succ, Act.put, List.setIfInBounds_toArray, List.set_cons_zero, List.set_cons_succ]
  refine wpAnyH_take (i := 10) (v := (.agg #[.slice (some ⟨g1, 0, none⟩) g.ts.length c1, .slice (some ⟨g2, 0, none⟩) g.ns.length c2, .int .i64 g.ax, .slice (some ⟨g3, 0, none⟩) g.rs.length c3])) rfl (by kernel_rfl) (by kernel_rfl) (by kernel_rfl) (fun _ _ _ h => h) (Or.inl ⟨by rfl, fun w9 hSw => ?_⟩) hH6 ?_
  · obtain ⟨c0, c1, c2, c3⟩ := st.lent.below hSw (Nat.le_refl _)
    go_simp
  simp only [List.getElem_toArray, List.getElem_cons_zero, List.getElem_cons_succ, Act.put, List.setIfInBounds_toArray, List.set_cons_zero, List.set_cons_succ]
  refine wpAnyH_take (i := 13) (v := (.agg #[.slice ta g.ts.length tc, .slice na g.ns.length nc, .int .i64 g.ax, .slice ra g.rs.length rc])) rfl (by kernel_rfl) (by kernel_rfl) (by kernel_rfl) (fun _ _ _ h => h) (Or.inl ⟨by rfl, fun w9 hSw => ?_⟩) hH6 ?_
  · obtain ⟨c0, c1, c2, c3⟩ := st.own.below hSw (Nat.le_refl _)
    go_simp
  simp only [List.getElem_toArray, List.getElem_cons_zero, List.getElem_cons_succ, Act.put, List.setIfInBounds_toArray, List.set_cons_zero, List.set_cons_succ]
  refine wpAnyH_ready (rs := [11]) (by kernel_rfl) (by simp) ?_
  refine AllReadyH.cons rfl (fun K hK => ?_) AllReadyH.nil
  go_simp
  refine (readable_any _ _ _ _ _ _ g p w6 (st.lrow.row.below hB6 (Nat.le_refl _)) ho (Nat.le_of_lt htc) (Nat.le_of_lt hnc) (st.errs.below hB6 (Nat.le_refl _))).mono ?_
  rintro e w7 ⟨⟨v7, rfl, hv7⟩, hb7⟩
  have hB7 : Below w5.heap.size w5 w7 := hB6.trans (hb7.mono hB6.size)
  refine hK.out _ _ hB7 (fun hH7 => ?_)
  clear hK K
  refine wpAnyH_ready (rs := [12]) (by kernel_rfl) (by simp) ?_
  refine AllReadyH.cons rfl (fun K hK => ?_) AllReadyH.nil
  go_simp
  refine (kind_ck _ p (rdZ g) w7 v7 (st.errs.below hB7 (Nat.le_refl _)) hle hv7).mono ?_
  rintro e w8 ⟨rfl, hb8⟩
  have hB8 : Below w5.heap.size w5 w8 := hB7.trans (hb8.mono hB7.size)
  refine hK.out _ _ hB8 (fun hH8 => ?_)
  clear hK K
  refine wpAnyH_ready (rs := [14]) (by kernel_rfl) (by simp) ?_
  refine AllReadyH.cons rfl (fun K hK => ?_) AllReadyH.nil
  go_simp
  refine (rreadable_any _ _ _ _ _ _ g w8 (st.row.below hB8 (Nat.le_refl _)) ho).mono ?_
  rintro e w9 ⟨rfl, hb9⟩
  have hB9 : Below w5.heap.size w5 w9 := hB8.trans (hb9.mono hB8.size)
  refine hK.out _ _ hB9 (fun hH9 => ?_)
  clear hK K
  refine wpAnyH_take (i := 15) (v := .bool true) rfl (by kernel_rfl) (by kernel_rfl) (by kernel_rfl) (fun _ _ _ h => h) (Or.inl ⟨by rfl, fun w9 hSw => ?_⟩) hH9 ?_
  · go_simp
  simp only [List.getElem_toArray, List.getElem_cons_zero, List.getElem_cons_succ, Act.put, List.setIfInBounds_toArray, List.set_cons_zero, List.set_cons_succ]
  refine wpAnyH_take (i := 16) (v := .bool true) rfl (by kernel_rfl) (by kernel_rfl) (by kernel_rfl) (fun _ _ _ h => h) (Or.inl ⟨by rfl, fun w9 hSw => ?_⟩) hH9 ?_
  · go_simp
  simp only [List.getElem_toArray, List.getElem_cons_zero, List.getElem_cons_succ, Act.put, List.setIfInBounds_toArray, List.set_cons_zero, List.set_cons_succ]
  refine wpAnyH_take (i := 17) (v := .bool true) rfl (by kernel_rfl) (by kernel_rfl) (by kernel_rfl) (fun _ _ _ h => h) (Or.inl ⟨by rfl, fun w9 hSw => ?_⟩) hH9 ?_
  · go_simp
  simp only [List.getElem_toArray, List.getElem_cons_zero, List.getElem_cons_succ, Act.put, List.setIfInBounds_toArray, List.set_cons_zero, List.set_cons_succ]
  refine wpAnyH_take (i := 18) (v := (.agg #[.slice (some ⟨g1, 0, none⟩) g.ts.length c1, .slice (some ⟨g2, 0, none⟩) g.ns.length c2, .int .i64 g.ax, .slice (some ⟨g3, 0, none⟩) g.rs.length c3])) rfl (by kernel_rfl) (by kernel_rfl) (by kernel_rfl) (fun _ _ _ h => h) (Or.inl ⟨by rfl, fun w9 hSw => ?_⟩) hH9 ?_
  · obtain ⟨c0, c1, c2, c3⟩ := st.lent.below hSw (Nat.le_refl _)
    go_simp
  simp only [List.getElem_toArray, List.getElem_cons_zero, List.getElem_cons_succ, Act.put, List.setIfInBounds_toArray, List.set_cons_zero, List.set_cons_succ]
  refine wpAnyH_take (i := 19) (v := (.agg #[.slice ta g.ts.length tc, .slice na g.ns.length nc, .int .i64 g.ax, .slice ra g.rs.length rc])) rfl (by kernel_rfl) (by kernel_rfl) (by kernel_rfl) (fun _ _ _ h => h) (Or.inl ⟨by rfl, fun w9 hSw => ?_⟩) hH9 ?_
  · obtain ⟨c0, c1, c2, c3⟩ := st.own.below hSw (Nat.le_refl _)
    go_simp
  simp only [List.getElem_toArray, List.getElem_cons_zero, List.getElem_cons_succ, Act.put, List.setIfInBounds_toArray, List.set_cons_zero, List.set_cons_succ]
  refine wpAnyH_ready (rs := [20]) (by kernel_rfl) (by simp) ?_
  refine AllReadyH.cons rfl (fun K hK => ?_) AllReadyH.nil
  go_simp
  refine (keptG _ _ _ _ _ _ lq _ _ _ _ _ _ g w9 (st.lrow.below hB9 (Nat.le_refl _)) (st.row.below hB9 (Nat.le_refl _)) ho).mono ?_
  rintro e wA ⟨rfl, hbA⟩
  have hBA : Below w5.heap.size w5 wA := hB9.trans (hbA.mono hB9.size)
  refine hK.out _ _ hBA (fun hHA => ?_)
  clear hK K
  refine wpAnyH_take (i := 21) (v := .bool true) rfl (by kernel_rfl) (by kernel_rfl) (by kernel_rfl) (fun _ _ _ h => h) (Or.inl ⟨by rfl, fun w9 hSw => ?_⟩) hHA ?_
  · go_simp
  simp only [List.getElem_toArray, List.getElem_cons_zero, List.getElem_cons_succ, Act.put, List.setIfInBounds_toArray, List.set_cons_zero, List.set_cons_succ]
  refine wpAnyH_ready (rs := [22]) (by kernel_rfl) (by simp) ?_
  refine AllReadyH.cons rfl (fun K hK => ?_) AllReadyH.nil
  go_simp
  refine hK.out _ _ hBA (fun hHB => ?_)
  clear hK K
  refine wpAnyH_done (by kernel_rfl) (NoPanic.normal ?_) _
  go_wp2
  go_ret
  exact ⟨rfl, hB5.trans (hBA.mono hB5.size)⟩

end Go.Proofs.YtkbljcfkokiceaaDoor.ShowTextsW
