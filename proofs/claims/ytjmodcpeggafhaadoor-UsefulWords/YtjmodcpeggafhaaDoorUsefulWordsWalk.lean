/-
  The walk of UsefulWords: it answers true for every grammar and number, and writes nothing that was there.
-/
import Derived.Test.YtjmodcpeggafhaaDoorUsefulRWord
import Derived.Test.YtjmodcpeggafhaaDoorGramRuleOf
import Derived.Test.YtjmodcpeggafhaaDoorUsefulOpen
import Derived.Test.YtjmodcpeggafhaaDoorGramLentG
import Derived.Test.YtjmodcpeggafhaaDoorGramOpenL
namespace Go.Proofs.YtjmodcpeggafhaaDoor.UsefulWordsW
open Go.RowKit Go.Proofs.YtjmodcpeggafhaaDoor.GramMath Go.Proofs.YtjmodcpeggafhaaDoor.GramRow Go.Proofs.YtjmodcpeggafhaaDoor.SetsMath Go.Proofs.YtjmodcpeggafhaaDoor.SetsAlg Go.Proofs.YtjmodcpeggafhaaDoor.UsefulMath Go.Proofs.YtjmodcpeggafhaaDoor.UsefulTop Go.Proofs.YtjmodcpeggafhaaDoor.UsefulShort Go.Proofs.YtjmodcpeggafhaaDoor.UsefulRShort Go.Proofs.YtjmodcpeggafhaaDoor.UsefulWord Go.Proofs.YtjmodcpeggafhaaDoor.UsefulRWord Go.Proofs.YtjmodcpeggafhaaDoor.GramLent Go.Proofs.YtjmodcpeggafhaaDoor.GramErrs Go.Proofs.YtjmodcpeggafhaaDoor.OpRow Go.Proofs.YtjmodcpeggafhaaDoor.GramApart
set_option linter.unusedVariables false

theorem row_of_irow {w : World} {a : Option Addr} {zs : List Int} (h : IRow w a zs) : SetsMany.Row .i64 w a zs.length zs := fun i hi => by
  obtain ⟨x, hx⟩ : ∃ x, zs[i]? = some x := ⟨zs[i], List.getElem?_eq_getElem hi⟩
  obtain ⟨b, off, ha, hc⟩ := h i x hx
  refine ⟨b, off, ha, ?_⟩
  rw [List.getD_eq_getElem?_getD, hx]
  exact hc

def ShortRow (g : G) (zs : List Int) : Prop := ((checkG g).1 ≠ 0 ∧ zs = []) ∨ ((checkG g).1 = 0 ∧ Short g.rs g.ns.length zs)
theorem ShortRow.eq {g : G} {a b : List Int} (h : ShortRow g a) (h' : ShortRow g b) : a = b := by
  rcases h with ⟨h0, rfl⟩ | ⟨h0, h⟩
  · rcases h' with ⟨_, rfl⟩ | ⟨h1, _⟩
    · rfl
    · exact absurd h1 h0
  · rcases h' with ⟨h1, _⟩ | ⟨_, h'⟩
    · exact absurd h0 h1
    · exact h.eq (good_of h0).okRs h'
theorem ShortRow.len {g : G} {a : List Int} (h : ShortRow g a) : a.length ≤ 60 := by
  rcases h with ⟨_, rfl⟩ | ⟨h0, h⟩
  · simp
  · rw [h.1.1]; exact (good_of h0).okRs.1
def WordRow (g : G) (k : Int) (zs : List Int) : Prop := ((wordZ g k).1 ≠ 0 ∧ zs = []) ∨ ((wordZ g k).1 = 0 ∧ IsWord g.rs k zs)
theorem word_good {g : G} {k : Int} (h : (wordZ g k).1 = 0) : (checkG g).1 = 0 ∧ 0 ≤ k := by
  unfold wordZ at h
  split at h
  · rename_i h1; exact absurd h h1
  · rename_i h1
    split at h
    · cases h
    · rename_i h2
      exact ⟨Classical.not_not.1 h1, (Classical.not_not.1 h2).1⟩
theorem WordRow.eq {g : G} {k : Int} {a b : List Int} (h : WordRow g k a) (h' : WordRow g k b) : a = b := by
  rcases h with ⟨h0, rfl⟩ | ⟨h0, h⟩
  · rcases h' with ⟨_, rfl⟩ | ⟨h1, _⟩
    · rfl
    · exact absurd h1 h0
  · rcases h' with ⟨h1, _⟩ | ⟨_, h'⟩
    · exact absurd h0 h1
    · have hg := good_of (word_good h0).1
      exact h.eq hg.okRs (by have := hg.few; omega) (word_good h0).2 h'
theorem word_le (g : G) (k : Int) : (wordZ g k).1 ≤ 15 := by
  unfold wordZ
  split
  · exact check_le g
  · split
    · decide
    · split
      · decide
      · split <;> decide

theorem short_form {w0 w' : World} {p : Nat → Addr} {g : G} {e : Ending} (h : ShortV w0 w' p g e) : ∃ a c zs v, e = .returned (.tuple #[.slice a zs.length c, v]) ∧ IRow w' a zs ∧ CkV w0.heap.size p (checkG g) w' v ∧ ShortRow g zs := by
  obtain ⟨v, hv, ⟨h0, rfl⟩ | ⟨h0, d, ls, rfl, _, hrow, hS⟩⟩ := h
  · exact ⟨none, 0, [], v, rfl, (fun i x hx => by simp at hx), hv, .inl ⟨h0, rfl⟩⟩
  · exact ⟨some ⟨d, 0, none⟩, g.ns.length, ls, v, by rw [hS.1.1], intsA_row hrow, hv, .inr ⟨h0, hS⟩⟩
theorem rshort_form {w0 w' : World} {g : G} {e : Ending} (h : RShortV w0 w' g e) : ∃ a c zs, e = .returned (.tuple #[.slice a zs.length c, .int .i64 ((checkG g).1 : Int)]) ∧ IRow w' a zs ∧ ShortRow g zs := by
  rcases h with ⟨h0, rfl⟩ | ⟨h0, d, ls, rfl, _, hrow, hS⟩
  · exact ⟨none, 0, [], rfl, (fun i x hx => by simp at hx), .inl ⟨h0, rfl⟩⟩
  · exact ⟨some ⟨d, 0, none⟩, g.ns.length, ls, by rw [hS.1.1, h0]; rfl, intsA_row hrow, .inr ⟨h0, hS⟩⟩
theorem word_form {w0 w' : World} {p : Nat → Addr} {g : G} {k : Int} {e : Ending} (h : WordV w0 w' p g k e) : ∃ a c zs v, e = .returned (.tuple #[.slice a zs.length c, v]) ∧ IRow w' a zs ∧ CkV w0.heap.size p (wordZ g k) w' v ∧ WordRow g k zs ∧ zs.length ≤ 65536 := by
  obtain ⟨v, hv, ⟨h0, rfl⟩ | ⟨h0, a, c, row, rfl, hrow, _, hl, hS⟩⟩ := h
  · exact ⟨none, 0, [], v, rfl, (fun i x hx => by simp at hx), hv, .inl ⟨h0, rfl⟩, by simp⟩
  · exact ⟨a, c, row, v, rfl, hrow, hv, .inr ⟨h0, hS⟩, hl⟩
theorem rword_form {w0 w' : World} {g : G} {k : Int} {e : Ending} (h : RWordV w0 w' g k e) : ∃ a c zs, e = .returned (.tuple #[.slice a zs.length c, .int .i64 ((wordZ g k).1 : Int)]) ∧ IRow w' a zs ∧ WordRow g k zs := by
  rcases h with ⟨h0, rfl⟩ | ⟨h0, a, c, row, rfl, hrow, hl, hS⟩
  · exact ⟨none, 0, [], rfl, (fun i x hx => by simp at hx), .inl ⟨h0, rfl⟩⟩
  · exact ⟨some a, c, row, by rw [h0]; rfl, hrow, .inr ⟨h0, hS⟩⟩

set_option maxRecDepth 100000 in
set_option maxHeartbeats 4000000 in
theorem walk (ta na ra : Option Addr) (tc nc rc : Nat) (g : G) (k : Int) (p : Nat → Addr) (w : World) (hL : Lendable w ta na ra tc nc g) (hg : okG g) (hk : I64 k) (hE : Errs w p) (hT : Tab w) (hGl : 15 < w.heap.size) :
    Calls Tryd.prog 5 #[.agg #[.slice ta g.ts.length tc, .slice na g.ns.length nc, .int .i64 g.ax, .slice ra g.rs.length rc], .int .i64 k] w fun e w' => e = .returned (.bool true) ∧ Below w.heap.size w w' := by
  have hG := GramOpen.lendable_row hL
  have hB1 : Below w.heap.size w (w.alloc (.cells #[.slice ta g.ts.length tc, .slice na g.ns.length nc, .int .i64 g.ax, .slice ra g.rs.length rc] 25)) := (Below.refl _ _).alloc (Nat.le_refl _) _
  have hbx1 := rowNew w #[.slice ta g.ts.length tc, .slice na g.ns.length nc, .int .i64 g.ax, .slice ra g.rs.length rc] 25
  have hL1 : Lendable (w.alloc (.cells #[.slice ta g.ts.length tc, .slice na g.ns.length nc, .int .i64 g.ax, .slice ra g.rs.length rc] 25)) ta na ra tc nc g := ⟨hL.ts.below hB1 (Nat.le_refl _), hL.ns.below hB1 (Nat.le_refl _), hL.rs.below hB1 (Nat.le_refl _), hL.tn, hL.nn, hL.tm, hL.nm, hL.rm, hL.each⟩
  have hlend := lentG ta na ra tc nc rc g _ hL1
  go_enter Tryd.func5, Tryd.ntmps5
  go_wp2_with fail
  refine hlend.mono ?_
  rintro e w1 ⟨⟨g1, c1, g2, c2, g3, c3, lq, rfl, hlg⟩, hb1⟩
  have hB2 := hB1.trans (hb1.mono hB1.size)
  have hbx2 := hbx1.below hb1 hbx1.lt
  clear hlend hL1 hL hbx1 hB1 hb1
  have hBn : Below w1.heap.size w1 (w1.alloc (.cells #[.slice (some ⟨g1, 0, none⟩) g.ts.length c1, .slice (some ⟨g2, 0, none⟩) g.ns.length c2, .int .i64 g.ax, .slice (some ⟨g3, 0, none⟩) g.rs.length c3] 25)) := (Below.refl _ _).alloc (Nat.le_refl _) _
  have hin2 := rowNew w1 #[.slice (some ⟨g1, 0, none⟩) g.ts.length c1, .slice (some ⟨g2, 0, none⟩) g.ns.length c2, .int .i64 g.ax, .slice (some ⟨g3, 0, none⟩) g.rs.length c3] 25
  have hlg2 := hlg.below hBn (Nat.le_refl _)
  have hB3 := hB2.trans (hBn.mono hB2.size)
  have hbx3 := hbx2.alloc (.cells #[.slice (some ⟨g1, 0, none⟩) g.ts.length c1, .slice (some ⟨g2, 0, none⟩) g.ns.length c2, .int .i64 g.ax, .slice (some ⟨g3, 0, none⟩) g.rs.length c3] 25)
  have htc := Nat.le_of_lt hlg.tc
  have hnc := Nat.le_of_lt hlg.nc
  clear hbx2 hlg hBn hB2
  have hck := shortest_top (some ⟨g1, 0, none⟩) (some ⟨g2, 0, none⟩) (some ⟨g3, 0, none⟩) c1 c2 c3 g p _ hlg2.row hg htc hnc (fun h => by cases h) (hE.sents.below hB3 (Nat.le_refl _))
  go_wp2_with fail
  refine hck.mono ?_
  rintro e w3 ⟨hsv, hb⟩
  obtain ⟨aA, cA, zA, v0, rfl, hrA, hv0, hsA⟩ := short_form hsv
  clear hsv
  have hB4 := hB3.trans (hb.mono hB3.size)
  have hbx4 := hbx3.below hb hbx3.lt
  have hin4 := hin2.below hb hin2.lt
  have hlg4 := hlg2.below hb (Nat.le_refl _)
  clear hck hB3 hbx3 hin2 hlg2 hb
  have a0 := hbx4.cell (q := 0) rfl
  have a1 := hbx4.cell (q := 1) rfl
  have a2 := hbx4.cell (q := 2) rfl
  have a3 := hbx4.cell (q := 3) rfl
  have hck := rshortest_any ta na ra tc nc rc g _ (hG.below hB4 (Nat.le_refl _)) hg
  go_wp2_with fail
  refine hck.mono ?_
  rintro e w4 ⟨hsv, hb⟩
  obtain ⟨aB, cB, zB, rfl, hrB, hsB⟩ := rshort_form hsv
  obtain rfl := hsA.eq hsB
  have hlA := hsA.len
  clear hsv a0 a1 a2 a3
  have hB5 := hB4.trans (hb.mono hB4.size)
  have hbx5 := hbx4.below hb hbx4.lt
  have hin5 := hin4.below hb hin4.lt
  have hlg5 := hlg4.below hb (Nat.le_refl _)
  replace hrA := hrA.below hb (Nat.le_refl _)
  replace hv0 := hv0.below hb (Nat.le_refl _)
  clear hck hB4 hbx4 hin4 hlg4 hb
  have b0 := hin5.cell (q := 0) rfl
  have b1 := hin5.cell (q := 1) rfl
  have b2 := hin5.cell (q := 2) rfl
  have b3 := hin5.cell (q := 3) rfl
  have hck := word_top (some ⟨g1, 0, none⟩) (some ⟨g2, 0, none⟩) (some ⟨g3, 0, none⟩) c1 c2 c3 g k p _ hlg5.row hg htc hnc (fun h => by cases h) (hE.below hB5 (Nat.le_refl _)) (SetsEach.Tab.from hT hB5 hGl) (by have := hB5.size; omega) hk
  go_wp2_with fail
  refine hck.mono ?_
  rintro e w5 ⟨hsv, hb⟩
  obtain ⟨aX, cX, zX, v1, rfl, hrX, hv1, hsX, hlX⟩ := word_form hsv
  clear hsv b0 b1 b2 b3
  have hB6 := hB5.trans (hb.mono hB5.size)
  have hbx6 := hbx5.below hb hbx5.lt
  have hin6 := hin5.below hb hin5.lt
  have hlg6 := hlg5.below hb (Nat.le_refl _)
  replace hrA := hrA.below hb (Nat.le_refl _)
  replace hrB := hrB.below hb (Nat.le_refl _)
  replace hv0 := hv0.below hb (Nat.le_refl _)
  clear hck hB5 hbx5 hin5 hlg5 hb
  have a0 := hbx6.cell (q := 0) rfl
  have a1 := hbx6.cell (q := 1) rfl
  have a2 := hbx6.cell (q := 2) rfl
  have a3 := hbx6.cell (q := 3) rfl
  have hck := rword_any ta na ra tc nc rc g k _ (hG.below hB6 (Nat.le_refl _)) hg hk
  go_wp2_with fail
  refine hck.mono ?_
  rintro e w6 ⟨hsv, hb⟩
  obtain ⟨aY, cY, zY, rfl, hrY, hsY⟩ := rword_form hsv
  obtain rfl := hsX.eq hsY
  clear hsv a0 a1 a2 a3
  have hB7 := hB6.trans (hb.mono hB6.size)
  have hbx7 := hbx6.below hb hbx6.lt
  have hin7 := hin6.below hb hin6.lt
  have hlg7 := hlg6.below hb (Nat.le_refl _)
  replace hrA := hrA.below hb (Nat.le_refl _)
  replace hrB := hrB.below hb (Nat.le_refl _)
  replace hrX := hrX.below hb (Nat.le_refl _)
  replace hv0 := hv0.below hb (Nat.le_refl _)
  replace hv1 := hv1.below hb (Nat.le_refl _)
  clear hck hB6 hbx6 hin6 hlg6 hb
  have hck := kind_ck _ p (checkG g) w6 v0 (hE.below hB7 (Nat.le_refl _)) (check_le g) hv0
  go_wp2_with fail
  refine hck.mono ?_
  rintro e w7 ⟨rfl, hb⟩
  have hB8 := hB7.trans (hb.mono hB7.size)
  have hbx8 := hbx7.below hb hbx7.lt
  have hin8 := hin7.below hb hin7.lt
  have hlg8 := hlg7.below hb (Nat.le_refl _)
  replace hrA := hrA.below hb (Nat.le_refl _)
  replace hrB := hrB.below hb (Nat.le_refl _)
  replace hrX := hrX.below hb (Nat.le_refl _)
  replace hrY := hrY.below hb (Nat.le_refl _)
  replace hv1 := hv1.below hb (Nat.le_refl _)
  clear hck hB7 hbx7 hin7 hlg7 hb
  have hck := SetsMany.ints_same aA aB zA.length cA cB zA _ (row_of_irow hrA) (row_of_irow hrB) (by omega)
  go_wp2_with fail
  refine hck.mono ?_
  rintro e w8 ⟨rfl, q8, hw8⟩
  have hb : Below w7.heap.size w7 w8 := by rw [hw8]; exact bdrew (Below.refl _ _) q8
  clear hw8
  have hB9 := hB8.trans (hb.mono hB8.size)
  have hbx9 := hbx8.below hb hbx8.lt
  have hin9 := hin8.below hb hin8.lt
  have hlg9 := hlg8.below hb (Nat.le_refl _)
  replace hrX := hrX.below hb (Nat.le_refl _)
  replace hrY := hrY.below hb (Nat.le_refl _)
  replace hv1 := hv1.below hb (Nat.le_refl _)
  clear hck hB8 hbx8 hin8 hlg8 hb
  have hck := kind_ck _ p (wordZ g k) w8 v1 (hE.below hB9 (Nat.le_refl _)) (word_le g k) hv1
  go_wp2_with fail
  refine hck.mono ?_
  rintro e w9 ⟨rfl, hb⟩
  have hB10 := hB9.trans (hb.mono hB9.size)
  have hbx10 := hbx9.below hb hbx9.lt
  have hin10 := hin9.below hb hin9.lt
  have hlg10 := hlg9.below hb (Nat.le_refl _)
  replace hrX := hrX.below hb (Nat.le_refl _)
  replace hrY := hrY.below hb (Nat.le_refl _)
  clear hck hB9 hbx9 hin9 hlg9 hb
  have hck := SetsMany.ints_same aX aY zX.length cX cY zX _ (row_of_irow hrX) (row_of_irow hrY) (by omega)
  go_wp2_with fail
  refine hck.mono ?_
  rintro e w10 ⟨rfl, q10, hw10⟩
  have hb : Below w9.heap.size w9 w10 := by rw [hw10]; exact bdrew (Below.refl _ _) q10
  clear hw10
  have hB11 := hB10.trans (hb.mono hB10.size)
  have hbx11 := hbx10.below hb hbx10.lt
  have hin11 := hin10.below hb hin10.lt
  have hlg11 := hlg10.below hb (Nat.le_refl _)
  clear hck hB10 hbx10 hin10 hlg10 hb
  have a0 := hbx11.cell (q := 0) rfl
  have a1 := hbx11.cell (q := 1) rfl
  have a2 := hbx11.cell (q := 2) rfl
  have a3 := hbx11.cell (q := 3) rfl
  have b0 := hin11.cell (q := 0) rfl
  have b1 := hin11.cell (q := 1) rfl
  have b2 := hin11.cell (q := 2) rfl
  have b3 := hin11.cell (q := 3) rfl
  have hkept := keptG g1 c1 g2 c2 g3 c3 lq ta na ra tc nc rc g w10 hlg11 (hG.below hB11 (Nat.le_refl _)) hg
  go_wp2_with fail
  refine hkept.mono ?_
  rintro e w12 ⟨rfl, hb⟩
  have hBe := hB11.trans (hb.mono hB11.size)
  go_wp2
  go_ret
  exact ⟨rfl, hBe⟩

end Go.Proofs.YtjmodcpeggafhaaDoor.UsefulWordsW
