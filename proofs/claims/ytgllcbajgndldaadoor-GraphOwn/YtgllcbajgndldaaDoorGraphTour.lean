/-
  The program's tours: which nodes are met from some nodes on.
-/
import Derived.Test.YtgllcbajgndldaaDoorGraphRepeat
namespace Go.Proofs.YtgllcbajgndldaaDoor.GraphFn
open Go.RowKit Go.Proofs.YtgllcbajgndldaaDoor.GramMath Go.Proofs.YtgllcbajgndldaaDoor.GramRow Go.Proofs.YtgllcbajgndldaaDoor.GramApart Go.Proofs.YtgllcbajgndldaaDoor.GraphMath Go.Proofs.YtgllcbajgndldaaDoor.OpRow
set_option linter.unusedVariables false
set_option linter.unusedSimpArgs false

theorem infoInt : (Tryd.prog.info? 3).map (fun i => (i.zero, i.size, i.bytes)) = some (some (.int .i64 0), 1, 8) := by kernel_rfl

/-- A tour in memory that only its own blocks changed: the box, what is ahead, and new ones. -/
structure TourIn (w0 w : World) (bt ba m : Nat) (t : Tr) (v : Value) : Prop where
  at_ : TourAt w bt ba w0.heap.size m t v
  but : But (fun b => b = bt ∨ b = ba) w0 w
  ne : bt ≠ ba
  lt : bt < w0.heap.size ∧ ba < w0.heap.size

theorem ints_vals (l : List Nat) : ((ints l).map (Value.int .i64)).length = l.length := by simp [ints]

theorem TourIn.met {w0 w : World} {bt ba m : Nat} {t : Tr} {v v' : Value} {x a : Nat} {w' : World} (h : TourIn w0 w bt ba m t v) (hx : x < m) (hu : t.ahead x = -1)
    (hown : w'.ownsRow w0.heap.size 3 1 v' (t.nodes.length + 1) ((ints t.nodes).map (Value.int .i64) ++ [.int .i64 (x : Int)])) (hg : (w.alloc (.cells #[.int .i64 (x : Int)] 3)).grownBy w' v.ownBlock) :
    TourIn w0 ((w'.setCell ⟨bt, 0, none⟩ v').setCell ⟨ba, x, none⟩ (.int .i64 (a : Int))) bt ba m (meet t x a) v' := by
  obtain ⟨⟨hbox, hah, hnd⟩, hbut, hne, hl1, hl2⟩ := h
  have hsz := hbut.size
  have hblk : ∀ b, b < w0.heap.size → w'.heap[b]? = w.heap[b]? := fun b hb => by
    rw [hg.block b (by simp; omega) (fun e => by have := (hnd.lt b e.symm).1; omega)]
    exact Below.heap_alloc w _ b (by omega)
  have e0 : meet t x a = ⟨t.nodes ++ [x], updA t.ahead x a⟩ := by unfold GraphMath.meet; rw [if_pos hu]
  rw [e0]
  have hbt : RowAt w' bt 61 #[v, .slice (some ⟨ba, 0, none⟩) m m] := (hblk bt hl1).trans hbox
  refine ⟨⟨?_, fun i hi => ?_, ?_⟩, ?_, hne, hl1, hl2⟩
  · have h1 := hbt.set 0 v'
    have h2 := h1.other hne x (.int .i64 (a : Int))
    simpa using h2
  · have hc : w'.cell? ⟨ba, i, none⟩ = some (.int .i64 (t.ahead i)) := (World.cell?_of_block (a := ⟨ba, i, none⟩) (hblk ba hl2)).trans (hah i hi).1
    have hf : w'.frozen? ⟨ba, i, none⟩ = false := (World.frozen?_of_block (a := ⟨ba, i, none⟩) (hblk ba hl2)).trans (hah i hi).2
    have hc2 : (w'.setCell ⟨bt, 0, none⟩ v').cell? ⟨ba, i, none⟩ = some (.int .i64 (t.ahead i)) := by
      rw [World.cell?_setCell_other (h := show (⟨bt, 0, none⟩ : Addr) ≠ ⟨ba, i, none⟩ from fun h => hne (by cases h; rfl))]
      exact hc
    refine ⟨?_, by rw [World.frozen?_setCell, World.frozen?_setCell]; exact hf⟩
    dsimp only
    by_cases e : i = x
    · subst e
      rw [updA_at]
      exact World.cell?_setCell_same (h := hc2) ..
    · rw [updA_ne _ _ e, World.cell?_setCell_other (h := show (⟨ba, x, none⟩ : Addr) ≠ ⟨ba, i, none⟩ from fun h => e (by cases h; rfl))]
      exact hc2
  · have e1 : ((ints (t.nodes ++ [x])).map (Value.int .i64)) = (ints t.nodes).map (Value.int .i64) ++ [.int .i64 (x : Int)] := by simp [ints]
    dsimp only
    rw [e1, List.length_append]
    rcases hown with ⟨h0, h1 | ⟨g, cap, cur, rfl, h3, h4, h5, h6, h7, h8⟩⟩
    · exact absurd h1.2 (by omega)
    · refine ⟨h0, .inr ⟨g, cap, cur, rfl, h3, ?_, h5, h6, h7, h8⟩⟩
      rw [Below.heap_setCell _ _ _ _ (by show g ≠ ba; omega), Below.heap_setCell _ _ _ _ (by show g ≠ bt; omega)]
      exact h4
  · have hb1 : But (fun b => b = bt ∨ b = ba) w0 w' := ⟨hg.os.trans hbut.os, hg.tape.trans hbut.tape, hg.output.trans hbut.output, by have := hg.size; simp at this; omega, fun k hk hs => (hblk k hk).trans (hbut.block k hk hs)⟩
    exact (hb1.setCell (p := ⟨bt, 0, none⟩) (.inl rfl) _).setCell (p := ⟨ba, x, none⟩) (.inr rfl) _

theorem TourIn.below {w0 w w1 : World} {bt ba m : Nat} {t : Tr} {v : Value} (h : TourIn w0 w bt ba m t v) (hb : Below w.heap.size w w1) : TourIn w0 w1 bt ba m t v := by
  have hs := h.but.size
  have hl1 := h.lt.1
  have hl2 := h.lt.2
  refine ⟨⟨h.at_.box.below hb (by omega), fun i hi => ⟨(hb.cell (p := ⟨ba, i, none⟩) (by show ba < _; omega)).trans (h.at_.ahead i hi).1, (hb.frozen (p := ⟨ba, i, none⟩) (by show ba < _; omega)).trans (h.at_.ahead i hi).2⟩, ?_⟩, h.but.on hb, h.ne, h.lt⟩
  rcases h.at_.nodes with ⟨h0, h1 | ⟨g, cap, cur, rfl, h3, h4, h5, h6, h7, h8⟩⟩
  · exact ⟨h0, .inl h1⟩
  · exact ⟨h0, .inr ⟨g, cap, cur, rfl, h3, (hb.block g (Array.getElem?_eq_some_iff.1 h4).1).trans h4, h5, h6, h7, h8⟩⟩

set_option maxRecDepth 100000 in
set_option maxHeartbeats 2000000 in
theorem meet_any (w0 w : World) (bt ba m : Nat) (t : Tr) (v : Value) (x a : Nat) (h : TourIn w0 w bt ba m t v) (hx : x < m) (hm : m ≤ 256) (hlen : t.nodes.length ≤ m) :
    Calls Tryd.prog 39 #[.pointer (some ⟨bt, 0, none⟩), .int .i64 (x : Int), .int .i64 (a : Int)] w fun e w' => e = .returned (.tuple #[]) ∧ ∃ v', TourIn w0 w' bt ba m (meet t x a) v' := by
  obtain ⟨i0, hi, hz0, hz1, hz2⟩ := info_parts infoInt
  have c0 : w.cell? ⟨bt, 0, none⟩ = some v := h.at_.box.cell rfl
  have c1 : w.cell? ⟨bt, 1, none⟩ = some (.slice (some ⟨ba, 0, none⟩) m m) := h.at_.box.cell rfl
  have hmet := met_any v ba m t.ahead x w hx (fun i hi => (h.at_.ahead i hi).1) hm
  by_cases hu : t.ahead x = -1
  · have hd : (t.ahead x != -1) = false := by rw [hu]; rfl
    rw [hd] at hmet
    have hx2 : (x : Int) < (m : Int) := by omega
    have HT : Hid (∀ w1, Below w.heap.size w w1 → TourIn w0 w1 bt ba m t v) := fun w1 hb => h.below hb
    have Hu : Hid (t.ahead x = -1) := hu
    clear h hu hd
    go_enter Tryd.func39, Tryd.ntmps39
    go_wp2_with fail
    refine hmet.mono ?_
    rintro e w1 ⟨rfl, hb1⟩
    have h1 := HT.out w1 hb1
    have hs1 := h1.but.size
    have hl1 := h1.lt.1
    have hl2 := h1.lt.2
    have d0 : w1.cell? ⟨bt, 0, none⟩ = some v := h1.at_.box.cell rfl
    have hnd := h1.at_.nodes
    have HF : Hid (∀ v2 w2, World.ownsRow w2 w0.heap.size 3 1 v2 (t.nodes.length + 1) ((ints t.nodes).map (Value.int .i64) ++ [.int .i64 (x : Int)]) → (w1.alloc (.cells #[.int .i64 (x : Int)] 3)).grownBy w2 v.ownBlock → ((w2.cell? ⟨bt, 0, none⟩ = some v ∧ w2.frozen? ⟨bt, 0, none⟩ = false) ∧ (w2.setCell ⟨bt, 0, none⟩ v2).cell? ⟨bt, 1, none⟩ = some (.slice (some ⟨ba, 0, none⟩) m m) ∧ (w2.setCell ⟨bt, 0, none⟩ v2).cell? ⟨ba, x, none⟩ = some (.int .i64 (-1)) ∧ (w2.setCell ⟨bt, 0, none⟩ v2).frozen? ⟨ba, x, none⟩ = false) ∧ TourIn w0 ((w2.setCell ⟨bt, 0, none⟩ v2).setCell ⟨ba, x, none⟩ (.int .i64 (a : Int))) bt ba m (meet t x a) v2) := fun v2 w2 ho hg => by
      have hblk : ∀ b, b < w0.heap.size → w2.heap[b]? = w1.heap[b]? := fun b hb => by
        rw [hg.block b (by simp; omega) (fun e => by have := (hnd.lt b e.symm).1; omega)]
        exact Below.heap_alloc w1 _ b (by omega)
      have hbt : RowAt w2 bt 61 #[v, .slice (some ⟨ba, 0, none⟩) m m] := (hblk bt hl1).trans h1.at_.box
      have hca := h1.at_.ahead x hx
      rw [Hu.out] at hca
      refine ⟨⟨⟨hbt.cell rfl, hbt.frozen 0⟩, (hbt.set 0 v2).cell rfl, ?_, ?_⟩, h1.met hx Hu.out ho hg⟩
      · rw [World.cell?_setCell_other (h := show (⟨bt, 0, none⟩ : Addr) ≠ ⟨ba, x, none⟩ from fun h => h1.ne (by cases h; rfl)), World.cell?_of_block (a := ⟨ba, x, none⟩) (hblk ba hl2)]
        exact hca.1
      · rw [World.frozen?_setCell, World.frozen?_of_block (a := ⟨ba, x, none⟩) (hblk ba hl2)]
        exact hca.2
    have hlw1 : bt < w1.heap.size := by omega
    clear h1 HT hmet c0 c1 hb1
    go_wp2_with (at_builtin; refine wpList_append_own _ rfl (.tmp 16) (.tmp 18) 24 rfl w0.heap.size 3 i0 (.int .i64 0) 1 8 Tryd.underlying24 hi hz0 hz1 hz2 rfl (by decide) _ _ _ rfl (hnd.alloc _) ⟨w1.heap.size, 0, none⟩ 1 1 [.int .i64 (x : Int)] rfl rfl (cell_one_new _ _ _) (by simp [Value.oneCell']) (by unfold maxLen; omega) (by omega) (by simp; omega) ?_; intro v2 w2 hown2 hgrow2 _; obtain ⟨g2, c2, rfl⟩ := ownsRow_succ hown2; obtain ⟨⟨⟨y0, y1⟩, y2, y3, y4⟩, HM⟩ := HF.out _ w2 hown2 hgrow2; replace HM : Hid (_) := HM; clear HF hown2 hgrow2 hnd d0)
    go_end0
    exact ⟨rfl, _, HM.out⟩
  · have hd : (t.ahead x != -1) = true := by simpa using hu
    rw [hd] at hmet
    have E : Hid (meet t x a = t) := by show _ = _; unfold GraphMath.meet; rw [if_neg hu]
    have HT : Hid (∀ w1, Below w.heap.size w w1 → TourIn w0 w1 bt ba m t v) := fun w1 hb => h.below hb
    clear h hu hd
    go_enter Tryd.func39, Tryd.ntmps39
    go_wp2_with fail
    refine hmet.mono ?_
    rintro e w1 ⟨rfl, hb1⟩
    have h1 : Hid (_) := HT.out w1 hb1
    clear hb1 HT
    go_wp2
    go_end0
    exact ⟨rfl, v, by rw [E.out]; exact h1.out⟩

end Go.Proofs.YtgllcbajgndldaaDoor.GraphFn
