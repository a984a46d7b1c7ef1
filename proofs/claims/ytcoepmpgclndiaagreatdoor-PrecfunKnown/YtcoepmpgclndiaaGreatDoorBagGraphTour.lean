/-
  Texts that stand together: GraphTour, GraphNet.
-/
import Derived.Test.YtcoepmpgclndiaaGreatDoorBGraphRepeat
import Derived.Test.YtcoepmpgclndiaaGreatDoorBagGraphSort
import Derived.Deep.AppendLies
namespace Go.Proofs.YtcoepmpgclndiaaGreatDoor.GraphFn
open Go.RowKit Go.Proofs.YtcoepmpgclndiaaGreatDoor.GramMath Go.Proofs.YtcoepmpgclndiaaGreatDoor.GramRow Go.Proofs.YtcoepmpgclndiaaGreatDoor.GramApart Go.Proofs.YtcoepmpgclndiaaGreatDoor.GraphMath Go.Proofs.YtcoepmpgclndiaaGreatDoor.OpRow
set_option linter.unusedVariables false
set_option linter.unusedSimpArgs false

theorem infoInt : (Tryz.prog.info? 3).map (fun i => (i.zero, i.size, i.bytes)) = some (some (.int .i64 0), 1, 8) := by kernel_rfl

/-- A tour in memory that only its own blocks changed: the box, what is ahead, and new ones. -/
structure TourIn (w0 w : World) (bt ba m : Nat) (t : Tr) (v : Value) : Prop where
  at_ : TourAt w bt ba w0.heap.size m t v
  but : But (fun b => b = bt ∨ b = ba) w0 w
  ne : bt ≠ ba
  lt : bt < w0.heap.size ∧ ba < w0.heap.size

theorem TourIn.met {w0 w : World} {bt ba m : Nat} {t : Tr} {v v' : Value} {x a : Nat} {w' : World} (h : TourIn w0 w bt ba m t v) (hx : x < m) (hu : t.ahead x = -1)
    (hown : w'.ownsRow w0.heap.size 3 1 v' (t.nodes.length + 1) ((ints t.nodes).map (Value.int .i64) ++ [.int .i64 (x : Int)])) (hg : (w.alloc (.cells #[.int .i64 (x : Int)] 3)).grownBy w' v.ownBlock) :
    TourIn w0 ((w'.setCell ⟨bt, 0, none⟩ v').setCell ⟨ba, x, none⟩ (.int .i64 (a : Int))) bt ba m (meet t x a) v' := by
  obtain ⟨⟨hbox, hah, hnd⟩, hbut, hne, hl1, hl2⟩ := h
  have hsz := hbut.size
  have hblk : ∀ b, b < w0.heap.size → w'.heap[b]? = w.heap[b]? := fun b hb => by
    rw [hg.block b (by simp; omega) (fun e => by have := (hnd.lt b e.symm).1; omega)]
    exact Below.heap_alloc w _ b (by omega)
  have e0 : meet t x a = ⟨t.nodes ++ [x], updA t.ahead x a⟩ := by unfold GraphMath.meet; rw [if_pos hu]
  rw [e0]
  have hbt : RowAt w' bt 146 #[v, .slice (some ⟨ba, 0, none⟩) m m] := (hblk bt hl1).trans hbox
  refine ⟨⟨?_, fun i hi => ?_, ?_⟩, ?_, hne, hl1, hl2⟩
  · have h1 := hbt.set 0 v'
    have h2 := h1.other hne x (.int .i64 (a : Int))
    simpa using h2
  · have hc : w'.cell? ⟨ba, i, none⟩ = some (.int .i64 (t.ahead i)) := (World.cell?_of_block (a := ⟨ba, i, none⟩) (hblk ba hl2)).trans (hah i hi).1
    have hf : w'.frozen? ⟨ba, i, none⟩ = false := (World.frozen?_of_block (a := ⟨ba, i, none⟩) (hblk ba hl2)).trans (hah i hi).2
    have hc2 : (w'.setCell ⟨bt, 0, none⟩ v').cell? ⟨ba, i, none⟩ = some (.int .i64 (t.ahead i)) := by
      rw [World.cell?_setCell_other (h := show (⟨bt, 0, none⟩ : Addr) ≠ ⟨ba, i, none⟩ from fun h => hne (by cases h; rfl))]
      exact hc
    refine ⟨?_, by rw [World.frozen?_setCell, World.frozen?_setCell]; exact hf⟩
    dsimp only
    by_cases e : i = x
    · subst e
      rw [updA_at]
      exact World.cell?_setCell_same (h := hc2) ..
    · rw [updA_ne _ _ e, World.cell?_setCell_other (h := show (⟨ba, x, none⟩ : Addr) ≠ ⟨ba, i, none⟩ from fun h => e (by cases h; rfl))]
      exact hc2
  · have e1 : ((ints (t.nodes ++ [x])).map (Value.int .i64)) = (ints t.nodes).map (Value.int .i64) ++ [.int .i64 (x : Int)] := by simp [ints]
    dsimp only
    rw [e1, List.length_append]
    rcases hown with ⟨h0, h1 | ⟨g, cap, cur, rfl, h3, h4, h5, h6, h7, h8⟩⟩
    · exact absurd h1.2 (by omega)
    · refine ⟨h0, .inr ⟨g, cap, cur, rfl, h3, ?_, h5, h6, h7, h8⟩⟩
      rw [Below.heap_setCell _ _ _ _ (by show g ≠ ba; omega), Below.heap_setCell _ _ _ _ (by show g ≠ bt; omega)]
      exact h4
  · have hb1 : But (fun b => b = bt ∨ b = ba) w0 w' := ⟨hg.os.trans hbut.os, hg.tape.trans hbut.tape, hg.output.trans hbut.output, by have := hg.size; simp at this; omega, fun k hk hs => (hblk k hk).trans (hbut.block k hk hs)⟩
    exact (hb1.setCell (p := ⟨bt, 0, none⟩) (.inl rfl) _).setCell (p := ⟨ba, x, none⟩) (.inr rfl) _

theorem TourIn.below {w0 w w1 : World} {bt ba m : Nat} {t : Tr} {v : Value} (h : TourIn w0 w bt ba m t v) (hb : Below w.heap.size w w1) : TourIn w0 w1 bt ba m t v := by
  have hs := h.but.size
  have hl1 := h.lt.1
  have hl2 := h.lt.2
  refine ⟨⟨h.at_.box.below hb (by omega), fun i hi => ⟨(hb.cell (p := ⟨ba, i, none⟩) (by show ba < _; omega)).trans (h.at_.ahead i hi).1, (hb.frozen (p := ⟨ba, i, none⟩) (by show ba < _; omega)).trans (h.at_.ahead i hi).2⟩, ?_⟩, h.but.on hb, h.ne, h.lt⟩
  rcases h.at_.nodes with ⟨h0, h1 | ⟨g, cap, cur, rfl, h3, h4, h5, h6, h7, h8⟩⟩
  · exact ⟨h0, .inl h1⟩
  · exact ⟨h0, .inr ⟨g, cap, cur, rfl, h3, (hb.block g (Array.getElem?_eq_some_iff.1 h4).1).trans h4, h5, h6, h7, h8⟩⟩

set_option maxRecDepth 100000 in
set_option maxHeartbeats 2000000 in
theorem meet_any (w0 w : World) (bt ba m : Nat) (t : Tr) (v : Value) (x a : Nat) (h : TourIn w0 w bt ba m t v) (hx : x < m) (hm : m ≤ 256) (hlen : t.nodes.length ≤ m) :
    Calls Tryz.prog 85 #[.pointer (some ⟨bt, 0, none⟩), .int .i64 (x : Int), .int .i64 (a : Int)] w fun e w' => e = .returned (.tuple #[]) ∧ ∃ v', TourIn w0 w' bt ba m (meet t x a) v' := by
  obtain ⟨i0, hi, hz0, hz1, hz2⟩ := info_parts infoInt
  have c0 : w.cell? ⟨bt, 0, none⟩ = some v := h.at_.box.cell rfl
  have c1 : w.cell? ⟨bt, 1, none⟩ = some (.slice (some ⟨ba, 0, none⟩) m m) := h.at_.box.cell rfl
  have hmet := met_any v ba m t.ahead x w hx (fun i hi => (h.at_.ahead i hi).1) hm
  by_cases hu : t.ahead x = -1
  · have hd : (t.ahead x != -1) = false := by rw [hu]; rfl
    rw [hd] at hmet
    have hx2 : (x : Int) < (m : Int) := by omega
    have HT : Hid (∀ w1, Below w.heap.size w w1 → TourIn w0 w1 bt ba m t v) := fun w1 hb => h.below hb
    have Hu : Hid (t.ahead x = -1) := hu
    clear h hu hd
    go_enter Tryz.func85, Tryz.ntmps85
    go_wp2_with fail
    refine hmet.mono ?_
    rintro e w1 ⟨rfl, hb1⟩
    have h1 := HT.out w1 hb1
    have hs1 := h1.but.size
    have hl1 := h1.lt.1
    have hl2 := h1.lt.2
    have d0 : w1.cell? ⟨bt, 0, none⟩ = some v := h1.at_.box.cell rfl
    have hnd := h1.at_.nodes
    have HF : Hid (∀ v2 w2, World.ownsRow w2 w0.heap.size 3 1 v2 (t.nodes.length + 1) ((ints t.nodes).map (Value.int .i64) ++ [.int .i64 (x : Int)]) → (w1.alloc (.cells #[.int .i64 (x : Int)] 3)).grownBy w2 v.ownBlock → ((w2.cell? ⟨bt, 0, none⟩ = some v ∧ w2.frozen? ⟨bt, 0, none⟩ = false) ∧ (w2.setCell ⟨bt, 0, none⟩ v2).cell? ⟨bt, 1, none⟩ = some (.slice (some ⟨ba, 0, none⟩) m m) ∧ (w2.setCell ⟨bt, 0, none⟩ v2).cell? ⟨ba, x, none⟩ = some (.int .i64 (-1)) ∧ (w2.setCell ⟨bt, 0, none⟩ v2).frozen? ⟨ba, x, none⟩ = false) ∧ TourIn w0 ((w2.setCell ⟨bt, 0, none⟩ v2).setCell ⟨ba, x, none⟩ (.int .i64 (a : Int))) bt ba m (meet t x a) v2) := fun v2 w2 ho hg => by
      have hblk : ∀ b, b < w0.heap.size → w2.heap[b]? = w1.heap[b]? := fun b hb => by
        rw [hg.block b (by simp; omega) (fun e => by have := (hnd.lt b e.symm).1; omega)]
        exact Below.heap_alloc w1 _ b (by omega)
      have hbt : RowAt w2 bt 146 #[v, .slice (some ⟨ba, 0, none⟩) m m] := (hblk bt hl1).trans h1.at_.box
      have hca := h1.at_.ahead x hx
      rw [Hu.out] at hca
      refine ⟨⟨⟨hbt.cell rfl, hbt.frozen 0⟩, (hbt.set 0 v2).cell rfl, ?_, ?_⟩, h1.met hx Hu.out ho hg⟩
      · rw [World.cell?_setCell_other (h := show (⟨bt, 0, none⟩ : Addr) ≠ ⟨ba, x, none⟩ from fun h => h1.ne (by cases h; rfl)), World.cell?_of_block (a := ⟨ba, x, none⟩) (hblk ba hl2)]
        exact hca.1
      · rw [World.frozen?_setCell, World.frozen?_of_block (a := ⟨ba, x, none⟩) (hblk ba hl2)]
        exact hca.2
    have hlw1 : bt < w1.heap.size := by omega
    clear h1 HT hmet c0 c1 hb1
    go_wp2_with (at_builtin; refine wpList_append_own _ rfl (.tmp 16) (.tmp 18) 32 rfl w0.heap.size 3 i0 (.int .i64 0) 1 8 Tryz.underlying32 hi hz0 hz1 hz2 rfl (by decide) _ _ _ rfl (hnd.alloc _) ⟨w1.heap.size, 0, none⟩ 1 1 [.int .i64 (x : Int)] rfl rfl (cell_one_new _ _ _) (by simp [Value.oneCell']) (by unfold maxLen; omega) (by omega) (by simp; omega) ?_; intro v2 w2 hown2 hgrow2 _; obtain ⟨g2, c2, rfl⟩ := ownsRow_succ hown2; obtain ⟨⟨⟨y0, y1⟩, y2, y3, y4⟩, HM⟩ := HF.out _ w2 hown2 hgrow2; replace HM : Hid (_) := HM; clear HF hown2 hgrow2 hnd d0)
    go_end0
    exact ⟨rfl, _, HM.out⟩
  · have hd : (t.ahead x != -1) = true := by simpa using hu
    rw [hd] at hmet
    have E : Hid (meet t x a = t) := by show _ = _; unfold GraphMath.meet; rw [if_neg hu]
    have HT : Hid (∀ w1, Below w.heap.size w w1 → TourIn w0 w1 bt ba m t v) := fun w1 hb => h.below hb
    clear h hu hd
    go_enter Tryz.func85, Tryz.ntmps85
    go_wp2_with fail
    refine hmet.mono ?_
    rintro e w1 ⟨rfl, hb1⟩
    have h1 : Hid (_) := HT.out w1 hb1
    clear hb1 HT
    go_wp2
    go_end0
    exact ⟨rfl, v, by rw [E.out]; exact h1.out⟩

end Go.Proofs.YtcoepmpgclndiaaGreatDoor.GraphFn

namespace Go.Proofs.YtcoepmpgclndiaaGreatDoor.GraphNet
open Go.RowKit Go.Sort Go.Proofs.YtcoepmpgclndiaaGreatDoor.GramMath Go.Proofs.YtcoepmpgclndiaaGreatDoor.GramRow Go.Proofs.YtcoepmpgclndiaaGreatDoor.GramApart Go.Proofs.YtcoepmpgclndiaaGreatDoor.GraphMath Go.Proofs.YtcoepmpgclndiaaGreatDoor.GraphFn Go.Proofs.YtcoepmpgclndiaaGreatDoor.GraphSort Go.Proofs.YtcoepmpgclndiaaGreatDoor.OpRow
set_option linter.unusedVariables false

/-- Edges in a row. -/
def ERow (w : World) (a : Option Addr) (es : List (Int × Int)) : Prop :=
  ∀ i e, es[i]? = some e → ∃ b off, a = some ⟨b, off, none⟩ ∧ w.cell? ⟨b, off + i * 2, none⟩ = some (.int .i64 e.1) ∧ w.cell? ⟨b, off + i * 2 + 1, none⟩ = some (.int .i64 e.2)
theorem ERow.below {w w' : World} {a : Option Addr} {es : List (Int × Int)} {B : Nat} (h : ERow w a es) (hb : Below B w w') (hB : w.heap.size ≤ B) : ERow w' a es := fun i x hx => by
  obtain ⟨b, off, ha, h1, h2⟩ := h i x hx
  exact ⟨b, off, ha, by rw [hb.cell (Nat.lt_of_lt_of_le (cell_lt h1) hB)]; exact h1, by rw [hb.cell (Nat.lt_of_lt_of_le (cell_lt h2) hB)]; exact h2⟩

def updL {α : Type} (f : Nat → α) (x : Nat) (v : α) : Nat → α := fun y => if y = x then v else f y
theorem updL_at {α : Type} (f : Nat → α) (x : Nat) (v : α) : updL f x v x = v := by simp [updL]
theorem updL_ne {α : Type} (f : Nat → α) {x y : Nat} (v : α) (h : y ≠ x) : updL f x v y = f y := by simp [updL, h]

structure Net (w : World) (B bg m : Nat) (f : Nat → List Int) (V : Nat → Value) : Prop where
  cells : ∀ i, i < m → w.cell? ⟨bg, i, none⟩ = some (V i) ∧ w.frozen? ⟨bg, i, none⟩ = false
  own : ∀ i, i < m → w.ownsRow B 3 1 (V i) (f i).length (iV (f i))
  apart : ∀ i j x, i < m → j < m → (V i).ownBlock = some x → (V j).ownBlock = some x → i = j
  lt : bg < B

theorem grown_trans {w w1 w2 : World} {r : Option Nat} (h : w.grownBy w1 r) (h2 : w1.grownBy w2 r) : w.grownBy w2 r :=
  ⟨h2.os.trans h.os, h2.tape.trans h.tape, h2.output.trans h.output, Nat.le_trans h.size h2.size, fun k hk hr => (h2.block k (Nat.lt_of_lt_of_le hk h.size) hr).trans (h.block k hk hr)⟩
theorem grown_below {w w1 : World} (r : Option Nat) (h : Below w.heap.size w w1) : w.grownBy w1 r := ⟨h.os, h.tape, h.output, h.size, fun k hk _ => h.block k hk⟩

theorem Net.below {w w' : World} {B bg m : Nat} {f : Nat → List Int} {V : Nat → Value} (h : Net w B bg m f V) (hb : Below w.heap.size w w') : Net w' B bg m f V :=
  ⟨fun i hi => ⟨(hb.cell (cell_lt (h.cells i hi).1)).trans (h.cells i hi).1, (hb.frozen (p := ⟨bg, i, none⟩) (cell_lt (h.cells i hi).1)).trans (h.cells i hi).2⟩, fun i hi => (h.own i hi).kept (grown_below none hb) (by
    cases hv : (V i).ownBlock with
    | none => exact .inl rfl
    | some x => exact .inr (by simp)), h.apart, h.lt⟩

theorem Net.congr {w : World} {B bg m : Nat} {f g : Nat → List Int} {V : Nat → Value} (h : Net w B bg m f V) (e : ∀ i, i < m → f i = g i) : Net w B bg m g V :=
  ⟨h.cells, fun i hi => by rw [← e i hi]; exact h.own i hi, h.apart, h.lt⟩

/-- A row of a net is another one. -/
theorem Net.put {w w' : World} {B bg m : Nat} {f : Nat → List Int} {V : Nat → Value} (h : Net w B bg m f V) {x : Nat} (hx : x < m) {v' : Value} {zs : List Int} (hg : w.grownBy w' (V x).ownBlock) (hown : w'.ownsRow B 3 1 v' zs.length (iV zs)) (hat : ∀ g, v'.ownBlock = some g → (V x).ownBlock = some g ∨ w.heap.size ≤ g) :
    (w'.cell? ⟨bg, x, none⟩ = some (V x) ∧ w'.frozen? ⟨bg, x, none⟩ = false) ∧ Net (w'.setCell ⟨bg, x, none⟩ v') B bg m (updL f x zs) (updL V x v') := by
  have hbl : ∀ i, i < m → w'.cell? ⟨bg, i, none⟩ = some (V i) ∧ w'.frozen? ⟨bg, i, none⟩ = false := fun i hi => by
    have hlt := cell_lt (h.cells i hi).1
    have e := hg.block bg hlt (fun e => by have := ((h.own x hx).lt bg e.symm).1; have := h.lt; omega)
    exact ⟨(World.cell?_of_block (a := ⟨bg, i, none⟩) e).trans (h.cells i hi).1, (World.frozen?_of_block (a := ⟨bg, i, none⟩) e).trans (h.cells i hi).2⟩
  refine ⟨hbl x hx, fun i hi => ?_, fun i hi => ?_, fun i j y hi hj h1 h2 => ?_, h.lt⟩
  · refine ⟨?_, by rw [World.frozen?_setCell]; exact (hbl i hi).2⟩
    by_cases e : i = x
    · subst e
      rw [updL_at]
      exact World.cell?_setCell_same (h := (hbl i hi).1) ..
    · rw [updL_ne _ _ e, World.cell?_setCell_other (h := show (⟨bg, x, none⟩ : Addr) ≠ ⟨bg, i, none⟩ from fun h => e (by cases h; rfl))]
      exact (hbl i hi).1
  · by_cases e : i = x
    · subst e
      rw [updL_at, updL_at]
      exact ownsRow_setCell_below hown h.lt _
    · rw [updL_ne _ _ e, updL_ne _ _ e]
      refine ownsRow_setCell_below ((h.own i hi).kept hg ?_) h.lt _
      cases hv : (V i).ownBlock with
      | none => exact .inl rfl
      | some y => exact .inr (fun hc => e (h.apart i x y hi hx hv hc.symm))
  · by_cases e : i = x
    · by_cases e2 : j = x
      · rw [e, e2]
      · subst e
        rw [updL_at] at h1
        rw [updL_ne _ _ e2] at h2
        rcases hat y h1 with h3 | h3
        · exact h.apart i j y hi hj h3 h2
        · have := ((h.own j hj).lt y h2).2
          omega
    · by_cases e2 : j = x
      · subst e2
        rw [updL_at] at h2
        rw [updL_ne _ _ e] at h1
        rcases hat y h2 with h3 | h3
        · exact h.apart i j y hi hj h1 h3
        · have := ((h.own i hi).lt y h1).2
          omega
      · rw [updL_ne _ _ e] at h1
        rw [updL_ne _ _ e2] at h2
        exact h.apart i j y hi hj h1 h2

theorem own_form {w : World} {base : Nat} {v : Value} {zs : List Int} (h : w.ownsRow base 3 1 v zs.length (iV zs)) : ∃ a c, v = .slice a zs.length c ∧ IRow w a zs := by
  obtain ⟨hl, ⟨rfl, h0⟩ | ⟨g, cap, cur, rfl, hb, hg, h1, h2, h3, h4⟩⟩ := id h
  · obtain rfl : zs = [] := List.length_eq_zero_iff.1 h0
    exact ⟨none, 0, rfl, fun i x hx => by simp at hx⟩
  · refine ⟨_, cap, rfl, fun i x hx => ⟨g, 0, rfl, ?_⟩⟩
    have hi := (List.getElem?_eq_some_iff.1 hx).1
    rw [Nat.zero_add, h.cellAt i (by omega)]
    simp [iV, hx]

/-- A net that is only read. -/
def NetR (w : World) (bg m : Nat) (f : Nat → List Int) : Prop := ∀ i, i < m → ∃ a c, w.cell? ⟨bg, i, none⟩ = some (.slice a (f i).length c) ∧ IRow w a (f i)
theorem Net.read {w : World} {B bg m : Nat} {f : Nat → List Int} {V : Nat → Value} (h : Net w B bg m f V) : NetR w bg m f := fun i hi => by
  obtain ⟨a, c, hv, hr⟩ := own_form (h.own i hi)
  exact ⟨a, c, by rw [(h.cells i hi).1, hv], hr⟩
theorem NetR.below {w w' : World} {B bg m : Nat} {f : Nat → List Int} (h : NetR w bg m f) (hb : Below B w w') (hB : w.heap.size ≤ B) : NetR w' bg m f := fun i hi => by
  obtain ⟨a, c, h1, h2⟩ := h i hi
  exact ⟨a, c, by rw [hb.cell (Nat.lt_of_lt_of_le (cell_lt h1) hB)]; exact h1, h2.below hb hB⟩

/-- What is wrong with a graph. -/
def mayE (n : Int) (es : List (Int × Int)) : Nat := if 256 < n ∨ 4096 < es.length then 12 else if n < 0 then 1 else if es.all (fun e => hasB n.toNat [e.1, e.2]) then 0 else 1
def toE (es : List (Int × Int)) : List (Nat × Nat) := es.map (fun e => (e.1.toNat, e.2.toNat))
theorem toE_length (es : List (Int × Int)) : (toE es).length = es.length := by simp [toE]
theorem netInfo : (Tryz.prog.info? 32).map (fun i => (i.zero, i.size, i.bytes)) = some (some (.slice none 0 0), 1, 24) := by kernel_rfl
theorem madeN_any (n : Nat) (hn : n ≤ 256) (w : World) : (Instr.makeSlice 109 (.int .i64 (n : Int)) (.int .i64 (n : Int))).run Tryz.prog w = .ok (.slice (some ⟨w.heap.size, 0, none⟩) n n) (w.alloc (.cells (madeCells #[.slice none 0 0] n) 32)) := by
  obtain ⟨i0, hi, hz0, hz1, hz2⟩ := info_parts netInfo
  have h := run_make (P := Tryz.prog) w 109 32 i0 (.slice none 0 0) Tryz.underlying109 hi hz0 .i64 .i64 (n : Int) (n : Int) (by omega) (by omega) (by rw [hz2]; omega) (by omega)
  rw [hz1] at h
  simpa [Value.cells] using h

theorem net_made (n : Nat) (w : World) : Net (w.alloc (.cells (madeCells #[.slice none 0 0] n) 32)) (w.heap.size + 1) w.heap.size n (fun _ => []) (fun _ => .slice none 0 0) := by
  have hr : RowAt (w.alloc (.cells (madeCells #[.slice none 0 0] n) 32)) w.heap.size 32 (List.replicate n (.slice none 0 0)).toArray := by
    show (w.alloc _).heap[w.heap.size]? = _
    rw [heap_new]
    congr 2
    rw [← toList_madeCells_one]
  refine ⟨fun i hi => ⟨hr.cell (by simp [hi]), hr.frozen i⟩, fun i hi => World.ownsRow_nil .., fun i j x _ _ h => (by cases h), by omega⟩

theorem stepL {ops : Array Oper} {o : Oper} {a : Act} {w : World} {K : Act → World → Prop} {Q' : Exit → Act → World → Prop} {E : Prop} (hg : o.guard = none) (s x : Operand)
    (ho : o.op = .call { callee := .builtin .append, args := #[s, x], argTypes := #[32, 32] }) (base : Nat) (v : Value) (n : Nat) (xs : List Value) (hs : a.eval s = v) (hown : w.ownsRow base 3 1 v n xs)
    (ad : Addr) (u1 : Value) (hx : a.eval x = .slice (some ad) 1 1) (hsrc : ∀ j u, [u1][j]? = some u → w.cell? (ad.add j) = some u) (h1c : ∀ u ∈ [u1], u.oneCell' = true) (hsz : n ≤ 1000000000) (hbase : base ≤ w.heap.size)
    (h : ∀ g cap w', w'.ownsRow base 3 1 (.slice (some ⟨g, 0, none⟩) (n + 1) cap) (n + 1) (xs ++ [u1]) → w.grownBy w' v.ownBlock → (v.ownBlock = some g ∨ g = w.heap.size) → K (a.put o.dst (.slice (some ⟨g, 0, none⟩) (n + 1) cap)) w') :
    if Region.wanted o (yielded ops a.tmps) = true then Oper.wp Tryz.prog o a w K Q' else E := by
  obtain ⟨i0, hi, hz0, hz1, hz2⟩ := info_parts infoInt
  exact step_append_lies w hg s x 32 ho base 3 i0 (.int .i64 0) 1 8 Tryz.underlying32 hi hz0 hz1 hz2 rfl (by decide) v n xs hs hown ad 1 1 [u1] hx rfl hsrc h1c (by omega) (by unfold maxLen; omega) (by omega) hbase _ rfl (fun g cap w' h1 h2 h3 _ => h g cap w' h1 h2 h3)

theorem hasB_two {m : Nat} {x y : Int} (h : hasB m [x, y] = true) : ∃ X Y : Nat, x = (X : Int) ∧ y = (Y : Int) ∧ X < m ∧ Y < m := by
  have h2 := hasB_iff.1 h
  have hx := h2 x (by simp)
  have hy := h2 y (by simp)
  exact ⟨x.toNat, y.toNat, by omega, by omega, by omega, by omega⟩

theorem all_take_succ {α : Type} {p : α → Bool} {l : List α} {k : Nat} {x : α} (h : (l.take k).all p = true) (hx : l[k]? = some x) (hp : p x = true) : (l.take (k + 1)).all p = true := by
  rw [List.take_add_one, hx, List.all_append, h]
  simp [hp]

end Go.Proofs.YtcoepmpgclndiaaGreatDoor.GraphNet
