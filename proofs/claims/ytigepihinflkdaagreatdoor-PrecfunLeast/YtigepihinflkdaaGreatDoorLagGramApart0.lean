/-
  Texts that stand together: GramApart0, RoundAny, GraphMath.
-/
import Derived.Test.YtigepihinflkdaaGreatDoorLagGramEq
import Derived.Test.YtigepihinflkdaaGreatDoorLagGramOpens
import Derived.RangeFuncNested
import Derived.RangeFuncBound
import Derived.RangeFuncCalls
import Derived.RangeFuncLeaves
import Derived.RangeFuncBox
import Derived.Shelf.Abstract
import Derived.Shelf.RegionOpen
import Derived.OwnWalkIn
import Derived.TacticsInMore
import Derived.LoopNIn
import Derived.LoopIn
import Derived.Maps.AppendAt
import Derived.Sort.QuietTacIn
import Derived.Deep.RegionHeld3
import Derived.Below
import Derived.Lib.SlicesCompact
namespace Go.Proofs.YtigepihinflkdaaGreatDoor.GramApart
open Go.RowKit Go.Proofs.YtigepihinflkdaaGreatDoor.GramMath Go.Proofs.YtigepihinflkdaaGreatDoor.GramRow
set_option linter.unusedVariables false

def RowAt (w : World) (b : Nat) (t : TypeId) (cur : Array Value) : Prop := w.heap[b]? = some (.cells cur t (0, 0))

theorem RowAt.lt {w : World} {b : Nat} {t : TypeId} {cur : Array Value} (h : RowAt w b t cur) : b < w.heap.size := (Array.getElem?_eq_some_iff.1 h).1

theorem RowAt.cell {w : World} {b : Nat} {t : TypeId} {cur : Array Value} (h : RowAt w b t cur) {q : Nat} {v : Value} (hq : cur[q]? = some v) : w.cell? ⟨b, q, none⟩ = some v := by
  unfold World.cell?
  rw [show w.heap[b]? = _ from h]
  exact hq

theorem RowAt.frozen {w : World} {b : Nat} {t : TypeId} {cur : Array Value} (h : RowAt w b t cur) (q : Nat) : w.frozen? ⟨b, q, none⟩ = false := by
  simp [World.frozen?, show w.heap[b]? = _ from h]

theorem RowAt.set {w : World} {b : Nat} {t : TypeId} {cur : Array Value} (h : RowAt w b t cur) (q : Nat) (v : Value) : RowAt (w.setCell ⟨b, q, none⟩ v) b t (cur.setIfInBounds q v) := by
  unfold RowAt at h ⊢
  simp only [World.setCell, Array.getElem?_modify]
  simp [h]

theorem RowAt.other {w : World} {b b' : Nat} {t : TypeId} {cur : Array Value} (h : RowAt w b t cur) (hne : b ≠ b') (q : Nat) (v : Value) : RowAt (w.setCell ⟨b', q, none⟩ v) b t cur := by
  unfold RowAt at h ⊢
  rw [Below.heap_setCell _ _ _ _ hne]
  exact h

theorem RowAt.below {w w' : World} {B b : Nat} {t : TypeId} {cur : Array Value} (h : RowAt w b t cur) (hb : Below B w w') (hlt : b < B) : RowAt w' b t cur := (hb.block b hlt).trans h

theorem RowAt.grown {w w' : World} {row : Option Nat} {b : Nat} {t : TypeId} {cur : Array Value} (h : RowAt w b t cur) (hg : w.grownBy w' row) (hne : some b ≠ row) : RowAt w' b t cur := (hg.block b h.lt hne).trans h

theorem RowAt.alloc {w : World} {b : Nat} {t : TypeId} {cur : Array Value} (h : RowAt w b t cur) (o : Obj) : RowAt (w.alloc o) b t cur := (Below.heap_alloc w o b h.lt).trans h

theorem RowAt.ne {w : World} {b b' : Nat} {t t' : TypeId} {cur cur' : Array Value} (h : RowAt w b t cur) (h' : RowAt w b' t' cur') (ht : t ≠ t') : b ≠ b' := by
  intro e
  subst e
  unfold RowAt at h h'
  rw [h] at h'
  cases h'
  exact ht rfl

theorem RowAt.not_own {w : World} {b : Nat} {t e : TypeId} {cur : Array Value} (h : RowAt w b t cur) (ht : t ≠ e) {base size n : Nat} {v : Value} {xs : List Value} (hr : w.ownsRow base e size v n xs) : some b ≠ v.ownBlock := by
  obtain ⟨_, ⟨rfl, _⟩ | ⟨g, cap, cur', rfl, _, hg, _⟩⟩ := hr
  · simp [Value.ownBlock]
  · intro hq
    simp only [Value.ownBlock, Option.some.injEq] at hq
    exact h.ne hg ht hq

theorem own_at {w : World} {base : Nat} {e : TypeId} {g n c : Nat} {xs : List Value} (h : w.ownsRow base e 1 (.slice (some ⟨g, 0, none⟩) n c) n xs) :
    ∃ cur, RowAt w g e cur ∧ cur.size = c ∧ n ≤ c ∧ base ≤ g ∧ ∀ q, q < n → cur[q]? = xs[q]? := by
  obtain ⟨_, h | ⟨g', cap, cur, hv, hb, hg, hn, _, hs, hx⟩⟩ := h
  · exact absurd h.1 (by simp)
  · simp at hv
    obtain ⟨rfl, rfl⟩ := hv
    refine ⟨cur, hg, by omega, hn, hb, fun q hq => ?_⟩
    rw [← hx, List.getElem?_take, if_pos (by omega), Array.getElem?_toList]

theorem own_base {w : World} {base base' : Nat} {e : TypeId} {size n : Nat} {v : Value} {xs : List Value} (h : w.ownsRow base e size v n xs) (hb : base' ≤ base) : w.ownsRow base' e size v n xs := by
  obtain ⟨h1, h | ⟨g, cap, cur, hv, hbb, rest⟩⟩ := h
  · exact ⟨h1, .inl h⟩
  · exact ⟨h1, .inr ⟨g, cap, cur, hv, by omega, rest⟩⟩

/-- The marks that have been written into the lists: all of those before i, the first k of the i-th. -/
def Marked (mk : Int → Value) (m : Nat) (g N : Nat → Nat) (w : World) (i k : Nat) : Prop :=
  ∀ j, j < m → ∀ q, q < N j → w.frozen? ⟨g j, q, none⟩ = false ∧ ∃ v, w.cell? ⟨g j, q, none⟩ = some v ∧ ((j < i ∨ j = i ∧ q < k) → v = mk (1000 * (j : Int) + (q : Int)))

theorem Marked.store {mk : Int → Value} {m : Nat} {g N : Nat → Nat} {w : World} {i k : Nat} (h : Marked mk m g N w i k) (hi : i < m) (hk : k < N i) (hd : ∀ a, a < m → ∀ b, b < m → a ≠ b → 0 < N a → 0 < N b → g a ≠ g b) :
    Marked mk m g N (w.setCell ⟨g i, k, none⟩ (mk (1000 * (i : Int) + (k : Int)))) i (k + 1) := by
  intro j hj q hq
  obtain ⟨hf, v, hv, hc⟩ := h j hj q hq
  refine ⟨by rw [World.frozen?_setCell]; exact hf, ?_⟩
  by_cases e : j = i
  · subst e
    by_cases hqk : q = k
    · subst hqk
      exact ⟨_, World.cell?_setCell_same (h := hv) .., fun _ => rfl⟩
    · refine ⟨v, ?_, fun hcase => hc (by omega)⟩
      rw [World.cell?_setCell_other (h := show (⟨g j, k, none⟩ : Addr) ≠ ⟨g j, q, none⟩ from fun h => hqk (by cases h; rfl))]
      exact hv
  · refine ⟨v, ?_, fun hcase => hc (by omega)⟩
    have hne : g j ≠ g i := hd j hj i hi e (by omega) (by omega)
    rw [World.cell?_setCell_other (h := show (⟨g i, k, none⟩ : Addr) ≠ ⟨g j, q, none⟩ from fun h => hne (congrArg Addr.block h).symm)]
    exact hv

theorem Marked.next {mk : Int → Value} {m : Nat} {g N : Nat → Nat} {w : World} {i : Nat} (h : Marked mk m g N w i (N i)) : Marked mk m g N w (i + 1) 0 := by
  intro j hj q hq
  obtain ⟨hf, v, hv, hc⟩ := h j hj q hq
  refine ⟨hf, v, hv, fun hcase => hc ?_⟩
  by_cases e : j = i
  · subst e; exact .inr ⟨rfl, hq⟩
  · exact .inl (by omega)

theorem Marked.below {mk : Int → Value} {m B : Nat} {g N : Nat → Nat} {w w' : World} {i k : Nat} (h : Marked mk m g N w i k) (hb : Below B w w') (hg : ∀ j, j < m → 0 < N j → g j < B) : Marked mk m g N w' i k := by
  intro j hj q hq
  obtain ⟨hf, v, hv, hc⟩ := h j hj q hq
  have hB := hg j hj (by omega)
  exact ⟨(hb.frozen (p := ⟨g j, q, none⟩) hB).trans hf, v, (hb.cell (p := ⟨g j, q, none⟩) hB).trans hv, hc⟩

/-- What a list that was gone on with holds. -/
def Longer (mk : Int → Value) (w : World) (t : TypeId) (j n : Nat) (v : Value) : Prop :=
  ∃ h c cur, v = .slice (some ⟨h, 0, none⟩) (n + 30) c ∧ RowAt w h t cur ∧ (∀ q, q < n → cur[q]? = some (mk (1000 * (j : Int) + (q : Int)))) ∧ ∀ q, q < 30 → cur[n + q]? = some (mk (500000 + 1000 * (j : Int) + (q : Int)))

theorem Longer.below {mk : Int → Value} {w w' : World} {t : TypeId} {j n B : Nat} {v : Value} (h : Longer mk w t j n v) (hb : Below B w w') (hB : w.heap.size ≤ B) : Longer mk w' t j n v := by
  obtain ⟨a, c, cur, hv, hr, rest⟩ := h
  exact ⟨a, c, cur, hv, hr.below hb (by have := hr.lt; omega), rest⟩

theorem Longer.grown {mk : Int → Value} {t e : TypeId} {w w' : World} {j n : Nat} {v : Value} (h : Longer mk w t j n v) (ht : t ≠ e) {base size k : Nat} {u : Value} {xs : List Value} (hr : w.ownsRow base e size u k xs) (o : Obj) (hg : (w.alloc o).grownBy w' u.ownBlock) : Longer mk w' t j n v := by
  obtain ⟨a, c, cur, hv, hrow, rest⟩ := h
  exact ⟨a, c, cur, hv, (hrow.alloc o).grown hg (hrow.not_own ht hr), rest⟩

/-- The marks of a list, and what is laid behind them. -/
def markL (mk : Int → Value) (j n : Nat) : List Value := (List.range n).map fun (q : Nat) => mk (1000 * (j : Int) + (q : Int))
def moreL (mk : Int → Value) (j k : Nat) : List Value := (List.range k).map fun (q : Nat) => mk (500000 + 1000 * (j : Int) + (q : Int))

theorem moreL_succ (mk : Int → Value) (j k : Nat) : moreL mk j (k + 1) = moreL mk j k ++ [mk (500000 + 1000 * (j : Int) + (k : Int))] := by
  simp [moreL, List.range_succ]

theorem markL_len (mk : Int → Value) (j n : Nat) : (markL mk j n).length = n := by simp [markL]
theorem moreL_len (mk : Int → Value) (j n : Nat) : (moreL mk j n).length = n := by simp [moreL]

theorem longer_of {mk : Int → Value} {w : World} {base : Nat} {t : TypeId} {j n : Nat} {v : Value} (h : w.ownsRow base t 1 v (n + 30) (markL mk j n ++ moreL mk j 30)) : Longer mk w t j n v := by
  obtain ⟨g, c, rfl⟩ := ownsRow_succ (k := n + 29) h
  obtain ⟨cur, hr, _, _, _, hx⟩ := own_at h
  refine ⟨g, c, cur, rfl, hr, fun q hq => ?_, fun q hq => ?_⟩
  · rw [hx q (by omega), List.getElem?_append_left (by rw [markL_len]; exact hq)]
    simp [markL, hq]
  · rw [hx (n + q) (by omega), List.getElem?_append_right (by rw [markL_len]; omega), markL_len]
    simp [moreL, hq]

theorem own_below {w w' : World} {base : Nat} {e : TypeId} {size n : Nat} {v : Value} {xs : List Value} (h : w.ownsRow base e size v n xs) (hb : Below w.heap.size w w') : w'.ownsRow base e size v n xs := by
  obtain ⟨h1, h | ⟨g, cap, cur, hv, hbb, hg, rest⟩⟩ := h
  · exact ⟨h1, .inl h⟩
  · exact ⟨h1, .inr ⟨g, cap, cur, hv, hbb, (hb.block g (Array.getElem?_eq_some_iff.1 hg).1).trans hg, rest⟩⟩

theorem markL_get {mk : Int → Value} {m : Nat} {g N : Nat → Nat} {w : World} {i : Nat} (h : Marked mk m g N w m 0) (hi : i < m) : ∀ j u, (markL mk i (N i))[j]? = some u → w.cell? ⟨g i, j, none⟩ = some u := by
  intro j u hj
  have hjl : j < N i := by
    have := (List.getElem?_eq_some_iff.1 hj).1
    rwa [markL_len] at this
  obtain ⟨_, v, hv, hc⟩ := h i hi j hjl
  have h2 := hc (.inl hi)
  simp [markL, hjl] at hj
  subst hj
  rw [hv, h2]

/-- Where a list lies that may be none. -/
def at' (g N : Nat → Nat) (j : Nat) : Option Addr → Prop
  | none => N j = 0
  | some a => a = ⟨g j, 0, none⟩

end Go.Proofs.YtigepihinflkdaaGreatDoor.GramApart

namespace Go.Proofs.YtigepihinflkdaaGreatDoor.RoundAny
open Go.RowKit Go.Shelf Go.Proofs.YtigepihinflkdaaGreatDoor.GramApart
set_option linter.unusedVariables false

/-- A record of a loop, or a block for deferred calls. -/
def loopish : Obj → Bool
  | .loop _ => true
  | .deferred _ => true
  | _ => false

/-- All but records of loops is as it was. -/
structure KeepsCM (W W' : World) : Prop where
  size : W.heap.size ≤ W'.heap.size
  same : ∀ (k : Nat) (o : Obj), W.heap[k]? = some o → loopish o = false → W'.heap[k]? = some o
/-- All records of loops are as they were. -/
structure KeepsLo (W W' : World) : Prop where
  size : W.heap.size ≤ W'.heap.size
  same : ∀ (k : Nat) (o : Obj), W.heap[k]? = some o → loopish o = true → W'.heap[k]? = some o

theorem KeepsCM.refl (W : World) : KeepsCM W W := ⟨Nat.le_refl _, fun _ _ h _ => h⟩
theorem KeepsCM.trans {A B C : World} (h : KeepsCM A B) (k : KeepsCM B C) : KeepsCM A C := ⟨Nat.le_trans h.size k.size, fun i o hi ho => k.same i o (h.same i o hi ho) ho⟩
theorem KeepsCM.alloc (W : World) (o : Obj) : KeepsCM W (W.alloc o) := ⟨by simp, fun k x hk _ => (Below.heap_alloc _ _ _ (Array.getElem?_eq_some_iff.1 hk).1).trans hk⟩
theorem KeepsCM.put {W : World} {l : Nat} {x : Obj} (hl : W.heap[l]? = some x) (hx : loopish x = true) (o : Obj) : KeepsCM W (W.putObj l o) :=
  ⟨by simp, fun k y hk hy => by
    have hne : k ≠ l := fun e => by
      subst e
      rw [hl] at hk
      cases hk
      rw [hx] at hy
      cases hy
    exact (World.putObj_heap_other (by first | exact hne | exact hne.symm)).trans hk⟩
theorem KeepsCM.cell {W W' : World} (h : KeepsCM W W') {p : Addr} {v : Value} (hc : W.cell? p = some v) : W'.cell? p = some v := by
  cases ho : W.heap[p.block]? with
  | none => simp [World.cell?, ho] at hc
  | some o =>
    have hl : loopish o = false := by
      cases o with
      | loop r => simp [World.cell?, ho] at hc
      | deferred r => simp [World.cell?, ho] at hc
      | _ => rfl
    exact (World.cell?_of_block (a := p) ((h.same _ _ ho hl).trans ho.symm)).trans hc
theorem KeepsLo.refl (W : World) : KeepsLo W W := ⟨Nat.le_refl _, fun _ _ h _ => h⟩
theorem KeepsLo.trans {A B C : World} (h : KeepsLo A B) (k : KeepsLo B C) : KeepsLo A C := ⟨Nat.le_trans h.size k.size, fun i o hi ho => k.same i o (h.same i o hi ho) ho⟩
theorem KeepsLo.of {W W' : World} (h : Below W.heap.size W W') : KeepsLo W W' := ⟨h.size, fun k o hk _ => (h.block k (Array.getElem?_eq_some_iff.1 hk).1).trans hk⟩

/-- The marks that loops over sequences leave. -/
def marks (Ds : List Nat) : List Deferred := Ds.map (fun D => { target := .collected D, args := #[] })
def OpenAt (w : World) (B : Nat) (Ds : List Nat) : Prop := Ds.Nodup ∧ ∀ D ∈ Ds, B ≤ D ∧ w.heap[D]? = some (.deferred (some []))

theorem OpenAt.nil (w : World) (B : Nat) : OpenAt w B [] := ⟨List.nodup_nil, fun D hD => by cases hD⟩
theorem OpenAt.below {w w' : World} {B C : Nat} {Ds : List Nat} (h : OpenAt w B Ds) (hb : Below C w w') (hC : w.heap.size ≤ C) : OpenAt w' B Ds :=
  ⟨h.1, fun D hD => ⟨(h.2 D hD).1, (hb.block D (Nat.lt_of_lt_of_le (Array.getElem?_eq_some_iff.1 (h.2 D hD).2).1 hC)).trans (h.2 D hD).2⟩⟩
theorem OpenAt.set {w : World} {B b o : Nat} {v : Value} {Ds : List Nat} (h : OpenAt w B Ds) {cur : Array Value} {t : TypeId} (hr : RowAt w b t cur) : OpenAt (w.setCell ⟨b, o, none⟩ v) B Ds :=
  ⟨h.1, fun D hD => ⟨(h.2 D hD).1, by
    have hne : D ≠ b := fun e => by
      have h1 := (h.2 D hD).2
      rw [e, show w.heap[b]? = some (.cells cur t (0, 0)) from hr] at h1
      cases h1
    rw [Below.heap_setCell _ _ _ _ hne]
    exact (h.2 D hD).2⟩⟩
theorem OpenAt.add {w : World} {B D : Nat} {Ds : List Nat} (h : OpenAt w B Ds) (hB : B ≤ D) (hD : w.heap[D]? = some (.deferred (some []))) (hn : D ∉ Ds) : OpenAt w B (D :: Ds) :=
  ⟨List.nodup_cons.2 ⟨hn, h.1⟩, fun x hx => by
    rcases List.mem_cons.1 hx with rfl | hx
    · exact ⟨hB, hD⟩
    · exact h.2 x hx⟩

theorem leaves_marks {F : Fence} {n : Nat} {P : Program} {fn : Func} {tmps : Array Value} {R : Ending → World → Prop} {B : Nat} : ∀ (Ds : List Nat) (W : World), OpenAt W B Ds → (∀ W', Below B W W' → (∀ k, k < W.heap.size → k ∉ Ds → W'.heap[k]? = W.heap[k]?) → LeavesInM F n P fn tmps R [] .returning W') → LeavesInM F n P fn tmps R (marks Ds) .returning W
  | [], W, _, h => h W (Below.refl _ _) (fun _ _ _ => rfl)
  | D :: Ds, W, ho, h => by
    obtain ⟨hB, hD⟩ := ho.2 D List.mem_cons_self
    have hb : Below B W (W.putObj D (.deferred none)) := (Below.refl B W).grown (grownBy_putObj' W D (.deferred none)) (by have := (Array.getElem?_eq_some_iff.1 hD).1; omega) (fun k e => by cases e; exact hB)
    refine ⟨by simp, .inl ⟨D, _, rfl, run_takeDeferred hD, leaves_marks Ds _ ⟨(List.nodup_cons.1 ho.1).2, fun x hx => ?_⟩ (fun W' hW' hk => h W' (hb.trans hW') (fun k hkl hkn => ?_))⟩⟩
    · obtain ⟨h1, h2⟩ := ho.2 x (List.mem_cons_of_mem _ hx)
      refine ⟨h1, ?_⟩
      have hne : x ≠ D := fun e => (List.nodup_cons.1 ho.1).1 (by rw [← e]; exact hx)
      exact (World.putObj_heap_other (by first | exact hne | exact hne.symm)).trans h2
    · have hne : k ≠ D := fun e => hkn (by rw [e]; exact List.mem_cons_self)
      rw [hk k (Nat.lt_of_lt_of_le hkl (grownBy_putObj' W D (.deferred none)).size) (fun hm => hkn (List.mem_cons_of_mem _ hm))]
      exact World.putObj_heap_other (by first | exact hne | exact hne.symm)

section
variable {F : Fence} {n : Nat} {P : Program} {ops : Array Oper} {Q : Exit → Act → World → Prop} {md : Region.Mode} {l : Nat}

theorem oper_round {o : Oper} (hd : ∀ c, o.op ≠ .defer c) (hro : F.round = none) {a : Act} {w : World} {K : Act → World → Prop} (h : o.wpIn F n P a w K Q) : o.wpIn (F.inRound l) n P a w K Q := by
  unfold Oper.wpIn at *
  refine ⟨h.1, ?_⟩
  have h2 := h.2
  rw [hro, Oper.semAt_none] at h2
  rw [show (F.inRound l).round = some l from rfl, Oper.semAt_some l a.eval o hd]
  generalize (execOp a.eval o).run P w = r at *
  cases r with
  | ok x w' => cases x <;> exact h2
  | halt x w' => cases x <;> exact h2

theorem op_round (hd : ∀ (i : Nat) (o : Oper), ops[i]? = some o → ∀ c, o.op ≠ .defer c) (hro : F.round = none) {i : Nat} {K K' : Act → World → Prop} (hK : ∀ a w, K a w → K' a w) {a : Act} {w : World} (h : wpOpIn F n P ops Q i K a w) : wpOpIn (F.inRound l) n P ops Q i K' a w := by
  have h := wpOpIn_mono hK h
  unfold wpOpIn at *
  cases ho : ops[i]? with
  | none => simp only [ho] at h ⊢; exact h
  | some o =>
    simp only [ho] at h ⊢
    split
    · rename_i hw
      simp only [hw, if_true] at h
      exact oper_round (hd i o ho) hro h
    · rename_i hw
      simp only [hw] at h
      exact h

theorem any_round (hd : ∀ (i : Nat) (o : Oper), ops[i]? = some o → ∀ c, o.op ≠ .defer c) (hro : F.round = none) : ∀ (fuel : Nat) (listed : Array Bool) (a : Act) (w : World), wpAnyIn F n P md ops Q fuel listed a w → wpAnyIn (F.inRound l) n P md ops Q fuel listed a w
  | 0, _, _, _, h => h
  | fuel + 1, listed, a, w, h => ⟨h.1, fun i hi => op_round hd hro (fun a' w' => any_round hd hro fuel _ a' w') (h.2 i hi)⟩

/-- No operation of a region defers a call. -/
def noDefer : List Oper → Bool
  | [] => true
  | o :: r => (match o.op with | .defer _ => false | _ => true) && noDefer r
theorem noDefer_spec : ∀ {l : List Oper}, noDefer l = true → ∀ o ∈ l, ∀ c, o.op ≠ .defer c
  | [], _, o, ho, c => by cases ho
  | x :: r, h, o, ho, c => by
    unfold noDefer at h
    rw [Bool.and_eq_true] at h
    rcases List.mem_cons.1 ho with rfl | ho
    · intro e
      rw [e] at h
      cases h.1
    · exact noDefer_spec h.2 o ho c

theorem region_quiet_round {id : Nat} {a : Act} {w : World} {os : List Oper} (hro : F.round = none) (hm : P.follows .mixedOrders = true) (hB : Region.lexB .any os.toArray = true) (hd : noDefer os = true)
    (h : wpQuietIn F n P os.toArray (fun w' => ∃ n, w' = w.drewN n) (fun a' => ∀ w', (∃ n, w' = w.drewN n) → Q .normal a' w') os a) : (Code.region id os.toArray true).wpIn (F.inRound l) n P Q a w := by
  simp only [Region.lexB, Bool.and_eq_true] at hB
  refine wpIn_region_any hm (any_round (fun i o ho => noDefer_spec hd o (by
    have := Array.mem_of_getElem? ho
    simpa using this)) hro _ _ _ _ (wpAnyIn_of_quiet (C := fun w' => ∃ n, w' = w.drewN n) (Q := fun a' => ∀ w', (∃ n, w' = w.drewN n) → Q .normal a' w') hro (fun _ w' hw' h => h w' hw') _ _ _ _ ⟨1, rfl⟩ ?_))
  have := wpAnyQIn_lex (F := F) (n := n) (C := fun w' => ∃ n, w' = w.drewN n) (md := .any) hB.1 os 0 (Array.replicate os.toArray.size false) a (by simp) (by simpa using hB.2) h
  simpa using this

end

section
variable {n : Nat} {P : Program} {ops : Array Oper} {Q : Exit → Act → World → Prop} {md : Region.Mode} {l : Nat}

theorem upon_wide {o : Oper} {a : Act} {K : Act → World → Prop} {r : Result Next} (h : o.upon P a K Q r) : o.uponIn Fence.wide n P a K Q r := by
  cases r with
  | ok x w' =>
    cases x with
    | enter f args => exact ⟨(fun h => by cases h), callsIn_wide.2 h⟩
    | row s args => exact ⟨(fun h => by cases h), fun c cs _ => let ⟨v, w9, r, s⟩ := h c cs; ⟨v, w9, r, stepsIn_wide.2 s⟩⟩
    | round l f t a b => exact (h : False).elim
    | _ => exact h
  | halt x w' => cases x <;> exact h

theorem op_wide (hQ : ¬ LetsOut Q) {i : Nat} {K : Act → World → Prop} {a : Act} {w : World} (h : wpOp P ops Q i K a w) : wpOpIn Fence.wide n P ops Q i K a w := by
  unfold wpOp at h
  unfold wpOpIn
  cases ho : ops[i]? with
  | none => simp only [ho] at h ⊢; exact h
  | some o =>
    simp only [ho] at h ⊢
    split
    · rename_i hw
      simp only [hw, if_true] at h
      rcases h with h | h
      · exact ⟨fun _ _ => trivial, upon_wide h⟩
      · exact (hQ h.2).elim
    · rename_i hw
      simp only [hw] at h
      exact ⟨fun _ _ => trivial, h⟩

theorem any_wide (hQ : ¬ LetsOut Q) : ∀ (fuel : Nat) (listed : Array Bool) (a : Act) (w : World), wpAny P md ops Q fuel listed a w → wpAnyIn Fence.wide n P md ops Q fuel listed a w
  | 0, _, _, _, h => h
  | fuel + 1, listed, a, w, h => ⟨h.1, fun i hi => wpOpIn_mono (fun a' w' h' => any_wide hQ fuel _ a' w' h') (op_wide hQ (h.2 i hi))⟩

theorem region_held_round {S : World → Prop} {id : Nat} {a : Act} {w : World} {os : List Oper} (hQ : ¬ LetsOut Q) (hm : P.follows .mixedOrders = true) (hd : noDefer os = true) (hS : S w.drew)
    (h : S w.drew → wpAnyH P .any os.toArray Q S os.toArray.size (Array.replicate os.toArray.size false) a w.drew) : (Code.region id os.toArray true).wpIn (Fence.wide.inRound l) n P Q a w := by
  refine wpIn_region_any hm (any_round (fun i o ho => noDefer_spec hd o (by
    have := Array.mem_of_getElem? ho
    simpa using this)) rfl _ _ _ _ (any_wide hQ _ _ _ _ (wpAny_of_held _ _ _ _ (h hS))))


theorem region_Z_round {S : World → Prop} {id : Nat} {a : Act} {w : World} {os : List Oper} (z : Nat) (hQ : ¬ LetsOut Q) (hm : P.follows .mixedOrders = true) (hd : noDefer os = true) (hS : S w.drew)
    (h : S w.drew → OrdersZ.wpAnyZ P .any os.toArray Q S z os.toArray.size (Array.replicate os.toArray.size false) a w.drew) : (Code.region id os.toArray true).wpIn (Fence.wide.inRound l) n P Q a w := by
  refine wpIn_region_any hm (any_round (fun i o ho => noDefer_spec hd o (by
    have := Array.mem_of_getElem? ho
    simpa using this)) rfl _ _ _ _ (any_wide hQ _ _ _ _ (OrdersZ.any_of_Z _ _ _ _ (h hS))))

end

end Go.Proofs.YtigepihinflkdaaGreatDoor.RoundAny

namespace Go.Proofs.YtigepihinflkdaaGreatDoor.GraphMath
set_option linter.unusedVariables false

/-- Two rising lists with the same numbers are one. -/
theorem rising_ext : ∀ {l l' : List Nat}, l.Pairwise (· < ·) → l'.Pairwise (· < ·) → (∀ x, x ∈ l ↔ x ∈ l') → l = l'
  | [], [], _, _, _ => rfl
  | [], y :: l', _, _, h => by have := (h y).2 List.mem_cons_self; cases this
  | x :: l, [], _, _, h => by have := (h x).1 List.mem_cons_self; cases this
  | x :: l, y :: l', h1, h2, h => by
    rw [List.pairwise_cons] at h1 h2
    have e : x = y := by
      rcases List.mem_cons.1 ((h x).1 List.mem_cons_self) with e | e
      · exact e
      · rcases List.mem_cons.1 ((h y).2 List.mem_cons_self) with e2 | e2
        · exact e2.symm
        · have a := h2.1 x e
          have b := h1.1 y e2
          omega
    subst e
    congr 1
    refine rising_ext h1.2 h2.2 fun z => ⟨fun hz => ?_, fun hz => ?_⟩
    · rcases List.mem_cons.1 ((h z).1 (List.mem_cons_of_mem _ hz)) with e | e
      · subst e; have := h1.1 z hz; omega
      · exact e
    · rcases List.mem_cons.1 ((h z).2 (List.mem_cons_of_mem _ hz)) with e | e
      · subst e; have := h2.1 z hz; omega
      · exact e

/-- Numbers as the program has them. -/
def ints (l : List Nat) : List Int := l.map (fun (x : Nat) => (x : Int))
theorem ints_length (l : List Nat) : (ints l).length = l.length := by simp [ints]
theorem ints_get (l : List Nat) (i : Nat) : (ints l)[i]? = (l[i]?).map (fun (x : Nat) => (x : Int)) := by simp [ints]
theorem ints_append (l m : List Nat) : ints (l ++ m) = ints l ++ ints m := by simp [ints]
theorem mem_ints {l : List Nat} {x : Nat} : (x : Int) ∈ ints l ↔ x ∈ l := by
  unfold ints
  rw [List.mem_map]
  constructor
  · rintro ⟨a, ha, e⟩
    obtain rfl : a = x := by omega
    exact ha
  · intro h; exact ⟨x, h, rfl⟩
theorem ints_inj {l m : List Nat} (h : ints l = ints m) : l = m := by
  unfold ints at h
  exact (List.map_inj_right (fun x y e => by exact Int.ofNat_inj.1 e)).1 h
theorem ints_nats {zs : List Int} (h : ∀ x ∈ zs, 0 ≤ x) : ∃ l, zs = ints l := ⟨zs.map Int.toNat, by
  unfold ints
  rw [List.map_map]
  conv => lhs; rw [← List.map_id zs]
  refine List.map_congr_left fun x hx => ?_
  have := h x hx
  simp; omega⟩

theorem compact_inv (d : Array Int) (hs : d.toList.Pairwise (· ≤ ·)) : ∀ m, m ≤ d.size → (Lib.compactUpTo d m).Pairwise (· < ·) ∧ (∀ x, x ∈ Lib.compactUpTo d m ↔ ∃ j, j < m ∧ d[j]! = x)
  | 0, _ => by simp [Lib.compactUpTo]
  | m + 1, hm => by
    obtain ⟨h1, h2⟩ := compact_inv d hs m (by omega)
    rw [Lib.compactUpTo_succ]
    have hle : ∀ j, j ≤ m → d[j]! ≤ d[m]! := fun j hj => by
      rw [getElem!_pos d j (by omega), getElem!_pos d m (by omega)]
      rcases Nat.lt_or_ge j m with h | h
      · exact List.pairwise_iff_getElem.1 hs j m (by simp; omega) (by simp; omega) h
      · obtain rfl : j = m := by omega
        exact Int.le_refl _
    by_cases hk : Lib.keeps d m = true
    · rw [if_pos hk]
      refine ⟨?_, fun x => ?_⟩
      · rw [List.pairwise_append]
        refine ⟨h1, by simp, fun a ha b hb => ?_⟩
        obtain rfl : b = d[m]! := by simpa using hb
        obtain ⟨j, hj, rfl⟩ := (h2 a).1 ha
        have h0 : m ≠ 0 := by omega
        have hne : d[m]! ≠ d[m - 1]! := by simpa [Lib.keeps, h0] using hk
        have hlt : d[m - 1]! ≤ d[m]! := hle (m - 1) (by omega)
        have hj1 : d[j]! ≤ d[m - 1]! := by
          rw [getElem!_pos d j (by omega), getElem!_pos d (m - 1) (by omega)]
          rcases Nat.lt_or_ge j (m - 1) with h | h
          · exact List.pairwise_iff_getElem.1 hs j (m - 1) (by simp; omega) (by simp; omega) h
          · have e : j = m - 1 := by omega
            subst e
            exact Int.le_refl _
        omega
      · rw [List.mem_append, h2]
        constructor
        · rintro (⟨j, hj, e⟩ | h)
          · exact ⟨j, by omega, e⟩
          · exact ⟨m, by omega, by simpa using (by simpa using h : x = d[m]!).symm⟩
        · rintro ⟨j, hj, e⟩
          rcases Nat.lt_or_ge j m with h | h
          · exact .inl ⟨j, h, e⟩
          · obtain rfl : j = m := by omega
            exact .inr (by simp [e])
    · rw [if_neg hk, List.append_nil]
      have h0 : m ≠ 0 := by intro e; subst e; simp [Lib.keeps] at hk
      have heq : d[m]! = d[m - 1]! := by
        have : ¬ (d[m]! ≠ d[m - 1]!) := fun hne => hk (Lib.keeps_pos hne)
        omega
      refine ⟨h1, fun x => ?_⟩
      rw [h2]
      constructor
      · rintro ⟨j, hj, e⟩; exact ⟨j, by omega, e⟩
      · rintro ⟨j, hj, e⟩
        rcases Nat.lt_or_ge j m with h | h
        · exact ⟨j, h, e⟩
        · obtain rfl : j = m := by omega
          exact ⟨j - 1, by omega, by rw [← heq]; exact e⟩

/-- Edges of a graph of m nodes: the nodes that a node's edges lead to, rising, each once. -/
def adj (m : Nat) (es : List (Nat × Nat)) (a : Nat) : List Nat := (List.range m).filter (fun b => decide ((a, b) ∈ es))
theorem mem_adj {m : Nat} {es : List (Nat × Nat)} {a b : Nat} : b ∈ adj m es a ↔ b < m ∧ (a, b) ∈ es := by simp [adj]
theorem adj_rising (m : Nat) (es : List (Nat × Nat)) (a : Nat) : (adj m es a).Pairwise (· < ·) := List.Pairwise.filter _ List.pairwise_lt_range
/-- The ends of a node's edges, as they come. -/
def raw (es : List (Nat × Nat)) (a : Nat) : List Nat := (es.filter (fun e => decide (e.1 = a))).map (·.2)
theorem mem_raw {es : List (Nat × Nat)} {a b : Nat} : b ∈ raw es a ↔ (a, b) ∈ es := by
  simp only [raw, List.mem_map, List.mem_filter, decide_eq_true_eq]
  constructor
  · rintro ⟨⟨x, y⟩, ⟨h1, rfl⟩, rfl⟩; exact h1
  · intro h; exact ⟨(a, b), ⟨h, rfl⟩, rfl⟩
theorem raw_append (es : List (Nat × Nat)) (x y a : Nat) : raw (es ++ [(x, y)]) a = if x = a then raw es a ++ [y] else raw es a := by
  unfold raw
  rw [List.filter_append, List.map_append]
  by_cases h : x = a
  · simp [h]
  · simp [h]
theorem raw_length (es : List (Nat × Nat)) (a : Nat) : (raw es a).length ≤ es.length := by
  unfold raw
  rw [List.length_map]
  exact List.length_filter_le _ _

theorem sorted_perm (zs : List Int) : (zs.mergeSort fun x y => decide (x ≤ y)).Pairwise (· ≤ ·) := by
  have h := List.pairwise_mergeSort (le := fun (x y : Int) => decide (x ≤ y)) (fun a b c h1 h2 => by simp at *; omega) (fun a b => by simp; omega) zs
  exact h.imp (by simp)

/-- What sorting and compacting leaves of any numbers that are the ones of a rising list. -/
theorem sort_compact {zs : List Int} {l : List Nat} (hl : l.Pairwise (· < ·)) (h : ∀ x : Int, x ∈ zs ↔ x ∈ ints l) : Lib.compact (zs.mergeSort fun x y => decide (x ≤ y)) = ints l := by
  have hp := sorted_perm zs
  have hm : ∀ x, x ∈ (zs.mergeSort fun x y => decide (x ≤ y)) ↔ x ∈ zs := fun x => List.mem_mergeSort
  generalize (zs.mergeSort fun x y => decide (x ≤ y)) = s at *
  obtain ⟨h1, h2⟩ := compact_inv s.toArray (by simpa using hp) s.length (by simp)
  have h3 : ∀ x, x ∈ Lib.compact s ↔ x ∈ ints l := fun x => by
    unfold Lib.compact
    rw [h2, ← h, ← hm, List.mem_iff_getElem]
    constructor
    · rintro ⟨j, hj, e⟩; exact ⟨j, hj, by rw [getElem!_pos s.toArray j (by simpa using hj)] at e; simpa using e⟩
    · rintro ⟨j, hj, e⟩; exact ⟨j, hj, by rw [getElem!_pos s.toArray j (by simpa using hj)]; simpa using e⟩
  obtain ⟨k, hk⟩ := ints_nats (zs := Lib.compact s) (fun x hx => by
    obtain ⟨y, _, rfl⟩ := List.mem_map.1 ((h3 x).1 hx)
    exact Int.natCast_nonneg y)
  have h4 : (Lib.compact s).Pairwise (· < ·) := h1
  rw [hk] at h3 h4 ⊢
  have h5 : k.Pairwise (· < ·) := by
    unfold ints at h4
    rw [List.pairwise_map] at h4
    exact h4.imp (by intro a b h; omega)
  rw [rising_ext h5 hl (fun x => by
    have := h3 (x : Int)
    rwa [mem_ints, mem_ints] at this)]

theorem sort_ints {l l' : List Nat} (hn : l.Nodup) (hl : l'.Pairwise (· < ·)) (h : ∀ x, x ∈ l ↔ x ∈ l') : ((ints l).mergeSort fun x y => decide (x ≤ y)) = ints l' := by
  have hp := sorted_perm (ints l)
  have hperm : ((ints l).mergeSort fun x y => decide (x ≤ y)).Perm (ints l) := List.mergeSort_perm _ _
  generalize ((ints l).mergeSort fun x y => decide (x ≤ y)) = s at *
  have hnd : (ints l).Nodup := by
    unfold ints
    unfold List.Nodup at hn ⊢
    rw [List.pairwise_map]
    exact hn.imp (by intro a b h e; exact h (by omega))
  have hs : s.Pairwise (· < ·) := by
    have h1 := hperm.nodup_iff.2 hnd
    exact (hp.and h1).imp (by intro a b ⟨h1, h2⟩; omega)
  obtain ⟨k, rfl⟩ := ints_nats (zs := s) (fun x hx => by
    obtain ⟨y, _, rfl⟩ := List.mem_map.1 (hperm.mem_iff.1 hx)
    exact Int.natCast_nonneg y)
  have h5 : k.Pairwise (· < ·) := by
    unfold ints at hs
    rw [List.pairwise_map] at hs
    exact hs.imp (by intro a b h; omega)
  rw [rising_ext h5 hl (fun x => by
    rw [← h]
    have := hperm.mem_iff (a := (x : Int))
    rwa [mem_ints, mem_ints] at this)]

/-- Where ways lead from some nodes: the nodes that are met, and what is ahead of each. -/
structure Tr where
  nodes : List Nat
  ahead : Nat → Int

def updA (f : Nat → Int) (x : Nat) (v : Int) : Nat → Int := fun y => if y = x then v else f y
theorem updA_at (f : Nat → Int) (x : Nat) (v : Int) : updA f x v x = v := by simp [updA]
theorem updA_ne (f : Nat → Int) {x y : Nat} (v : Int) (h : y ≠ x) : updA f x v y = f y := by simp [updA, h]

def meet (t : Tr) (x : Nat) (a : Int) : Tr := if t.ahead x = -1 then ⟨t.nodes ++ [x], updA t.ahead x a⟩ else t
def meets (t : Tr) (a : Nat) (xs : List Nat) : Tr := xs.foldl (fun t x => meet t x a) t
def start (xs : List Nat) : Tr := xs.foldl (fun t x => meet t x x) ⟨[], fun _ => -1⟩
def run (m : Nat) (es : List (Nat × Nat)) : Nat → Nat → Tr → Tr
  | 0, _, t => t
  | f + 1, k, t => match t.nodes[k]? with
    | none => t
    | some x => run m es f (k + 1) (meets t x (adj m es x))
def tour (m : Nat) (es : List (Nat × Nat)) (xs : List Nat) : Tr := run m es (m + 1) 0 (start xs)

/-- A tour that may be. -/
structure Ok (m : Nat) (t : Tr) : Prop where
  nodup : t.nodes.Nodup
  lt : ∀ x ∈ t.nodes, x < m
  met : ∀ x, x ∈ t.nodes ↔ t.ahead x ≠ -1
  val : ∀ x ∈ t.nodes, ∃ y ∈ t.nodes, t.ahead x = (y : Int)

theorem nodup_le {m : Nat} {l : List Nat} (hn : l.Nodup) (h : ∀ x ∈ l, x < m) : l.length ≤ m := by
  have := List.Nodup.length_le_of_subset (l₁ := l) (l₂ := List.range m) hn (fun x hx => List.mem_range.2 (h x hx))
  simpa using this
theorem Ok.len {m : Nat} {t : Tr} (h : Ok m t) : t.nodes.length ≤ m := nodup_le h.nodup h.lt

theorem Ok.nil (m : Nat) : Ok m ⟨[], fun _ => -1⟩ := ⟨by simp, by simp, by simp, by simp⟩
theorem Ok.meet {m : Nat} {t : Tr} (h : Ok m t) {x a : Nat} (hx : x < m) (ha : a ∈ t.nodes ∨ a = x) : Ok m (meet t x a) := by
  unfold GraphMath.meet
  by_cases hm : t.ahead x = -1
  · rw [if_pos hm]
    have hno : x ∉ t.nodes := fun hc => (h.met x).1 hc hm
    refine ⟨?_, ?_, ?_, ?_⟩
    · rw [List.nodup_append]
      exact ⟨h.nodup, by simp, fun a ha b hb e => hno (by rw [List.mem_singleton.1 hb] at e; rw [← e]; exact ha)⟩
    · intro y hy
      rcases List.mem_append.1 hy with h1 | h1
      · exact h.lt y h1
      · rw [List.mem_singleton.1 h1]; exact hx
    · intro y
      dsimp only
      rw [List.mem_append, List.mem_singleton]
      by_cases e : y = x
      · subst e
        rw [updA_at]
        exact ⟨fun _ => by omega, fun _ => .inr rfl⟩
      · rw [updA_ne _ _ e, ← h.met]
        exact ⟨fun h => h.resolve_right e, .inl⟩
    · intro y hy
      dsimp only at *
      by_cases e : y = x
      · subst e
        rw [updA_at]
        refine ⟨a, ?_, rfl⟩
        rcases ha with h1 | h1
        · exact List.mem_append.2 (.inl h1)
        · rw [h1]; simp
      · rw [updA_ne _ _ e]
        obtain ⟨z, hz, e2⟩ := h.val y ((List.mem_append.1 hy).resolve_right (by simpa using e))
        exact ⟨z, List.mem_append.2 (.inl hz), e2⟩
  · rw [if_neg hm]; exact h
theorem meet_mem {t : Tr} {x : Nat} {a : Int} {y : Nat} (hy : y ∈ t.nodes) : y ∈ (GraphMath.meet t x a).nodes := by
  unfold GraphMath.meet
  split
  · exact List.mem_append.2 (.inl hy)
  · exact hy
theorem meet_pre {t : Tr} {x : Nat} {a : Int} : t.nodes <+: (GraphMath.meet t x a).nodes := by
  unfold GraphMath.meet
  split
  · exact List.prefix_append _ _
  · exact List.prefix_refl _
theorem meet_self {m : Nat} {t : Tr} (h : Ok m t) {x : Nat} {a : Int} : x ∈ (GraphMath.meet t x a).nodes := by
  unfold GraphMath.meet
  by_cases hm : t.ahead x = -1
  · rw [if_pos hm]; simp
  · rw [if_neg hm]; exact (h.met x).2 hm
theorem meet_new {t : Tr} {x : Nat} {a : Int} {y : Nat} (hy : y ∈ (GraphMath.meet t x a).nodes) : y ∈ t.nodes ∨ y = x := by
  unfold GraphMath.meet at hy
  by_cases hm : t.ahead x = -1
  · rw [if_pos hm] at hy; simpa using hy
  · rw [if_neg hm] at hy; exact .inl hy

theorem meets_cons (t : Tr) (a x : Nat) (xs : List Nat) : meets t a (x :: xs) = meets (GraphMath.meet t x a) a xs := rfl
theorem meets_snoc (t : Tr) (a x : Nat) (xs : List Nat) : meets t a (xs ++ [x]) = GraphMath.meet (meets t a xs) x a := by simp [meets]
theorem start_snoc (x : Nat) (xs : List Nat) : start (xs ++ [x]) = GraphMath.meet (start xs) x x := by simp [start]

theorem meets_facts {m a : Nat} : ∀ (xs : List Nat) (t : Tr), Ok m t → (∀ x ∈ xs, x < m) → a ∈ t.nodes → Ok m (meets t a xs) ∧ t.nodes <+: (meets t a xs).nodes ∧ (∀ x ∈ xs, x ∈ (meets t a xs).nodes) ∧ ∀ y ∈ (meets t a xs).nodes, y ∈ t.nodes ∨ y ∈ xs
  | [], t, h, _, _ => ⟨h, List.prefix_refl _, by simp, fun y hy => .inl hy⟩
  | x :: xs, t, h, hx, ha => by
    rw [meets_cons]
    obtain ⟨h1, h2, h3, h4⟩ := meets_facts xs (GraphMath.meet t x a) (h.meet (hx x List.mem_cons_self) (.inl ha)) (fun y hy => hx y (List.mem_cons_of_mem _ hy)) (meet_mem ha)
    refine ⟨h1, meet_pre.trans h2, fun y hy => ?_, fun y hy => ?_⟩
    · rcases List.mem_cons.1 hy with rfl | hy
      · exact h2.subset (meet_self h)
      · exact h3 y hy
    · rcases h4 y hy with h5 | h5
      · rcases meet_new h5 with h6 | rfl
        · exact .inl h6
        · exact .inr List.mem_cons_self
      · exact .inr (List.mem_cons_of_mem _ h5)

theorem start_facts {m : Nat} (xs : List Nat) (hx : ∀ x ∈ xs, x < m) : Ok m (start xs) ∧ ∀ y, y ∈ (start xs).nodes ↔ y ∈ xs := by
  unfold start
  have key : ∀ (xs : List Nat) (t : Tr), Ok m t → (∀ x ∈ xs, x < m) → Ok m (xs.foldl (fun t x => GraphMath.meet t x x) t) ∧ ∀ y, y ∈ (xs.foldl (fun t x => GraphMath.meet t x x) t).nodes ↔ y ∈ t.nodes ∨ y ∈ xs := by
    intro xs
    induction xs with
    | nil => intro t h _; exact ⟨h, fun y => by simp⟩
    | cons x xs ih =>
      intro t h hx
      obtain ⟨h1, h2⟩ := ih (GraphMath.meet t x x) (h.meet (hx x List.mem_cons_self) (.inr rfl)) (fun y hy => hx y (List.mem_cons_of_mem _ hy))
      refine ⟨h1, fun y => ?_⟩
      rw [List.foldl_cons, h2, List.mem_cons]
      constructor
      · rintro (h3 | h3)
        · rcases meet_new h3 with h4 | h4
          · exact .inl h4
          · exact .inr (.inl h4)
        · exact .inr (.inr h3)
      · rintro (h3 | rfl | h3)
        · exact .inl (meet_mem h3)
        · exact .inl (meet_self h)
        · exact .inr h3
  obtain ⟨h1, h2⟩ := key xs ⟨[], fun _ => -1⟩ (Ok.nil m) hx
  exact ⟨h1, fun y => by rw [h2]; simp⟩

/-- Ways. -/
inductive Way (es : List (Nat × Nat)) : Nat → Nat → Prop
  | none (a : Nat) : Way es a a
  | more {a b c : Nat} : Way es a b → (b, c) ∈ es → Way es a c

theorem run_facts {m : Nat} {es : List (Nat × Nat)} (hes : ∀ e ∈ es, e.1 < m ∧ e.2 < m) {R : Nat → Prop} (hR : ∀ a b, R a → (a, b) ∈ es → R b) : ∀ (f k : Nat) (t : Tr), Ok m t → m + 1 ≤ f + k → k ≤ t.nodes.length →
    (∀ j x, j < k → t.nodes[j]? = some x → ∀ y, (x, y) ∈ es → y ∈ t.nodes) → (∀ x ∈ t.nodes, R x) →
    Ok m (run m es f k t) ∧ t.nodes <+: (run m es f k t).nodes ∧ (∀ x ∈ (run m es f k t).nodes, ∀ y, (x, y) ∈ es → y ∈ (run m es f k t).nodes) ∧ ∀ x ∈ (run m es f k t).nodes, R x
  | 0, k, t, h, hf, hk, hc, hr => by have := h.len; omega
  | f + 1, k, t, h, hf, hk, hc, hr => by
    cases hx : t.nodes[k]? with
    | none =>
      have e0 : run m es (f + 1) k t = t := by simp only [run, hx]
      rw [e0]
      have hlen : t.nodes.length ≤ k := List.getElem?_eq_none_iff.1 hx
      refine ⟨h, List.prefix_refl _, fun x hx y hy => ?_, hr⟩
      obtain ⟨j, hj, e⟩ := List.mem_iff_getElem.1 hx
      exact hc j x (by omega) (by rw [List.getElem?_eq_getElem hj, e]) y hy
    | some x =>
      have e0 : run m es (f + 1) k t = run m es f (k + 1) (meets t x (adj m es x)) := by simp only [run, hx]
      rw [e0]
      have hxm := List.mem_of_getElem? hx
      obtain ⟨h1, h2, h3, h4⟩ := meets_facts (m := m) (a := x) (adj m es x) t h (fun y hy => (mem_adj.1 hy).1) hxm
      obtain ⟨hk2, _⟩ := List.getElem?_eq_some_iff.1 hx
      obtain ⟨g1, g2, g3, g4⟩ := run_facts hes hR f (k + 1) (meets t x (adj m es x)) h1 (by omega) (by have := h2.length_le; omega) (fun j z hj hz y hy => by
        have hjl : j < t.nodes.length := by omega
        have hz2 : t.nodes[j]? = some z := by
          rw [← hz]
          obtain ⟨s, hs⟩ := h2
          rw [← hs, List.getElem?_append_left hjl]
        by_cases e : j = k
        · subst e
          rw [hx] at hz2
          obtain rfl := Option.some.inj hz2
          exact h3 y (mem_adj.2 ⟨(hes _ hy).2, hy⟩)
        · exact h2.subset (hc j z (by omega) hz2 y hy)) (fun y hy => by
        rcases h4 y hy with h5 | h5
        · exact hr y h5
        · exact hR x y (hr x hxm) (mem_adj.1 h5).2)
      exact ⟨g1, h2.trans g2, g3, g4⟩

theorem tour_facts {m : Nat} {es : List (Nat × Nat)} (hes : ∀ e ∈ es, e.1 < m ∧ e.2 < m) (xs : List Nat) (hx : ∀ x ∈ xs, x < m) : Ok m (tour m es xs) ∧ ∀ y, y ∈ (tour m es xs).nodes ↔ ∃ x ∈ xs, Way es x y := by
  obtain ⟨h1, h2⟩ := start_facts xs hx
  obtain ⟨g1, g2, g3, g4⟩ := run_facts hes (R := fun y => ∃ x ∈ xs, Way es x y) (fun a b ⟨x, hx, hw⟩ he => ⟨x, hx, hw.more he⟩) (m + 1) 0 (start xs) h1 (by omega) (by omega) (by omega) (fun y hy => ⟨y, (h2 y).1 hy, .none y⟩)
  refine ⟨g1, fun y => ⟨g4 y, ?_⟩⟩
  rintro ⟨x, hx, hw⟩
  induction hw with
  | none => exact g2.subset ((h2 _).2 hx)
  | more _ he ih => exact g3 _ ih _ he

/-- Which nodes are reached, rising. -/
noncomputable def reach (m : Nat) (es : List (Nat × Nat)) (xs : List Nat) : List Nat := (List.range m).filter (fun y => decide (y ∈ (tour m es xs).nodes))
theorem reach_rising (m : Nat) (es : List (Nat × Nat)) (xs : List Nat) : (reach m es xs).Pairwise (· < ·) := List.Pairwise.filter _ List.pairwise_lt_range
theorem mem_reach {m : Nat} {es : List (Nat × Nat)} {xs : List Nat} {y : Nat} : y ∈ reach m es xs ↔ y < m ∧ y ∈ (tour m es xs).nodes := by simp [reach]

end Go.Proofs.YtigepihinflkdaaGreatDoor.GraphMath
