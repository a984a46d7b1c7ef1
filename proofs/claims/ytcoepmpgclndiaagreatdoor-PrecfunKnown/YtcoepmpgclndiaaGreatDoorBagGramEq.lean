/-
  Texts that stand together: GramEq, GramLent, GramApart0, RoundAny.
-/
import Derived.Test.YtcoepmpgclndiaaGreatDoorBagGramAboveFn
import Derived.Laws.AppendOwnNone
import Derived.WalkSpells
import Derived.Maps.AppendAt
import Derived.RangeFuncBox
import Derived.Test.YtcoepmpgclndiaaGreatDoorBagUsefulTabs
import Derived.RangeFuncNested
import Derived.RangeFuncBound
import Derived.RangeFuncCalls
import Derived.RangeFuncLeaves
import Derived.Shelf.Abstract
import Derived.Shelf.RegionOpen
import Derived.OwnWalkIn
import Derived.TacticsInMore
import Derived.LoopNIn
import Derived.LoopIn
import Derived.Sort.QuietTacIn
import Derived.Deep.RegionHeld3
import Derived.Below
namespace Go.Proofs.YtcoepmpgclndiaaGreatDoor.GramSame
open Go.RowKit Go.Proofs.YtcoepmpgclndiaaGreatDoor.GramMath Go.Proofs.YtcoepmpgclndiaaGreatDoor.GramRow Go.Proofs.YtcoepmpgclndiaaGreatDoor.GramOne
set_option linter.unusedVariables false

open Classical in
noncomputable def eqI (a b : List Int) : Bool := decide (a = b)
open Classical in
noncomputable def eqS (a b : List ByteArray) : Bool := decide (a = b)
open Classical in
noncomputable def eqRs (a b : List R) : Bool := decide (a = b)
open Classical in
noncomputable def eqR (a b : R) : Bool := decide (a = b)
open Classical in
noncomputable def eqG (a b : G) : Bool := decide (a = b)

theorem cdt {p : Prop} (d : Decidable p) (h : p) : @decide p d = true := by simp [h]
theorem cdf {p : Prop} (d : Decidable p) (h : ¬ p) : @decide p d = false := by simp [h]

theorem list_same {α : Type} {a b : List α} (hl : a.length = b.length) (h : ∀ j, j < a.length → a[j]? = b[j]?) : a = b := by
  apply List.ext_getElem?
  intro j
  rcases Nat.lt_or_ge j a.length with hj | hj
  · exact h j hj
  · rw [List.getElem?_eq_none hj, List.getElem?_eq_none (by omega)]

theorem list_len {α : Type} {a b : List α} (hl : a.length ≠ b.length) : a ≠ b := fun h => hl (by rw [h])
theorem list_at {α : Type} {a b : List α} {k : Nat} {x y : α} (ha : a[k]? = some x) (hb : b[k]? = some y) (h : x ≠ y) : a ≠ b := fun e => h (by rw [e, hb] at ha; exact (Option.some.inj ha).symm)
theorem step_same {α : Type} {a b : List α} {k : Nat} {x : α} (ha : a[k]? = some x) (hb : b[k]? = some x) (h : ∀ j, j < k → a[j]? = b[j]?) : ∀ j, j < k + 1 → a[j]? = b[j]? := fun j hj => by
  by_cases e : j = k
  · subst e; rw [ha, hb]
  · exact h j (by omega)

theorem int_ne {x y : Int} (h : x ≠ y) : (x != y) = true := by simpa using h
theorem int_eq (x : Int) : (x != x) = false := by simp

set_option maxRecDepth 100000 in
set_option maxHeartbeats 2000000 in
theorem ints_any (a b : Option Addr) (ca cb : Nat) (xs ys : List Int) (w : World) (ha : IRow w a xs) (hb : IRow w b ys) (hm : xs.length ≤ 1125899906842624) (hn : ys.length ≤ 1125899906842624) :
    Calls Tryz.prog 9 #[.slice a xs.length ca, .slice b ys.length cb] w fun e w' => e = .returned (.bool (eqI xs ys)) ∧ ∃ q, w' = w.drewN q := by
  by_cases hl : xs.length = ys.length
  · have hl2 : ((xs.length : Int) != (ys.length : Int)) = false := by simp; omega
    go_enter Tryz.func9, Tryz.ntmps9
    go_wp2
    go_loopw [5] (fun i wr => ∃ k q : Nat, k ≤ xs.length ∧ i = .int .i64 k ∧ wr = w.drewN q ∧ Hid (∀ j, j < k → xs[j]? = ys[j]?)) (fun i _ => xs.length - (intOf i).toNat)
    case atStart => exact ⟨0, 0, by omega, rfl, rfl, fun j hj => by omega⟩
    case round =>
      clear hl2
      obtain ⟨k, q, hk, rfl, rfl, hal⟩ := hrel
      by_cases hlt : k < xs.length
      · obtain ⟨x, hx⟩ : ∃ x, xs[k]? = some x := ⟨xs[k], List.getElem?_eq_getElem hlt⟩
        obtain ⟨y, hy⟩ : ∃ y, ys[k]? = some y := ⟨ys[k], List.getElem?_eq_getElem (by omega)⟩
        obtain ⟨b1, off1, rfl, c1⟩ := ha k x hx
        obtain ⟨b2, off2, rfl, c2⟩ := hb k y hy
        have hlt2 : (k : Int) < (xs.length : Int) := by omega
        have hlt3 : (k : Int) < (ys.length : Int) := by omega
        by_cases hxy : x = y
        · subst hxy
          have hal2 : Hid (∀ j, j < k + 1 → xs[j]? = ys[j]?) := step_same hx hy hal.out
          have hf := int_eq x
          clear ha hb hx hy hal hl
          go_wp2
          go_quiet (fail)
          go_wp2
          go_roundw
          case rel => exact ⟨k + 1, _, by omega, by go_num, rfl, hal2⟩
          case measure => simp [intOf]; omega
        · have E : Hid (eqI xs ys = false) := by show _ = _; unfold eqI; exact cdf _ (list_at hx hy hxy)
          have hf := int_ne hxy
          clear ha hb hx hy hal hl hxy
          go_wp2
          go_quiet (fail)
          go_wp2
          go_ret
          exact ⟨ret_bool E.out.symm, _, World.drewN_drewN _ _ _⟩
      · have hnl : ¬ (k : Int) < (xs.length : Int) := by omega
        have hnl2 : ¬ (k : Int) < (ys.length : Int) := by omega
        have E : Hid (eqI xs ys = true) := by show _ = _; unfold eqI; exact cdt _ (list_same hl (fun j hj => hal.out j (by omega)))
        clear ha hb hal hl hk hlt
        go_wp2
        go_ret
        exact ⟨ret_bool E.out.symm, _, rfl⟩
  · have hl2 : ((xs.length : Int) != (ys.length : Int)) = true := by simp; omega
    have E : Hid (eqI xs ys = false) := by show _ = _; unfold eqI; exact cdf _ (list_len hl)
    clear hl
    go_enter Tryz.func9, Tryz.ntmps9
    go_wp2
    go_ret
    exact ⟨ret_bool E.out.symm, 0, rfl⟩

end Go.Proofs.YtcoepmpgclndiaaGreatDoor.GramSame

namespace Go.Proofs.YtcoepmpgclndiaaGreatDoor.GramLent
open Go.RowKit Go.Proofs.YtcoepmpgclndiaaGreatDoor.GramMath Go.Proofs.YtcoepmpgclndiaaGreatDoor.GramRow Go.Proofs.YtcoepmpgclndiaaGreatDoor.GramSame
set_option linter.unusedVariables false

theorem own_cap {w : World} {base : Nat} {e : TypeId} {g n c : Nat} {xs : List Value} (h : w.ownsRow base e 1 (.slice (some ⟨g, 0, none⟩) n c) n xs) : n ≤ c ∧ c ≤ maxLen ∧ base ≤ g := by
  obtain ⟨_, h | ⟨g', cap, cur, hv, hb, _, hn, hm, _⟩⟩ := h
  · exact absurd h.1 (by simp)
  · simp at hv
    obtain ⟨rfl, rfl⟩ := hv
    exact ⟨hn, hm, hb⟩

def markS : ByteArray := ByteArray.mk #[109, 97, 114, 107]

theorem infoI : (Tryz.prog.info? 3).map (fun i => (i.zero, i.size, i.bytes)) = some (some (.int .i64 0), 1, 8) := by kernel_rfl

theorem row_frontI {w : World} {a : Option Addr} {zs ys : List Int} (h : IRow w a (zs ++ ys)) : IRow w a zs := fun i x hx => h i x (by
  have hi : i < zs.length := by
    rcases Nat.lt_or_ge i zs.length with h | h
    · exact h
    · rw [List.getElem?_eq_none h] at hx; cases hx
  rw [List.getElem?_append_left hi]; exact hx)

theorem row_frontS {w : World} {a : Option Addr} {zs ys : List ByteArray} (h : SRow w a (zs ++ ys)) : SRow w a zs := fun i x hx => h i x (by
  have hi : i < zs.length := by
    rcases Nat.lt_or_ge i zs.length with h | h
    · exact h
    · rw [List.getElem?_eq_none h] at hx; cases hx
  rw [List.getElem?_append_left hi]; exact hx)

end Go.Proofs.YtcoepmpgclndiaaGreatDoor.GramLent

namespace Go.Proofs.YtcoepmpgclndiaaGreatDoor.GramApart
open Go.RowKit Go.Proofs.YtcoepmpgclndiaaGreatDoor.GramMath Go.Proofs.YtcoepmpgclndiaaGreatDoor.GramRow
set_option linter.unusedVariables false

def RowAt (w : World) (b : Nat) (t : TypeId) (cur : Array Value) : Prop := w.heap[b]? = some (.cells cur t (0, 0))

theorem RowAt.lt {w : World} {b : Nat} {t : TypeId} {cur : Array Value} (h : RowAt w b t cur) : b < w.heap.size := (Array.getElem?_eq_some_iff.1 h).1

theorem RowAt.cell {w : World} {b : Nat} {t : TypeId} {cur : Array Value} (h : RowAt w b t cur) {q : Nat} {v : Value} (hq : cur[q]? = some v) : w.cell? ⟨b, q, none⟩ = some v := by
  unfold World.cell?
  rw [show w.heap[b]? = _ from h]
  exact hq

theorem RowAt.frozen {w : World} {b : Nat} {t : TypeId} {cur : Array Value} (h : RowAt w b t cur) (q : Nat) : w.frozen? ⟨b, q, none⟩ = false := by
  simp [World.frozen?, show w.heap[b]? = _ from h]

theorem RowAt.set {w : World} {b : Nat} {t : TypeId} {cur : Array Value} (h : RowAt w b t cur) (q : Nat) (v : Value) : RowAt (w.setCell ⟨b, q, none⟩ v) b t (cur.setIfInBounds q v) := by
  unfold RowAt at h ⊢
  simp only [World.setCell, Array.getElem?_modify]
  simp [h]

theorem RowAt.other {w : World} {b b' : Nat} {t : TypeId} {cur : Array Value} (h : RowAt w b t cur) (hne : b ≠ b') (q : Nat) (v : Value) : RowAt (w.setCell ⟨b', q, none⟩ v) b t cur := by
  unfold RowAt at h ⊢
  rw [Below.heap_setCell _ _ _ _ hne]
  exact h

theorem RowAt.below {w w' : World} {B b : Nat} {t : TypeId} {cur : Array Value} (h : RowAt w b t cur) (hb : Below B w w') (hlt : b < B) : RowAt w' b t cur := (hb.block b hlt).trans h

theorem RowAt.grown {w w' : World} {row : Option Nat} {b : Nat} {t : TypeId} {cur : Array Value} (h : RowAt w b t cur) (hg : w.grownBy w' row) (hne : some b ≠ row) : RowAt w' b t cur := (hg.block b h.lt hne).trans h

theorem RowAt.alloc {w : World} {b : Nat} {t : TypeId} {cur : Array Value} (h : RowAt w b t cur) (o : Obj) : RowAt (w.alloc o) b t cur := (Below.heap_alloc w o b h.lt).trans h

theorem RowAt.ne {w : World} {b b' : Nat} {t t' : TypeId} {cur cur' : Array Value} (h : RowAt w b t cur) (h' : RowAt w b' t' cur') (ht : t ≠ t') : b ≠ b' := by
  intro e
  subst e
  unfold RowAt at h h'
  rw [h] at h'
  cases h'
  exact ht rfl

theorem RowAt.not_own {w : World} {b : Nat} {t e : TypeId} {cur : Array Value} (h : RowAt w b t cur) (ht : t ≠ e) {base size n : Nat} {v : Value} {xs : List Value} (hr : w.ownsRow base e size v n xs) : some b ≠ v.ownBlock := by
  obtain ⟨_, ⟨rfl, _⟩ | ⟨g, cap, cur', rfl, _, hg, _⟩⟩ := hr
  · simp [Value.ownBlock]
  · intro hq
    simp only [Value.ownBlock, Option.some.injEq] at hq
    exact h.ne hg ht hq

theorem own_base {w : World} {base base' : Nat} {e : TypeId} {size n : Nat} {v : Value} {xs : List Value} (h : w.ownsRow base e size v n xs) (hb : base' ≤ base) : w.ownsRow base' e size v n xs := by
  obtain ⟨h1, h | ⟨g, cap, cur, hv, hbb, rest⟩⟩ := h
  · exact ⟨h1, .inl h⟩
  · exact ⟨h1, .inr ⟨g, cap, cur, hv, by omega, rest⟩⟩

/-- The marks that have been written into the lists: all of those before i, the first k of the i-th. -/
def Marked (mk : Int → Value) (m : Nat) (g N : Nat → Nat) (w : World) (i k : Nat) : Prop :=
  ∀ j, j < m → ∀ q, q < N j → w.frozen? ⟨g j, q, none⟩ = false ∧ ∃ v, w.cell? ⟨g j, q, none⟩ = some v ∧ ((j < i ∨ j = i ∧ q < k) → v = mk (1000 * (j : Int) + (q : Int)))

theorem Marked.next {mk : Int → Value} {m : Nat} {g N : Nat → Nat} {w : World} {i : Nat} (h : Marked mk m g N w i (N i)) : Marked mk m g N w (i + 1) 0 := by
  intro j hj q hq
  obtain ⟨hf, v, hv, hc⟩ := h j hj q hq
  refine ⟨hf, v, hv, fun hcase => hc ?_⟩
  by_cases e : j = i
  · subst e; exact .inr ⟨rfl, hq⟩
  · exact .inl (by omega)

theorem Marked.below {mk : Int → Value} {m B : Nat} {g N : Nat → Nat} {w w' : World} {i k : Nat} (h : Marked mk m g N w i k) (hb : Below B w w') (hg : ∀ j, j < m → 0 < N j → g j < B) : Marked mk m g N w' i k := by
  intro j hj q hq
  obtain ⟨hf, v, hv, hc⟩ := h j hj q hq
  have hB := hg j hj (by omega)
  exact ⟨(hb.frozen (p := ⟨g j, q, none⟩) hB).trans hf, v, (hb.cell (p := ⟨g j, q, none⟩) hB).trans hv, hc⟩

/-- What a list that was gone on with holds. -/
def Longer (mk : Int → Value) (w : World) (t : TypeId) (j n : Nat) (v : Value) : Prop :=
  ∃ h c cur, v = .slice (some ⟨h, 0, none⟩) (n + 30) c ∧ RowAt w h t cur ∧ (∀ q, q < n → cur[q]? = some (mk (1000 * (j : Int) + (q : Int)))) ∧ ∀ q, q < 30 → cur[n + q]? = some (mk (500000 + 1000 * (j : Int) + (q : Int)))

theorem Longer.below {mk : Int → Value} {w w' : World} {t : TypeId} {j n B : Nat} {v : Value} (h : Longer mk w t j n v) (hb : Below B w w') (hB : w.heap.size ≤ B) : Longer mk w' t j n v := by
  obtain ⟨a, c, cur, hv, hr, rest⟩ := h
  exact ⟨a, c, cur, hv, hr.below hb (by have := hr.lt; omega), rest⟩

theorem Longer.grown {mk : Int → Value} {t e : TypeId} {w w' : World} {j n : Nat} {v : Value} (h : Longer mk w t j n v) (ht : t ≠ e) {base size k : Nat} {u : Value} {xs : List Value} (hr : w.ownsRow base e size u k xs) (o : Obj) (hg : (w.alloc o).grownBy w' u.ownBlock) : Longer mk w' t j n v := by
  obtain ⟨a, c, cur, hv, hrow, rest⟩ := h
  exact ⟨a, c, cur, hv, (hrow.alloc o).grown hg (hrow.not_own ht hr), rest⟩

/-- The marks of a list, and what is laid behind them. -/
def markL (mk : Int → Value) (j n : Nat) : List Value := (List.range n).map fun (q : Nat) => mk (1000 * (j : Int) + (q : Int))
def moreL (mk : Int → Value) (j k : Nat) : List Value := (List.range k).map fun (q : Nat) => mk (500000 + 1000 * (j : Int) + (q : Int))

theorem own_below {w w' : World} {base : Nat} {e : TypeId} {size n : Nat} {v : Value} {xs : List Value} (h : w.ownsRow base e size v n xs) (hb : Below w.heap.size w w') : w'.ownsRow base e size v n xs := by
  obtain ⟨h1, h | ⟨g, cap, cur, hv, hbb, hg, rest⟩⟩ := h
  · exact ⟨h1, .inl h⟩
  · exact ⟨h1, .inr ⟨g, cap, cur, hv, hbb, (hb.block g (Array.getElem?_eq_some_iff.1 hg).1).trans hg, rest⟩⟩

/-- Where a list lies that may be none. -/
def at' (g N : Nat → Nat) (j : Nat) : Option Addr → Prop
  | none => N j = 0
  | some a => a = ⟨g j, 0, none⟩

end Go.Proofs.YtcoepmpgclndiaaGreatDoor.GramApart

namespace Go.Proofs.YtcoepmpgclndiaaGreatDoor.RoundAny
open Go.RowKit Go.Shelf Go.Proofs.YtcoepmpgclndiaaGreatDoor.GramApart
set_option linter.unusedVariables false

/-- A record of a loop, or a block for deferred calls. -/
def loopish : Obj → Bool
  | .loop _ => true
  | .deferred _ => true
  | _ => false

/-- All but records of loops is as it was. -/
structure KeepsCM (W W' : World) : Prop where
  size : W.heap.size ≤ W'.heap.size
  same : ∀ (k : Nat) (o : Obj), W.heap[k]? = some o → loopish o = false → W'.heap[k]? = some o
/-- All records of loops are as they were. -/
structure KeepsLo (W W' : World) : Prop where
  size : W.heap.size ≤ W'.heap.size
  same : ∀ (k : Nat) (o : Obj), W.heap[k]? = some o → loopish o = true → W'.heap[k]? = some o

theorem KeepsCM.refl (W : World) : KeepsCM W W := ⟨Nat.le_refl _, fun _ _ h _ => h⟩
theorem KeepsCM.trans {A B C : World} (h : KeepsCM A B) (k : KeepsCM B C) : KeepsCM A C := ⟨Nat.le_trans h.size k.size, fun i o hi ho => k.same i o (h.same i o hi ho) ho⟩
theorem KeepsCM.alloc (W : World) (o : Obj) : KeepsCM W (W.alloc o) := ⟨by simp, fun k x hk _ => (Below.heap_alloc _ _ _ (Array.getElem?_eq_some_iff.1 hk).1).trans hk⟩
theorem KeepsCM.put {W : World} {l : Nat} {x : Obj} (hl : W.heap[l]? = some x) (hx : loopish x = true) (o : Obj) : KeepsCM W (W.putObj l o) :=
  ⟨by simp, fun k y hk hy => by
    have hne : k ≠ l := fun e => by
      subst e
      rw [hl] at hk
      cases hk
      rw [hx] at hy
      cases hy
    exact (World.putObj_heap_other (by first | exact hne | exact hne.symm)).trans hk⟩
theorem KeepsCM.cell {W W' : World} (h : KeepsCM W W') {p : Addr} {v : Value} (hc : W.cell? p = some v) : W'.cell? p = some v := by
  cases ho : W.heap[p.block]? with
  | none => simp [World.cell?, ho] at hc
  | some o =>
    have hl : loopish o = false := by
      cases o with
      | loop r => simp [World.cell?, ho] at hc
      | deferred r => simp [World.cell?, ho] at hc
      | _ => rfl
    exact (World.cell?_of_block (a := p) ((h.same _ _ ho hl).trans ho.symm)).trans hc
theorem KeepsLo.refl (W : World) : KeepsLo W W := ⟨Nat.le_refl _, fun _ _ h _ => h⟩
theorem KeepsLo.trans {A B C : World} (h : KeepsLo A B) (k : KeepsLo B C) : KeepsLo A C := ⟨Nat.le_trans h.size k.size, fun i o hi ho => k.same i o (h.same i o hi ho) ho⟩
theorem KeepsLo.of {W W' : World} (h : Below W.heap.size W W') : KeepsLo W W' := ⟨h.size, fun k o hk _ => (h.block k (Array.getElem?_eq_some_iff.1 hk).1).trans hk⟩

/-- The marks that loops over sequences leave. -/
def marks (Ds : List Nat) : List Deferred := Ds.map (fun D => { target := .collected D, args := #[] })
def OpenAt (w : World) (B : Nat) (Ds : List Nat) : Prop := Ds.Nodup ∧ ∀ D ∈ Ds, B ≤ D ∧ w.heap[D]? = some (.deferred (some []))

theorem OpenAt.nil (w : World) (B : Nat) : OpenAt w B [] := ⟨List.nodup_nil, fun D hD => by cases hD⟩
theorem OpenAt.below {w w' : World} {B C : Nat} {Ds : List Nat} (h : OpenAt w B Ds) (hb : Below C w w') (hC : w.heap.size ≤ C) : OpenAt w' B Ds :=
  ⟨h.1, fun D hD => ⟨(h.2 D hD).1, (hb.block D (Nat.lt_of_lt_of_le (Array.getElem?_eq_some_iff.1 (h.2 D hD).2).1 hC)).trans (h.2 D hD).2⟩⟩
theorem OpenAt.set {w : World} {B b o : Nat} {v : Value} {Ds : List Nat} (h : OpenAt w B Ds) {cur : Array Value} {t : TypeId} (hr : RowAt w b t cur) : OpenAt (w.setCell ⟨b, o, none⟩ v) B Ds :=
  ⟨h.1, fun D hD => ⟨(h.2 D hD).1, by
    have hne : D ≠ b := fun e => by
      have h1 := (h.2 D hD).2
      rw [e, show w.heap[b]? = some (.cells cur t (0, 0)) from hr] at h1
      cases h1
    rw [Below.heap_setCell _ _ _ _ hne]
    exact (h.2 D hD).2⟩⟩
theorem OpenAt.add {w : World} {B D : Nat} {Ds : List Nat} (h : OpenAt w B Ds) (hB : B ≤ D) (hD : w.heap[D]? = some (.deferred (some []))) (hn : D ∉ Ds) : OpenAt w B (D :: Ds) :=
  ⟨List.nodup_cons.2 ⟨hn, h.1⟩, fun x hx => by
    rcases List.mem_cons.1 hx with rfl | hx
    · exact ⟨hB, hD⟩
    · exact h.2 x hx⟩

theorem leaves_marks {F : Fence} {n : Nat} {P : Program} {fn : Func} {tmps : Array Value} {R : Ending → World → Prop} {B : Nat} : ∀ (Ds : List Nat) (W : World), OpenAt W B Ds → (∀ W', Below B W W' → (∀ k, k < W.heap.size → k ∉ Ds → W'.heap[k]? = W.heap[k]?) → LeavesInM F n P fn tmps R [] .returning W') → LeavesInM F n P fn tmps R (marks Ds) .returning W
  | [], W, _, h => h W (Below.refl _ _) (fun _ _ _ => rfl)
  | D :: Ds, W, ho, h => by
    obtain ⟨hB, hD⟩ := ho.2 D List.mem_cons_self
    have hb : Below B W (W.putObj D (.deferred none)) := (Below.refl B W).grown (grownBy_putObj' W D (.deferred none)) (by have := (Array.getElem?_eq_some_iff.1 hD).1; omega) (fun k e => by cases e; exact hB)
    refine ⟨by simp, .inl ⟨D, _, rfl, run_takeDeferred hD, leaves_marks Ds _ ⟨(List.nodup_cons.1 ho.1).2, fun x hx => ?_⟩ (fun W' hW' hk => h W' (hb.trans hW') (fun k hkl hkn => ?_))⟩⟩
    · obtain ⟨h1, h2⟩ := ho.2 x (List.mem_cons_of_mem _ hx)
      refine ⟨h1, ?_⟩
      have hne : x ≠ D := fun e => (List.nodup_cons.1 ho.1).1 (by rw [← e]; exact hx)
      exact (World.putObj_heap_other (by first | exact hne | exact hne.symm)).trans h2
    · have hne : k ≠ D := fun e => hkn (by rw [e]; exact List.mem_cons_self)
      rw [hk k (Nat.lt_of_lt_of_le hkl (grownBy_putObj' W D (.deferred none)).size) (fun hm => hkn (List.mem_cons_of_mem _ hm))]
      exact World.putObj_heap_other (by first | exact hne | exact hne.symm)

section
variable {F : Fence} {n : Nat} {P : Program} {ops : Array Oper} {Q : Exit → Act → World → Prop} {md : Region.Mode} {l : Nat}

theorem oper_round {o : Oper} (hd : ∀ c, o.op ≠ .defer c) (hro : F.round = none) {a : Act} {w : World} {K : Act → World → Prop} (h : o.wpIn F n P a w K Q) : o.wpIn (F.inRound l) n P a w K Q := by
  unfold Oper.wpIn at *
  refine ⟨h.1, ?_⟩
  have h2 := h.2
  rw [hro, Oper.semAt_none] at h2
  rw [show (F.inRound l).round = some l from rfl, Oper.semAt_some l a.eval o hd]
  generalize (execOp a.eval o).run P w = r at *
  cases r with
  | ok x w' => cases x <;> exact h2
  | halt x w' => cases x <;> exact h2

theorem op_round (hd : ∀ (i : Nat) (o : Oper), ops[i]? = some o → ∀ c, o.op ≠ .defer c) (hro : F.round = none) {i : Nat} {K K' : Act → World → Prop} (hK : ∀ a w, K a w → K' a w) {a : Act} {w : World} (h : wpOpIn F n P ops Q i K a w) : wpOpIn (F.inRound l) n P ops Q i K' a w := by
  have h := wpOpIn_mono hK h
  unfold wpOpIn at *
  cases ho : ops[i]? with
  | none => simp only [ho] at h ⊢; exact h
  | some o =>
    simp only [ho] at h ⊢
    split
    · rename_i hw
      simp only [hw, if_true] at h
      exact oper_round (hd i o ho) hro h
    · rename_i hw
      simp only [hw] at h
      exact h

theorem any_round (hd : ∀ (i : Nat) (o : Oper), ops[i]? = some o → ∀ c, o.op ≠ .defer c) (hro : F.round = none) : ∀ (fuel : Nat) (listed : Array Bool) (a : Act) (w : World), wpAnyIn F n P md ops Q fuel listed a w → wpAnyIn (F.inRound l) n P md ops Q fuel listed a w
  | 0, _, _, _, h => h
  | fuel + 1, listed, a, w, h => ⟨h.1, fun i hi => op_round hd hro (fun a' w' => any_round hd hro fuel _ a' w') (h.2 i hi)⟩

/-- No operation of a region defers a call. -/
def noDefer : List Oper → Bool
  | [] => true
  | o :: r => (match o.op with | .defer _ => false | _ => true) && noDefer r
theorem noDefer_spec : ∀ {l : List Oper}, noDefer l = true → ∀ o ∈ l, ∀ c, o.op ≠ .defer c
  | [], _, o, ho, c => by cases ho
  | x :: r, h, o, ho, c => by
    unfold noDefer at h
    rw [Bool.and_eq_true] at h
    rcases List.mem_cons.1 ho with rfl | ho
    · intro e
      rw [e] at h
      cases h.1
    · exact noDefer_spec h.2 o ho c

theorem region_quiet_round {id : Nat} {a : Act} {w : World} {os : List Oper} (hro : F.round = none) (hm : P.follows .mixedOrders = true) (hB : Region.lexB .any os.toArray = true) (hd : noDefer os = true)
    (h : wpQuietIn F n P os.toArray (fun w' => ∃ n, w' = w.drewN n) (fun a' => ∀ w', (∃ n, w' = w.drewN n) → Q .normal a' w') os a) : (Code.region id os.toArray true).wpIn (F.inRound l) n P Q a w := by
  simp only [Region.lexB, Bool.and_eq_true] at hB
  refine wpIn_region_any hm (any_round (fun i o ho => noDefer_spec hd o (by
    have := Array.mem_of_getElem? ho
    simpa using this)) hro _ _ _ _ (wpAnyIn_of_quiet (C := fun w' => ∃ n, w' = w.drewN n) (Q := fun a' => ∀ w', (∃ n, w' = w.drewN n) → Q .normal a' w') hro (fun _ w' hw' h => h w' hw') _ _ _ _ ⟨1, rfl⟩ ?_))
  have := wpAnyQIn_lex (F := F) (n := n) (C := fun w' => ∃ n, w' = w.drewN n) (md := .any) hB.1 os 0 (Array.replicate os.toArray.size false) a (by simp) (by simpa using hB.2) h
  simpa using this

end

section
variable {n : Nat} {P : Program} {ops : Array Oper} {Q : Exit → Act → World → Prop} {md : Region.Mode} {l : Nat}

theorem upon_wide {o : Oper} {a : Act} {K : Act → World → Prop} {r : Result Next} (h : o.upon P a K Q r) : o.uponIn Fence.wide n P a K Q r := by
  cases r with
  | ok x w' =>
    cases x with
    | enter f args => exact ⟨(fun h => by cases h), callsIn_wide.2 h⟩
    | row s args => exact ⟨(fun h => by cases h), fun c cs _ => let ⟨v, w9, r, s⟩ := h c cs; ⟨v, w9, r, stepsIn_wide.2 s⟩⟩
    | round l f t a b => exact (h : False).elim
    | _ => exact h
  | halt x w' => cases x <;> exact h

theorem op_wide (hQ : ¬ LetsOut Q) {i : Nat} {K : Act → World → Prop} {a : Act} {w : World} (h : wpOp P ops Q i K a w) : wpOpIn Fence.wide n P ops Q i K a w := by
  unfold wpOp at h
  unfold wpOpIn
  cases ho : ops[i]? with
  | none => simp only [ho] at h ⊢; exact h
  | some o =>
    simp only [ho] at h ⊢
    split
    · rename_i hw
      simp only [hw, if_true] at h
      rcases h with h | h
      · exact ⟨fun _ _ => trivial, upon_wide h⟩
      · exact (hQ h.2).elim
    · rename_i hw
      simp only [hw] at h
      exact ⟨fun _ _ => trivial, h⟩

theorem any_wide (hQ : ¬ LetsOut Q) : ∀ (fuel : Nat) (listed : Array Bool) (a : Act) (w : World), wpAny P md ops Q fuel listed a w → wpAnyIn Fence.wide n P md ops Q fuel listed a w
  | 0, _, _, _, h => h
  | fuel + 1, listed, a, w, h => ⟨h.1, fun i hi => wpOpIn_mono (fun a' w' h' => any_wide hQ fuel _ a' w' h') (op_wide hQ (h.2 i hi))⟩

theorem region_Z_round {S : World → Prop} {id : Nat} {a : Act} {w : World} {os : List Oper} (z : Nat) (hQ : ¬ LetsOut Q) (hm : P.follows .mixedOrders = true) (hd : noDefer os = true) (hS : S w.drew)
    (h : S w.drew → OrdersZ.wpAnyZ P .any os.toArray Q S z os.toArray.size (Array.replicate os.toArray.size false) a w.drew) : (Code.region id os.toArray true).wpIn (Fence.wide.inRound l) n P Q a w := by
  refine wpIn_region_any hm (any_round (fun i o ho => noDefer_spec hd o (by
    have := Array.mem_of_getElem? ho
    simpa using this)) rfl _ _ _ _ (any_wide hQ _ _ _ _ (OrdersZ.any_of_Z _ _ _ _ (h hS))))

end

end Go.Proofs.YtcoepmpgclndiaaGreatDoor.RoundAny
