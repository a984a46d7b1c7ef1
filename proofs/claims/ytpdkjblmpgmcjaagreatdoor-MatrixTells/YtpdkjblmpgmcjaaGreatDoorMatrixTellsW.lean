/-
  The walk of MatrixTells: what both matrices tell, and the loop that writes into the lent grammar.
-/
import Derived.Test.YtpdkjblmpgmcjaaGreatDoorMatrixLent
import Derived.Test.YtpdkjblmpgmcjaaGreatDoorMatrixTB
import Derived.Test.YtpdkjblmpgmcjaaGreatDoorMatrixAwake
import Derived.Test.YtpdkjblmpgmcjaaGreatDoorGramBut
import Derived.Deep.DeepCutAuto
namespace Go.Proofs.YtpdkjblmpgmcjaaGreatDoor.MatrixTellsW
open Go.RowKit Go.Proofs.YtpdkjblmpgmcjaaGreatDoor.GramMath Go.Proofs.YtpdkjblmpgmcjaaGreatDoor.GramRow Go.Proofs.YtpdkjblmpgmcjaaGreatDoor.GramCheck Go.Proofs.YtpdkjblmpgmcjaaGreatDoor.GramErrs Go.Proofs.YtpdkjblmpgmcjaaGreatDoor.GramAwake Go.Proofs.YtpdkjblmpgmcjaaGreatDoor.GramAboveFn Go.Proofs.YtpdkjblmpgmcjaaGreatDoor.GramApart Go.Proofs.YtpdkjblmpgmcjaaGreatDoor.GramLent Go.Proofs.YtpdkjblmpgmcjaaGreatDoor.EndsMath Go.Proofs.YtpdkjblmpgmcjaaGreatDoor.EndsFn Go.Proofs.YtpdkjblmpgmcjaaGreatDoor.EndsRef Go.Proofs.YtpdkjblmpgmcjaaGreatDoor.EndsAwake Go.Proofs.YtpdkjblmpgmcjaaGreatDoor.GramRef Go.Proofs.YtpdkjblmpgmcjaaGreatDoor.GramOpen Go.Proofs.YtpdkjblmpgmcjaaGreatDoor.SetsAlg Go.Proofs.YtpdkjblmpgmcjaaGreatDoor.MatrixMath Go.Proofs.YtpdkjblmpgmcjaaGreatDoor.MatrixPut Go.Proofs.YtpdkjblmpgmcjaaGreatDoor.MatrixOf Go.Proofs.YtpdkjblmpgmcjaaGreatDoor.MatrixAwake Go.Proofs.YtpdkjblmpgmcjaaGreatDoor.MatrixClash Go.Proofs.YtpdkjblmpgmcjaaGreatDoor.MatrixKeep Go.Proofs.YtpdkjblmpgmcjaaGreatDoor.UsefulTop Go.Proofs.YtpdkjblmpgmcjaaGreatDoor.MatrixRT Go.Proofs.YtpdkjblmpgmcjaaGreatDoor.GramLess
set_option linter.unusedVariables false
set_option linter.unusedSimpArgs false

theorem lent_caps {w : World} {g1 c1 g2 c2 g3 c3 : Nat} {lq : List Q} {g : G} (h : LentG w g1 c1 g2 c2 g3 c3 lq g) : Caps w (some ⟨g3, 0, none⟩) g.rs.length := fun i hi b off hra qa n qc hc => by
  have hlen : lq.length = g.rs.length := by rw [← h.map]; simp
  obtain ⟨x, hx⟩ : ∃ x, lq[i]? = some x := ⟨lq[i]'(by omega), List.getElem?_eq_getElem (by omega)⟩
  obtain ⟨b', off', ha, _, h2⟩ := (qrow_front h.rs) i x hx
  cases ha
  cases hra
  rw [h2] at hc
  obtain ⟨_, _, _, _, h3, _⟩ := h.each x (List.mem_of_getElem? hx)
  cases hc
  omega

/-- The document's matrix, or none, in blocks from B on. -/
def RK (B : Nat) (w : World) (ro : Option Addr) (t : Nat) (F : Nat → Nat → Nat) : Prop := ∀ W : World, (∀ k, B ≤ k → k < w.heap.size → W.heap[k]? = w.heap[k]?) → RMatV W ro t F
theorem RK.here {B : Nat} {w : World} {ro : Option Addr} {t : Nat} {F : Nat → Nat → Nat} (h : RK B w ro t F) : RMatV w ro t F := h w (fun _ _ _ => rfl)
theorem RK.keep {B : Nat} {w w' : World} {ro : Option Addr} {t : Nat} {F : Nat → Nat → Nat} (h : RK B w ro t F) (hs : w.heap.size ≤ w'.heap.size) (hk : ∀ k, B ≤ k → k < w.heap.size → w'.heap[k]? = w.heap[k]?) : RK B w' ro t F :=
  fun W hW => h W (fun k h1 h2 => (hW k h1 (Nat.lt_of_lt_of_le h2 hs)).trans (hk k h1 h2))
theorem RK.below {B C : Nat} {w w' : World} {ro : Option Addr} {t : Nat} {F : Nat → Nat → Nat} (h : RK B w ro t F) (hb : Below C w w') (hC : w.heap.size ≤ C) : RK B w' ro t F :=
  h.keep hb.size (fun k _ h2 => hb.block k (Nat.lt_of_lt_of_le h2 hC))

theorem eqP_some (a : Addr) (w : World) : (binOp .eql 28 (.pointer (some a)) (.pointer none)).run Tryz.prog w = .ok (.bool false) w := by kernel_rfl
theorem eqP_none (w : World) : (binOp .eql 28 (.pointer none) (.pointer none)).run Tryz.prog w = .ok (.bool true) w := by kernel_rfl
theorem eqR_some (a : Addr) (w : World) : (binOp .eql 33 (.pointer (some a)) (.pointer none)).run Tryz.prog w = .ok (.bool false) w := by kernel_rfl
theorem eqR_none (w : World) : (binOp .eql 33 (.pointer none) (.pointer none)).run Tryz.prog w = .ok (.bool true) w := by kernel_rfl

theorem both_of {base B : Nat} {g : G} {w w' : World} {u : Value} {ro : Option Addr} (h1 : MOfV base g w u) (hb : Below w.heap.size w w') (h2 : ROfK B g w' ro) :
    ∃ (po : Option Addr) (t : Nat) (S : Nat → Nat → Int) (F : Nat → Nat → Nat), u = .pointer po ∧ t ≤ 60 ∧ (∀ i j, F i j < 8) ∧ MatrixRT.Alike t F S ∧ MatV w' po t S ∧ RK B w' ro t F ∧ ∃ q : Bool, (∀ W : World, (binOp .eql 28 (.pointer po) (.pointer none)).run Tryz.prog W = .ok (.bool q) W) ∧ ∀ W : World, (binOp .eql 33 (.pointer ro) (.pointer none)).run Tryz.prog W = .ok (.bool q) W := by
  rcases h1 with ⟨h0, M, S, rfl, _, hm, him⟩ | ⟨h0, rfl⟩
  · have hgood := good_of h0
    have hfew := hgood.few
    have hax0 := hgood.ax0
    have hax1 := hgood.ax1
    obtain ⟨R, rfl, hR⟩ : ∃ R, ro = some ⟨R, 0, none⟩ ∧ RMatAt w' R (g.ts.length + 1) (relN g) := by
      rcases h2.here with ⟨_, h⟩ | ⟨h, _⟩
      · exact h
      · exact absurd h0 h
    refine ⟨some ⟨M, 0, none⟩, g.ts.length + 1, S, relN g, rfl, by omega, fun i j => relT_lt _ _, alike_of hgood him, .inr ⟨M, rfl, hm.below hb hm.lt⟩, fun W hW => ?_, false, fun W => eqP_some _ W, fun W => eqR_some _ W⟩
    rcases h2 W hW with ⟨_, R', e, h⟩ | ⟨h, _⟩
    · exact .inr ⟨R', e, h⟩
    · exact absurd h0 h
  · obtain rfl : ro = none := by
      rcases h2.here with ⟨h, _⟩ | ⟨_, h⟩
      · exact absurd h h0
      · exact h
    exact ⟨none, 0, fun _ _ => 0, fun _ _ => 0, rfl, by omega, fun _ _ => Nat.zero_lt_succ _, alike_zero _ _, .inl ⟨rfl, rfl⟩, fun W hW => .inl ⟨rfl, rfl⟩, true, fun W => eqP_none W, fun W => eqR_none W⟩

theorem ruleZ_ck : ∀ (g : G), ruleZ (checkG g) = ruI (checkG g).2 := fun g => by
  by_cases h : (checkG g).1 = 0
  · rw [check_none h]
    rfl
  · revert h
    generalize checkG g = zz
    intro hne
    obtain ⟨k, r⟩ := zz
    cases k with
    | zero => exact absurd rfl hne
    | succ k => cases r <;> rfl

/-- The blocks that the loop writes. -/
def SL (lq : List Q) (k : Nat) : Prop := ∃ x ∈ lq, x.a = some ⟨k, 0, none⟩ ∧ 0 < x.r.right.length

theorem F3.set {C b j : Nat} {w : World} {x : Q} {v : Value} (h : F3 C w x) : F3 C (w.setCell ⟨b, j, none⟩ v) x := by
  obtain ⟨b', cur, h1, h0, h2, h3⟩ := h
  by_cases e : b' = b
  · subst e
    exact ⟨b', _, h1, h0, h2.set j v, by simpa using h3⟩
  · exact ⟨b', cur, h1, h0, h2.other e j v, h3⟩
theorem mat_but {X : Nat → Prop} {w w' : World} {po : Option Addr} {t : Nat} {S : Nat → Nat → Int} (hM : MatV w po t S) (hb : But X w w') (hs : ∀ M cur, RowAt w M 97 cur → ¬ X M) : MatV w' po t S := by
  rcases hM with h | ⟨M, rfl, cur, hr, hc⟩
  · exact .inl h
  · exact .inr ⟨M, rfl, cur, hr.but hb (hs M cur hr), hc⟩

theorem clash_parts : ∀ L : List Pr, ∃ (z : Pr) (ok : Bool), clashO L = .tuple #[.agg #[.int .i64 z.a, .int .i64 z.b, .int .i64 z.f, .int .i64 z.s], .bool ok] ∧ ((L = [] ∧ ok = false ∧ z = ⟨0, 0, 0, 0⟩) ∨ ∃ l, L = z :: l ∧ ok = true)
  | [] => ⟨⟨0, 0, 0, 0⟩, false, rfl, .inl ⟨rfl, rfl, rfl⟩⟩
  | z :: l => ⟨z, true, rfl, .inr ⟨l, rfl, rfl⟩⟩
theorem own_prow2 {w : World} {base c : Nat} {a : Option Addr} {l : List Pr} (h : w.ownsRow base 44 4 (.slice a l.length c) l.length (cellsP l)) : PRow w a l := by
  obtain ⟨a', c', e, hp⟩ := own_prow h
  cases e
  exact hp
theorem prow_below {w w' : World} {a : Option Addr} {l : List Pr} (h : PRow w a l) (hb : Below w.heap.size w w') : PRow w' a l := fun i x hx => by
  obtain ⟨b, e, h0, h1, h2, h3⟩ := h i x hx
  exact ⟨b, e, (hb.cell (cell_lt h0)).trans h0, (hb.cell (cell_lt h1)).trans h1, (hb.cell (cell_lt h2)).trans h2, (hb.cell (cell_lt h3)).trans h3⟩

theorem eqI_me (xs : List Int) : GramSame.eqI xs xs = true := by
  unfold GramSame.eqI
  simp
theorem own_setIn {w : World} {base n g c q : Nat} {x : Value} {xs : List Value} (h : w.ownsRow base 44 4 (.slice (some ⟨g, 0, none⟩) n c) n xs) : ∃ ys, (w.setCell ⟨g, q, none⟩ x).ownsRow base 44 4 (.slice (some ⟨g, 0, none⟩) n c) n ys := by
  obtain ⟨hl, ⟨e, _⟩ | ⟨g', cap, cur, e, h1, h2, h3, h4, h5, h6⟩⟩ := h
  · cases e
  · cases e
    have hr : RowAt w g 44 cur := h2
    refine ⟨(cur.setIfInBounds q x).toList.take (n * 4), ?_, .inr ⟨g, c, cur.setIfInBounds q x, rfl, h1, hr.set q x, h3, h4, by simpa using h5, rfl⟩⟩
    rw [List.length_take, Array.length_toList, Array.size_setIfInBounds, h5]
    omega
theorem own_four {w : World} {base n g : Nat} {v : Value} {xs : List Value} (h : w.ownsRow base 44 4 v n xs) (hg : g < base) (q : Nat) (x0 x1 x2 x3 : Value) : ((((w.setCell ⟨g, q, none⟩ x0).setCell ⟨g, q + 1, none⟩ x1).setCell ⟨g, q + 2, none⟩ x2).setCell ⟨g, q + 3, none⟩ x3).ownsRow base 44 4 v n xs :=
  ownsRow_setCell_below (ownsRow_setCell_below (ownsRow_setCell_below (ownsRow_setCell_below h (a := ⟨g, q, none⟩) hg _) (a := ⟨g, q + 1, none⟩) hg _) (a := ⟨g, q + 2, none⟩) hg _) (a := ⟨g, q + 3, none⟩) hg _
theorem own_low {w : World} {base base' n size : Nat} {e : TypeId} {v : Value} {xs : List Value} (h : w.ownsRow base e size v n xs) (hb : base' ≤ base) : w.ownsRow base' e size v n xs := by
  obtain ⟨h1, h | ⟨g, cap, cur, hv, hbb, rest⟩⟩ := h
  · exact ⟨h1, .inl h⟩
  · exact ⟨h1, .inr ⟨g, cap, cur, hv, Nat.le_trans hb hbb, rest⟩⟩
theorem own_keep {w w' : World} {base n size : Nat} {e : TypeId} {v : Value} {xs : List Value} {row : Option Nat} (h : w.ownsRow base e size v n xs) (hg : w.grownBy w' row) (hne : ∀ j, v.ownBlock = some j → row ≠ some j) : w'.ownsRow base e size v n xs := by
  obtain ⟨h1, h | ⟨g, cap, cur, rfl, hbb, hr, rest⟩⟩ := h
  · exact ⟨h1, .inl h⟩
  · refine ⟨h1, .inr ⟨g, cap, cur, rfl, hbb, ?_, rest⟩⟩
    exact (hg.block g (Array.getElem?_eq_some_iff.1 hr).1 (fun e => hne g rfl e.symm)).trans hr
/-- Three lists of pairs, each in its own block. -/
structure T3 (b1 b2 b3 : Nat) (L : List Pr) (W : World) (u o s : Value) (m n : Nat) (xs ys : List Value) : Prop where
  a : W.ownsRow b1 44 4 u m xs
  b : W.ownsRow b2 44 4 o n ys
  c : W.ownsRow b3 44 4 s L.length (cellsP L)
  ab : ∀ j, u.ownBlock = some j → o.ownBlock ≠ some j
  ac : ∀ j, u.ownBlock = some j → s.ownBlock ≠ some j
  bc : ∀ j, o.ownBlock = some j → s.ownBlock ≠ some j
theorem T3.alloc {b1 b2 b3 m n : Nat} {L : List Pr} {W : World} {u o s : Value} {xs ys : List Value} (h : T3 b1 b2 b3 L W u o s m n xs ys) (x : Obj) : T3 b1 b2 b3 L (W.alloc x) u o s m n xs ys := ⟨h.a.alloc x, h.b.alloc x, h.c.alloc x, h.ab, h.ac, h.bc⟩
theorem T3.first {b1 b2 b3 m n g m' cap : Nat} {L : List Pr} {W W' : World} {u o s : Value} {xs ys xs' : List Value} (h : T3 b1 b2 b3 L W u o s m n xs ys) (ho : W'.ownsRow b1 44 4 (.slice (some ⟨g, 0, none⟩) m' cap) m' xs') (hg : W.grownBy W' u.ownBlock) (hw : u.ownBlock = some g ∨ g = W.heap.size) : T3 b1 b2 b3 L W' (.slice (some ⟨g, 0, none⟩) m' cap) o s m' n xs' ys := by
  refine ⟨ho, own_keep h.b hg (fun j hj e => h.ab j e hj), own_keep h.c hg (fun j hj e => h.ac j e hj), ?_, ?_, h.bc⟩
  · intro j hj e
    obtain rfl : g = j := by simpa [Value.ownBlock] using hj
    rcases hw with hw | rfl
    · exact h.ab _ hw e
    · have := (h.b.lt _ e).2; omega
  · intro j hj e
    obtain rfl : g = j := by simpa [Value.ownBlock] using hj
    rcases hw with hw | rfl
    · exact h.ac _ hw e
    · have := (h.c.lt _ e).2; omega
theorem T3.second {b1 b2 b3 m n g n' cap : Nat} {L : List Pr} {W W' : World} {u o s : Value} {xs ys ys' : List Value} (h : T3 b1 b2 b3 L W u o s m n xs ys) (ho : W'.ownsRow b2 44 4 (.slice (some ⟨g, 0, none⟩) n' cap) n' ys') (hg : W.grownBy W' o.ownBlock) (hw : o.ownBlock = some g ∨ g = W.heap.size) : T3 b1 b2 b3 L W' u (.slice (some ⟨g, 0, none⟩) n' cap) s m n' xs ys' := by
  refine ⟨own_keep h.a hg (fun j hj e => h.ab j hj e), ho, own_keep h.c hg (fun j hj e => h.bc j e hj), ?_, h.ac, ?_⟩
  · intro j hj e
    obtain rfl : g = j := by simpa [Value.ownBlock] using e
    rcases hw with hw | rfl
    · exact h.ab _ hj hw
    · have := (h.a.lt _ hj).2; omega
  · intro j hj e
    obtain rfl : g = j := by simpa [Value.ownBlock] using hj
    rcases hw with hw | rfl
    · exact h.bc _ hw e
    · have := (h.c.lt _ e).2; omega
def e8 : List Value := [.int .i64 (-8), .int .i64 0, .int .i64 0, .int .i64 0]
def e9 : List Value := [.int .i64 (-9), .int .i64 0, .int .i64 0, .int .i64 0]
def reps (e : List Value) : Nat → List Value
  | 0 => []
  | k + 1 => reps e k ++ e

theorem own_cell {w : World} {base m c g i : Nat} {v : Value} {xs : List Value} (h : w.ownsRow base 44 4 (.slice (some ⟨g, 0, none⟩) m c) m xs) (hi : xs[i]? = some v) : w.cell? ⟨g, i, none⟩ = some v := by
  obtain ⟨hl, ⟨e, _⟩ | ⟨g', cap, cur, e, h1, h2, h3, h4, h5, h6⟩⟩ := h
  · cases e
  · cases e
    have hr : RowAt w g 44 cur := h2
    refine hr.cell ?_
    have hlt := (List.getElem?_eq_some_iff.1 hi).1
    rw [← Array.getElem?_toList, ← hi, ← h6, List.getElem?_take, if_pos (by omega)]
theorem own_cap {w : World} {base m c g : Nat} {xs : List Value} (h : w.ownsRow base 44 4 (.slice (some ⟨g, 0, none⟩) m c) m xs) : m ≤ c := by
  obtain ⟨hl, ⟨e, _⟩ | ⟨g', cap, cur, e, h1, h2, h3, h4, h5, h6⟩⟩ := h
  · cases e
  · cases e
    exact h3
theorem own_front {w : World} {base m c g : Nat} {L : List Pr} {ys : List Value} (h : w.ownsRow base 44 4 (.slice (some ⟨g, 0, none⟩) m c) m (cellsP L ++ ys)) : PRow w (some ⟨g, 0, none⟩) L := fun i x hx => by
  obtain ⟨h0, h1, h2, h3⟩ := cellsP_at hx
  have f : ∀ {q v}, (cellsP L)[q]? = some v → (cellsP L ++ ys)[q]? = some v := fun {q v} hq => by
    rw [List.getElem?_append_left (List.getElem?_eq_some_iff.1 hq).1]
    exact hq
  exact ⟨g, rfl, own_cell h (f h0), own_cell h (f h1), own_cell h (f h2), own_cell h (f h3)⟩
theorem own_eight {w : World} {base c g n : Nat} {xs : List Value} (h : w.ownsRow base 44 4 (.slice (some ⟨g, 0, none⟩) (n + 30) c) (n + 30) (xs ++ reps e8 30)) : w.cell? ⟨g, n * 4, none⟩ = some (.int .i64 (-8)) ∧ w.cell? ⟨g, (n + 29) * 4, none⟩ = some (.int .i64 (-8)) := by
  have hl := h.1
  rw [List.length_append, show (reps e8 30).length = 120 from rfl] at hl
  refine ⟨own_cell h ?_, own_cell h ?_⟩
  · rw [List.getElem?_append_right (by omega), show n * 4 - xs.length = 0 by omega]
    rfl
  · rw [List.getElem?_append_right (by omega), show (n + 29) * 4 - xs.length = 116 by omega]
    rfl

def pk2 (a b : Nat) : Nat → Nat
  | 0 => a
  | _ => b
theorem pk2_ne {x y : Nat} (h : x < y) : ∀ a b, a < 2 → b < 2 → a ≠ b → pk2 x y a ≠ pk2 x y b := fun a b ha hb hne => by
  match a, b, ha, hb, hne with
  | 0, 1, _, _, _ => show x ≠ y; omega
  | 1, 0, _, _, _ => show y ≠ x; omega
  | 0, 0, _, _, hne => exact absurd rfl hne
  | 1, 1, _, _, hne => exact absurd rfl hne
theorem pk2_le {B x y : Nat} (h1 : B ≤ x) (h2 : B ≤ y) : ∀ j, j < 2 → B ≤ pk2 x y j := fun j hj => by
  match j, hj with
  | 0, _ => exact h1
  | 1, _ => exact h2
theorem bytesA_size (f : Nat → Nat) (n k : Nat) : (bytesA f n k).size = n := by simp [bytesA]
theorem mb_two {w : World} {x y n k : Nat} {f : Nat → Nat} (h1 : RowAt w x 5 (bytesA f n k)) (h2 : RowAt w y 5 (bytesA f n k)) : MB (pk2 x y) n w 0 0 := fun j hj => by
  match j, hj with
  | 0, _ => exact ⟨_, h1, bytesA_size _ _ _, fun q _ h => by omega⟩
  | 1, _ => exact ⟨_, h2, bytesA_size _ _ _, fun q _ h => by omega⟩

theorem qrow_far {w : World} {g3 : Nat} {lq : List Q} {z : Q} (hq : QRow w (some ⟨g3, 0, none⟩) (lq ++ [z])) (he : ∀ x ∈ lq, LentAt 0 w .nilIface x) : ¬ SL lq g3 := by
  rintro ⟨x, hx, ha, hl⟩
  obtain ⟨b, h1, _, _, _, h2⟩ := he x hx
  obtain rfl : g3 = b := by rw [ha] at h1; cases h1; rfl
  obtain ⟨v, hv⟩ : ∃ v, (x.r.right ++ [-7171])[1]? = some v := ⟨(x.r.right ++ [-7171])[1]'(by simp; omega), List.getElem?_eq_getElem _⟩
  rw [ha] at h2
  obtain ⟨b2, o2, e2, hc⟩ := h2 1 v hv
  cases e2
  obtain ⟨y, hy⟩ : ∃ y, (lq ++ [z])[0]? = some y := ⟨(lq ++ [z])[0]'(by simp), List.getElem?_eq_getElem _⟩
  obtain ⟨b3, o3, e3, _, hd⟩ := hq 0 y hy
  cases e3
  simp at hc hd
  rw [hc] at hd
  cases hd

set_option maxRecDepth 100000 in
set_option maxHeartbeats 8000000 in
theorem walk (ta na ra : Option Addr) (tc nc rc : Nat) (g : G) (p : Nat → Addr) (w : World) (hL : Lendable w ta na ra tc nc g) (hg : okG g) (hE : Errs w p) (hT : ErrType w) (hTb : Tab w) (hTG : 16 < w.heap.size) :
    Calls Tryz.prog 3 #[.agg #[.slice ta g.ts.length tc, .slice na g.ns.length nc, .int .i64 g.ax, .slice ra g.rs.length rc]] w fun e w' => e = .returned (.bool true) ∧ Below w.heap.size w w' := by
  have hG := GramOpen.lendable_row hL
  have hB : Below w.heap.size w (w.alloc (.cells #[.slice ta g.ts.length tc, .slice na g.ns.length nc, .int .i64 g.ax, .slice ra g.rs.length rc] 25)) := (Below.refl _ _).alloc (Nat.le_refl _) _
  have hbx := UsefulTop.rowNew w #[.slice ta g.ts.length tc, .slice na g.ns.length nc, .int .i64 g.ax, .slice ra g.rs.length rc] 25
  have hL1 : Lendable (w.alloc (.cells #[.slice ta g.ts.length tc, .slice na g.ns.length nc, .int .i64 g.ax, .slice ra g.rs.length rc] 25)) ta na ra tc nc g := ⟨hL.ts.below hB (Nat.le_refl _), hL.ns.below hB (Nat.le_refl _), hL.rs.below hB (Nat.le_refl _), hL.tn, hL.nn, hL.tm, hL.nm, hL.rm, hL.each⟩
  have hlend := lentG2 ta na ra tc nc rc g _ hL1
  have b0 := hbx.cell (q := 0) rfl
  have b1 := hbx.cell (q := 1) rfl
  have b2 := hbx.cell (q := 2) rfl
  have b3 := hbx.cell (q := 3) rfl
  go_enter Tryz.func3, Tryz.ntmps3
  by_cases hbig : 12 < g.ts.length ∧ 40 < g.rs.length
  · have hx1 : 12 < (g.ts.length : Int) := by omega
    have hx2 : 40 < (g.rs.length : Int) := by omega
    clear hbig hlend hL1
    go_wp2_with fail
    refine (MatrixAwake.awake_any p _ (hE.sents.below hB (Nat.le_refl _)) (SetsEach.Tab.from hTb hB hTG) (Nat.lt_of_lt_of_le hTG hB.size)).mono ?_
    rintro e wZ ⟨rfl, hb⟩
    have hBe := hB.trans (hb.mono hB.size)
    go_wp2
    go_ret
    exact ⟨rfl, hBe⟩
  have hbig2 : (¬ 12 < (g.ts.length : Int)) ∨ (12 < (g.ts.length : Int) ∧ ¬ 40 < (g.rs.length : Int)) := by omega
  rcases hbig2 with hx1 | ⟨hx1, hx2⟩
  all_goals
    clear hbig
    go_wp2_with fail
    refine hlend.mono ?_
    rintro e w1 ⟨⟨g1, c1, g2, c2, g3, c3, lq, rfl, hlg, hF⟩, hb⟩
    replace hB := hB.trans (hb.mono hB.size)
    replace hbx := hbx.below hb hbx.lt
    clear hlend hL1 hL hb b0 b1 b2 b3
    have hb : Below w1.heap.size w1 (w1.alloc (.cells #[.slice (some ⟨g1, 0, none⟩) g.ts.length c1, .slice (some ⟨g2, 0, none⟩) g.ns.length c2, .int .i64 g.ax, .slice (some ⟨g3, 0, none⟩) g.rs.length c3] 25)) := (Below.refl _ _).alloc (Nat.le_refl _) _
    have hin := UsefulTop.rowNew w1 #[.slice (some ⟨g1, 0, none⟩) g.ts.length c1, .slice (some ⟨g2, 0, none⟩) g.ns.length c2, .int .i64 g.ax, .slice (some ⟨g3, 0, none⟩) g.rs.length c3] 25
    have htc := Nat.le_of_lt hlg.tc
    have hnc := Nat.le_of_lt hlg.nc
    replace hB := hB.trans (hb.mono hB.size)
    replace hbx := hbx.below hb hbx.lt
    replace hlg := hlg.below hb (Nat.le_refl _)
    replace hF := fun x hx => (hF x hx).below hb (Nat.le_refl _)
    clear hb
    have hof := MOf_top (some ⟨g1, 0, none⟩) (some ⟨g2, 0, none⟩) (some ⟨g3, 0, none⟩) c1 c2 c3 g p _ hlg.row (lent_caps hlg) hg htc hnc (hE.sents.below hB (Nat.le_refl _)) (SetsEach.Tab.from hTb hB hTG) (Nat.lt_of_lt_of_le hTG hB.size)
    go_wp2_with fail
    generalize w1.alloc (.cells #[.slice (some ⟨g1, 0, none⟩) g.ts.length c1, .slice (some ⟨g2, 0, none⟩) g.ns.length c2, .int .i64 g.ax, .slice (some ⟨g3, 0, none⟩) g.rs.length c3] 25) = W0 at *
    refine hof.mono ?_
    rintro e w2 ⟨⟨u, x1, rfl, hu, hx⟩, hb⟩
    replace hB := hB.trans (hb.mono hB.size)
    replace hbx := hbx.below hb hbx.lt
    replace hin := hin.below hb hin.lt
    replace hlg := hlg.below hb (Nat.le_refl _)
    replace hF := fun x hx => (hF x hx).below hb (Nat.le_refl _)
    clear hof hb
    have b0 := hbx.cell (q := 0) rfl
    have b1 := hbx.cell (q := 1) rfl
    have b2 := hbx.cell (q := 2) rfl
    have b3 := hbx.cell (q := 3) rfl
    have hrf := mof_any ta na ra tc nc rc g w2 (hG.below hB (Nat.le_refl _)) hg
    go_wp2_with fail
    refine hrf.mono ?_
    rintro e w3 ⟨⟨ro, rfl, hro⟩, hb⟩
    obtain ⟨po, t, S, F, rfl, ht, hF8, hAl, hM, hRK, q, hqP, hqR⟩ := both_of hu hb hro
    have hF1 : ∀ x ∈ lq, ∀ k, x.a = some ⟨k, 0, none⟩ → k < w2.heap.size := fun x hx k e => by
      obtain ⟨b, cur, h1, _, h2, _⟩ := hF x hx
      rw [e] at h1
      cases h1
      exact h2.lt
    replace hB := hB.trans (hb.mono hB.size)
    replace hbx := hbx.below hb hbx.lt
    replace hin := hin.below hb hin.lt
    replace hlg := hlg.below hb (Nat.le_refl _)
    replace hF := fun x hx => (hF x hx).below hb (Nat.le_refl _)
    replace hx := hx.below hb (Nat.le_refl _)
    clear hrf hb b0 b1 b2 b3 hro hu
    have hz := UsefulTop.check_le g
    have ez1 : (((checkG g).1 : Int) != ((checkG g).1 : Int)) = false := by simp
    have er1 : (ruI (checkG g).2 != ruI (checkG g).2) = false := by simp
    have eq1 : (q != q) = false := by simp
    have hkk := kind_ck _ p (checkG g) w3 x1 (hE.below hB (Nat.le_refl _)) hz hx
    go_wp2_with fail
    refine hkk.mono ?_
    rintro e w4 ⟨rfl, hb⟩
    replace hB := hB.trans (hb.mono hB.size)
    replace hbx := hbx.below hb hbx.lt
    replace hin := hin.below hb hin.lt
    replace hlg := hlg.below hb (Nat.le_refl _)
    replace hF := fun x hx => (hF x hx).below hb (Nat.le_refl _)
    replace hx := hx.below hb (Nat.le_refl _)
    replace hM := hM.below hb (Nat.le_refl _)
    replace hRK := hRK.below hb (Nat.le_refl _)
    clear hkk hb
    have hrk := rule_ck _ p (checkG g) w4 x1 (hT.below hB (Nat.le_refl _)) hx
    rw [ruleZ_ck] at hrk
    go_wp2_with fail
    refine hrk.mono ?_
    rintro e w5 ⟨rfl, hb⟩
    replace hB := hB.trans (hb.mono hB.size)
    replace hbx := hbx.below hb hbx.lt
    replace hin := hin.below hb hin.lt
    replace hlg := hlg.below hb (Nat.le_refl _)
    replace hF := fun x hx => (hF x hx).below hb (Nat.le_refl _)
    replace hM := hM.below hb (Nat.le_refl _)
    replace hRK := hRK.below hb (Nat.le_refl _)
    clear hrk hb hx
    have i0 := hin.cell (q := 0) rfl
    have i1 := hin.cell (q := 1) rfl
    have i2 := hin.cell (q := 2) rfl
    have i3 := hin.cell (q := 3) rfl
    have b0 := hbx.cell (q := 0) rfl
    have b1 := hbx.cell (q := 1) rfl
    have b2 := hbx.cell (q := 2) rfl
    have b3 := hbx.cell (q := 3) rfl
    have hkept := keptG g1 c1 g2 c2 g3 c3 lq ta na ra tc nc rc g w5 hlg (hG.below hB (Nat.le_refl _)) hg
    go_wp2_with fail
    refine hkept.mono ?_
    rintro e w6 ⟨rfl, hb⟩
    replace hB := hB.trans (hb.mono hB.size)
    replace hin := hin.below hb hin.lt
    replace hlg := hlg.below hb (Nat.le_refl _)
    replace hF := fun x hx => (hF x hx).below hb (Nat.le_refl _)
    replace hM := hM.below hb (Nat.le_refl _)
    replace hRK := hRK.below hb (Nat.le_refl _)
    clear hkept hb i0 i1 i2 i3 b0 b1 b2 b3 hbx ez1 er1 eq1 hqP hqR
    go_wp2_with fail
    obtain ⟨B0, hB0⟩ : ∃ B0, B0 = (w.alloc (.cells #[.slice ta g.ts.length tc, .slice na g.ns.length nc, .int .i64 g.ax, .slice ra g.rs.length rc] 25)).heap.size := ⟨_, rfl⟩
    rw [← hB0] at hF
    have hB1 : w.heap.size ≤ B0 := by rw [hB0]; simp
    have hrl := hg.2.2.1
    have hlen : lq.length = g.rs.length := by rw [← hlg.map]; simp
    have hfar := qrow_far hlg.rs hlg.each
    have hsl : ∀ k, SL lq k → B0 ≤ k ∧ k < w2.heap.size ∧ ∃ cur, RowAt w6 k 3 cur := fun k hk => by
      obtain ⟨x, hx, ha, _⟩ := hk
      obtain ⟨b, cur, h1, h2, h3, _⟩ := hF x hx
      rw [ha] at h1
      cases h1
      exact ⟨h2, hF1 x hx k ha, cur, h3⟩
    have HI : Hid (∀ W, But (SL lq) w6 W → RowAt W w1.heap.size 25 #[.slice (some ⟨g1, 0, none⟩) g.ts.length c1, .slice (some ⟨g2, 0, none⟩) g.ns.length c2, .int .i64 g.ax, .slice (some ⟨g3, 0, none⟩) g.rs.length c3]) := fun W hW => hin.but hW (fun e => by
      obtain ⟨_, _, cur, hc⟩ := hsl _ e
      exact hin.ne hc (by decide) rfl)
    have HQ : Hid (∀ W, But (SL lq) w6 W → QRow W (some ⟨g3, 0, none⟩) lq) := fun W hW k x hx => by
      obtain ⟨b, off, e, h1, h2⟩ := qrow_front hlg.rs k x hx
      cases e
      exact ⟨_, _, rfl, (hW.cell (cell_lt h1) hfar).trans h1, (hW.cell (cell_lt h2) hfar).trans h2⟩
    have hM2 : ∀ W, But (SL lq) w6 W → MatV W po t S := fun W hW => mat_but hM hW (fun M cur hm e => by
      obtain ⟨_, _, cur, hc⟩ := hsl _ e
      exact hm.ne hc (by decide) rfl)
    have hRK2 : ∀ W, But (SL lq) w6 W → RK w2.heap.size W ro t F := fun W hW => hRK.keep hW.size (fun k h1 h2 => hW.block k h2 (fun e => by have := (hsl k e).2.1; omega))
    have hB2 : ∀ W, But (SL lq) w6 W → Below w.heap.size w W := fun W hW => hB.trans (hW.below hB.size (fun k hk => Nat.le_trans hB1 (hsl k hk).1))
    have HM2 : Hid (_) := hM2
    have HRK2 : Hid (_) := hRK2
    have HB2 : Hid (_) := hB2
    have HF6 : Hid (∀ x ∈ lq, F3 B0 w6 x) := hF
    have HLen : Hid (∀ x ∈ lq, x.r.right.length < 9223372036854775808) := fun x hx => by
      have := (hg.2.2.2.2.1 x.r (by rw [← hlg.map]; exact List.mem_map_of_mem hx)).2.2
      omega
    clear hM2 hRK2 hB2 hF hsl hfar hlg hin hM hRK hB hF1 hB0
    go_loopw [9] (fun i wr => ∃ k : Nat, k ≤ g.rs.length ∧ i = .int .i64 k ∧ But (SL lq) w6 wr ∧ ∀ x ∈ lq, F3 B0 wr x) (fun i _ => g.rs.length - (intOf i).toNat)
    case atStart => exact ⟨0, by omega, rfl, But.refl _ _, HF6.out⟩
    case round =>
      obtain ⟨k, hk, rfl, hbu, hFr⟩ := hrel
      by_cases hkl : k < g.rs.length
      · have hkl2 : (k : Int) < (g.rs.length : Int) := by omega
        have hin := HI.out wr hbu
        have i3 := hin.cell (q := 3) rfl
        have HKl : Hid (k < g.rs.length) := hkl
        obtain ⟨x, hxk⟩ : ∃ x, lq[k]? = some x := ⟨lq[k]'(by omega), List.getElem?_eq_getElem (by omega)⟩
        have hxm := List.mem_of_getElem? hxk
        have hxl := HLen.out x hxm
        clear hkl hin
        go_wp2
        go_loopw [10] (fun i wr => ∃ j : Nat, i = .int .i64 j ∧ j ≤ x.r.right.length ∧ But (SL lq) w6 wr ∧ ∀ x ∈ lq, F3 B0 wr x) (fun i _ => x.r.right.length - (intOf i).toNat)
        case atStart => exact ⟨0, rfl, by omega, hbu, hFr⟩
        case round =>
          clear hbu hFr i3
          obtain ⟨j, rfl, hj, hbu, hFr⟩ := hrel
          have hin := HI.out wr hbu
          have i3 := hin.cell (q := 3) rfl
          obtain ⟨b, cur, hxa, hbB, hrow, hsz⟩ := hFr x hxm
          obtain ⟨b3, o3, e3, hc1, hc2⟩ := HQ.out wr hbu k x hxk
          cases e3
          rw [hxa] at hc2
          simp only [Nat.zero_add] at hc2
          have hkn : ¬ (g.rs.length : Int) ≤ (k : Int) := by omega
          clear hin hc1
          by_cases hjl : j < x.r.right.length
          · have hjl2 : (j : Int) < (x.r.right.length : Int) := by omega
            have hjn : ¬ (x.r.right.length : Int) ≤ (j : Int) := by omega
            have hcj := hrow.cell (q := j) (Array.getElem?_eq_getElem (by omega))
            have hfj := hrow.frozen j
            have hbu2 := hbu.setCell (p := ⟨b, j, none⟩) (⟨x, hxm, hxa, by omega⟩ : SL lq b) (.int .i64 0)
            have hF2 : ∀ y ∈ lq, F3 B0 (wr.setCell ⟨b, j, none⟩ (.int .i64 0)) y := fun y hy => F3.set (hFr y hy)
            clear hrow
            go_wp2
            go_roundw
            case rel => exact ⟨j + 1, by go_num, by omega, hbu2, hF2⟩
            case measure => simp [intOf]; omega
          · have hjl2 : ¬ (j : Int) < (x.r.right.length : Int) := by omega
            have hkl3 := HKl.out
            go_wp2
            go_roundw
            case rel => exact ⟨k + 1, by have := HKl.out; omega, by go_num, hbu, hFr⟩
            case measure => have := HKl.out; simp [intOf]; omega
      · obtain rfl : k = g.rs.length := by omega
        have hin := HI.out wr hbu
        have i3 := hin.cell (q := 3) rfl
        have hM := HM2.out wr hbu
        have hRK := HRK2.out wr hbu
        have hB := HB2.out wr hbu
        clear hin HI HQ HM2 HRK2 HB2 HF6 HLen hFr
        have hR := hRK.here
        have HM0 : Hid (MatV wr po t S) := hM
        have HR0 : Hid (RMatV wr ro t F) := hR
        have HB0 : Hid (Below w.heap.size w wr) := hB
        have hKr : Below wr.heap.size wr wr := Below.refl _ _
        clear hRK
        obtain ⟨L, hLd⟩ : ∃ L, L = clL t S := ⟨_, rfl⟩
        have hLn : L.length ≤ 10800 := by rw [hLd]; exact clL_len ht
        have HLd : Hid (L = clL t S) := hLd
        clear hLd
        have hcl := clashesF_v po t S wr ht hM
        rw [← HLd.out] at hcl
        go_wp2_with fail
        refine hcl.mono ?_
        rintro e v1 ⟨⟨s11, rfl, ho11⟩, hb⟩
        have hz01 : wr.heap.size ≤ v1.heap.size := hb.size
        have hl11 : ∀ j, s11.ownBlock = some j → j < v1.heap.size := fun j hj => (ho11.lt j hj).2
        have hB := hB.trans (hb.mono hB.size)
        replace hKr := hKr.trans (hb.mono hKr.size)
        replace hM := hM.below hb (Nat.le_refl _)
        replace hR := hR.below hb (Nat.le_refl _)
        obtain ⟨a11, c11, rfl, _⟩ := own_prow ho11
        clear hb hcl i3
        have hcl := clashesF_v po t S v1 ht hM
        rw [← HLd.out] at hcl
        go_wp2_with fail
        refine hcl.mono ?_
        rintro e v2 ⟨⟨s12, rfl, ho12⟩, hb⟩
        have hl12 : ∀ j, s12.ownBlock = some j → j < v2.heap.size := fun j hj => (ho12.lt j hj).2
        have hz12 : v1.heap.size ≤ v2.heap.size := hb.size
        have hB := hB.trans (hb.mono hB.size)
        replace hKr := hKr.trans (hb.mono hKr.size)
        replace hM := hM.below hb (Nat.le_refl _)
        replace hR := hR.below hb (Nat.le_refl _)
        replace ho11 := GramApart.own_below ho11 hb
        obtain ⟨a12, c12, rfl, _⟩ := own_prow ho12
        clear hb hcl
        have hcl := rclashes_s ro t F S v2 hR ht hF8 hAl
        rw [← HLd.out] at hcl
        go_wp2_with fail
        refine hcl.mono ?_
        rintro e v3 ⟨⟨s13, rfl, ho13⟩, hb⟩
        have hB := hB.trans (hb.mono hB.size)
        replace hKr := hKr.trans (hb.mono hKr.size)
        replace hM := hM.below hb (Nat.le_refl _)
        replace hR := hR.below hb (Nat.le_refl _)
        replace ho11 := GramApart.own_below ho11 hb
        replace ho12 := GramApart.own_below ho12 hb
        obtain ⟨a13, c13, rfl, _⟩ := own_prow ho13
        clear hb hcl
        have hcl := clashF_v po t S v3 ht hM
        obtain ⟨z, ok, ez, hzok⟩ := clash_parts L
        rw [← HLd.out, ez] at hcl
        go_wp2_with fail
        refine hcl.mono ?_
        rintro e v4 ⟨rfl, hb⟩
        have hB := hB.trans (hb.mono hB.size)
        replace hKr := hKr.trans (hb.mono hKr.size)
        replace hM := hM.below hb (Nat.le_refl _)
        replace hR := hR.below hb (Nat.le_refl _)
        replace ho11 := GramApart.own_below ho11 hb
        replace ho12 := GramApart.own_below ho12 hb
        replace ho13 := GramApart.own_below ho13 hb
        clear hb hcl
        have hb : Below v4.heap.size v4 (v4.alloc (.cells #[.int .i64 z.a, .int .i64 z.b, .int .i64 z.f, .int .i64 z.s] 44)) := (Below.refl _ _).alloc (Nat.le_refl _) _
        have hpx := UsefulTop.rowNew v4 #[.int .i64 z.a, .int .i64 z.b, .int .i64 z.f, .int .i64 z.s] 44
        have hB := hB.trans (hb.mono hB.size)
        replace hKr := hKr.trans (hb.mono hKr.size)
        replace hM := hM.below hb (Nat.le_refl _)
        replace hR := hR.below hb (Nat.le_refl _)
        replace ho11 := GramApart.own_below ho11 hb
        replace ho12 := GramApart.own_below ho12 hb
        replace ho13 := GramApart.own_below ho13 hb
        clear hb
        go_wp2_with fail
        generalize v4.alloc (.cells #[.int .i64 z.a, .int .i64 z.b, .int .i64 z.f, .int .i64 z.s] 44) = v5 at *
        have hp11 := own_prow2 ho11
        have hp12 := own_prow2 ho12
        have hp13 := own_prow2 ho13
        go_cut [145] (fun s wx => s = .bool false ∧ Below v5.heap.size v5 wx)
        case first =>
          have hd : Below v5.heap.size v5 v5.drew := drew_below v5 1
          clear hKr HM0 HR0 HB0 hl11 hl12 hz01 hz12 hE hT hTb hg hB ho11 ho12 ho13 HLd hG htc hnc hz hrl hlen hB1
          refine wp_region_noPanic ?_
          refine wp_region_held_drew (S := (fun w' => Below v5.heap.size v5 w')) (by kernel_rfl) hd (fun hHeld => ?_)
          refine wpAnyH_take (i := 0) (v := .pointer po) rfl (by kernel_rfl) (by kernel_rfl) (by kernel_rfl) (fun _ _ _ h => h) (Or.inl ⟨by rfl, fun w0 hSw => ?_⟩) hHeld ?_
          · go_simp
          simp only [List.getElem_toArray, List.getElem_cons_zero, List.getElem_cons_succ, Act.put, List.setIfInBounds_toArray, List.set_cons_zero, List.set_cons_succ]
          refine wpAnyH_take (i := 1) (v := .pointer ro) rfl (by kernel_rfl) (by kernel_rfl) (by kernel_rfl) (fun _ _ _ h => h) (Or.inl ⟨by rfl, fun w0 hSw => ?_⟩) hHeld ?_
          · go_simp
          simp only [List.getElem_toArray, List.getElem_cons_zero, List.getElem_cons_succ, Act.put, List.setIfInBounds_toArray, List.set_cons_zero, List.set_cons_succ]
          refine wpAnyH_ready (rs := [2]) (by kernel_rfl) (by simp) ?_
          refine AllReadyH.cons rfl (fun K hK => ?_) AllReadyH.nil
          go_simp
          refine (same_v po ro t F S _ (hM.below hd (Nat.le_refl _)) (hR.below hd (Nat.le_refl _)) ht hF8 hAl).mono ?_
          rintro e y1 ⟨rfl, hy⟩
          have H1 : Below v5.heap.size v5 y1 := by rw [hy]; exact hd
          clear hy
          refine hK.out _ _ H1 (fun _ => ?_)
          clear hK K
          refine wpAnyH_take (i := 3) (v := .bool false) rfl (by kernel_rfl) (by kernel_rfl) (by kernel_rfl) (fun _ _ _ h => h) (Or.inl ⟨by rfl, fun w0 hSw => ?_⟩) H1 ?_
          · go_simp
          simp only [List.getElem_toArray, List.getElem_cons_zero, List.getElem_cons_succ, Act.put, List.setIfInBounds_toArray, List.set_cons_zero, List.set_cons_succ]
          refine wpAnyH_take (i := 4) (v := .bool false) rfl (by kernel_rfl) (by kernel_rfl) (by kernel_rfl) (fun _ _ _ h => h) (Or.inl ⟨by rfl, fun w0 hSw => ?_⟩) H1 ?_
          · go_simp
          simp only [List.getElem_toArray, List.getElem_cons_zero, List.getElem_cons_succ, Act.put, List.setIfInBounds_toArray, List.set_cons_zero, List.set_cons_succ]
          refine wpAnyH_take (i := 5) (v := .slice a11 L.length c11) rfl (by kernel_rfl) (by kernel_rfl) (by kernel_rfl) (fun _ _ _ h => h) (Or.inl ⟨by rfl, fun w0 hSw => ?_⟩) H1 ?_
          · go_simp
          simp only [List.getElem_toArray, List.getElem_cons_zero, List.getElem_cons_succ, Act.put, List.setIfInBounds_toArray, List.set_cons_zero, List.set_cons_succ]
          refine wpAnyH_take (i := 6) (v := .slice a13 L.length c13) rfl (by kernel_rfl) (by kernel_rfl) (by kernel_rfl) (fun _ _ _ h => h) (Or.inl ⟨by rfl, fun w0 hSw => ?_⟩) H1 ?_
          · go_simp
          simp only [List.getElem_toArray, List.getElem_cons_zero, List.getElem_cons_succ, Act.put, List.setIfInBounds_toArray, List.set_cons_zero, List.set_cons_succ]
          refine wpAnyH_ready (rs := [7]) (by kernel_rfl) (by simp) ?_
          refine AllReadyH.cons rfl (fun K hK => ?_) AllReadyH.nil
          go_simp
          refine (pairs_s a11 a13 c11 c13 L _ (prow_below hp11 H1) (prow_below hp13 H1) (by omega)).mono ?_
          rintro e y2 ⟨rfl, qq, hy⟩
          have H2 : Below v5.heap.size v5 y2 := by rw [hy]; exact H1.trans ((drew_below y1 qq).mono H1.size)
          clear hy
          refine hK.out _ _ H2 (fun _ => ?_)
          clear hK K
          refine wpAnyH_take (i := 8) (v := .bool false) rfl (by kernel_rfl) (by kernel_rfl) (by kernel_rfl) (fun _ _ _ h => h) (Or.inl ⟨by rfl, fun w0 hSw => ?_⟩) H2 ?_
          · go_simp
          simp only [List.getElem_toArray, List.getElem_cons_zero, List.getElem_cons_succ, Act.put, List.setIfInBounds_toArray, List.set_cons_zero, List.set_cons_succ]
          refine wpAnyH_take (i := 9) (v := .bool false) rfl (by kernel_rfl) (by kernel_rfl) (by kernel_rfl) (fun _ _ _ h => h) (Or.inl ⟨by rfl, fun w0 hSw => ?_⟩) H2 ?_
          · go_simp
          simp only [List.getElem_toArray, List.getElem_cons_zero, List.getElem_cons_succ, Act.put, List.setIfInBounds_toArray, List.set_cons_zero, List.set_cons_succ]
          refine wpAnyH_take (i := 10) (v := .bool false) rfl (by kernel_rfl) (by kernel_rfl) (by kernel_rfl) (fun _ _ _ h => h) (Or.inl ⟨by rfl, fun w0 hSw => ?_⟩) H2 ?_
          · go_simp
          simp only [List.getElem_toArray, List.getElem_cons_zero, List.getElem_cons_succ, Act.put, List.setIfInBounds_toArray, List.set_cons_zero, List.set_cons_succ]
          refine wpAnyH_take (i := 11) (v := .slice a12 L.length c12) rfl (by kernel_rfl) (by kernel_rfl) (by kernel_rfl) (fun _ _ _ h => h) (Or.inl ⟨by rfl, fun w0 hSw => ?_⟩) H2 ?_
          · go_simp
          simp only [List.getElem_toArray, List.getElem_cons_zero, List.getElem_cons_succ, Act.put, List.setIfInBounds_toArray, List.set_cons_zero, List.set_cons_succ]
          refine wpAnyH_take (i := 12) (v := .slice a13 L.length c13) rfl (by kernel_rfl) (by kernel_rfl) (by kernel_rfl) (fun _ _ _ h => h) (Or.inl ⟨by rfl, fun w0 hSw => ?_⟩) H2 ?_
          · go_simp
          simp only [List.getElem_toArray, List.getElem_cons_zero, List.getElem_cons_succ, Act.put, List.setIfInBounds_toArray, List.set_cons_zero, List.set_cons_succ]
          refine wpAnyH_ready (rs := [13]) (by kernel_rfl) (by simp) ?_
          refine AllReadyH.cons rfl (fun K hK => ?_) AllReadyH.nil
          go_simp
          refine (pairs_s a12 a13 c12 c13 L _ (prow_below hp12 H2) (prow_below hp13 H2) (by omega)).mono ?_
          rintro e y3 ⟨rfl, qq, hy⟩
          have H3 : Below v5.heap.size v5 y3 := by rw [hy]; exact H2.trans ((drew_below y2 qq).mono H2.size)
          clear hy
          refine hK.out _ _ H3 (fun _ => ?_)
          clear hK K
          refine wpAnyH_take (i := 14) (v := .bool false) rfl (by kernel_rfl) (by kernel_rfl) (by kernel_rfl) (fun _ _ _ h => h) (Or.inl ⟨by rfl, fun w0 hSw => ?_⟩) H3 ?_
          · go_simp
          simp only [List.getElem_toArray, List.getElem_cons_zero, List.getElem_cons_succ, Act.put, List.setIfInBounds_toArray, List.set_cons_zero, List.set_cons_succ]
          refine wpAnyH_take (i := 15) (v := .bool false) rfl (by kernel_rfl) (by kernel_rfl) (by kernel_rfl) (fun _ _ _ h => h) (Or.inl ⟨by rfl, fun w0 hSw => ?_⟩) H3 ?_
          · go_simp
          simp only [List.getElem_toArray, List.getElem_cons_zero, List.getElem_cons_succ, Act.put, List.setIfInBounds_toArray, List.set_cons_zero, List.set_cons_succ]
          refine wpAnyH_take (i := 16) (v := .bool false) rfl (by kernel_rfl) (by kernel_rfl) (by kernel_rfl) (fun _ _ _ h => h) (Or.inl ⟨by rfl, fun w0 hSw => ?_⟩) H3 ?_
          · go_simp
          simp only [List.getElem_toArray, List.getElem_cons_zero, List.getElem_cons_succ, Act.put, List.setIfInBounds_toArray, List.set_cons_zero, List.set_cons_succ]
          rcases hzok with ⟨rfl, rfl, rfl⟩ | ⟨l, rfl, rfl⟩
          · refine wpAnyH_take (i := 17) (v := .bool false) rfl (by kernel_rfl) (by kernel_rfl) (by kernel_rfl) (fun _ _ _ h => h) (Or.inl ⟨by rfl, fun w0 hSw => ?_⟩) H3 ?_
            · go_simp
            simp only [List.getElem_toArray, List.getElem_cons_zero, List.getElem_cons_succ, Act.put, List.setIfInBounds_toArray, List.set_cons_zero, List.set_cons_succ]
            refine wpAnyH_take (i := 18) (v := .slice a13 ([] : List Pr).length c13) rfl (by kernel_rfl) (by kernel_rfl) (by kernel_rfl) (fun _ _ _ h => h) (Or.inl ⟨by rfl, fun w0 hSw => ?_⟩) H3 ?_
            · go_simp
            simp only [List.getElem_toArray, List.getElem_cons_zero, List.getElem_cons_succ, Act.put, List.setIfInBounds_toArray, List.set_cons_zero, List.set_cons_succ]
            refine wpAnyH_take (i := 19) (v := .int .i64 (([] : List Pr).length : Int)) rfl (by kernel_rfl) (by kernel_rfl) (by kernel_rfl) (fun _ _ _ h => h) (Or.inl ⟨by rfl, fun w0 hSw => ?_⟩) H3 ?_
            · go_simp
            simp only [List.getElem_toArray, List.getElem_cons_zero, List.getElem_cons_succ, Act.put, List.setIfInBounds_toArray, List.set_cons_zero, List.set_cons_succ]
            refine wpAnyH_take (i := 20) (v := .bool false) rfl (by kernel_rfl) (by kernel_rfl) (by kernel_rfl) (fun _ _ _ h => h) (Or.inl ⟨by rfl, fun w0 hSw => ?_⟩) H3 ?_
            · go_simp
            simp only [List.getElem_toArray, List.getElem_cons_zero, List.getElem_cons_succ, Act.put, List.setIfInBounds_toArray, List.set_cons_zero, List.set_cons_succ]
            refine wpAnyH_take (i := 21) (v := .bool false) rfl (by kernel_rfl) (by kernel_rfl) (by kernel_rfl) (fun _ _ _ h => h) (Or.inl ⟨by rfl, fun w0 hSw => ?_⟩) H3 ?_
            · go_simp
            simp only [List.getElem_toArray, List.getElem_cons_zero, List.getElem_cons_succ, Act.put, List.setIfInBounds_toArray, List.set_cons_zero, List.set_cons_succ]
            refine wpAnyH_take (i := 22) (v := .bool false) rfl (by kernel_rfl) (by kernel_rfl) (by kernel_rfl) (fun _ _ _ h => h) (Or.inl ⟨by rfl, fun w0 hSw => ?_⟩) H3 ?_
            · go_simp
            simp only [List.getElem_toArray, List.getElem_cons_zero, List.getElem_cons_succ, Act.put, List.setIfInBounds_toArray, List.set_cons_zero, List.set_cons_succ]
            refine wpAnyH_take (i := 23) (v := .bool false) rfl (by kernel_rfl) (by kernel_rfl) (by kernel_rfl) (fun _ _ _ h => h) (Or.inl ⟨by rfl, fun w0 hSw => ?_⟩) H3 ?_
            · go_simp
            simp only [List.getElem_toArray, List.getElem_cons_zero, List.getElem_cons_succ, Act.put, List.setIfInBounds_toArray, List.set_cons_zero, List.set_cons_succ]
            refine wpAnyH_take (i := 24) (v := .bool false) rfl (by kernel_rfl) (by kernel_rfl) (by kernel_rfl) (fun _ _ _ h => h) (Or.inl ⟨by rfl, fun w0 hSw => ?_⟩) H3 ?_
            · go_simp
            simp only [List.getElem_toArray, List.getElem_cons_zero, List.getElem_cons_succ, Act.put, List.setIfInBounds_toArray, List.set_cons_zero, List.set_cons_succ]
            refine wpAnyH_take (i := 25) (v := .bool false) rfl (by kernel_rfl) (by kernel_rfl) (by kernel_rfl) (fun _ _ _ h => h) (Or.inl ⟨by rfl, fun w0 hSw => ?_⟩) H3 ?_
            · go_simp
            simp only [List.getElem_toArray, List.getElem_cons_zero, List.getElem_cons_succ, Act.put, List.setIfInBounds_toArray, List.set_cons_zero, List.set_cons_succ]
            refine wpAnyH_take (i := 26) (v := undef) rfl (by kernel_rfl) (by kernel_rfl) (by kernel_rfl) (fun _ _ _ h => h) (Or.inr ⟨by rfl, rfl⟩) H3 ?_
            simp only [List.getElem_toArray, List.getElem_cons_zero, List.getElem_cons_succ, Act.put, List.setIfInBounds_toArray, List.set_cons_zero, List.set_cons_succ]
            refine wpAnyH_take (i := 27) (v := undef) rfl (by kernel_rfl) (by kernel_rfl) (by kernel_rfl) (fun _ _ _ h => h) (Or.inr ⟨by rfl, rfl⟩) H3 ?_
            simp only [List.getElem_toArray, List.getElem_cons_zero, List.getElem_cons_succ, Act.put, List.setIfInBounds_toArray, List.set_cons_zero, List.set_cons_succ]
            refine wpAnyH_take (i := 28) (v := undef) rfl (by kernel_rfl) (by kernel_rfl) (by kernel_rfl) (fun _ _ _ h => h) (Or.inr ⟨by rfl, rfl⟩) H3 ?_
            simp only [List.getElem_toArray, List.getElem_cons_zero, List.getElem_cons_succ, Act.put, List.setIfInBounds_toArray, List.set_cons_zero, List.set_cons_succ]
            refine wpAnyH_take (i := 29) (v := undef) rfl (by kernel_rfl) (by kernel_rfl) (by kernel_rfl) (fun _ _ _ h => h) (Or.inr ⟨by rfl, rfl⟩) H3 ?_
            simp only [List.getElem_toArray, List.getElem_cons_zero, List.getElem_cons_succ, Act.put, List.setIfInBounds_toArray, List.set_cons_zero, List.set_cons_succ]
            refine wpAnyH_take (i := 30) (v := undef) rfl (by kernel_rfl) (by kernel_rfl) (by kernel_rfl) (fun _ _ _ h => h) (Or.inr ⟨by rfl, rfl⟩) H3 ?_
            simp only [List.getElem_toArray, List.getElem_cons_zero, List.getElem_cons_succ, Act.put, List.setIfInBounds_toArray, List.set_cons_zero, List.set_cons_succ]
            refine wpAnyH_take (i := 31) (v := .bool false) rfl (by kernel_rfl) (by kernel_rfl) (by kernel_rfl) (fun _ _ _ h => h) (Or.inl ⟨by rfl, fun w0 hSw => ?_⟩) H3 ?_
            · go_simp
            simp only [List.getElem_toArray, List.getElem_cons_zero, List.getElem_cons_succ, Act.put, List.setIfInBounds_toArray, List.set_cons_zero, List.set_cons_succ]
            refine wpAnyH_take (i := 32) (v := .bool false) rfl (by kernel_rfl) (by kernel_rfl) (by kernel_rfl) (fun _ _ _ h => h) (Or.inl ⟨by rfl, fun w0 hSw => ?_⟩) H3 ?_
            · go_simp
            simp only [List.getElem_toArray, List.getElem_cons_zero, List.getElem_cons_succ, Act.put, List.setIfInBounds_toArray, List.set_cons_zero, List.set_cons_succ]
            refine wpAnyH_take (i := 33) (v := .bool false) rfl (by kernel_rfl) (by kernel_rfl) (by kernel_rfl) (fun _ _ _ h => h) (Or.inl ⟨by rfl, fun w0 hSw => ?_⟩) H3 ?_
            · go_simp
            simp only [List.getElem_toArray, List.getElem_cons_zero, List.getElem_cons_succ, Act.put, List.setIfInBounds_toArray, List.set_cons_zero, List.set_cons_succ]
            refine wpAnyH_take (i := 34) (v := .bool false) rfl (by kernel_rfl) (by kernel_rfl) (by kernel_rfl) (fun _ _ _ h => h) (Or.inl ⟨by rfl, fun w0 hSw => ?_⟩) H3 ?_
            · go_simp
            simp only [List.getElem_toArray, List.getElem_cons_zero, List.getElem_cons_succ, Act.put, List.setIfInBounds_toArray, List.set_cons_zero, List.set_cons_succ]
            refine wpAnyH_take (i := 35) (v := .bool true) rfl (by kernel_rfl) (by kernel_rfl) (by kernel_rfl) (fun _ _ _ h => h) (Or.inl ⟨by rfl, fun w0 hSw => ?_⟩) H3 ?_
            · go_simp
            simp only [List.getElem_toArray, List.getElem_cons_zero, List.getElem_cons_succ, Act.put, List.setIfInBounds_toArray, List.set_cons_zero, List.set_cons_succ]
            refine wpAnyH_take (i := 36) (v := .bool true) rfl (by kernel_rfl) (by kernel_rfl) (by kernel_rfl) (fun _ _ _ h => h) (Or.inl ⟨by rfl, fun w0 hSw => ?_⟩) H3 ?_
            · go_simp
            simp only [List.getElem_toArray, List.getElem_cons_zero, List.getElem_cons_succ, Act.put, List.setIfInBounds_toArray, List.set_cons_zero, List.set_cons_succ]
            refine wpAnyH_take (i := 37) (v := .agg #[.int .i64 0, .int .i64 0, .int .i64 0, .int .i64 0]) rfl (by kernel_rfl) (by kernel_rfl) (by kernel_rfl) (fun _ _ _ h => h) (Or.inl ⟨by rfl, fun w0 hSw => ?_⟩) H3 ?_
            · have px := hpx.below hSw hpx.lt; have p0 := px.cell (q := 0) rfl; have p1 := px.cell (q := 1) rfl; have p2 := px.cell (q := 2) rfl; have p3 := px.cell (q := 3) rfl; clear px
              go_simp
            simp only [List.getElem_toArray, List.getElem_cons_zero, List.getElem_cons_succ, Act.put, List.setIfInBounds_toArray, List.set_cons_zero, List.set_cons_succ]
            refine wpAnyH_take (i := 38) (v := .agg #[.int .i64 0, .int .i64 0, .int .i64 0, .int .i64 0]) rfl (by kernel_rfl) (by kernel_rfl) (by kernel_rfl) (fun _ _ _ h => h) (Or.inl ⟨by rfl, fun w0 hSw => ?_⟩) H3 ?_
            · go_simp
            simp only [List.getElem_toArray, List.getElem_cons_zero, List.getElem_cons_succ, Act.put, List.setIfInBounds_toArray, List.set_cons_zero, List.set_cons_succ]
            refine wpAnyH_take (i := 39) (v := .bool false) rfl (by kernel_rfl) (by kernel_rfl) (by kernel_rfl) (fun _ _ _ h => h) (Or.inl ⟨by rfl, fun w0 hSw => ?_⟩) H3 ?_
            · have nq := neq_pair 0 0 0 0 w0
              go_simp
            simp only [List.getElem_toArray, List.getElem_cons_zero, List.getElem_cons_succ, Act.put, List.setIfInBounds_toArray, List.set_cons_zero, List.set_cons_succ]
            refine wpAnyH_take (i := 40) (v := .bool false) rfl (by kernel_rfl) (by kernel_rfl) (by kernel_rfl) (fun _ _ _ h => h) (Or.inl ⟨by rfl, fun w0 hSw => ?_⟩) H3 ?_
            · go_simp
            simp only [List.getElem_toArray, List.getElem_cons_zero, List.getElem_cons_succ, Act.put, List.setIfInBounds_toArray, List.set_cons_zero, List.set_cons_succ]
            refine wpAnyH_take (i := 41) (v := .bool false) rfl (by kernel_rfl) (by kernel_rfl) (by kernel_rfl) (fun _ _ _ h => h) (Or.inl ⟨by rfl, fun w0 hSw => ?_⟩) H3 ?_
            · go_simp
            simp only [List.getElem_toArray, List.getElem_cons_zero, List.getElem_cons_succ, Act.put, List.setIfInBounds_toArray, List.set_cons_zero, List.set_cons_succ]
            refine wpAnyH_done (by kernel_rfl) (NoPanic.normal ?_) _
            go_wp2
            go_meet
            exact ⟨rfl, H3⟩
          · obtain ⟨b13, rfl, _⟩ := hp13 0 z rfl
            refine wpAnyH_take (i := 17) (v := .bool true) rfl (by kernel_rfl) (by kernel_rfl) (by kernel_rfl) (fun _ _ _ h => h) (Or.inl ⟨by rfl, fun w0 hSw => ?_⟩) H3 ?_
            · go_simp
            simp only [List.getElem_toArray, List.getElem_cons_zero, List.getElem_cons_succ, Act.put, List.setIfInBounds_toArray, List.set_cons_zero, List.set_cons_succ]
            refine wpAnyH_take (i := 18) (v := .slice (some ⟨b13, 0, none⟩) (z :: l).length c13) rfl (by kernel_rfl) (by kernel_rfl) (by kernel_rfl) (fun _ _ _ h => h) (Or.inl ⟨by rfl, fun w0 hSw => ?_⟩) H3 ?_
            · go_simp
            simp only [List.getElem_toArray, List.getElem_cons_zero, List.getElem_cons_succ, Act.put, List.setIfInBounds_toArray, List.set_cons_zero, List.set_cons_succ]
            refine wpAnyH_take (i := 19) (v := .int .i64 ((z :: l).length : Int)) rfl (by kernel_rfl) (by kernel_rfl) (by kernel_rfl) (fun _ _ _ h => h) (Or.inl ⟨by rfl, fun w0 hSw => ?_⟩) H3 ?_
            · go_simp
            simp only [List.getElem_toArray, List.getElem_cons_zero, List.getElem_cons_succ, Act.put, List.setIfInBounds_toArray, List.set_cons_zero, List.set_cons_succ]
            refine wpAnyH_take (i := 20) (v := .bool true) rfl (by kernel_rfl) (by kernel_rfl) (by kernel_rfl) (fun _ _ _ h => h) (Or.inl ⟨by rfl, fun w0 hSw => ?_⟩) H3 ?_
            · have hps : (0 : Int) < ((z :: l).length : Int) := by simp only [List.length_cons]; omega
              go_simp
            simp only [List.getElem_toArray, List.getElem_cons_zero, List.getElem_cons_succ, Act.put, List.setIfInBounds_toArray, List.set_cons_zero, List.set_cons_succ]
            refine wpAnyH_take (i := 21) (v := .bool false) rfl (by kernel_rfl) (by kernel_rfl) (by kernel_rfl) (fun _ _ _ h => h) (Or.inl ⟨by rfl, fun w0 hSw => ?_⟩) H3 ?_
            · go_simp
            simp only [List.getElem_toArray, List.getElem_cons_zero, List.getElem_cons_succ, Act.put, List.setIfInBounds_toArray, List.set_cons_zero, List.set_cons_succ]
            refine wpAnyH_take (i := 22) (v := .bool false) rfl (by kernel_rfl) (by kernel_rfl) (by kernel_rfl) (fun _ _ _ h => h) (Or.inl ⟨by rfl, fun w0 hSw => ?_⟩) H3 ?_
            · go_simp
            simp only [List.getElem_toArray, List.getElem_cons_zero, List.getElem_cons_succ, Act.put, List.setIfInBounds_toArray, List.set_cons_zero, List.set_cons_succ]
            refine wpAnyH_take (i := 23) (v := .bool false) rfl (by kernel_rfl) (by kernel_rfl) (by kernel_rfl) (fun _ _ _ h => h) (Or.inl ⟨by rfl, fun w0 hSw => ?_⟩) H3 ?_
            · go_simp
            simp only [List.getElem_toArray, List.getElem_cons_zero, List.getElem_cons_succ, Act.put, List.setIfInBounds_toArray, List.set_cons_zero, List.set_cons_succ]
            refine wpAnyH_take (i := 24) (v := .bool true) rfl (by kernel_rfl) (by kernel_rfl) (by kernel_rfl) (fun _ _ _ h => h) (Or.inl ⟨by rfl, fun w0 hSw => ?_⟩) H3 ?_
            · go_simp
            simp only [List.getElem_toArray, List.getElem_cons_zero, List.getElem_cons_succ, Act.put, List.setIfInBounds_toArray, List.set_cons_zero, List.set_cons_succ]
            refine wpAnyH_take (i := 25) (v := .bool true) rfl (by kernel_rfl) (by kernel_rfl) (by kernel_rfl) (fun _ _ _ h => h) (Or.inl ⟨by rfl, fun w0 hSw => ?_⟩) H3 ?_
            · go_simp
            simp only [List.getElem_toArray, List.getElem_cons_zero, List.getElem_cons_succ, Act.put, List.setIfInBounds_toArray, List.set_cons_zero, List.set_cons_succ]
            refine wpAnyH_take (i := 26) (v := .agg #[.int .i64 z.a, .int .i64 z.b, .int .i64 z.f, .int .i64 z.s]) rfl (by kernel_rfl) (by kernel_rfl) (by kernel_rfl) (fun _ _ _ h => h) (Or.inl ⟨by rfl, fun w0 hSw => ?_⟩) H3 ?_
            · have px := hpx.below hSw hpx.lt; have p0 := px.cell (q := 0) rfl; have p1 := px.cell (q := 1) rfl; have p2 := px.cell (q := 2) rfl; have p3 := px.cell (q := 3) rfl; clear px
              go_simp
            simp only [List.getElem_toArray, List.getElem_cons_zero, List.getElem_cons_succ, Act.put, List.setIfInBounds_toArray, List.set_cons_zero, List.set_cons_succ]
            refine wpAnyH_take (i := 27) (v := .slice (some ⟨b13, 0, none⟩) (z :: l).length c13) rfl (by kernel_rfl) (by kernel_rfl) (by kernel_rfl) (fun _ _ _ h => h) (Or.inl ⟨by rfl, fun w0 hSw => ?_⟩) H3 ?_
            · go_simp
            simp only [List.getElem_toArray, List.getElem_cons_zero, List.getElem_cons_succ, Act.put, List.setIfInBounds_toArray, List.set_cons_zero, List.set_cons_succ]
            refine wpAnyH_take (i := 28) (v := .pointer (some ⟨b13, 0, none⟩)) rfl (by kernel_rfl) (by kernel_rfl) (by kernel_rfl) (fun _ _ _ h => h) (Or.inl ⟨by rfl, fun w0 hSw => ?_⟩) H3 ?_
            · have hps : (0 : Int) < ((z :: l).length : Int) := by simp only [List.length_cons]; omega
              go_simp
            simp only [List.getElem_toArray, List.getElem_cons_zero, List.getElem_cons_succ, Act.put, List.setIfInBounds_toArray, List.set_cons_zero, List.set_cons_succ]
            refine wpAnyH_take (i := 29) (v := .agg #[.int .i64 z.a, .int .i64 z.b, .int .i64 z.f, .int .i64 z.s]) rfl (by kernel_rfl) (by kernel_rfl) (by kernel_rfl) (fun _ _ _ h => h) (Or.inl ⟨by rfl, fun w0 hSw => ?_⟩) H3 ?_
            · obtain ⟨bb, e, p0, p1, p2, p3⟩ := prow_below hp13 hSw 0 z rfl; cases e; simp only [Nat.zero_mul, Nat.zero_add] at p0 p1 p2 p3
              go_simp
            simp only [List.getElem_toArray, List.getElem_cons_zero, List.getElem_cons_succ, Act.put, List.setIfInBounds_toArray, List.set_cons_zero, List.set_cons_succ]
            refine wpAnyH_take (i := 30) (v := .bool false) rfl (by kernel_rfl) (by kernel_rfl) (by kernel_rfl) (fun _ _ _ h => h) (Or.inl ⟨by rfl, fun w0 hSw => ?_⟩) H3 ?_
            · have nq := neq_pair z.a z.b z.f z.s w0
              go_simp
            simp only [List.getElem_toArray, List.getElem_cons_zero, List.getElem_cons_succ, Act.put, List.setIfInBounds_toArray, List.set_cons_zero, List.set_cons_succ]
            refine wpAnyH_take (i := 31) (v := .bool false) rfl (by kernel_rfl) (by kernel_rfl) (by kernel_rfl) (fun _ _ _ h => h) (Or.inl ⟨by rfl, fun w0 hSw => ?_⟩) H3 ?_
            · go_simp
            simp only [List.getElem_toArray, List.getElem_cons_zero, List.getElem_cons_succ, Act.put, List.setIfInBounds_toArray, List.set_cons_zero, List.set_cons_succ]
            refine wpAnyH_take (i := 32) (v := .bool false) rfl (by kernel_rfl) (by kernel_rfl) (by kernel_rfl) (fun _ _ _ h => h) (Or.inl ⟨by rfl, fun w0 hSw => ?_⟩) H3 ?_
            · go_simp
            simp only [List.getElem_toArray, List.getElem_cons_zero, List.getElem_cons_succ, Act.put, List.setIfInBounds_toArray, List.set_cons_zero, List.set_cons_succ]
            refine wpAnyH_take (i := 33) (v := .bool false) rfl (by kernel_rfl) (by kernel_rfl) (by kernel_rfl) (fun _ _ _ h => h) (Or.inl ⟨by rfl, fun w0 hSw => ?_⟩) H3 ?_
            · go_simp
            simp only [List.getElem_toArray, List.getElem_cons_zero, List.getElem_cons_succ, Act.put, List.setIfInBounds_toArray, List.set_cons_zero, List.set_cons_succ]
            refine wpAnyH_take (i := 34) (v := .bool true) rfl (by kernel_rfl) (by kernel_rfl) (by kernel_rfl) (fun _ _ _ h => h) (Or.inl ⟨by rfl, fun w0 hSw => ?_⟩) H3 ?_
            · go_simp
            simp only [List.getElem_toArray, List.getElem_cons_zero, List.getElem_cons_succ, Act.put, List.setIfInBounds_toArray, List.set_cons_zero, List.set_cons_succ]
            refine wpAnyH_take (i := 35) (v := .bool false) rfl (by kernel_rfl) (by kernel_rfl) (by kernel_rfl) (fun _ _ _ h => h) (Or.inl ⟨by rfl, fun w0 hSw => ?_⟩) H3 ?_
            · go_simp
            simp only [List.getElem_toArray, List.getElem_cons_zero, List.getElem_cons_succ, Act.put, List.setIfInBounds_toArray, List.set_cons_zero, List.set_cons_succ]
            refine wpAnyH_take (i := 36) (v := .bool false) rfl (by kernel_rfl) (by kernel_rfl) (by kernel_rfl) (fun _ _ _ h => h) (Or.inl ⟨by rfl, fun w0 hSw => ?_⟩) H3 ?_
            · go_simp
            simp only [List.getElem_toArray, List.getElem_cons_zero, List.getElem_cons_succ, Act.put, List.setIfInBounds_toArray, List.set_cons_zero, List.set_cons_succ]
            refine wpAnyH_take (i := 37) (v := undef) rfl (by kernel_rfl) (by kernel_rfl) (by kernel_rfl) (fun _ _ _ h => h) (Or.inr ⟨by rfl, rfl⟩) H3 ?_
            simp only [List.getElem_toArray, List.getElem_cons_zero, List.getElem_cons_succ, Act.put, List.setIfInBounds_toArray, List.set_cons_zero, List.set_cons_succ]
            refine wpAnyH_take (i := 38) (v := undef) rfl (by kernel_rfl) (by kernel_rfl) (by kernel_rfl) (fun _ _ _ h => h) (Or.inr ⟨by rfl, rfl⟩) H3 ?_
            simp only [List.getElem_toArray, List.getElem_cons_zero, List.getElem_cons_succ, Act.put, List.setIfInBounds_toArray, List.set_cons_zero, List.set_cons_succ]
            refine wpAnyH_take (i := 39) (v := undef) rfl (by kernel_rfl) (by kernel_rfl) (by kernel_rfl) (fun _ _ _ h => h) (Or.inr ⟨by rfl, rfl⟩) H3 ?_
            simp only [List.getElem_toArray, List.getElem_cons_zero, List.getElem_cons_succ, Act.put, List.setIfInBounds_toArray, List.set_cons_zero, List.set_cons_succ]
            refine wpAnyH_take (i := 40) (v := .bool false) rfl (by kernel_rfl) (by kernel_rfl) (by kernel_rfl) (fun _ _ _ h => h) (Or.inl ⟨by rfl, fun w0 hSw => ?_⟩) H3 ?_
            · go_simp
            simp only [List.getElem_toArray, List.getElem_cons_zero, List.getElem_cons_succ, Act.put, List.setIfInBounds_toArray, List.set_cons_zero, List.set_cons_succ]
            refine wpAnyH_take (i := 41) (v := .bool false) rfl (by kernel_rfl) (by kernel_rfl) (by kernel_rfl) (fun _ _ _ h => h) (Or.inl ⟨by rfl, fun w0 hSw => ?_⟩) H3 ?_
            · go_simp
            simp only [List.getElem_toArray, List.getElem_cons_zero, List.getElem_cons_succ, Act.put, List.setIfInBounds_toArray, List.set_cons_zero, List.set_cons_succ]
            refine wpAnyH_done (by kernel_rfl) (NoPanic.normal ?_) _
            go_wp2
            go_meet
            exact ⟨rfl, H3⟩
        case rest =>
          obtain ⟨rfl, hb⟩ := hcut
          have hB := hB.trans (hb.mono hB.size)
          replace hKr := hKr.trans (hb.mono hKr.size)
          replace hM := hM.below hb (Nat.le_refl _)
          replace hR := hR.below hb (Nat.le_refl _)
          replace ho11 := GramApart.own_below ho11 hb
          replace ho12 := GramApart.own_below ho12 hb
          replace ho13 := GramApart.own_below ho13 hb
          clear hb hp11 hp12 hp13 hpx hzok ez
          obtain ⟨N, hNd⟩ : ∃ N, N = (t * t + 3) / 4 := ⟨_, rfl⟩
          have hN : N ≤ 1000 := by have := Nat.mul_le_mul ht ht; omega
          have HNd : Hid (N = (t * t + 3) / 4) := hNd
          clear hNd
          have hpk := pack_v po t S wc ht hM
          rw [← HNd.out] at hpk
          go_wp2_with fail
          refine hpk.mono ?_
          rintro e z1 ⟨⟨rfl, hr16⟩, hK⟩
          have hlt1 := hr16.lt
          clear hpk
          have hpk := pack_v po t S z1 ht (hM.below hK (Nat.le_refl _))
          rw [← HNd.out] at hpk
          go_wp2_with fail
          refine hpk.mono ?_
          rintro e z2 ⟨⟨rfl, hr17⟩, hb⟩
          replace hK := hK.trans (hb.mono hK.size)
          replace hr16 := hr16.below hb hr16.lt
          clear hpk hb
          have hpk := rpack_s ro t F S z2 (hR.below hK (Nat.le_refl _)) ht hF8 hAl
          rw [← HNd.out] at hpk
          go_wp2_with fail
          refine hpk.mono ?_
          rintro e z3 ⟨⟨vx, rfl, hov⟩, hb⟩
          obtain ⟨ax, cx, rfl, hbr⟩ := own_brow hov
          replace hK := hK.trans (hb.mono hK.size)
          replace hr16 := hr16.below hb hr16.lt
          replace hr17 := hr17.below hb hr17.lt
          clear hpk hb hov
          have hq := bytes_any (some ⟨wc.heap.size, 0, none⟩) ax N cx _ _ z3 (row_brow hr16) hbr (by rw [packZ_len]; omega) (by rw [packZ_len]; omega)
          rw [packZ_len, eqI_me] at hq
          go_wp2_with fail
          refine hq.mono ?_
          rintro e z4 ⟨rfl, qq, hww⟩
          have hb : Below z3.heap.size z3 z4 := by rw [hww]; exact drew_below z3 qq
          replace hK := hK.trans (hb.mono hK.size)
          replace hr16 := hr16.below hb hr16.lt
          replace hr17 := hr17.below hb hr17.lt
          clear hq hb hww hbr
          have hq := bytes_any (some ⟨z1.heap.size, 0, none⟩) (some ⟨wc.heap.size, 0, none⟩) N N _ _ z4 (row_brow hr17) (row_brow hr16) (by rw [packZ_len]; omega) (by rw [packZ_len]; omega)
          rw [packZ_len, eqI_me] at hq
          go_wp2_with fail
          refine hq.mono ?_
          rintro e z5 ⟨rfl, qq, hww⟩
          have hb : Below z4.heap.size z4 z5 := by rw [hww]; exact drew_below z4 qq
          replace hK := hK.trans (hb.mono hK.size)
          replace hr16 := hr16.below hb hr16.lt
          replace hr17 := hr17.below hb hr17.lt
          clear hq hb hww
          have har := UsefulTop.rowNew z5 #[.slice (some ⟨wc.heap.size, 0, none⟩) N N, .slice (some ⟨z1.heap.size, 0, none⟩) N N] 49
          have hb : Below z5.heap.size z5 (z5.alloc (.cells #[.slice (some ⟨wc.heap.size, 0, none⟩) N N, .slice (some ⟨z1.heap.size, 0, none⟩) N N] 49)) := (Below.refl _ _).alloc (Nat.le_refl _) _
          replace hK := hK.trans (hb.mono hK.size)
          replace hr16 := hr16.below hb hr16.lt
          replace hr17 := hr17.below hb hr17.lt
          clear hb
          have hap := apartB wc.heap.size z5.heap.size 2 (pk2 wc.heap.size z1.heap.size) N _ hN har (mb_two hr16 hr17) (pk2_ne (by omega)) (pk2_le (Nat.le_refl _) (by omega)) hK.size
          go_wp2_with fail
          refine hap.mono ?_
          rintro e z7 ⟨rfl, hb⟩
          replace hK := hK.trans hb
          replace hB := hB.trans (hK.mono hB.size)
          replace hKr := hKr.trans (hK.mono hKr.size)
          replace hM := hM.below hK (Nat.le_refl _)
          replace hR := hR.below hK (Nat.le_refl _)
          replace ho11 := GramApart.own_below ho11 hK
          replace ho12 := GramApart.own_below ho12 hK
          replace ho13 := GramApart.own_below ho13 hK
          clear hap hb har hr16 hr17 hlt1 hK HNd hN
          clear hM hR hB
          obtain ⟨w0, hw0⟩ : ∃ w0, w0 = wr := ⟨_, rfl⟩
          rw [← hw0] at HM0 HR0 HB0 hKr hz01 ho11
          clear hw0
          go_wp2_with fail
          go_loopw [18] (fun i W => ∃ (k : Nat) (xs : List Value), k ≤ L.length ∧ i = .int .i64 k ∧ W.ownsRow w0.heap.size 44 4 (.slice a11 L.length c11) L.length xs ∧ W.ownsRow v1.heap.size 44 4 (.slice a12 L.length c12) L.length (cellsP L) ∧ W.ownsRow v2.heap.size 44 4 (.slice a13 L.length c13) L.length (cellsP L) ∧ Below w0.heap.size w0 W) (fun i _ => L.length - (intOf i).toNat)
          case atStart => exact ⟨0, _, by omega, rfl, ho11, ho12, ho13, hKr⟩
          case round =>
            clear ho11 ho12 ho13 hKr
            obtain ⟨k, xs, hkL, rfl, ho11, ho12, ho13, hKr⟩ := hrel
            by_cases hk2 : k < L.length
            · have hk3 : (k : Int) < (L.length : Int) := by omega
              obtain ⟨hxl, ⟨_, h0⟩ | ⟨g11, cap, cur, ev, hg11, hrow, hcap, hcm, hsz, htk⟩⟩ := id ho11
              · omega
              cases ev
              have hrow : RowAt wr g11 44 cur := hrow
              have k0 := hrow.cell (q := k * 4) (Array.getElem?_eq_getElem (by omega))
              have k1 := hrow.cell (q := k * 4 + 1) (Array.getElem?_eq_getElem (by omega))
              have k2 := hrow.cell (q := k * 4 + 2) (Array.getElem?_eq_getElem (by omega))
              have k3 := hrow.cell (q := k * 4 + 3) (Array.getElem?_eq_getElem (by omega))
              have f0 := hrow.frozen (k * 4)
              have f1 := hrow.frozen (k * 4 + 1)
              have f2 := hrow.frozen (k * 4 + 2)
              have f3 := hrow.frozen (k * 4 + 3)
              have hlo := hl11 g11 rfl
              have q0 := own_setIn (q := k * 4) (x := .int .i64 (-7)) ho11
              obtain ⟨xs0, o0⟩ := q0
              obtain ⟨xs1, o1⟩ := own_setIn (q := k * 4 + 1) (x := .int .i64 0) o0
              obtain ⟨xs2, o2⟩ := own_setIn (q := k * 4 + 2) (x := .int .i64 0) o1
              obtain ⟨xs3, o3⟩ := own_setIn (q := k * 4 + 3) (x := .int .i64 0) o2
              have O11 : Hid (_) := o3
              have O12 : Hid (_) := own_four ho12 hlo (k * 4) (.int .i64 (-7)) (.int .i64 0) (.int .i64 0) (.int .i64 0)
              have O13 : Hid (_) := own_four ho13 (Nat.lt_of_lt_of_le hlo hz12) (k * 4) (.int .i64 (-7)) (.int .i64 0) (.int .i64 0) (.int .i64 0)
              have OK : Hid (_) := (((hKr.setCell (p := ⟨g11, k * 4, none⟩) hg11 (.int .i64 (-7))).setCell (p := ⟨g11, k * 4 + 1, none⟩) hg11 (.int .i64 0)).setCell (p := ⟨g11, k * 4 + 2, none⟩) hg11 (.int .i64 0)).setCell (p := ⟨g11, k * 4 + 3, none⟩) hg11 (.int .i64 0)
              clear ho11 ho12 ho13 hKr o0 o1 o2 o3 hrow htk
              go_wp2
              go_roundw
              case rel => exact ⟨k + 1, _, by omega, by go_num, O11.out, O12.out, O13.out, OK.out⟩
              case measure => simp [intOf]; omega
            · obtain rfl : k = L.length := by omega
              have hk3 : ¬ (L.length : Int) < (L.length : Int) := by omega
              obtain ⟨i0, hi, hz0, hz1, hz2⟩ := info_parts infoPr
              have hT3 : T3 w0.heap.size w0.heap.size v2.heap.size L wr (.slice a11 L.length c11) (.slice a12 L.length c12) (.slice a13 L.length c13) (L.length + 0) (L.length + 0) (xs ++ reps e8 0) (cellsP L ++ reps e9 0) := by
                refine ⟨by simpa [reps] using ho11, by simpa [reps] using own_low ho12 hz01, ho13, fun j hj e => ?_, fun j hj e => ?_, fun j hj e => ?_⟩
                · have := hl11 j hj; have := (ho12.lt j e).1; omega
                · have := hl11 j hj; have := (ho13.lt j e).1; omega
                · have := hl12 j hj; have := (ho13.lt j e).1; omega
              clear ho11 ho12 ho13
              go_wp2_with fail
              go_loopw [11, 12, 19] (fun u o i W => ∃ k : Nat, k ≤ 30 ∧ i = .int .i64 k ∧ T3 w0.heap.size w0.heap.size v2.heap.size L W u o (.slice a13 L.length c13) (L.length + k) (L.length + k) (xs ++ reps e8 k) (cellsP L ++ reps e9 k) ∧ Below w0.heap.size w0 W) (fun _ _ i _ => 30 - (intOf i).toNat)
              case atStart => exact ⟨0, by omega, rfl, hT3, hKr⟩
              case round =>
                clear hT3 hKr
                obtain ⟨j, hj, rfl, hT3, hKr⟩ := hrel
                by_cases hj2 : j < 30
                · have hj3 : (j : Int) < 30 := by omega
                  have hs := hKr.size
                  have HT : Hid (T3 w0.heap.size w0.heap.size v2.heap.size L wr u11 u12 (.slice a13 L.length c13) (L.length + j) (L.length + j) (xs ++ reps e8 j) (cellsP L ++ reps e9 j)) := hT3
                  clear hT3
                  go_wp2_with (at_builtin; first | (refine wpList_append_lies _ rfl _ _ 41 rfl w0.heap.size 44 i0 (.agg #[.int .i64 0, .int .i64 0, .int .i64 0, .int .i64 0]) 4 32 Tryz.underlying41 hi hz0 hz1 hz2 rfl (by decide) u11 _ _ rfl (HT.out.a.alloc _) ⟨wr.heap.size, 0, none⟩ 1 1 e8 rfl rfl (cells_new wr #[.int .i64 (-8), .int .i64 0, .int .i64 0, .int .i64 0] 44) (by simp [e8, Value.oneCell']) (by decide) (by unfold maxLen; omega) (by omega) (by simp; omega) _ rfl ?_; intro g5 c5 w5 hown5 hg5 hw5 hlt5; have HT5 : Hid (_) := (HT.out.alloc (.cells #[.int .i64 (-8), .int .i64 0, .int .i64 0, .int .i64 0] 44)).first hown5 hg5 hw5; have hs5 : wr.heap.size ≤ w5.heap.size := by have := hg5.size; simp at this; omega) | (refine wpList_append_lies _ rfl _ _ 41 rfl w0.heap.size 44 i0 (.agg #[.int .i64 0, .int .i64 0, .int .i64 0, .int .i64 0]) 4 32 Tryz.underlying41 hi hz0 hz1 hz2 rfl (by decide) u12 _ _ rfl (HT5.out.b.alloc _) ⟨w5.heap.size, 0, none⟩ 1 1 e9 rfl rfl (cells_new w5 #[.int .i64 (-9), .int .i64 0, .int .i64 0, .int .i64 0] 44) (by simp [e9, Value.oneCell']) (by decide) (by unfold maxLen; omega) (by omega) (by simp; omega) _ rfl ?_; intro g6 c6 w6' hown6 hg6 hw6 hlt6; have HT6 : Hid (_) := (HT5.out.alloc (.cells #[.int .i64 (-9), .int .i64 0, .int .i64 0, .int .i64 0] 44)).second hown6 hg6 hw6))
                  have hK5 := (hKr.alloc hs (.cells #[.int .i64 (-8), .int .i64 0, .int .i64 0, .int .i64 0] 44)).grown hg5 (by simp; omega) (fun b hb => (HT.out.a.lt b hb).1)
                  have hK6 := (hK5.alloc hK5.size (.cells #[.int .i64 (-9), .int .i64 0, .int .i64 0, .int .i64 0] 44)).grown hg6 (by simp; omega) (fun b hb => (HT5.out.b.lt b hb).1)
                  go_roundw
                  case rel =>
                    refine ⟨j + 1, by omega, by go_num, ?_, hK6⟩
                    show T3 _ _ _ L _ _ _ _ _ _ (xs ++ (reps e8 j ++ e8)) (cellsP L ++ (reps e9 j ++ e9))
                    rw [← List.append_assoc, ← List.append_assoc]
                    exact HT6.out
                  case measure => simp [intOf]; omega
                · obtain rfl : j = 30 := by omega
                  have h13 := own_prow2 hT3.c
                  obtain ⟨g5, c5, rfl⟩ := ownsRow_succ hT3.a
                  obtain ⟨g6, c6, rfl⟩ := ownsRow_succ hT3.b
                  have hc5 := own_cap hT3.a
                  have hc6 := own_cap hT3.b
                  have hfr := own_front hT3.b
                  have h8 := own_eight hT3.a
                  obtain ⟨k8, k9⟩ := h8
                  have hcap1 : (L.length : Int) ≤ (c6 : Int) := by omega
                  have hcap2 : ¬ (c6 : Int) < (L.length : Int) := by omega
                  have hps := pairs_s (some ⟨g6, 0, none⟩) a13 c6 c13 L wr hfr h13 (by omega)
                  clear hT3 hfr h13
                  go_wp2_with fail
                  refine hps.mono ?_
                  rintro e y1 ⟨rfl, qq, hww⟩
                  have hb : Below wr.heap.size wr y1 := by rw [hww]; exact drew_below wr qq
                  have k8' : y1.cell? ⟨g5, L.length * 4, none⟩ = some (.int .i64 (-8)) := (hb.cell (cell_lt k8)).trans k8
                  have k9' : y1.cell? ⟨g5, (L.length + 29) * 4, none⟩ = some (.int .i64 (-8)) := (hb.cell (cell_lt k9)).trans k9
                  have hKy := hKr.trans (hb.mono hKr.size)
                  have x1 : (L.length : Int) < (L.length : Int) + 30 := by omega
                  have x2 : (L.length : Int) + 29 < (L.length : Int) + 30 := by omega
                  clear hps hww hb k8 k9
                  go_wp2_with fail
                  refine (same_v po ro t F S y1 (HM0.out.below hKy (Nat.le_refl _)) (HR0.out.below hKy (Nat.le_refl _)) ht hF8 hAl).mono ?_
                  rintro e y2 ⟨rfl, hy⟩
                  obtain rfl := hy.symm
                  have hBy := HB0.out.trans (hKy.mono HB0.out.size)
                  go_wp2_with fail
                  refine (MatrixAwake.awake_any p _ (hE.sents.below hBy (Nat.le_refl _)) (SetsEach.Tab.from hTb hBy hTG) (Nat.lt_of_lt_of_le hTG hBy.size)).mono ?_
                  rintro e yZ ⟨rfl, hb⟩
                  have hBe := hBy.trans (hb.mono hBy.size)
                  go_wp2
                  go_ret
                  exact ⟨rfl, hBe⟩

end Go.Proofs.YtpdkjblmpgmcjaaGreatDoor.MatrixTellsW
