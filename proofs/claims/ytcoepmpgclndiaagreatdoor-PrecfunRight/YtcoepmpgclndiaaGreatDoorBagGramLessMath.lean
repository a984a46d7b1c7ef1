/-
  Texts that stand together: GramLessMath, GramLentR, GramKept, GramLentG.
-/
import Derived.Test.YtcoepmpgclndiaaGreatDoorGramBase
import Derived.Laws.AppendOwnNone
import Derived.Laws.OwnMore
import Derived.Deep.RegionLaw
import Derived.Deep.Slices
import Derived.Deep.RegionHeld3
import Derived.Maps.AppendAt
import Derived.Test.YtcoepmpgclndiaaGreatDoorBagGramEq
import Derived.Deep.AppendLies
import Derived.Deep.DeepCutAuto
import Derived.Handy
namespace Go.Proofs.YtcoepmpgclndiaaGreatDoor.GramLess
open Go.RowKit Go.Proofs.YtcoepmpgclndiaaGreatDoor.GramMath Go.Proofs.YtcoepmpgclndiaaGreatDoor.GramRow
set_option linter.unusedVariables false

def withR (g : G) (rs : List R) : G := ⟨g.ts, g.ns, g.ax, rs⟩

theorem check_with {g : G} (h : GoodG g) (rs : List R) : checkG (withR g rs) = if 120 < rs.length then (3, none) else rulesK g.ts.length g.ns.length rs 0 := by
  have hl : leftB g.ns.length g.ax = true := by simp [leftB, h.ax0, h.ax1]
  have h1 := h.few
  unfold checkG withR
  dsimp only
  by_cases h2 : 120 < rs.length
  · rw [if_pos (Or.inr h2), if_pos h2]
  · rw [if_neg (by omega), if_neg h2, if_neg (by rw [h.nt, h.nn]; decide), if_neg (by rw [hl]; decide)]

theorem rulesK_app {t n : Nat} : ∀ {pre : List R} (post : List R) (i : Nat), (∀ r ∈ pre, ruleK t n r = 0) → rulesK t n (pre ++ post) i = rulesK t n post (i + pre.length)
  | [], post, i, _ => by simp
  | r :: pre, post, i, h => by
    show rulesK t n (r :: (pre ++ post)) i = _
    unfold rulesK
    rw [if_pos (h r (by simp)), rulesK_app post (i + 1) (fun x hx => h x (by simp [hx]))]
    cases post with
    | nil => simp [rulesK]
    | cons x l => simp [rulesK, Nat.add_assoc, Nat.add_comm 1]

theorem rulesK_all {t n : Nat} {rs : List R} (h : ∀ r ∈ rs, ruleK t n r = 0) (i : Nat) : rulesK t n rs i = (0, none) := by
  have := rulesK_app (t := t) (n := n) (pre := rs) [] i h
  simpa [rulesK] using this

theorem check_less {g : G} (h : GoodG g) (k : Nat) : checkG (withR g (g.rs.take k ++ g.rs.drop (k + 1))) = (0, none) := by
  have hr := h.rules
  rw [check_with h, if_neg (by rw [List.length_append, List.length_take, List.length_drop]; omega)]
  refine rulesK_all (fun r hr => h.each r ?_) 0
  rcases List.mem_append.1 hr with hr | hr
  · exact List.mem_of_mem_take hr
  · exact List.mem_of_mem_drop hr

theorem check_one {g : G} (h : GoodG g) (bad : R) : checkG (withR g [bad]) = if ruleK g.ts.length g.ns.length bad = 0 then (0, none) else (ruleK g.ts.length g.ns.length bad, some 0) := by
  rw [check_with h, if_neg (by simp)]
  rfl

theorem check_more {g : G} (h : GoodG g) (bad : R) {k : Nat} (hk : k ≤ g.rs.length) : checkG (withR g (g.rs.take k ++ bad :: g.rs.drop k)) = if g.rs.length = 120 then (3, none) else if ruleK g.ts.length g.ns.length bad = 0 then (0, none) else (ruleK g.ts.length g.ns.length bad, some k) := by
  have hr := h.rules
  have hlen : (g.rs.take k ++ bad :: g.rs.drop k).length = g.rs.length + 1 := by rw [List.length_append, List.length_take, List.length_cons, List.length_drop]; omega
  rw [check_with h, hlen]
  by_cases h1 : g.rs.length = 120
  · rw [if_pos (by omega), if_pos h1]
  · rw [if_neg (by omega), if_neg h1, rulesK_app _ _ (fun r hr => h.each r (List.mem_of_mem_take hr)), List.length_take, Nat.min_eq_left hk, Nat.zero_add]
    show (if ruleK g.ts.length g.ns.length bad = 0 then rulesK g.ts.length g.ns.length (g.rs.drop k) (k + 1) else (ruleK g.ts.length g.ns.length bad, some k)) = _
    by_cases h2 : ruleK g.ts.length g.ns.length bad = 0
    · rw [if_pos h2, if_pos h2, rulesK_all (fun r hr => h.each r (List.mem_of_mem_drop hr))]
    · rw [if_neg h2, if_neg h2]

/-- A rule and where its right side lies. -/
structure Q where
  r : R
  a : Option Addr
  c : Nat

def qv (x : Q) : List Value := [.int .i64 x.r.left, .slice x.a x.r.right.length x.c]
def cellsQ (l : List Q) : List Value := l.flatMap qv

theorem cellsQ_len (l : List Q) : (cellsQ l).length = l.length * 2 := by
  induction l with
  | nil => rfl
  | cons x r ih =>
    show (qv x ++ cellsQ r).length = _
    rw [List.length_append, ih, List.length_cons]
    simp [qv]
    omega

theorem cellsQ_app (l m : List Q) : cellsQ (l ++ m) = cellsQ l ++ cellsQ m := by simp [cellsQ]

theorem cellsQ_get : ∀ (l : List Q) (i : Nat) (x : Q), l[i]? = some x → (cellsQ l)[i * 2]? = some (.int .i64 x.r.left) ∧ (cellsQ l)[i * 2 + 1]? = some (.slice x.a x.r.right.length x.c)
  | [], i, x, h => by simp at h
  | y :: r, 0, x, h => by
    obtain rfl : y = x := by simpa using h
    exact ⟨rfl, rfl⟩
  | y :: r, i + 1, x, h => by
    have ih := cellsQ_get r i x (by simpa using h)
    have e : cellsQ (y :: r) = qv y ++ cellsQ r := rfl
    rw [e, show (i + 1) * 2 = (qv y).length + i * 2 from by simp [qv]; omega]
    refine ⟨?_, ?_⟩
    · rw [List.getElem?_append_right (by omega), Nat.add_sub_cancel_left]; exact ih.1
    · rw [Nat.add_assoc, List.getElem?_append_right (by omega), Nat.add_sub_cancel_left]; exact ih.2

theorem qv_one (l : List Q) : ∀ u ∈ cellsQ l, u.oneCell' = true := by
  intro u hu
  obtain ⟨x, _, hx⟩ := List.mem_flatMap.1 hu
  simp only [qv, List.mem_cons, List.not_mem_nil, or_false] at hx
  rcases hx with rfl | rfl <;> rfl

/-- Rules in a row, with the places of their right sides. -/
def QRow (w : World) (a : Option Addr) (l : List Q) : Prop := ∀ i x, l[i]? = some x → ∃ b off, a = some ⟨b, off, none⟩ ∧ w.cell? ⟨b, off + i * 2, none⟩ = some (.int .i64 x.r.left) ∧ w.cell? ⟨b, off + i * 2 + 1, none⟩ = some (.slice x.a x.r.right.length x.c)

theorem QRow.below {w w' : World} {a : Option Addr} {l : List Q} {B : Nat} (h : QRow w a l) (hb : Below B w w') (hB : w.heap.size ≤ B) : QRow w' a l := fun i x hx => by
  obtain ⟨b, off, ha, h1, h2⟩ := h i x hx
  exact ⟨b, off, ha, by rw [hb.cell (Nat.lt_of_lt_of_le (cell_lt h1) hB)]; exact h1, by rw [hb.cell (Nat.lt_of_lt_of_le (cell_lt h2) hB)]; exact h2⟩

theorem rrow_list {w : World} {a : Option Addr} {rs : List R} (h : RRow w a rs) : ∃ l : List Q, l.map (·.r) = rs ∧ QRow w a l ∧ ∀ x ∈ l, IRow w x.a x.r.right := by
  have hex : ∀ i, i < rs.length → ∃ q : Q, rs[i]? = some q.r ∧ (∃ b off, a = some ⟨b, off, none⟩ ∧ w.cell? ⟨b, off + i * 2, none⟩ = some (.int .i64 q.r.left) ∧ w.cell? ⟨b, off + i * 2 + 1, none⟩ = some (.slice q.a q.r.right.length q.c)) ∧ IRow w q.a q.r.right := fun i hi => by
    obtain ⟨b, off, ra, rc, ha, h1, h2, h3⟩ := h i rs[i] (List.getElem?_eq_getElem hi)
    exact ⟨⟨rs[i], ra, rc⟩, List.getElem?_eq_getElem hi, ⟨b, off, ha, h1, h2⟩, h3⟩
  classical
  let F : Nat → Q := fun i => if hi : i < rs.length then (hex i hi).choose else ⟨⟨0, []⟩, none, 0⟩
  have hF : ∀ i, i < rs.length → rs[i]? = some (F i).r ∧ (∃ b off, a = some ⟨b, off, none⟩ ∧ w.cell? ⟨b, off + i * 2, none⟩ = some (.int .i64 (F i).r.left) ∧ w.cell? ⟨b, off + i * 2 + 1, none⟩ = some (.slice (F i).a (F i).r.right.length (F i).c)) ∧ IRow w (F i).a (F i).r.right := fun i hi => by
    have := (hex i hi).choose_spec
    simp only [F, dif_pos hi]
    exact this
  refine ⟨(List.range rs.length).map F, ?_, fun i x hx => ?_, fun x hx => ?_⟩
  · apply List.ext_getElem?
    intro i
    rcases Nat.lt_or_ge i rs.length with hi | hi
    · rw [List.getElem?_map, List.getElem?_map, List.getElem?_range hi, (hF i hi).1]
      rfl
    · rw [List.getElem?_eq_none (by simpa using hi), List.getElem?_eq_none hi]
  · rw [List.getElem?_map] at hx
    have hi : i < rs.length := by
      rcases Nat.lt_or_ge i rs.length with h | h
      · exact h
      · rw [List.getElem?_eq_none (by simpa using h)] at hx; cases hx
    rw [List.getElem?_range hi] at hx
    obtain rfl : F i = x := by simpa using hx
    exact (hF i hi).2.1
  · obtain ⟨i, hi, rfl⟩ := List.mem_map.1 hx
    exact (hF i (List.mem_range.1 hi)).2.2

theorem rrow_of {w : World} {a : Option Addr} {l : List Q} (h : QRow w a l) (hi : ∀ x ∈ l, IRow w x.a x.r.right) : RRow w a (l.map (·.r)) := fun i r hr => by
  rw [List.getElem?_map] at hr
  cases hx : l[i]? with
  | none => rw [hx] at hr; cases hr
  | some x =>
    rw [hx] at hr
    obtain rfl : x.r = r := by simpa using hr
    obtain ⟨b, off, ha, h1, h2⟩ := h i x hx
    exact ⟨b, off, x.a, x.c, ha, h1, h2, hi x (List.mem_of_getElem? hx)⟩

theorem qrow_own {w : World} {base : Nat} {e : TypeId} {g c n : Nat} {l : List Q} (hn : n = l.length) (h : w.ownsRow base e 2 (.slice (some ⟨g, 0, none⟩) n c) n (cellsQ l)) : QRow w (some ⟨g, 0, none⟩) l := by
  intro i x hi
  subst hn
  have hlt := (List.getElem?_eq_some_iff.1 hi).1
  obtain ⟨h1, h2⟩ := cellsQ_get l i x hi
  refine ⟨g, 0, rfl, ?_, ?_⟩
  · rw [Nat.zero_add, h.cellAt (i * 2) (by omega)]; exact h1
  · rw [Nat.zero_add, h.cellAt (i * 2 + 1) (by omega)]; exact h2

/-- The cells of a part of a row. -/
theorem qrow_src {w : World} {ad : Addr} {l : List Q} (h : QRow w (some ad) l) (k : Nat) (m : List Q) (hm : ∀ j x, m[j]? = some x → l[k + j]? = some x) : ∀ j u, (cellsQ m)[j]? = some u → w.cell? ((ad.add (k * 2)).add j) = some u := by
  intro j u hj
  have hj2 : j < m.length * 2 := by rw [← cellsQ_len]; exact (List.getElem?_eq_some_iff.1 hj).1
  obtain ⟨x, hx⟩ : ∃ x, m[j / 2]? = some x := ⟨m[j / 2], List.getElem?_eq_getElem (by omega)⟩
  obtain ⟨c1, c2⟩ := cellsQ_get m (j / 2) x hx
  obtain ⟨b, off, ha, h1, h2⟩ := h (k + j / 2) x (hm _ _ hx)
  obtain rfl := Option.some.inj ha
  rw [Go.Deep.add_add, Addr.add_lit]
  by_cases hp : j % 2 = 0
  · rw [show j / 2 * 2 = j by omega, hj] at c1
    obtain rfl := Option.some.inj c1
    rw [show off + (k * 2 + j) = off + (k + j / 2) * 2 by omega]
    exact h1
  · rw [show j / 2 * 2 + 1 = j by omega, hj] at c2
    obtain rfl := Option.some.inj c2
    rw [show off + (k * 2 + j) = off + (k + j / 2) * 2 + 1 by omega]
    exact h2

theorem qrow_pre {w : World} {ad : Addr} {l : List Q} (h : QRow w (some ad) l) (k : Nat) : ∀ ad', some ad = some ad' → ∀ (j : Nat) u, (cellsQ (l.take k))[j]? = some u → w.cell? (ad'.add j) = some u := fun ad' had j u hj => by
  obtain rfl := Option.some.inj had
  have := qrow_src h 0 (l.take k) (fun j x hx => by
    rw [Nat.zero_add]
    rw [List.getElem?_take] at hx
    split at hx
    · exact hx
    · cases hx) j u hj
  rwa [Go.Deep.add_add, Nat.zero_mul, Nat.zero_add] at this

/-- What is left of a row behind k rules. -/
theorem qrow_cut {w : World} {ad : Addr} {k rc : Nat} {l : List Q} (h : QRow w (some ad) l) (hl : l.length ≤ rc) : ∀ ad', (if rc = k then some ad else some (ad.add (k * 2))) = some ad' → ∀ (j : Nat) u, (cellsQ (l.drop k))[j]? = some u → w.cell? (ad'.add j) = some u := by
  intro ad' had j u hj
  by_cases hk : rc = k
  · exfalso
    have h1 := (List.getElem?_eq_some_iff.1 hj).1
    rw [cellsQ_len, List.length_drop] at h1
    omega
  · rw [if_neg hk] at had
    obtain rfl := Option.some.inj had
    exact qrow_src h k _ (fun j x hx => by rw [List.getElem?_drop] at hx; exact hx) j u hj

theorem own_slice {w : World} {base n : Nat} {e : TypeId} {v : Value} {xs : List Value} (h : w.ownsRow base e 2 v n xs) : ∃ a c, v = .slice a n c := by
  obtain ⟨_, ⟨rfl, rfl⟩ | ⟨g, cap, cur, rfl, _⟩⟩ := h
  · exact ⟨none, 0, rfl⟩
  · exact ⟨_, cap, rfl⟩

theorem own_qrow {w : World} {base n c : Nat} {e : TypeId} {a : Option Addr} {l : List Q} (hn : n = l.length) (h : w.ownsRow base e 2 (.slice a n c) n (cellsQ l)) : QRow w a l := by
  obtain ⟨_, ⟨h1, h2⟩ | ⟨g, cap, cur, h1, _⟩⟩ := id h
  · obtain rfl : l = [] := List.eq_nil_of_length_eq_zero (by omega)
    exact fun i x hx => by simp at hx
  · cases h1
    exact qrow_own hn h

end Go.Proofs.YtcoepmpgclndiaaGreatDoor.GramLess

namespace Go.Proofs.YtcoepmpgclndiaaGreatDoor.GramLent
open Go.RowKit Go.Proofs.YtcoepmpgclndiaaGreatDoor.GramMath Go.Proofs.YtcoepmpgclndiaaGreatDoor.GramRow Go.Proofs.YtcoepmpgclndiaaGreatDoor.GramSame Go.Proofs.YtcoepmpgclndiaaGreatDoor.GramLess
set_option linter.unusedVariables false

theorem infoR : (Tryz.prog.info? 46).map (fun i => (i.zero, i.size, i.bytes)) = some (some (.agg #[.int .i64 0, .slice none 0 0]), 2, 32) := by kernel_rfl

/-- Rules in a row; a right side that is no list has no place behind it. -/
def RRowN (w : World) (a : Option Addr) (rs : List R) : Prop :=
  ∀ i r, rs[i]? = some r → ∃ b off ra rc, a = some ⟨b, off, none⟩ ∧ w.cell? ⟨b, off + i * 2, none⟩ = some (.int .i64 r.left) ∧ w.cell? ⟨b, off + i * 2 + 1, none⟩ = some (.slice ra r.right.length rc) ∧ IRow w ra r.right ∧ (ra = none → r.right.length = 0 ∧ rc = 0)

theorem RRowN.below {w w' : World} {a : Option Addr} {rs : List R} {B : Nat} (h : RRowN w a rs) (hb : Below B w w') (hB : w.heap.size ≤ B) : RRowN w' a rs := fun i x hx => by
  obtain ⟨b, off, ra, rc, ha, h1, h2, h3, h4⟩ := h i x hx
  exact ⟨b, off, ra, rc, ha, by rw [hb.cell (Nat.lt_of_lt_of_le (cell_lt h1) hB)]; exact h1, by rw [hb.cell (Nat.lt_of_lt_of_le (cell_lt h2) hB)]; exact h2, h3.below hb hB, h4⟩

/-- A rule whose right side is a lent list that lies elsewhere than a value. -/
def LentAt (B : Nat) (w : World) (u : Value) (x : Q) : Prop := ∃ b, x.a = some ⟨b, 0, none⟩ ∧ B ≤ b ∧ u.ownBlock ≠ some b ∧ x.r.right.length < x.c ∧ IRow w x.a (x.r.right ++ [-7171])

theorem LentAt.below {w w' : World} {u : Value} {x : Q} {B C : Nat} (h : LentAt C w u x) (hb : Below B w w') (hB : w.heap.size ≤ B) : LentAt C w' u x := by
  obtain ⟨b, h1, h0, h2, h3, h4⟩ := h
  exact ⟨b, h1, h0, h2, h3, h4.below hb hB⟩

theorem LentAt.weak {w : World} {u : Value} {x : Q} {B : Nat} (h : LentAt B w u x) : LentAt 0 w u x := by
  obtain ⟨b, h1, h0, h2, h3, h4⟩ := h
  exact ⟨b, h1, Nat.zero_le _, h2, h3, h4⟩

theorem cells_new (w : World) (C : Array Value) (t : TypeId) : ∀ j u, C.toList[j]? = some u → (w.alloc (.cells C t)).cell? ((⟨w.heap.size, 0, none⟩ : Addr).add j) = some u := by
  intro j u hj
  have h := World.cell?_alloc_mark w C t (0, 0) j
  rw [Addr.add_lit, Nat.zero_add]
  rw [show (w.alloc (.cells C t)).cell? ⟨w.heap.size, j, none⟩ = C[j]? from h]
  simpa using hj

theorem own_cap2 {w : World} {base : Nat} {e : TypeId} {g n c : Nat} {xs : List Value} (h : w.ownsRow base e 2 (.slice (some ⟨g, 0, none⟩) n c) n xs) : n ≤ c ∧ c ≤ maxLen ∧ base ≤ g := by
  obtain ⟨_, h | ⟨g', cap, cur, hv, hb, _, hn, hm, _⟩⟩ := h
  · exact absurd h.1 (by simp)
  · simp at hv
    obtain ⟨rfl, rfl⟩ := hv
    exact ⟨hn, hm, hb⟩

theorem own_below {w w' : World} {base : Nat} {e : TypeId} {size n : Nat} {v : Value} {xs : List Value} (h : w.ownsRow base e size v n xs) (hb : Below w.heap.size w w') : w'.ownsRow base e size v n xs := by
  obtain ⟨h1, h | ⟨g, cap, cur, hv, hbb, hg, rest⟩⟩ := h
  · exact ⟨h1, .inl h⟩
  · exact ⟨h1, .inr ⟨g, cap, cur, hv, hbb, (hb.block g (Array.getElem?_eq_some_iff.1 hg).1).trans hg, rest⟩⟩

theorem grown_cell {w w' : World} {o : Option Nat} {p : Addr} {v : Value} (h : w.grownBy w' o) (hc : w.cell? p = some v) (ho : o ≠ some p.block) : w'.cell? p = some v := by
  rw [World.cell?_of_block (h.block p.block (cell_lt hc) (fun e => ho e.symm))]
  exact hc

theorem grown_row {w w' : World} {o : Option Nat} {b : Nat} {zs : List Int} (h : w.grownBy w' o) (hr : IRow w (some ⟨b, 0, none⟩) zs) (ho : o ≠ some b) : IRow w' (some ⟨b, 0, none⟩) zs := fun i x hx => by
  obtain ⟨b', off, ha, hc⟩ := hr i x hx
  cases ha
  exact ⟨b, 0, rfl, grown_cell h hc ho⟩

theorem row_lt {w : World} {b : Nat} {zs : List Int} {x : Int} (h : IRow w (some ⟨b, 0, none⟩) (zs ++ [x])) : b < w.heap.size := cell_lt (row_markI h)

end Go.Proofs.YtcoepmpgclndiaaGreatDoor.GramLent

namespace Go.Proofs.YtcoepmpgclndiaaGreatDoor.GramLent
open Go.RowKit Go.Proofs.YtcoepmpgclndiaaGreatDoor.GramMath Go.Proofs.YtcoepmpgclndiaaGreatDoor.GramRow Go.Proofs.YtcoepmpgclndiaaGreatDoor.GramSame Go.Proofs.YtcoepmpgclndiaaGreatDoor.GramLess
set_option linter.unusedVariables false

end Go.Proofs.YtcoepmpgclndiaaGreatDoor.GramLent

namespace Go.Proofs.YtcoepmpgclndiaaGreatDoor.GramLent
open Go.RowKit Go.Proofs.YtcoepmpgclndiaaGreatDoor.GramMath Go.Proofs.YtcoepmpgclndiaaGreatDoor.GramRow Go.Proofs.YtcoepmpgclndiaaGreatDoor.GramSame Go.Proofs.YtcoepmpgclndiaaGreatDoor.GramLess
set_option linter.unusedVariables false

/-- A lent grammar: each list of it has a mark behind it. -/
structure LentG (w : World) (g1 c1 g2 c2 g3 c3 : Nat) (lq : List Q) (g : G) : Prop where
  ts : SRow w (some ⟨g1, 0, none⟩) (g.ts ++ [markS])
  tc : g.ts.length < c1
  ns : SRow w (some ⟨g2, 0, none⟩) (g.ns ++ [markS])
  nc : g.ns.length < c2
  rc : g.rs.length < c3
  map : lq.map (·.r) = g.rs
  rs : QRow w (some ⟨g3, 0, none⟩) (lq ++ [⟨⟨-7171, []⟩, none, 0⟩])
  each : ∀ x ∈ lq, LentAt 0 w .nilIface x

theorem LentG.below {w w' : World} {g1 c1 g2 c2 g3 c3 B : Nat} {lq : List Q} {g : G} (h : LentG w g1 c1 g2 c2 g3 c3 lq g) (hb : Below B w w') (hB : w.heap.size ≤ B) : LentG w' g1 c1 g2 c2 g3 c3 lq g :=
  ⟨h.ts.below hb hB, h.tc, h.ns.below hb hB, h.nc, h.rc, h.map, h.rs.below hb hB, fun x hx => (h.each x hx).below hb hB⟩

theorem qrow_front {w : World} {a : Option Addr} {l m : List Q} (h : QRow w a (l ++ m)) : QRow w a l := fun i x hx => h i x (by
  have hi : i < l.length := by
    rcases Nat.lt_or_ge i l.length with h | h
    · exact h
    · rw [List.getElem?_eq_none h] at hx; cases hx
  rw [List.getElem?_append_left hi]; exact hx)

theorem LentG.row {w : World} {g1 c1 g2 c2 g3 c3 : Nat} {lq : List Q} {g : G} (h : LentG w g1 c1 g2 c2 g3 c3 lq g) : GRow w (some ⟨g1, 0, none⟩) (some ⟨g2, 0, none⟩) (some ⟨g3, 0, none⟩) g := by
  refine ⟨row_frontS h.ts, row_frontS h.ns, ?_⟩
  rw [← h.map]
  refine rrow_of (qrow_front h.rs) (fun x hx => ?_)
  obtain ⟨b, h1, _, _, _, h4⟩ := h.each x hx
  exact row_frontI h4

/-- What is asked of a grammar that is lent. -/
structure Lendable (w : World) (ta na ra : Option Addr) (tc nc : Nat) (g : G) : Prop where
  ts : SRow w ta g.ts
  ns : SRow w na g.ns
  rs : RRowN w ra g.rs
  tn : ta = none → g.ts.length = 0 ∧ tc = 0
  nn : na = none → g.ns.length = 0 ∧ nc = 0
  tm : g.ts.length * 16 ≤ 140737488351232
  nm : g.ns.length * 16 ≤ 140737488351232
  rm : g.rs.length * 32 ≤ 140737488351232
  each : ∀ r ∈ g.rs, okR r ∧ r.right.length * 8 ≤ 140737488351232

/-- All but one block lies as it did. -/
def Cut (b : Nat) (w w' : World) : Prop := ∀ p : Addr, p.block ≠ b → w'.cell? p = w.cell? p
theorem Cut.trans {b : Nat} {w w' w'' : World} (h : Cut b w w') (h2 : Cut b w' w'') : Cut b w w'' := fun p hp => (h2 p hp).trans (h p hp)
theorem Cut.set (w : World) (b o : Nat) (v : Value) : Cut b w (w.setCell ⟨b, o, none⟩ v) := fun p hp => World.cell?_setCell_far _ _ _ _ (fun e => hp e.symm)

theorem Cut.s {b g : Nat} {w w' : World} {l : List ByteArray} (h : Cut b w w') (hr : SRow w (some ⟨g, 0, none⟩) l) (hg : b < g) : SRow w' (some ⟨g, 0, none⟩) l := fun i x hx => by
  obtain ⟨b', off, ha, hc⟩ := hr i x hx
  cases ha
  exact ⟨g, 0, rfl, (h _ (by simp; omega)).trans hc⟩
theorem Cut.i {b g : Nat} {w w' : World} {l : List Int} (h : Cut b w w') (hr : IRow w (some ⟨g, 0, none⟩) l) (hg : b < g) : IRow w' (some ⟨g, 0, none⟩) l := fun i x hx => by
  obtain ⟨b', off, ha, hc⟩ := hr i x hx
  cases ha
  exact ⟨g, 0, rfl, (h _ (by simp; omega)).trans hc⟩
theorem Cut.q {b g : Nat} {w w' : World} {l : List Q} (h : Cut b w w') (hr : QRow w (some ⟨g, 0, none⟩) l) (hg : b < g) : QRow w' (some ⟨g, 0, none⟩) l := fun i x hx => by
  obtain ⟨b', off, ha, hc, hd⟩ := hr i x hx
  cases ha
  exact ⟨g, 0, rfl, (h _ (by simp; omega)).trans hc, (h _ (by simp; omega)).trans hd⟩
theorem Cut.l {b B : Nat} {w w' : World} {u : Value} {x : Q} (h : Cut b w w') (hl : LentAt B w u x) (hg : b < B) : LentAt 0 w' u x := by
  obtain ⟨b', h1, h0, h2, h3, h4⟩ := hl
  rw [h1] at h4
  exact ⟨b', h1, Nat.zero_le _, h2, h3, by rw [h1]; exact h.i h4 (by omega)⟩

end Go.Proofs.YtcoepmpgclndiaaGreatDoor.GramLent
