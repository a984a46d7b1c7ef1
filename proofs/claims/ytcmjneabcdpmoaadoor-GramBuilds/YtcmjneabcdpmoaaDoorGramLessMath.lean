/-
  A rule less, a rule more: what is wrong first with a grammar whose rules have changed; rules in rows with the places of their right sides. No part of the program.
-/
import Derived.Test.YtcmjneabcdpmoaaDoorGramBase
import Derived.Laws.AppendOwnNone
import Derived.Laws.OwnMore
import Derived.Deep.RegionLaw
import Derived.Deep.Slices
import Derived.Deep.RegionHeld3
import Derived.Maps.AppendAt
namespace Go.Proofs.YtcmjneabcdpmoaaDoor.GramLess
open Go.RowKit Go.Proofs.YtcmjneabcdpmoaaDoor.GramMath Go.Proofs.YtcmjneabcdpmoaaDoor.GramRow
set_option linter.unusedVariables false

def withR (g : G) (rs : List R) : G := ⟨g.ts, g.ns, g.ax, rs⟩

theorem check_with {g : G} (h : GoodG g) (rs : List R) : checkG (withR g rs) = if 120 < rs.length then (3, none) else rulesK g.ts.length g.ns.length rs 0 := by
  have hl : leftB g.ns.length g.ax = true := by simp [leftB, h.ax0, h.ax1]
  have h1 := h.few
  unfold checkG withR
  dsimp only
  by_cases h2 : 120 < rs.length
  · rw [if_pos (Or.inr h2), if_pos h2]
  · rw [if_neg (by omega), if_neg h2, if_neg (by rw [h.nt, h.nn]; decide), if_neg (by rw [hl]; decide)]

theorem rulesK_app {t n : Nat} : ∀ {pre : List R} (post : List R) (i : Nat), (∀ r ∈ pre, ruleK t n r = 0) → rulesK t n (pre ++ post) i = rulesK t n post (i + pre.length)
  | [], post, i, _ => by simp
  | r :: pre, post, i, h => by
    show rulesK t n (r :: (pre ++ post)) i = _
    unfold rulesK
    rw [if_pos (h r (by simp)), rulesK_app post (i + 1) (fun x hx => h x (by simp [hx]))]
    cases post with
    | nil => simp [rulesK]
    | cons x l => simp [rulesK, Nat.add_assoc, Nat.add_comm 1]

theorem rulesK_all {t n : Nat} {rs : List R} (h : ∀ r ∈ rs, ruleK t n r = 0) (i : Nat) : rulesK t n rs i = (0, none) := by
  have := rulesK_app (t := t) (n := n) (pre := rs) [] i h
  simpa [rulesK] using this

theorem check_less {g : G} (h : GoodG g) (k : Nat) : checkG (withR g (g.rs.take k ++ g.rs.drop (k + 1))) = (0, none) := by
  have hr := h.rules
  rw [check_with h, if_neg (by rw [List.length_append, List.length_take, List.length_drop]; omega)]
  refine rulesK_all (fun r hr => h.each r ?_) 0
  rcases List.mem_append.1 hr with hr | hr
  · exact List.mem_of_mem_take hr
  · exact List.mem_of_mem_drop hr

theorem check_one {g : G} (h : GoodG g) (bad : R) : checkG (withR g [bad]) = if ruleK g.ts.length g.ns.length bad = 0 then (0, none) else (ruleK g.ts.length g.ns.length bad, some 0) := by
  rw [check_with h, if_neg (by simp)]
  rfl

theorem check_more {g : G} (h : GoodG g) (bad : R) {k : Nat} (hk : k ≤ g.rs.length) : checkG (withR g (g.rs.take k ++ bad :: g.rs.drop k)) = if g.rs.length = 120 then (3, none) else if ruleK g.ts.length g.ns.length bad = 0 then (0, none) else (ruleK g.ts.length g.ns.length bad, some k) := by
  have hr := h.rules
  have hlen : (g.rs.take k ++ bad :: g.rs.drop k).length = g.rs.length + 1 := by rw [List.length_append, List.length_take, List.length_cons, List.length_drop]; omega
  rw [check_with h, hlen]
  by_cases h1 : g.rs.length = 120
  · rw [if_pos (by omega), if_pos h1]
  · rw [if_neg (by omega), if_neg h1, rulesK_app _ _ (fun r hr => h.each r (List.mem_of_mem_take hr)), List.length_take, Nat.min_eq_left hk, Nat.zero_add]
    show (if ruleK g.ts.length g.ns.length bad = 0 then rulesK g.ts.length g.ns.length (g.rs.drop k) (k + 1) else (ruleK g.ts.length g.ns.length bad, some k)) = _
    by_cases h2 : ruleK g.ts.length g.ns.length bad = 0
    · rw [if_pos h2, if_pos h2, rulesK_all (fun r hr => h.each r (List.mem_of_mem_drop hr))]
    · rw [if_neg h2, if_neg h2]

/-- A rule and where its right side lies. -/
structure Q where
  r : R
  a : Option Addr
  c : Nat

def qv (x : Q) : List Value := [.int .i64 x.r.left, .slice x.a x.r.right.length x.c]
def cellsQ (l : List Q) : List Value := l.flatMap qv

theorem cellsQ_len (l : List Q) : (cellsQ l).length = l.length * 2 := by
  induction l with
  | nil => rfl
  | cons x r ih =>
    show (qv x ++ cellsQ r).length = _
    rw [List.length_append, ih, List.length_cons]
    simp [qv]
    omega

theorem cellsQ_app (l m : List Q) : cellsQ (l ++ m) = cellsQ l ++ cellsQ m := by simp [cellsQ]

theorem cellsQ_get : ∀ (l : List Q) (i : Nat) (x : Q), l[i]? = some x → (cellsQ l)[i * 2]? = some (.int .i64 x.r.left) ∧ (cellsQ l)[i * 2 + 1]? = some (.slice x.a x.r.right.length x.c)
  | [], i, x, h => by simp at h
  | y :: r, 0, x, h => by
    obtain rfl : y = x := by simpa using h
    exact ⟨rfl, rfl⟩
  | y :: r, i + 1, x, h => by
    have ih := cellsQ_get r i x (by simpa using h)
    have e : cellsQ (y :: r) = qv y ++ cellsQ r := rfl
    rw [e, show (i + 1) * 2 = (qv y).length + i * 2 from by simp [qv]; omega]
    refine ⟨?_, ?_⟩
    · rw [List.getElem?_append_right (by omega), Nat.add_sub_cancel_left]; exact ih.1
    · rw [Nat.add_assoc, List.getElem?_append_right (by omega), Nat.add_sub_cancel_left]; exact ih.2

theorem qv_one (l : List Q) : ∀ u ∈ cellsQ l, u.oneCell' = true := by
  intro u hu
  obtain ⟨x, _, hx⟩ := List.mem_flatMap.1 hu
  simp only [qv, List.mem_cons, List.not_mem_nil, or_false] at hx
  rcases hx with rfl | rfl <;> rfl

/-- Rules in a row, with the places of their right sides. -/
def QRow (w : World) (a : Option Addr) (l : List Q) : Prop := ∀ i x, l[i]? = some x → ∃ b off, a = some ⟨b, off, none⟩ ∧ w.cell? ⟨b, off + i * 2, none⟩ = some (.int .i64 x.r.left) ∧ w.cell? ⟨b, off + i * 2 + 1, none⟩ = some (.slice x.a x.r.right.length x.c)

theorem QRow.below {w w' : World} {a : Option Addr} {l : List Q} {B : Nat} (h : QRow w a l) (hb : Below B w w') (hB : w.heap.size ≤ B) : QRow w' a l := fun i x hx => by
  obtain ⟨b, off, ha, h1, h2⟩ := h i x hx
  exact ⟨b, off, ha, by rw [hb.cell (Nat.lt_of_lt_of_le (cell_lt h1) hB)]; exact h1, by rw [hb.cell (Nat.lt_of_lt_of_le (cell_lt h2) hB)]; exact h2⟩

theorem rrow_list {w : World} {a : Option Addr} {rs : List R} (h : RRow w a rs) : ∃ l : List Q, l.map (·.r) = rs ∧ QRow w a l ∧ ∀ x ∈ l, IRow w x.a x.r.right := by
  have hex : ∀ i, i < rs.length → ∃ q : Q, rs[i]? = some q.r ∧ (∃ b off, a = some ⟨b, off, none⟩ ∧ w.cell? ⟨b, off + i * 2, none⟩ = some (.int .i64 q.r.left) ∧ w.cell? ⟨b, off + i * 2 + 1, none⟩ = some (.slice q.a q.r.right.length q.c)) ∧ IRow w q.a q.r.right := fun i hi => by
    obtain ⟨b, off, ra, rc, ha, h1, h2, h3⟩ := h i rs[i] (List.getElem?_eq_getElem hi)
    exact ⟨⟨rs[i], ra, rc⟩, List.getElem?_eq_getElem hi, ⟨b, off, ha, h1, h2⟩, h3⟩
  classical
  let F : Nat → Q := fun i => if hi : i < rs.length then (hex i hi).choose else ⟨⟨0, []⟩, none, 0⟩
  have hF : ∀ i, i < rs.length → rs[i]? = some (F i).r ∧ (∃ b off, a = some ⟨b, off, none⟩ ∧ w.cell? ⟨b, off + i * 2, none⟩ = some (.int .i64 (F i).r.left) ∧ w.cell? ⟨b, off + i * 2 + 1, none⟩ = some (.slice (F i).a (F i).r.right.length (F i).c)) ∧ IRow w (F i).a (F i).r.right := fun i hi => by
    have := (hex i hi).choose_spec
    simp only [F, dif_pos hi]
    exact this
  refine ⟨(List.range rs.length).map F, ?_, fun i x hx => ?_, fun x hx => ?_⟩
  · apply List.ext_getElem?
    intro i
    rcases Nat.lt_or_ge i rs.length with hi | hi
    · rw [List.getElem?_map, List.getElem?_map, List.getElem?_range hi, (hF i hi).1]
      rfl
    · rw [List.getElem?_eq_none (by simpa using hi), List.getElem?_eq_none hi]
  · rw [List.getElem?_map] at hx
    have hi : i < rs.length := by
      rcases Nat.lt_or_ge i rs.length with h | h
      · exact h
      · rw [List.getElem?_eq_none (by simpa using h)] at hx; cases hx
    rw [List.getElem?_range hi] at hx
    obtain rfl : F i = x := by simpa using hx
    exact (hF i hi).2.1
  · obtain ⟨i, hi, rfl⟩ := List.mem_map.1 hx
    exact (hF i (List.mem_range.1 hi)).2.2

theorem rrow_of {w : World} {a : Option Addr} {l : List Q} (h : QRow w a l) (hi : ∀ x ∈ l, IRow w x.a x.r.right) : RRow w a (l.map (·.r)) := fun i r hr => by
  rw [List.getElem?_map] at hr
  cases hx : l[i]? with
  | none => rw [hx] at hr; cases hr
  | some x =>
    rw [hx] at hr
    obtain rfl : x.r = r := by simpa using hr
    obtain ⟨b, off, ha, h1, h2⟩ := h i x hx
    exact ⟨b, off, x.a, x.c, ha, h1, h2, hi x (List.mem_of_getElem? hx)⟩

theorem qrow_own {w : World} {base : Nat} {e : TypeId} {g c n : Nat} {l : List Q} (hn : n = l.length) (h : w.ownsRow base e 2 (.slice (some ⟨g, 0, none⟩) n c) n (cellsQ l)) : QRow w (some ⟨g, 0, none⟩) l := by
  intro i x hi
  subst hn
  have hlt := (List.getElem?_eq_some_iff.1 hi).1
  obtain ⟨h1, h2⟩ := cellsQ_get l i x hi
  refine ⟨g, 0, rfl, ?_, ?_⟩
  · rw [Nat.zero_add, h.cellAt (i * 2) (by omega)]; exact h1
  · rw [Nat.zero_add, h.cellAt (i * 2 + 1) (by omega)]; exact h2

/-- The cells of a part of a row. -/
theorem qrow_src {w : World} {ad : Addr} {l : List Q} (h : QRow w (some ad) l) (k : Nat) (m : List Q) (hm : ∀ j x, m[j]? = some x → l[k + j]? = some x) : ∀ j u, (cellsQ m)[j]? = some u → w.cell? ((ad.add (k * 2)).add j) = some u := by
  intro j u hj
  have hj2 : j < m.length * 2 := by rw [← cellsQ_len]; exact (List.getElem?_eq_some_iff.1 hj).1
  obtain ⟨x, hx⟩ : ∃ x, m[j / 2]? = some x := ⟨m[j / 2], List.getElem?_eq_getElem (by omega)⟩
  obtain ⟨c1, c2⟩ := cellsQ_get m (j / 2) x hx
  obtain ⟨b, off, ha, h1, h2⟩ := h (k + j / 2) x (hm _ _ hx)
  obtain rfl := Option.some.inj ha
  rw [Go.Deep.add_add, Addr.add_lit]
  by_cases hp : j % 2 = 0
  · rw [show j / 2 * 2 = j by omega, hj] at c1
    obtain rfl := Option.some.inj c1
    rw [show off + (k * 2 + j) = off + (k + j / 2) * 2 by omega]
    exact h1
  · rw [show j / 2 * 2 + 1 = j by omega, hj] at c2
    obtain rfl := Option.some.inj c2
    rw [show off + (k * 2 + j) = off + (k + j / 2) * 2 + 1 by omega]
    exact h2

theorem qrow_pre {w : World} {ad : Addr} {l : List Q} (h : QRow w (some ad) l) (k : Nat) : ∀ ad', some ad = some ad' → ∀ (j : Nat) u, (cellsQ (l.take k))[j]? = some u → w.cell? (ad'.add j) = some u := fun ad' had j u hj => by
  obtain rfl := Option.some.inj had
  have := qrow_src h 0 (l.take k) (fun j x hx => by
    rw [Nat.zero_add]
    rw [List.getElem?_take] at hx
    split at hx
    · exact hx
    · cases hx) j u hj
  rwa [Go.Deep.add_add, Nat.zero_mul, Nat.zero_add] at this

/-- What is left of a row behind k rules. -/
theorem qrow_cut {w : World} {ad : Addr} {k rc : Nat} {l : List Q} (h : QRow w (some ad) l) (hl : l.length ≤ rc) : ∀ ad', (if rc = k then some ad else some (ad.add (k * 2))) = some ad' → ∀ (j : Nat) u, (cellsQ (l.drop k))[j]? = some u → w.cell? (ad'.add j) = some u := by
  intro ad' had j u hj
  by_cases hk : rc = k
  · exfalso
    have h1 := (List.getElem?_eq_some_iff.1 hj).1
    rw [cellsQ_len, List.length_drop] at h1
    omega
  · rw [if_neg hk] at had
    obtain rfl := Option.some.inj had
    exact qrow_src h k _ (fun j x hx => by rw [List.getElem?_drop] at hx; exact hx) j u hj

theorem own_slice {w : World} {base n : Nat} {e : TypeId} {v : Value} {xs : List Value} (h : w.ownsRow base e 2 v n xs) : ∃ a c, v = .slice a n c := by
  obtain ⟨_, ⟨rfl, rfl⟩ | ⟨g, cap, cur, rfl, _⟩⟩ := h
  · exact ⟨none, 0, rfl⟩
  · exact ⟨_, cap, rfl⟩

theorem own_qrow {w : World} {base n c : Nat} {e : TypeId} {a : Option Addr} {l : List Q} (hn : n = l.length) (h : w.ownsRow base e 2 (.slice a n c) n (cellsQ l)) : QRow w a l := by
  obtain ⟨_, ⟨h1, h2⟩ | ⟨g, cap, cur, h1, _⟩⟩ := id h
  · obtain rfl : l = [] := List.eq_nil_of_length_eq_zero (by omega)
    exact fun i x hx => by simp at hx
  · cases h1
    exact qrow_own hn h

end Go.Proofs.YtcmjneabcdpmoaaDoor.GramLess
