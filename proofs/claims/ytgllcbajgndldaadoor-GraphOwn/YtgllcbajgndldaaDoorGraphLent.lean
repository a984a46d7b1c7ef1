/-
  Lent edges: what the statements' lent and kept come to. What is lent has a mark behind it.
-/
import Derived.Test.YtgllcbajgndldaaDoorGraphNet
import Derived.Test.YtgllcbajgndldaaDoorGramLentG
import Derived.ChangeKeysEq
import Derived.Laws.StructEq
namespace Go.Proofs.YtgllcbajgndldaaDoor.GraphLent
open Go.RowKit Go.Proofs.YtgllcbajgndldaaDoor.GramMath Go.Proofs.YtgllcbajgndldaaDoor.GramRow Go.Proofs.YtgllcbajgndldaaDoor.GramApart Go.Proofs.YtgllcbajgndldaaDoor.GramLent Go.Proofs.YtgllcbajgndldaaDoor.OpRow Go.Proofs.YtgllcbajgndldaaDoor.GraphNet
set_option linter.unusedVariables false
set_option linter.unusedSimpArgs false

theorem info_int : ∃ i, Tryd.prog.info? 3 = some i := by
  obtain ⟨i0, hi, _⟩ := info_parts infoI
  exact ⟨i0, hi⟩
theorem cells_int : Tryd.prog.cellsOf 3 = 1 := by kernel_rfl

theorem part_int (l : List Int) (i : Nat) (x : Int) (h : l[i]? = some x) (w : World) : (part 3 (intsA l) i).run Tryd.prog w = .ok (.int .i64 x) w := by
  have h1 := intsA_get h
  generalize intsA l = A at *
  simp [part, go_sem, h1]

theorem eq_items (d : Nat) (f g : List Int) (w : World) : ∀ is : List Nat, (∀ i ∈ is, i < f.length ∧ i < g.length) →
    (Op.eqItems (d + 1) 3 1 (intsA f) (intsA g) is).run Tryd.prog w = .ok (decide (∀ i ∈ is, f[i]? = g[i]?)) w
  | [], _ => by simp [Op.eqItems]
  | i :: is, h => by
    have ih := eq_items d f g w is (fun j hj => h j (List.mem_cons_of_mem _ hj))
    obtain ⟨h1, h2⟩ := h i List.mem_cons_self
    obtain ⟨x, hx⟩ : ∃ x, f[i]? = some x := ⟨f[i], List.getElem?_eq_getElem h1⟩
    obtain ⟨y, hy⟩ : ∃ y, g[i]? = some y := ⟨g[i], List.getElem?_eq_getElem h2⟩
    have p1 := part_int f i x hx w
    have p2 := part_int g i y hy w
    have p3 := run_equalIn_int (P := Tryd.prog) w d 3 .i64 .i64 x y Tryd.underlying3
    simp only [Op.eqItems, Sem.run_bind, Nat.mul_one, p1, p2, p3, Result.andThen_ok]
    by_cases hxy : x = y
    · subst hxy
      have e : decide (∀ j ∈ i :: is, f[j]? = g[j]?) = decide (∀ j ∈ is, f[j]? = g[j]?) := decide_eq_decide.2 (by simp [hx, hy])
      rw [e]
      simp only [BEq.rfl, Bool.not_true, Bool.false_eq_true, if_false, ih]
    · have : (x == y) = false := by simpa using hxy
      have e : decide (∀ j ∈ i :: is, f[j]? = g[j]?) = false := decide_eq_false (fun h => hxy (by
        have := h i List.mem_cons_self
        rw [hx, hy] at this
        simpa using this))
      rw [e]
      simp only [this, Bool.not_false, if_true, Sem.run_pure]

theorem eqE (a b c d : Int) (w : World) : (Op.equalIn 10000 45 (.agg #[.int .i64 a, .int .i64 b]) (.agg #[.int .i64 c, .int .i64 d])).run Tryd.prog w = .ok (decide (a = c ∧ b = d)) w := by
  obtain ⟨i0, hi⟩ := info_int
  have h := run_equalIn_array (P := Tryd.prog) w 9999 (intsA [a, b]) (intsA [c, d]) Tryd.underlying45 hi
  rw [cells_int, eq_items 9998 [a, b] [c, d] w _ (fun i hi => by rw [List.mem_range] at hi; simp; omega)] at h
  have e : decide (∀ i ∈ List.range 2, [a, b][i]? = [c, d][i]?) = decide (a = c ∧ b = d) := by
    rw [decide_eq_decide]
    constructor
    · intro h
      have h0 := h 0 (by simp)
      have h1 := h 1 (by simp)
      simp at h0 h1
      exact ⟨h0, h1⟩
    · rintro ⟨rfl, rfl⟩ i _
      rfl
  rw [e] at h
  exact h

/-- Edges as cells. -/
def flatE : List (Int × Int) → List Value
  | [] => []
  | e :: l => .int .i64 e.1 :: .int .i64 e.2 :: flatE l
theorem flatE_length : ∀ l : List (Int × Int), (flatE l).length = l.length * 2
  | [] => rfl
  | e :: l => by simp [flatE, flatE_length l]; omega
theorem flatE_append : ∀ l l' : List (Int × Int), flatE (l ++ l') = flatE l ++ flatE l'
  | [], l' => rfl
  | e :: l, l' => by simp [flatE, flatE_append l l']
theorem flatE_at : ∀ {l : List (Int × Int)} {i : Nat} {e : Int × Int}, l[i]? = some e → (flatE l)[i * 2]? = some (.int .i64 e.1) ∧ (flatE l)[i * 2 + 1]? = some (.int .i64 e.2)
  | [], i, e, h => by cases h
  | x :: l, 0, e, h => by
    obtain rfl : x = e := by simpa using h
    exact ⟨rfl, rfl⟩
  | x :: l, i + 1, e, h => by
    have := flatE_at (l := l) (i := i) (e := e) (by simpa using h)
    rw [show (i + 1) * 2 = i * 2 + 2 from by omega]
    exact this
theorem flatE_one (l : List (Int × Int)) : ∀ v ∈ flatE l, v.oneCell' = true := by
  induction l with
  | nil => intro v hv; cases hv
  | cons e l ih =>
    intro v hv
    rcases List.mem_cons.1 hv with rfl | hv
    · rfl
    rcases List.mem_cons.1 hv with rfl | hv
    · rfl
    · exact ih v hv
/-- Cells of edges, out of a row. -/
theorem ERow.flat {w : World} {b off : Nat} {es : List (Int × Int)} (h : ERow w (some ⟨b, off, none⟩) es) : ∀ j u, (flatE es)[j]? = some u → w.cell? ((⟨b, off, none⟩ : Addr).add j) = some u := fun j u hu => by
  have hj := (List.getElem?_eq_some_iff.1 hu).1
  rw [flatE_length] at hj
  obtain ⟨e, he⟩ : ∃ e, es[j / 2]? = some e := ⟨es[j / 2]'(by omega), List.getElem?_eq_getElem _⟩
  obtain ⟨h1, h2⟩ := flatE_at he
  obtain ⟨b', off', hb, h3, h4⟩ := h _ _ he
  cases hb
  rw [Addr.add_lit]
  rcases Nat.mod_two_eq_zero_or_one j with h0 | h0
  · have ej : j / 2 * 2 = j := by omega
    rw [ej] at h1 h3
    rw [hu] at h1
    rw [h3, Option.some.inj h1]
  · have ej : j / 2 * 2 + 1 = j := by omega
    rw [ej] at h2
    rw [show off + j / 2 * 2 + 1 = off + j by omega] at h4
    rw [hu] at h2
    rw [h4, Option.some.inj h2]

theorem own_erow {w : World} {base g n c : Nat} {es : List (Int × Int)} {e : TypeId} (h : w.ownsRow base e 2 (.slice (some ⟨g, 0, none⟩) n c) n (flatE es)) : ERow w (some ⟨g, 0, none⟩) es := fun i x hx => by
  obtain ⟨h1, h2⟩ := flatE_at hx
  have hl := h.1
  rw [flatE_length] at hl
  have hi := (List.getElem?_eq_some_iff.1 hx).1
  refine ⟨g, 0, rfl, ?_, ?_⟩
  · rw [Nat.zero_add, h.cellAt _ (by omega)]; exact h1
  · rw [Nat.zero_add, h.cellAt _ (by omega)]; exact h2

theorem infoE : (Tryd.prog.info? 45).map (fun i => (i.zero, i.size, i.bytes)) = some (some (.agg #[.int .i64 0, .int .i64 0]), 2, 16) := by kernel_rfl

/-- Edges that were lent. -/
structure LentE (w0 w : World) (g c : Nat) (es : List (Int × Int)) : Prop where
  lt : es.length < c
  max : c ≤ maxLen
  ge : w0.heap.size ≤ g
  row : ERow w (some ⟨g, 0, none⟩) (es ++ [(-71, -71)])
theorem LentE.below {w0 w w' : World} {g c : Nat} {es : List (Int × Int)} (h : LentE w0 w g c es) (hb : Below w.heap.size w w') : LentE w0 w' g c es := ⟨h.lt, h.max, h.ge, h.row.below hb (Nat.le_refl _)⟩
theorem ERow.front {w : World} {a : Option Addr} {es l : List (Int × Int)} (h : ERow w a (es ++ l)) : ERow w a es := fun i x hx => h i x (by rw [List.getElem?_append_left (List.getElem?_eq_some_iff.1 hx).1]; exact hx)

set_option maxRecDepth 100000 in
set_option maxHeartbeats 2000000 in
theorem lentE (a : Option Addr) (ca : Nat) (es : List (Int × Int)) (w : World) (ha : ERow w a es) (hm : es.length * 16 ≤ 140737488351232) (hnil : a = none → es.length = 0 ∧ ca = 0) :
    Calls Tryd.prog 5 #[.slice a es.length ca] w fun e w' => ∃ g c, e = .returned (.slice (some ⟨g, 0, none⟩) es.length c) ∧ LentE w w' g c es ∧ Below w.heap.size w w' := by
  obtain ⟨i0, hi, hz0, hz1, hz2⟩ := info_parts infoE
  have hst : Hid (a = none ∨ ∃ b off, a = some ⟨b, off, none⟩ ∨ es = []) := by
    cases a with
    | none => exact .inl rfl
    | some x =>
      right
      cases es with
      | nil => exact ⟨0, 0, .inr rfl⟩
      | cons e l => obtain ⟨b, off, h, _⟩ := ha 0 e rfl; exact ⟨b, off, .inl h⟩
  cases a with
  | none =>
    obtain ⟨hz, rfl⟩ := hnil rfl
    obtain rfl : es = [] := List.length_eq_zero_iff.1 hz
    go_enter Tryd.func5, Tryd.ntmps5
    have hmade : (w.alloc (.cells #[] 45)).ownsRow w.heap.size 45 2 (.slice (some ⟨w.heap.size, 0, none⟩) 0 0) 0 [] := World.ownsRow_made w #[] 0 (Nat.le_refl _) (by unfold maxLen; omega) rfl
    go_wp2_with (first
      | (at_builtin; refine wpList_append_own_none rfl (.tmp 4) (.tmp 5) 22 rfl w.heap.size 45 i0 2 Tryd.underlying22 hi _ _ _ rfl hmade rfl ?_)
      | (at_builtin; refine wpList_append_own _ rfl (.tmp 6) (.tmp 8) 22 rfl w.heap.size 45 i0 (.agg #[.int .i64 0, .int .i64 0]) 2 16 Tryd.underlying22 hi hz0 hz1 hz2 rfl (by decide) _ _ _ rfl (hmade.alloc _) ⟨w.heap.size + 1, 0, none⟩ 1 1 [.int .i64 (-71), .int .i64 (-71)] rfl rfl (by have h := cells_new (w.alloc (.cells #[] 45)) #[.int .i64 (-71), .int .i64 (-71)] 45; simpa using h) (by simp [Value.oneCell']) (by unfold maxLen; omega) (by omega) (by simp; omega) ?_; intro v2 w2 hown2 hgrow2 _; obtain ⟨g, c, rfl⟩ := ownsRow_succ hown2; have hcap := own_cap2 hown2))
    have hr := own_erow (es := [(-71, -71)]) hown2
    go_ret
    exact ⟨g, c, rfl, ⟨by simp; omega, hcap.2.1, hcap.2.2, hr⟩, (((Below.refl _ _).alloc (Nat.le_refl _) _).alloc (by simp) _).grown hgrow2 (by simp; omega) (fun k hk => (hmade.lt k hk).1)⟩
  | some x =>
    have hnews : ∀ j u, (flatE es)[j]? = some u → w.cell? (x.add j) = some u := by
      intro j u hj
      have hjl := (List.getElem?_eq_some_iff.1 hj).1
      rw [flatE_length] at hjl
      obtain ⟨b, off, hx, _⟩ := ha 0 (es[0]'(by omega)) (List.getElem?_eq_getElem _)
      obtain rfl : x = ⟨b, off, none⟩ := by simpa using hx
      exact ERow.flat ha j u hj
    have hone := flatE_one es
    have hlen := flatE_length es
    have hmade : (w.alloc (.cells #[] 45)).ownsRow w.heap.size 45 2 (.slice (some ⟨w.heap.size, 0, none⟩) 0 0) 0 [] := World.ownsRow_made w #[] 0 (Nat.le_refl _) (by unfold maxLen; omega) rfl
    have hnews2 : ∀ j u, (flatE es)[j]? = some u → (w.alloc (.cells #[] 45)).cell? (x.add j) = some u := fun j u hj => cell_later ((Below.refl _ w).alloc (Nat.le_refl _) _) (hnews j u hj)
    clear hnews ha
    go_enter Tryd.func5, Tryd.ntmps5
    go_wp2_with (first
      | (at_builtin; refine wpList_append_own _ rfl (.tmp 4) (.tmp 5) 22 rfl w.heap.size 45 i0 (.agg #[.int .i64 0, .int .i64 0]) 2 16 Tryd.underlying22 hi hz0 hz1 hz2 rfl (by decide) _ _ _ rfl hmade x es.length ca (flatE es) rfl hlen hnews2 hone (by unfold maxLen; omega) (by omega) (by simp) ?_; intro v1 w1 hown1 hgrow1 _; simp only [Nat.zero_add, List.nil_append] at hown1)
      | (at_builtin; refine wpList_append_own _ rfl (.tmp 6) (.tmp 8) 22 rfl w.heap.size 45 i0 (.agg #[.int .i64 0, .int .i64 0]) 2 16 Tryd.underlying22 hi hz0 hz1 hz2 rfl (by decide) _ _ _ rfl (hown1.alloc _) ⟨w1.heap.size, 0, none⟩ 1 1 [.int .i64 (-71), .int .i64 (-71)] rfl rfl (cells_new w1 #[.int .i64 (-71), .int .i64 (-71)] 45) (by simp [Value.oneCell']) (by unfold maxLen; omega) (by omega) (by have := hgrow1.size; simp at this; simp; omega) ?_; intro v2 w2 hown2 hgrow2 _; obtain ⟨g, c, rfl⟩ := ownsRow_succ hown2; have hcap := own_cap2 hown2))
    have hr := own_erow (es := es ++ [(-71, -71)]) (n := es.length + 1) (by rw [flatE_append]; exact hown2)
    have hs1 := hgrow1.size
    simp at hs1
    go_ret
    exact ⟨g, c, rfl, ⟨by omega, hcap.2.1, hcap.2.2, hr⟩, ((((Below.refl _ _).alloc (Nat.le_refl _) _).grown hgrow1 (by simp) (fun k hk => (hmade.lt k hk).1)).alloc (by omega) _).grown hgrow2 (by simp; omega) (fun k hk => (hown1.lt k hk).1)⟩

set_option maxRecDepth 100000 in
set_option maxHeartbeats 2000000 in
theorem keptE (w0 : World) (g : Nat) (b : Option Addr) (ca cb : Nat) (es : List (Int × Int)) (w : World) (ha : LentE w0 w g ca es) (hb : ERow w b es) (hm : es.length ≤ 1125899906842624) :
    Calls Tryd.prog 12 #[.slice (some ⟨g, 0, none⟩) es.length ca, .slice b es.length cb] w fun e w' => e = .returned (.bool true) ∧ ∃ q, w' = w.drewN q := by
  have heq := eqE
  obtain ⟨b0, o0, hb0, m0, m1⟩ := ha.row es.length (-71, -71) (by simp)
  cases hb0
  dsimp only at m0 m1
  have hc1 : es.length + 1 ≤ ca := ha.lt
  have hc2 : ((es.length : Int) + 1) ≤ (ca : Int) := by omega
  have HA : Hid (ERow w (some ⟨g, 0, none⟩) es) := ERow.front ha.row
  have HB : Hid (ERow w b es) := hb
  rw [Nat.zero_add] at m0 m1
  clear ha hb
  have hne : ((es.length : Int) != (es.length : Int)) = false := by simp
  go_enter Tryd.func12, Tryd.ntmps12
  go_wp2
  go_loopw [5] (fun s wr => ∃ k : Nat, k ≤ es.length ∧ s = .int .i64 (k : Int) ∧ ∃ q, wr = w.drewN q) (fun s _ => es.length - (intOf s).toNat)
  case atStart => exact ⟨0, by omega, rfl, 0, rfl⟩
  case round =>
    obtain ⟨k, hk, rfl, q, rfl⟩ := hrel
    by_cases hlt : k < es.length
    · obtain ⟨⟨x, y⟩, hxy⟩ : ∃ e, es[k]? = some e := ⟨es[k], List.getElem?_eq_getElem hlt⟩
      obtain ⟨b1, o1, h1, p0, p1⟩ := HA.out k _ hxy
      cases h1
      obtain ⟨b2, o2, rfl, q0, q1⟩ := HB.out k _ hxy
      dsimp only at p0 p1 q0 q1
      rw [Nat.zero_add] at p0 p1
      have hlt2 : (k : Int) < (es.length : Int) := by omega
      clear m0 m1 hxy
      go_wp2
      go_quiet (fail)
      go_wp2
      go_roundw
      case rel => exact ⟨k + 1, by omega, by go_num, _, rfl⟩
      case measure => simp [intOf]; omega
    · have hlt2 : ¬ ((k : Int) < (es.length : Int)) := by omega
      clear m0 m1
      go_wp2
      go_ret
      exact ⟨rfl, _, rfl⟩

end Go.Proofs.YtgllcbajgndldaaDoor.GraphLent
