/-
  The helper that looks whether two grammars share memory: its three looks.
-/
import Derived.Test.YtcmjneabcdpmoaaDoorGramAll
namespace Go.Proofs.YtcmjneabcdpmoaaDoor.GramAll
open Go.RowKit Go.Proofs.YtcmjneabcdpmoaaDoor.GramMath Go.Proofs.YtcmjneabcdpmoaaDoor.GramRow Go.Proofs.YtcmjneabcdpmoaaDoor.GramApart Go.Proofs.YtcmjneabcdpmoaaDoor.GramCopy
set_option linter.unusedVariables false

theorem strsA_size (ss : List ByteArray) : (strsA ss).size = ss.length := by simp [strsA]
theorem intsA_size (zs : List Int) : (intsA zs).size = zs.length := by simp [intsA]

theorem row_cells {w : World} {b : Nat} {t : TypeId} {cur : Array Value} (h : RowAt w b t cur) {q : Nat} (hq : q < cur.size) : w.frozen? ⟨b, q, none⟩ = false ∧ ∃ v, w.cell? ⟨b, q, none⟩ = some v :=
  ⟨h.frozen q, cur[q], h.cell (Array.getElem?_eq_getElem hq)⟩

theorem strs_two (H : Nat) (b1 b2 : Nat → Nat) (g : G) (nv : Value) (w : World) (hn : w.ownsRow H 25 1 nv 4 (namesL b1 b2 g)) (ht : ∀ i, i < 2 → RowAt w (b1 i) 9 (strsA g.ts)) (hm : ∀ i, i < 2 → RowAt w (b2 i) 9 (strsA g.ns))
    (o1 : b1 0 < b2 0) (o2 : b2 0 < b1 1) (o3 : b1 1 < b2 1) (o4 : b2 1 < H) (z1 : g.ts.length ≤ 2097152) (z2 : g.ns.length ≤ 2097152) :
    Calls Tryd.prog 34 #[nv] w fun e w' => e = .returned (.bool true) ∧ But (fun b => b = b1 0 ∨ b = b2 0 ∨ b = b1 1 ∨ b = b2 1) w w' := by
  obtain ⟨A, cA, rfl⟩ := ownsRow_succ hn
  obtain ⟨cur, hrow, _, _, hA, hx⟩ := own_at hn
  refine (apart_strs (fun b => b = b1 0 ∨ b = b2 0 ∨ b = b1 1 ∨ b = b2 1) 4 A cA (fun j => [b1 0, b2 0, b1 1, b2 1].getD j 0) (fun j => [g.ts.length, g.ns.length, g.ts.length, g.ns.length].getD j 0) (fun j => some ⟨[b1 0, b2 0, b1 1, b2 1].getD j 0, 0, none⟩) cur w (by omega) hrow ?_ (fun j hj => rfl) ?_ ?_ ?_ ?_ ?_)
  · intro j hj
    rw [hx j hj]
    match j, hj with
    | 0, _ => rfl
    | 1, _ => rfl
    | 2, _ => rfl
    | 3, _ => rfl
  · intro j hj q hq
    match j, hj, hq with
    | 0, _, hq => obtain ⟨h1, v, h2⟩ := row_cells (ht 0 (by omega)) (q := q) (by rw [strsA_size]; exact hq); exact ⟨h1, v, h2, fun h => by omega⟩
    | 1, _, hq => obtain ⟨h1, v, h2⟩ := row_cells (hm 0 (by omega)) (q := q) (by rw [strsA_size]; exact hq); exact ⟨h1, v, h2, fun h => by omega⟩
    | 2, _, hq => obtain ⟨h1, v, h2⟩ := row_cells (ht 1 (by omega)) (q := q) (by rw [strsA_size]; exact hq); exact ⟨h1, v, h2, fun h => by omega⟩
    | 3, _, hq => obtain ⟨h1, v, h2⟩ := row_cells (hm 1 (by omega)) (q := q) (by rw [strsA_size]; exact hq); exact ⟨h1, v, h2, fun h => by omega⟩
  · intro a ha b hb hab _ _
    match a, ha, b, hb with
    | 0, _, 0, _ => exact absurd rfl hab
    | 0, _, 1, _ => show b1 0 ≠ b2 0; omega
    | 0, _, 2, _ => show b1 0 ≠ b1 1; omega
    | 0, _, 3, _ => show b1 0 ≠ b2 1; omega
    | 1, _, 0, _ => show b2 0 ≠ b1 0; omega
    | 1, _, 1, _ => exact absurd rfl hab
    | 1, _, 2, _ => show b2 0 ≠ b1 1; omega
    | 1, _, 3, _ => show b2 0 ≠ b2 1; omega
    | 2, _, 0, _ => show b1 1 ≠ b1 0; omega
    | 2, _, 1, _ => show b1 1 ≠ b2 0; omega
    | 2, _, 2, _ => exact absurd rfl hab
    | 2, _, 3, _ => show b1 1 ≠ b2 1; omega
    | 3, _, 0, _ => show b2 1 ≠ b1 0; omega
    | 3, _, 1, _ => show b2 1 ≠ b2 0; omega
    | 3, _, 2, _ => show b2 1 ≠ b1 1; omega
    | 3, _, 3, _ => exact absurd rfl hab
  · intro j hj
    match j, hj with
    | 0, _ => exact z1
    | 1, _ => exact z2
    | 2, _ => exact z1
    | 3, _ => exact z2
  · intro j hj _
    match j, hj with
    | 0, _ => exact .inl rfl
    | 1, _ => exact .inr (.inl rfl)
    | 2, _ => exact .inr (.inr (.inl rfl))
    | 3, _ => exact .inr (.inr (.inr rfl))
  · intro j hj _
    match j, hj with
    | 0, _ => show A ≠ b1 0; omega
    | 1, _ => show A ≠ b2 0; omega
    | 2, _ => show A ≠ b1 1; omega
    | 3, _ => show A ≠ b2 1; omega

theorem rules_two (H : Nat) (b3 : Nat → Nat) (g : G) (rv : Value) (w : World) (hn : w.ownsRow H 29 1 rv 2 (rulesL b3 g)) (hr : ∀ i, i < 2 → ∀ q, q < g.rs.length * 2 → w.frozen? ⟨b3 i, q, none⟩ = false ∧ ∃ v, w.cell? ⟨b3 i, q, none⟩ = some v)
    (o1 : b3 0 < b3 1) (o4 : b3 1 < H) (z1 : g.rs.length ≤ 2097152) :
    Calls Tryd.prog 36 #[rv] w fun e w' => e = .returned (.bool true) ∧ But (fun b => b = b3 0 ∨ b = b3 1) w w' := by
  obtain ⟨A, cA, rfl⟩ := ownsRow_succ hn
  obtain ⟨cur, hrow, _, _, hA, hx⟩ := own_at hn
  refine (apart_rules (fun b => b = b3 0 ∨ b = b3 1) 2 A cA (fun j => if j = 0 then b3 0 else b3 1) (fun j => g.rs.length) (fun j => some ⟨if j = 0 then b3 0 else b3 1, 0, none⟩) cur w (by omega) hrow ?_ (fun j hj => rfl) ?_ ?_ (fun j hj => by omega) ?_ ?_)
  · intro j hj
    rw [hx j hj]
    match j, hj with
    | 0, _ => rfl
    | 1, _ => rfl
  · intro j hj q hq
    have hq : q < g.rs.length := hq
    match j, hj with
    | 0, _ =>
      obtain ⟨h1, v, h2⟩ := hr 0 (by omega) (q * 2) (by omega)
      obtain ⟨h3, u, h4⟩ := hr 0 (by omega) (q * 2 + 1) (by omega)
      exact ⟨h1, h3, v, h2, u, h4, fun h => by omega⟩
    | 1, _ =>
      obtain ⟨h1, v, h2⟩ := hr 1 (by omega) (q * 2) (by omega)
      obtain ⟨h3, u, h4⟩ := hr 1 (by omega) (q * 2 + 1) (by omega)
      exact ⟨h1, h3, v, h2, u, h4, fun h => by omega⟩
  · intro a ha b hb hab _ _
    match a, ha, b, hb with
    | 0, _, 0, _ => exact absurd rfl hab
    | 0, _, 1, _ => show b3 0 ≠ b3 1; omega
    | 1, _, 0, _ => show b3 1 ≠ b3 0; omega
    | 1, _, 1, _ => exact absurd rfl hab
  · intro j hj _
    match j, hj with
    | 0, _ => exact .inl rfl
    | 1, _ => exact .inr rfl
  · intro j hj _
    match j, hj with
    | 0, _ => show A ≠ b3 0; omega
    | 1, _ => show A ≠ b3 1; omega

set_option maxRecDepth 100000 in
set_option maxHeartbeats 1000000 in
theorem ints_nil (w : World) : Calls Tryd.prog 35 #[.slice none 0 0] w fun e w' => e = .returned (.bool true) ∧ w' = w := by
  go_enter Tryd.func35, Tryd.ntmps35
  go_wp2
  refine wp_loop_rounds 1 ?_
  rw [rounds_succ]
  go_wp2
  refine wp_loop_rounds 1 ?_
  rw [rounds_succ]
  go_wp2
  refine wp_loop_rounds 1 ?_
  rw [rounds_succ]
  go_wp2
  go_ret
  exact ⟨rfl, rfl⟩

theorem getD_at {l : List Nat} {j : Nat} (h : j < l.length) : l[j]? = some (l.getD j 0) := by
  rw [List.getD_eq_getElem?_getD, List.getElem?_eq_getElem h]
  rfl

theorem ints_two (H : Nat) (bs : Nat → List Nat) (g : G) (sv : Value) (w : World) (hn : w.ownsRow H 39 1 sv (2 * g.rs.length) (sidesL bs g)) (hl : ∀ i, i < 2 → (bs i).length = g.rs.length)
    (hr : ∀ i, i < 2 → ∀ (j : Nat) (r : R) (x : Nat), g.rs[j]? = some r → (bs i)[j]? = some x → RowAt w x 3 (intsA r.right)) (hinc : (bs 0 ++ bs 1).Pairwise (· < ·)) (hH : ∀ x ∈ bs 0 ++ bs 1, x < H) (z1 : g.rs.length ≤ 2097152) (z2 : ∀ r ∈ g.rs, r.right.length ≤ 4194304) :
    Calls Tryd.prog 35 #[sv] w fun e w' => e = .returned (.bool true) ∧ But (fun b => b ∈ bs 0 ++ bs 1) w w' := by
  have hlen : (bs 0 ++ bs 1).length = 2 * g.rs.length := by rw [List.length_append, hl 0 (by omega), hl 1 (by omega)]; omega
  by_cases hnil : sv = .slice none 0 0
  · subst hnil
    refine (ints_nil w).mono ?_
    rintro e w1 ⟨rfl, hw⟩
    obtain rfl := hw.symm
    exact ⟨rfl, But.refl _ _⟩
  · obtain ⟨A, cA, rfl⟩ : ∃ A cA, sv = .slice (some ⟨A, 0, none⟩) (2 * g.rs.length) cA := by
      obtain ⟨_, h | ⟨g', cap, cur, hv, _⟩⟩ := hn
      · exact absurd h.1 hnil
      · exact ⟨g', cap, hv⟩
    obtain ⟨cur, hrow, _, _, hA, hx⟩ := own_at hn
    have hboth : ∀ j, j < 2 * g.rs.length → ∃ r : R, (g.rs ++ g.rs)[j]? = some r ∧ r ∈ g.rs ∧ (sidesL bs g)[j]? = some (sl ((bs 0 ++ bs 1).getD j 0) r.right.length) ∧ RowAt w ((bs 0 ++ bs 1).getD j 0) 3 (intsA r.right) := fun j hj => by
      rcases Nat.lt_or_ge j g.rs.length with h | h
      · have e0 : (bs 0)[j]? = some ((bs 0 ++ bs 1).getD j 0) := by
          have := getD_at (l := bs 0 ++ bs 1) (j := j) (by omega)
          rwa [List.getElem?_append_left (by rw [hl 0 (by omega)]; exact h)] at this
        refine ⟨g.rs[j], by rw [List.getElem?_append_left h, List.getElem?_eq_getElem h], List.getElem_mem h, ?_, hr 0 (by omega) j _ _ (List.getElem?_eq_getElem h) e0⟩
        have := sides_at hl (k := 0) (by omega) e0 (List.getElem?_eq_getElem h)
        rwa [Nat.zero_mul, Nat.zero_add] at this
      · have h2 : j - g.rs.length < g.rs.length := by omega
        have e0 : (bs 1)[j - g.rs.length]? = some ((bs 0 ++ bs 1).getD j 0) := by
          have := getD_at (l := bs 0 ++ bs 1) (j := j) (by omega)
          rwa [List.getElem?_append_right (by rw [hl 0 (by omega)]; exact h), hl 0 (by omega)] at this
        refine ⟨g.rs[j - g.rs.length], by rw [List.getElem?_append_right h, List.getElem?_eq_getElem h2], List.getElem_mem h2, ?_, hr 1 (by omega) _ _ _ (List.getElem?_eq_getElem h2) e0⟩
        have := sides_at hl (k := 1) (by omega) e0 (List.getElem?_eq_getElem h2)
        rwa [show 1 * g.rs.length + (j - g.rs.length) = j by omega] at this
    have hN : ∀ j, j < 2 * g.rs.length → ∀ r : R, (g.rs ++ g.rs)[j]? = some r → ((g.rs ++ g.rs).map (fun (r : R) => r.right.length)).getD j 0 = r.right.length := fun j hj r h => by
      rw [List.getD_eq_getElem?_getD, List.getElem?_map, h]
      rfl
    have hmem : ∀ j, j < 2 * g.rs.length → (bs 0 ++ bs 1).getD j 0 ∈ bs 0 ++ bs 1 := fun j hj => List.mem_of_getElem? (getD_at (by omega))
    refine (apart_ints (fun b => b ∈ bs 0 ++ bs 1) (2 * g.rs.length) A cA (fun j => (bs 0 ++ bs 1).getD j 0) (fun j => ((g.rs ++ g.rs).map (fun (r : R) => r.right.length)).getD j 0) (fun j => some ⟨(bs 0 ++ bs 1).getD j 0, 0, none⟩) cur w (by omega) hrow ?_ (fun j hj => rfl) ?_ ?_ ?_ (fun j hj _ => hmem j hj) ?_)
    · intro j hj
      obtain ⟨r, h1, _, h2, _⟩ := hboth j hj
      show _ = some (Value.slice (some ⟨(bs 0 ++ bs 1).getD j 0, 0, none⟩) (((g.rs ++ g.rs).map (fun (r : R) => r.right.length)).getD j 0) (((g.rs ++ g.rs).map (fun (r : R) => r.right.length)).getD j 0))
      rw [hx j (by omega), h2, hN j hj r h1]
      rfl
    · intro j hj q hq
      obtain ⟨r, h1, _, _, h3⟩ := hboth j hj
      have hq' : q < r.right.length := by rw [← hN j hj r h1]; exact hq
      obtain ⟨e1, v, e2⟩ := row_cells h3 (q := q) (by rw [intsA_size]; exact hq')
      exact ⟨e1, v, e2, fun h => by omega⟩
    · intro a ha b hb hab _ _
      have ea := getD_at (l := bs 0 ++ bs 1) (j := a) (by omega)
      have eb := getD_at (l := bs 0 ++ bs 1) (j := b) (by omega)
      have hp := List.pairwise_iff_getElem.1 hinc
      obtain ⟨ha1, ha2⟩ := List.getElem?_eq_some_iff.1 ea
      obtain ⟨hb1, hb2⟩ := List.getElem?_eq_some_iff.1 eb
      show (bs 0 ++ bs 1).getD a 0 ≠ (bs 0 ++ bs 1).getD b 0
      rcases Nat.lt_or_ge a b with h | h
      · have := hp a b ha1 hb1 h
        omega
      · have := hp b a hb1 ha1 (by omega)
        omega
    · intro j hj
      obtain ⟨r, h1, h2, _⟩ := hboth j hj
      show ((g.rs ++ g.rs).map (fun (r : R) => r.right.length)).getD j 0 ≤ _
      rw [hN j hj r h1]
      exact z2 r h2
    · intro j hj _
      have := hH _ (hmem j hj)
      show A ≠ (bs 0 ++ bs 1).getD j 0
      omega

end Go.Proofs.YtcmjneabcdpmoaaDoor.GramAll
