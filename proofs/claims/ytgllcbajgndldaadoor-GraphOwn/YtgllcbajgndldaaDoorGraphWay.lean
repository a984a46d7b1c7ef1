/-
  Ways back along a tour, and the program's way.
-/
import Derived.Test.YtgllcbajgndldaaDoorGraphOrder
namespace Go.Proofs.YtgllcbajgndldaaDoor.GraphNet
open Go.RowKit Go.Sort Go.Proofs.YtgllcbajgndldaaDoor.GramMath Go.Proofs.YtgllcbajgndldaaDoor.GramRow Go.Proofs.YtgllcbajgndldaaDoor.GramApart Go.Proofs.YtgllcbajgndldaaDoor.GraphMath Go.Proofs.YtgllcbajgndldaaDoor.GraphFn Go.Proofs.YtgllcbajgndldaaDoor.GraphSort Go.Proofs.YtgllcbajgndldaaDoor.OpRow Go.Proofs.YtgllcbajgndldaaDoor.GramErrs Go.Proofs.YtgllcbajgndldaaDoor.EndsMath
set_option linter.unusedVariables false
set_option linter.unusedSimpArgs false

/-- From where a tour begins to a node. -/
inductive Chain (f : Nat → Int) : Nat → List Nat → Prop
  | root {x : Nat} : f x = (x : Int) → Chain f x [x]
  | step {x y : Nat} {L : List Nat} : f x = (y : Int) → y ≠ x → Chain f y L → Chain f x (L ++ [x])

theorem Chain.last {f : Nat → Int} {x : Nat} {L : List Nat} (h : Chain f x L) : L = L.dropLast ++ [x] := by
  cases h with
  | root _ => rfl
  | step _ _ _ => simp

def wayF (f : Nat → Int) : Nat → Nat → List Nat
  | 0, x => [x]
  | n + 1, x => if f x = (x : Int) then [x] else wayF f n (f x).toNat ++ [x]

/-- What is ahead of a node was met ahead of it. -/
def Ranked (t : Tr) : Prop := ∀ (i x : Nat), t.nodes[i]? = some x → t.ahead x = (x : Int) ∨ ∃ (j y : Nat), j < i ∧ t.nodes[j]? = some y ∧ t.ahead x = (y : Int)

theorem Ranked.nil : Ranked ⟨[], fun _ => -1⟩ := fun i x h => by simp at h
theorem Ranked.meet {m : Nat} {t : Tr} (h : Ranked t) (ho : Ok m t) {x a : Nat} (ha : a ∈ t.nodes ∨ a = x) : Ranked (GraphMath.meet t x a) := by
  unfold GraphMath.meet
  by_cases hm : t.ahead x = -1
  · rw [if_pos hm]
    intro i y hy
    dsimp only at hy ⊢
    by_cases hi : i < t.nodes.length
    · rw [List.getElem?_append_left hi] at hy
      have hne : y ≠ x := fun e => by
        subst e
        exact (ho.met y).1 (List.mem_of_getElem? hy) hm
      rw [updA_ne _ _ hne]
      rcases h i y hy with h1 | ⟨j, z, h1, h2, h3⟩
      · exact .inl h1
      · exact .inr ⟨j, z, h1, by rw [List.getElem?_append_left (by omega)]; exact h2, h3⟩
    · rw [List.getElem?_append_right (by omega)] at hy
      have hi0 : i - t.nodes.length = 0 := by
        have := (List.getElem?_eq_some_iff.1 hy).1
        simp at this
        omega
      rw [hi0] at hy
      obtain rfl : x = y := by simpa using hy
      rw [updA_at]
      rcases ha with h1 | h1
      · obtain ⟨j, hj, e⟩ := List.mem_iff_getElem.1 h1
        exact .inr ⟨j, a, by omega, by rw [List.getElem?_append_left hj, List.getElem?_eq_getElem hj, e], rfl⟩
      · exact .inl (by rw [h1])
  · rw [if_neg hm]; exact h

theorem Ranked.meets {m a : Nat} : ∀ (xs : List Nat) (t : Tr), Ranked t → Ok m t → (∀ x ∈ xs, x < m) → a ∈ t.nodes → Ranked (meets t a xs)
  | [], t, h, _, _, _ => h
  | x :: xs, t, h, ho, hx, ha => by
    rw [meets_cons]
    exact Ranked.meets xs _ (h.meet ho (.inl ha)) (ho.meet (hx x List.mem_cons_self) (.inl ha)) (fun y hy => hx y (List.mem_cons_of_mem _ hy)) (meet_mem ha)
theorem Ranked.run {m : Nat} {es : List (Nat × Nat)} : ∀ (f k : Nat) (t : Tr), Ranked t → Ok m t → Ranked (GraphMath.run m es f k t)
  | 0, k, t, h, _ => h
  | f + 1, k, t, h, ho => by
    cases hx : t.nodes[k]? with
    | none => rw [show GraphMath.run m es (f + 1) k t = t by simp only [GraphMath.run, hx]]; exact h
    | some x =>
      rw [run_some hx]
      have hxm := List.mem_of_getElem? hx
      obtain ⟨h1, _⟩ := meets_facts (m := m) (a := x) (adj m es x) t ho (fun y hy => (mem_adj.1 hy).1) hxm
      exact Ranked.run f (k + 1) _ (h.meets _ _ ho (fun y hy => (mem_adj.1 hy).1) hxm) h1
theorem tour_ranked {m : Nat} {es : List (Nat × Nat)} (s : Nat) (hs : s < m) : Ranked (GraphMath.tour m es [s]) := by
  unfold GraphMath.tour
  refine Ranked.run _ _ _ ?_ (start_facts [s] (by simpa using hs)).1
  have e : GraphMath.start [s] = GraphMath.meet ⟨[], fun _ => -1⟩ s (s : Int) := rfl
  rw [e]
  exact Ranked.nil.meet (Ok.nil m) (.inr rfl)

theorem way_chain {t : Tr} (h : Ranked t) : ∀ (n i x : Nat), i ≤ n → t.nodes[i]? = some x → Chain t.ahead x (wayF t.ahead n x) ∧ (∀ y ∈ wayF t.ahead n x, y ∈ t.nodes) ∧ (wayF t.ahead n x).length ≤ i + 1
  | 0, i, x, hi, hx => by
    obtain rfl : i = 0 := by omega
    rcases h 0 x hx with h1 | ⟨j, y, h1, _⟩
    · exact ⟨.root h1, by simp [wayF]; exact List.mem_of_getElem? hx, by simp [wayF]⟩
    · omega
  | n + 1, i, x, hi, hx => by
    unfold wayF
    by_cases e : t.ahead x = (x : Int)
    · rw [if_pos e]
      exact ⟨.root e, by simpa using List.mem_of_getElem? hx, by simp⟩
    · rw [if_neg e]
      rcases h i x hx with h1 | ⟨j, y, h1, h2, h3⟩
      · exact absurd h1 e
      · obtain ⟨p1, p2, p3⟩ := way_chain h n j y (by omega) h2
        have ey : (t.ahead x).toNat = y := by rw [h3]; simp
        rw [ey]
        refine ⟨.step h3 (fun e2 => e (by rw [h3, e2])) p1, fun z hz => ?_, by simp; omega⟩
        rcases List.mem_append.1 hz with h4 | h4
        · exact p2 z h4
        · rw [List.mem_singleton.1 h4]; exact List.mem_of_getElem? hx

def lenS : Value → Nat
  | .slice _ n _ => n
  | _ => 0

theorem own_lit (w : World) (x : Int) (base : Nat) (h : base ≤ w.heap.size) : (w.alloc (.cells #[.int .i64 x] 3)).ownsRow base 3 1 (.slice (some ⟨w.heap.size, 0, none⟩) 1 1) 1 (iV [x]) :=
  ⟨rfl, .inr ⟨w.heap.size, 1, _, rfl, h, heap_new _ _, Nat.le_refl _, by decide, rfl, rfl⟩⟩

set_option maxRecDepth 100000 in
set_option maxHeartbeats 2000000 in
theorem way_any (v : Value) (ba m x : Nat) (f : Nat → Int) (L : List Nat) (w : World) (hf : ∀ i, i < m → w.cell? ⟨ba, i, none⟩ = some (.int .i64 (f i))) (hC : Chain f x L) (hL : ∀ y ∈ L, y < m) (hl : L.length ≤ 1000) (hm : m ≤ 256) :
    Calls Tryd.prog 31 #[.agg #[v, .slice (some ⟨ba, 0, none⟩) m m], .int .i64 (x : Int)] w fun e w' => ∃ g c, e = .returned (.slice (some ⟨g, 0, none⟩) L.length c) ∧ w'.ownsRow w.heap.size 3 1 (.slice (some ⟨g, 0, none⟩) L.length c) L.length (iV (ints L)) ∧ Below w.heap.size w w' := by
  have hxm : x < m := hL x (by rw [hC.last]; simp)
  have hba : ba < w.heap.size := cell_lt (hf x hxm)
  have hb1 : RowAt (w.alloc (.cells #[v, .slice (some ⟨ba, 0, none⟩) m m] 61)) w.heap.size 61 #[v, .slice (some ⟨ba, 0, none⟩) m m] := heap_new _ _
  have hB1 : Below w.heap.size w (w.alloc (.cells #[v, .slice (some ⟨ba, 0, none⟩) m m] 61)) := (Below.refl _ _).alloc (Nat.le_refl _) _
  have hz1 : (w.alloc (.cells #[v, .slice (some ⟨ba, 0, none⟩) m m] 61)).heap.size = w.heap.size + 1 := by simp
  obtain ⟨W, hW⟩ : ∃ W, W = w.alloc (.cells #[v, .slice (some ⟨ba, 0, none⟩) m m] 61) := ⟨_, rfl⟩
  rw [← hW] at hb1 hB1 hz1
  have HI0 : Hid (Below W.heap.size W (W.alloc (.cells #[.int .i64 (x : Int)] 3)) ∧ (W.alloc (.cells #[.int .i64 (x : Int)] 3)).ownsRow W.heap.size 3 1 (.slice (some ⟨w.heap.size + 1, 0, none⟩) 1 1) 1 (iV (ints [x]))) := ⟨(Below.refl _ _).alloc (Nat.le_refl _) _, by have h := own_lit W (x : Int) W.heap.size (Nat.le_refl _); rw [← hz1]; exact h⟩
  have HC0 : Hid (∃ Ly, Chain f x Ly ∧ L = Ly.dropLast ++ [x].reverse ∧ ∀ y ∈ Ly, y < m) := ⟨L, hC, hC.last, hL⟩
  have HF : Hid (∀ i, i < m → w.cell? ⟨ba, i, none⟩ = some (.int .i64 (f i))) := hf
  clear hf hC hL
  go_enter Tryd.func31, Tryd.ntmps31
  go_wp2
  rw [← hW]
  have HB1 : Hid (Below w.heap.size w W ∧ RowAt W w.heap.size 61 #[v, .slice (some ⟨ba, 0, none⟩) m m]) := ⟨hB1, hb1⟩
  clear hW hb1 hB1
  go_loopw [1, 5] (fun s1 s5 wr => ∃ (y : Nat) (R : List Nat) (ov : Value), s5 = ov ∧ s1 = .int .i64 (y : Int) ∧ lenS ov = R.length ∧ 0 < R.length ∧ Hid (Below W.heap.size W wr ∧ wr.ownsRow W.heap.size 3 1 ov R.length (iV (ints R))) ∧ Hid (∃ Ly, Chain f y Ly ∧ L = Ly.dropLast ++ R.reverse ∧ ∀ z ∈ Ly, z < m)) (fun _ s5 _ => L.length + 1 - lenS s5)
  case atStart => exact ⟨x, [x], _, rfl, rfl, rfl, by simp, HI0, HC0⟩
  case round =>
    clear HI0 HC0
    obtain ⟨y, R, ov, hov, rfl, hlen, hR0, hI, hC⟩ := hrel
    obtain rfl := hov.symm
    obtain ⟨Ly, hCy, hLy, hLm⟩ := hC.out
    obtain ⟨hB, hown⟩ := hI.out
    obtain ⟨hBw, hbox⟩ := HB1.out
    have hB0 : Below w.heap.size w wr := hBw.trans (hB.mono (by omega))
    have hsz := hB.size
    have hym : y < m := hLm y (by rw [hCy.last]; simp)
    have hym2 : (y : Int) < (m : Int) := by omega
    have c1 : wr.cell? ⟨w.heap.size, 1, none⟩ = some (.slice (some ⟨ba, 0, none⟩) m m) := (hB.cell (p := ⟨w.heap.size, 1, none⟩) (by show w.heap.size < _; omega)).trans (hbox.cell rfl)
    have cy : wr.cell? ⟨ba, y, none⟩ = some (.int .i64 (f y)) := (hB0.cell (p := ⟨ba, y, none⟩) hba).trans (HF.out y hym)
    have hRl : R.length ≤ 1000 := by
      have h := congrArg List.length hLy
      simp at h
      omega
    cases hCy with
    | root he =>
      rw [he] at cy
      have hne : ((y : Int) != (y : Int)) = false := by simp
      have hLR : R.reverse = L := by simpa using hLy.symm
      have hrev := reverse_own W.heap.size R.length ov (ints R) wr hown (by omega)
      have e1 : (ints R).reverse = ints L := by rw [← hLR]; simp [ints]
      rw [e1] at hrev
      have HB0 : Hid (Below w.heap.size w wr) := hB0
      have HO : Hid (∀ j, ov.ownBlock = some j → w.heap.size ≤ j) := fun j hj => by have := (hown.lt j hj).1; omega
      have hRL : R.length = L.length := by rw [← hLR]; simp
      rw [hRL] at hrev
      have hL0 : ∃ l, L.length = l + 1 := ⟨L.length - 1, by omega⟩
      clear hlen hR0 hI hC hLy hLm hB hown hBw hbox hB0 hLR HF HB1 hRl e1 he
      go_wp2_with fail
      refine hrev.mono ?_
      rintro e w3 ⟨rfl, hown3, hg3⟩
      obtain ⟨l, hl0⟩ := hL0
      obtain ⟨g, c, hov⟩ : ∃ g c, ov = .slice (some ⟨g, 0, none⟩) L.length c := by
        have h := hown3
        rw [hl0] at h ⊢
        exact ownsRow_succ h
      have hfin : Hid (w3.ownsRow w.heap.size 3 1 (.slice (some ⟨g, 0, none⟩) L.length c) L.length (iV (ints L)) ∧ Below w.heap.size w w3) := ⟨by
        rw [hov] at hown3
        obtain ⟨q1, q2 | ⟨g', cap, cur, q3, q4, q5⟩⟩ := hown3
        · exact ⟨q1, .inl q2⟩
        · exact ⟨q1, .inr ⟨g', cap, cur, q3, by omega, q5⟩⟩, HB0.out.grown hg3 HB0.out.size HO.out⟩
      subst hov
      clear hrev hown3 hg3 HB0 HO cy c1 hl0
      go_wp2
      go_ret
      exact ⟨g, c, rfl, hfin.out.1, hfin.out.2⟩
    | @step _ z Lz he hne0 hc =>
      rw [he] at cy
      have hzm : z < m := hLm z (by rw [hc.last]; simp)
      have hne : ((z : Int) != (y : Int)) = true := by simp; omega
      obtain ⟨i0, hi, hz0, hz1', hz2⟩ := info_parts infoInt
      have hF : Hid (∀ v2 w2, World.ownsRow w2 W.heap.size 3 1 v2 (R.length + 1) (iV (ints R) ++ [.int .i64 (z : Int)]) → (wr.alloc (.cells #[.int .i64 (z : Int)] 3)).grownBy w2 ov.ownBlock → Hid (Below W.heap.size W w2 ∧ w2.ownsRow W.heap.size 3 1 v2 (R ++ [z]).length (iV (ints (R ++ [z]))))) := fun v2 w2 h1 h2 => ⟨(hB.alloc hsz _).grown h2 (by simp; omega) (fun j hj => (hown.lt j hj).1), by simpa [iV, ints] using h1⟩
      have hC2 : Hid (∃ Ly, Chain f z Ly ∧ L = Ly.dropLast ++ (R ++ [z]).reverse ∧ ∀ u ∈ Ly, u < m) := ⟨Lz, hc, by
        rw [hLy, List.dropLast_concat, List.reverse_append]
        conv => lhs; rw [hc.last]
        simp, fun u hu => hLm u (by simp [hu])⟩
      have hLR : R.length < L.length := by
        have h := congrArg List.length hLy
        have h2 := congrArg List.length hc.last
        simp at h h2
        omega
      clear hI hC hLy hLm hB hBw hbox hB0 HF HB1 he hne0 hc
      go_wp2_with (at_builtin; refine wpList_append_own _ rfl (.tmp 20) (.tmp 22) 24 rfl W.heap.size 3 i0 (.int .i64 0) 1 8 Tryd.underlying24 hi hz0 hz1' hz2 rfl (by decide) _ _ _ rfl (hown.alloc _) ⟨wr.heap.size, 0, none⟩ 1 1 [.int .i64 (z : Int)] rfl rfl (cell_one_new _ _ _) (by simp [Value.oneCell']) (by unfold maxLen; omega) (by omega) (by simp; omega) ?_; intro v2 w2 hown2 hgrow2 _; have hI2 := hF.out v2 w2 hown2 hgrow2; obtain ⟨g2, c2, rfl⟩ := ownsRow_succ hown2; clear hF hown2 hgrow2 hown)
      go_roundw
      case rel => exact ⟨z, R ++ [z], _, by trivial, by trivial, by simp [lenS], by simp, hI2, hC2⟩
      case measure => rw [hlen]; simp [lenS]; omega

end Go.Proofs.YtgllcbajgndldaaDoor.GraphNet
