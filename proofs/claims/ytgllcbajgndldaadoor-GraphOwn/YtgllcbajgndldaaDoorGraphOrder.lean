/-
  The order of the nodes of a graph, and the program's order of a net.
-/
import Derived.Test.YtgllcbajgndldaaDoorGraphReachTop
namespace Go.Proofs.YtgllcbajgndldaaDoor.GraphNet
open Go.RowKit Go.Sort Go.Proofs.YtgllcbajgndldaaDoor.GramMath Go.Proofs.YtgllcbajgndldaaDoor.GramRow Go.Proofs.YtgllcbajgndldaaDoor.GramApart Go.Proofs.YtgllcbajgndldaaDoor.GraphMath Go.Proofs.YtgllcbajgndldaaDoor.GraphFn Go.Proofs.YtgllcbajgndldaaDoor.GraphSort Go.Proofs.YtgllcbajgndldaaDoor.OpRow Go.Proofs.YtgllcbajgndldaaDoor.GramErrs Go.Proofs.YtgllcbajgndldaaDoor.EndsMath
set_option linter.unusedVariables false
set_option linter.unusedSimpArgs false

/-- May this node stand next? -/
def freeB (m : Nat) (A : Nat → List Nat) (P : List Nat) (x : Nat) : Bool := !P.contains x && (List.range m).all (fun a => !(A a).contains x || P.contains a)
def nxt (m : Nat) (A : Nat → List Nat) (P : List Nat) : Option Nat := (List.range m).find? (freeB m A P)
def ordR (m : Nat) (A : Nat → List Nat) : Nat → List Nat → Option (List Nat)
  | 0, P => some P
  | k + 1, P => match nxt m A P with
    | none => none
    | some x => ordR m A k (P ++ [x])

theorem freeB_iff {m : Nat} {A : Nat → List Nat} {P : List Nat} {x : Nat} : freeB m A P x = true ↔ x ∉ P ∧ ∀ a, a < m → x ∈ A a → a ∈ P := by
  unfold freeB
  simp only [Bool.and_eq_true, Bool.not_eq_true', List.all_eq_true, List.mem_range, Bool.or_eq_true]
  constructor
  · rintro ⟨h1, h2⟩
    refine ⟨fun h => by simp [h] at h1, fun a ha hx => ?_⟩
    rcases h2 a ha with h3 | h3
    · simp [hx] at h3
    · simpa using h3
  · rintro ⟨h1, h2⟩
    refine ⟨by simpa using h1, fun a ha => ?_⟩
    by_cases h3 : x ∈ A a
    · right; simpa using h2 a ha h3
    · left; simpa using h3
theorem nxt_some {m : Nat} {A : Nat → List Nat} {P : List Nat} {x : Nat} (h : nxt m A P = some x) : x < m ∧ freeB m A P x = true ∧ ∀ y, y < x → freeB m A P y = false := by
  unfold nxt at h
  have h1 := List.mem_of_find?_eq_some h
  have h2 := List.find?_some h
  refine ⟨List.mem_range.1 h1, h2, fun y hy => ?_⟩
  rw [List.find?_range_eq_some] at h
  simpa using h.2.2 y hy
theorem nxt_none {m : Nat} {A : Nat → List Nat} {P : List Nat} (h : nxt m A P = none) : ∀ y, y < m → freeB m A P y = false := fun y hy => by
  unfold nxt at h
  rw [List.find?_eq_none] at h
  simpa using h y (List.mem_range.2 hy)
theorem nxt_is {m : Nat} {A : Nat → List Nat} {P : List Nat} {x : Nat} (hx : x < m) (h1 : freeB m A P x = true) (h2 : ∀ y, y < x → freeB m A P y = false) : nxt m A P = some x := by
  unfold nxt
  rw [List.find?_range_eq_some]
  exact ⟨h1, List.mem_range.2 hx, fun y hy => by simp [h2 y hy]⟩
theorem nxt_no {m : Nat} {A : Nat → List Nat} {P : List Nat} (h : ∀ y, y < m → freeB m A P y = false) : nxt m A P = none := by
  unfold nxt
  rw [List.find?_eq_none]
  intro y hy
  simp [h y (List.mem_range.1 hy)]

/-- How many nodes that do not stand yet lead to this one. -/
def waitN (m : Nat) (A : Nat → List Nat) (P : List Nat) (x : Nat) : Int := if P.contains x then -1 else (cnt m (fun a => !P.contains a && (A a).contains x) : Int)

/-- Nodes that stand: those that lead to them stand too. -/
structure Stood (m : Nat) (A : Nat → List Nat) (P : List Nat) : Prop where
  lt : ∀ x ∈ P, x < m
  nodup : P.Nodup
  shut : ∀ x ∈ P, ∀ a, a < m → x ∈ A a → a ∈ P

theorem cnt_zero {n : Nat} {S : Nat → Bool} : cnt n S = 0 ↔ ∀ a, a < n → S a = false := by
  unfold cnt
  rw [List.length_eq_zero_iff, List.filter_eq_nil_iff]
  simp

theorem waitN_zero {m : Nat} {A : Nat → List Nat} {P : List Nat} {x : Nat} : waitN m A P x = 0 ↔ freeB m A P x = true := by
  rw [freeB_iff]
  unfold waitN
  by_cases h : x ∈ P
  · simp [h]
  · rw [if_neg (by simpa using h)]
    have e : (cnt m (fun a => !P.contains a && (A a).contains x) : Int) = 0 ↔ cnt m (fun a => !P.contains a && (A a).contains x) = 0 := by omega
    rw [e, cnt_zero]
    constructor
    · intro h2
      refine ⟨h, fun a ha hx => ?_⟩
      have h3 := h2 a ha
      by_cases h4 : a ∈ P
      · exact h4
      · simp [h4, hx] at h3
    · rintro ⟨_, h2⟩ a ha
      by_cases h4 : x ∈ A a
      · simp [h2 a ha h4]
      · simp [h4]

theorem Stood.nil (m : Nat) (A : Nat → List Nat) : Stood m A [] := ⟨by simp, by simp, by simp⟩
theorem Stood.add {m : Nat} {A : Nat → List Nat} {P : List Nat} (h : Stood m A P) {x : Nat} (hx : x < m) (hf : freeB m A P x = true) : Stood m A (P ++ [x]) := by
  obtain ⟨h1, h2⟩ := freeB_iff.1 hf
  refine ⟨fun y hy => ?_, ?_, fun y hy a ha hya => ?_⟩
  · rcases List.mem_append.1 hy with h3 | h3
    · exact h.lt y h3
    · rw [List.mem_singleton.1 h3]; exact hx
  · rw [List.nodup_append]
    exact ⟨h.nodup, by simp, fun a ha b hb e => h1 (by rw [List.mem_singleton.1 hb] at e; rw [← e]; exact ha)⟩
  · rcases List.mem_append.1 hy with h3 | h3
    · exact List.mem_append.2 (.inl (h.shut y h3 a ha hya))
    · rw [List.mem_singleton.1 h3] at hya
      exact List.mem_append.2 (.inl (h2 a ha hya))
theorem Stood.len {m : Nat} {A : Nat → List Nat} {P : List Nat} (h : Stood m A P) : P.length ≤ m := nodup_le h.nodup h.lt

theorem cnt_congr {n : Nat} {S T : Nat → Bool} (h : ∀ a, a < n → S a = T a) : cnt n S = cnt n T := by
  unfold cnt
  congr 1
  apply List.filter_congr
  intro a ha
  exact h a (List.mem_range.1 ha)

/-- Behind one more node. -/
theorem waitN_add {m : Nat} {A : Nat → List Nat} {P : List Nat} (h : Stood m A P) {x : Nat} (hx : x < m) (hf : freeB m A P x = true) (y : Nat) :
    waitN m A (P ++ [x]) y = (if y = x then -1 else waitN m A P y) - (if y ∈ A x then 1 else 0) := by
  obtain ⟨h1, h2⟩ := freeB_iff.1 hf
  by_cases e : y = x
  · subst e
    have hn : y ∉ A y := fun hc => h1 (h2 y hx hc)
    simp [waitN, hn]
  rw [if_neg e]
  by_cases hy : y ∈ P
  · have hn : y ∉ A x := fun hc => h1 (h.shut y hy x hx hc)
    simp [waitN, hy, hn]
  · have e1 : waitN m A (P ++ [x]) y = (cnt m (fun a => !(P ++ [x]).contains a && (A a).contains y) : Int) := by unfold waitN; rw [if_neg (by simp [hy, e])]
    have e2 : waitN m A P y = (cnt m (fun a => !P.contains a && (A a).contains y) : Int) := by unfold waitN; rw [if_neg (by simp [hy])]
    rw [e1, e2]
    by_cases hyx : y ∈ A x
    · rw [if_pos hyx]
      have e3 : cnt m (fun a => !P.contains a && (A a).contains y) = cnt m (updB (fun a => !(P ++ [x]).contains a && (A a).contains y) x) := cnt_congr fun a ha => by
        by_cases e4 : a = x
        · subst e4; rw [updB_at]; simp [h1, hyx]
        · rw [updB_ne _ e4]; simp [e4]
      rw [e3, cnt_upd hx (by simp)]
      omega
    · rw [if_neg hyx]
      have e3 : cnt m (fun a => !P.contains a && (A a).contains y) = cnt m (fun a => !(P ++ [x]).contains a && (A a).contains y) := cnt_congr fun a ha => by
        by_cases e4 : a = x
        · subst e4; simp [hyx]
        · simp [e4]
      rw [e3]
      omega

/-- Numbers in a row of their own. -/
def NRow (w : World) (b n : Nat) (f : Nat → Int) : Prop := ∀ i, i < n → w.cell? ⟨b, i, none⟩ = some (.int .i64 (f i)) ∧ w.frozen? ⟨b, i, none⟩ = false
theorem NRow.below {w w' : World} {b n B : Nat} {f : Nat → Int} (h : NRow w b n f) (hb : Below B w w') (hB : b < B) : NRow w' b n f := fun i hi =>
  ⟨(hb.cell (p := ⟨b, i, none⟩) hB).trans (h i hi).1, (hb.frozen (p := ⟨b, i, none⟩) hB).trans (h i hi).2⟩
theorem NRow.put {w : World} {b n t : Nat} {f : Nat → Int} (h : NRow w b n f) (ht : t < n) (z : Int) : NRow (w.setCell ⟨b, t, none⟩ (.int .i64 z)) b n (updA f t z) := fun i hi => by
  refine ⟨?_, by rw [World.frozen?_setCell]; exact (h i hi).2⟩
  by_cases e : i = t
  · subst e
    rw [updA_at]
    exact World.cell?_setCell_same (h := (h i hi).1) ..
  · rw [updA_ne _ _ e, World.cell?_setCell_other (h := show (⟨b, t, none⟩ : Addr) ≠ ⟨b, i, none⟩ from fun h => e (by cases h; rfl))]
    exact (h i hi).1
theorem NRow.congr {w : World} {b n : Nat} {f g : Nat → Int} (h : NRow w b n f) (e : ∀ i, i < n → f i = g i) : NRow w b n g := fun i hi => by rw [← e i hi]; exact h i hi
theorem NRow.made (n : Nat) (w : World) : NRow (w.alloc (.cells (madeCells #[.int .i64 0] n) 3)) w.heap.size n (fun _ => 0) := fun i hi => by
  have hr := made_row w n 3
  refine ⟨hr.cell ?_, hr.frozen i⟩
  exact intsA_get (by rw [List.getElem?_replicate, if_pos hi])

theorem adj_le (m : Nat) (E : List (Nat × Nat)) (x : Nat) : (ints (adj m E x)).length ≤ m := by
  rw [ints_length]
  exact nodup_le ((adj_rising m E x).imp (fun h => Nat.ne_of_lt h)) (fun y hy => (mem_adj.1 hy).1)

set_option maxRecDepth 100000 in
set_option maxHeartbeats 2000000 in
theorem edgesTo_any (bg m gc : Nat) (A : Nat → List Nat) (w : World) (hN : NetR w bg m (fun a => ints (A a))) (hA : ∀ a, a < m → (∀ y ∈ A a, y < m) ∧ (A a).Nodup) (hm : m ≤ 256) :
    Calls Tryd.prog 29 #[.slice (some ⟨bg, 0, none⟩) m gc] w fun e w' => e = .returned (.slice (some ⟨w.heap.size, 0, none⟩) m m) ∧ NRow w' w.heap.size m (waitN m A []) ∧ Below w.heap.size w w' ∧ w.heap.size < w'.heap.size := by
  have hmk := madeI_any m (by omega) w
  have HN : Hid (NetR w bg m (fun a => ints (A a))) := hN
  have HA : Hid (_) := hA
  have hB0 : Below w.heap.size w (w.alloc (.cells (madeCells #[.int .i64 0] m) 3)) := (Below.refl _ _).alloc (Nat.le_refl _) _
  have HI0 : Hid (NRow (w.alloc (.cells (madeCells #[.int .i64 0] m) 3)) w.heap.size m (fun y => (cnt 0 (fun a => (A a).contains y) : Int)) ∧ Below w.heap.size w (w.alloc (.cells (madeCells #[.int .i64 0] m) 3)) ∧ w.heap.size < (w.alloc (.cells (madeCells #[.int .i64 0] m) 3)).heap.size) := ⟨(NRow.made m w).congr (fun i _ => by simp [cnt]), hB0, by simp⟩
  clear hN hA hB0
  go_enter Tryd.func29, Tryd.ntmps29
  go_wp2
  clear hmk
  go_loopw [13] (fun s wr => ∃ k : Nat, k ≤ m ∧ s = .int .i64 (k : Int) ∧ Hid (NRow wr w.heap.size m (fun y => (cnt k (fun a => (A a).contains y) : Int)) ∧ Below w.heap.size w wr ∧ w.heap.size < wr.heap.size)) (fun s _ => m - (intOf s).toNat)
  case atStart => exact ⟨0, by omega, rfl, HI0⟩
  case round =>
    clear HI0
    obtain ⟨k, hk, rfl, hI⟩ := hrel
    by_cases hlt : k < m
    · obtain ⟨hR, hB, hsz⟩ := hI.out
      obtain ⟨ra, rc, hrc, hrr⟩ := NetR.below HN.out hB (Nat.le_refl _) k hlt
      obtain ⟨hAk, hnd⟩ := HA.out k hlt
      have hlt2 : (k : Int) < (m : Int) := by omega
      have HLA : Hid ((ints (A k)).length = (A k).length) := ints_length _
      have hAl : (ints (A k)).length ≤ m := by rw [ints_length]; exact nodup_le hnd hAk
      have hsub : Hid (∀ w9, Below w.heap.size w w9 → IRow w9 ra (ints (A k))) := fun w9 h91 => by
        obtain ⟨ra0, rc0, hrc0, hrr0⟩ := HN.out k hlt
        have ea : ra = ra0 := by
          have h1 := (hB.cell (cell_lt hrc0)).trans hrc0
          rw [h1] at hrc
          cases hrc; rfl
        rw [ea]
        exact IRow.below hrr0 h91 (Nat.le_refl _)
      have HAK : Hid (∀ y ∈ A k, y < m) := hAk
      have HND : Hid ((A k).Nodup) := hnd
      have HI : Hid (NRow wr w.heap.size m (fun y => (cnt k (fun a => (A a).contains y) : Int) + if y ∈ (A k).take 0 then 1 else 0) ∧ Below w.heap.size w wr ∧ w.heap.size < wr.heap.size) := ⟨hR.congr (fun i _ => by simp), hB, hsz⟩
      generalize (ints (A k)).length = L at *
      clear hI hR hB hrr hAk hnd
      go_wp2
      go_loopw [19] (fun s wr => ∃ j : Nat, j ≤ L ∧ s = .int .i64 (j : Int) ∧ Hid (NRow wr w.heap.size m (fun y => (cnt k (fun a => (A a).contains y) : Int) + if y ∈ (A k).take j then 1 else 0) ∧ Below w.heap.size w wr ∧ w.heap.size < wr.heap.size)) (fun s _ => L - (intOf s).toNat)
      case atStart => exact ⟨0, by omega, rfl, HI⟩
      case round =>
        clear HI hrc
        obtain ⟨j, hj, rfl, hI⟩ := hrel
        obtain ⟨hR, hB, hsz⟩ := hI.out
        by_cases hlj : j < L
        · obtain ⟨y, hy1⟩ : ∃ y, (A k)[j]? = some y := ⟨(A k)[j]'(by rw [← HLA.out]; exact hlj), List.getElem?_eq_getElem _⟩
          have hym := HAK.out y (List.mem_of_getElem? hy1)
          obtain ⟨yb, yo, rfl, hcy⟩ := hsub.out _ hB j (y : Int) (by rw [ints_get, hy1]; rfl)
          have hlj2 : (j : Int) < (L : Int) := by omega
          have hym2 : (y : Int) < (m : Int) := by omega
          obtain ⟨q1, q2⟩ := hR y hym
          have hyno : y ∉ (A k).take j := fun hc => by
            obtain ⟨i, hi, e⟩ := List.mem_iff_getElem.1 hc
            rw [List.length_take] at hi
            rw [List.getElem_take] at e
            obtain ⟨hj2, e2⟩ := List.getElem?_eq_some_iff.1 hy1
            have := (List.getElem_inj HND.out).1 (e.trans e2.symm)
            omega
          dsimp only at q1
          rw [if_neg hyno] at q1
          have hc0 := cnt_le k (fun a => (A a).contains y)
          obtain ⟨C, hC⟩ : ∃ C, C = cnt k (fun a => (A a).contains y) := ⟨_, rfl⟩
          rw [← hC] at q1 hc0
          have hI2 : Hid (NRow (wr.setCell ⟨w.heap.size, y, none⟩ (.int .i64 ((C : Int) + 1))) w.heap.size m (fun y => (cnt k (fun a => (A a).contains y) : Int) + if y ∈ (A k).take (j + 1) then 1 else 0) ∧ Below w.heap.size w (wr.setCell ⟨w.heap.size, y, none⟩ (.int .i64 ((C : Int) + 1))) ∧ w.heap.size < (wr.setCell ⟨w.heap.size, y, none⟩ (.int .i64 ((C : Int) + 1))).heap.size) := ⟨(hR.put hym _).congr (fun i hi => by
            rw [List.take_add_one, hy1]
            by_cases e : i = y
            · subst e; rw [updA_at, hC]; simp
            · rw [updA_ne _ _ e]; simp [e]), hB.setCell (p := ⟨w.heap.size, y, none⟩) (Nat.le_refl _) _, by simpa using hsz⟩
          have q1' : wr.cell? ⟨w.heap.size, y, none⟩ = some (.int .i64 (C : Int)) := by rw [q1]; simp
          clear hI hR hB hy1 hyno hC q1
          go_wp2
          go_roundw
          case rel => exact ⟨j + 1, by omega, by go_num, hI2⟩
          case measure => simp [intOf]; omega
        · have hlj2 : ¬ ((j : Int) < (L : Int)) := by omega
          have hI2 : Hid (NRow wr w.heap.size m (fun y => (cnt (k + 1) (fun a => (A a).contains y) : Int)) ∧ Below w.heap.size w wr ∧ w.heap.size < wr.heap.size) := ⟨hR.congr (fun i hi => by
            rw [List.take_of_length_le (by rw [← HLA.out]; omega), cnt_succ]
            by_cases e : i ∈ A k
            · simp [e]
            · simp [e]), hB, hsz⟩
          clear hI hR hB
          go_wp2
          go_roundw
          case rel => exact ⟨k + 1, by omega, by go_num, hI2⟩
          case measure => simp [intOf]; omega
    · have hlt2 : ¬ ((k : Int) < (m : Int)) := by omega
      have hI2 : Hid (NRow wr w.heap.size m (waitN m A []) ∧ Below w.heap.size w wr ∧ w.heap.size < wr.heap.size) := ⟨hI.out.1.congr (fun i hi => by rw [show k = m by omega]; simp [waitN]), hI.out.2⟩
      clear hI
      go_wp2
      go_ret
      exact ⟨rfl, hI2.out⟩

end Go.Proofs.YtgllcbajgndldaaDoor.GraphNet
