/-
  The helper that writes into lists of rules, goes on with them and looks at all again: it answers true for lists that lie apart and have no room to spare.
-/
import Derived.Test.YtcmjneabcdpmoaaDoorGramBut
import Derived.Test.YtcmjneabcdpmoaaDoorGramApartS
import Derived.Test.YtcmjneabcdpmoaaDoorGramLentR
namespace Go.Proofs.YtcmjneabcdpmoaaDoor.GramApart
open Go.RowKit Go.Proofs.YtcmjneabcdpmoaaDoor.GramLess Go.Proofs.YtcmjneabcdpmoaaDoor.GramMath Go.Proofs.YtcmjneabcdpmoaaDoor.GramRow Go.Proofs.YtcmjneabcdpmoaaDoor.GramAboveFn
set_option linter.unusedVariables false

/-- The marks that have been written into the lists of rules. -/
def Marked2 (m : Nat) (g N : Nat → Nat) (w : World) (i k : Nat) : Prop :=
  ∀ j, j < m → ∀ q, q < N j → w.frozen? ⟨g j, q * 2, none⟩ = false ∧ w.frozen? ⟨g j, q * 2 + 1, none⟩ = false ∧ ∃ v, w.cell? ⟨g j, q * 2, none⟩ = some v ∧ ∃ u, w.cell? ⟨g j, q * 2 + 1, none⟩ = some u ∧ ((j < i ∨ j = i ∧ q < k) → v = .int .i64 (1000 * (j : Int) + (q : Int)) ∧ u = .slice none 0 0)

theorem Marked2.store {m : Nat} {g N : Nat → Nat} {w : World} {i k : Nat} (h : Marked2 m g N w i k) (hi : i < m) (hk : k < N i) (hd : ∀ a, a < m → ∀ b, b < m → a ≠ b → 0 < N a → 0 < N b → g a ≠ g b) :
    Marked2 m g N ((w.setCell ⟨g i, k * 2, none⟩ (.int .i64 (1000 * (i : Int) + (k : Int)))).setCell ⟨g i, k * 2 + 1, none⟩ (.slice none 0 0)) i (k + 1) := by
  intro j hj q hq
  obtain ⟨hf, hf2, v, hv, u, hu, hc⟩ := h j hj q hq
  refine ⟨by rw [World.frozen?_setCell, World.frozen?_setCell]; exact hf, by rw [World.frozen?_setCell, World.frozen?_setCell]; exact hf2, ?_⟩
  by_cases e : j = i
  · subst e
    by_cases hqk : q = k
    · subst hqk
      have e2 : (w.setCell ⟨g j, q * 2, none⟩ (.int .i64 (1000 * (j : Int) + (q : Int)))).cell? ⟨g j, q * 2 + 1, none⟩ = some u := by
        rw [World.cell?_setCell_other (h := show (⟨g j, q * 2, none⟩ : Addr) ≠ ⟨g j, q * 2 + 1, none⟩ from fun h => by have h2 : q * 2 = q * 2 + 1 := congrArg Addr.off h; omega)]
        exact hu
      refine ⟨.int .i64 (1000 * (j : Int) + (q : Int)), ?_, .slice none 0 0, World.cell?_setCell_same (h := e2) .., fun _ => ⟨rfl, rfl⟩⟩
      rw [World.cell?_setCell_other (h := show (⟨g j, q * 2 + 1, none⟩ : Addr) ≠ ⟨g j, q * 2, none⟩ from fun h => by have h2 : q * 2 + 1 = q * 2 := congrArg Addr.off h; omega)]
      exact World.cell?_setCell_same (h := hv) ..
    · have hoth : ∀ x, x ≠ k * 2 → x ≠ k * 2 + 1 → ((w.setCell ⟨g j, k * 2, none⟩ (.int .i64 (1000 * (j : Int) + (k : Int)))).setCell ⟨g j, k * 2 + 1, none⟩ (.slice none 0 0)).cell? ⟨g j, x, none⟩ = w.cell? ⟨g j, x, none⟩ := fun x h1 h2 => by
        rw [World.cell?_setCell_other (h := show (⟨g j, k * 2 + 1, none⟩ : Addr) ≠ ⟨g j, x, none⟩ from fun h => h2 (congrArg Addr.off h).symm), World.cell?_setCell_other (h := show (⟨g j, k * 2, none⟩ : Addr) ≠ ⟨g j, x, none⟩ from fun h => h1 (congrArg Addr.off h).symm)]
      exact ⟨v, (hoth _ (by omega) (by omega)).trans hv, u, (hoth _ (by omega) (by omega)).trans hu, fun hcase => hc (by omega)⟩
  · have hne : g j ≠ g i := hd j hj i hi e (by omega) (by omega)
    have hoth : ∀ x, ((w.setCell ⟨g i, k * 2, none⟩ (.int .i64 (1000 * (i : Int) + (k : Int)))).setCell ⟨g i, k * 2 + 1, none⟩ (.slice none 0 0)).cell? ⟨g j, x, none⟩ = w.cell? ⟨g j, x, none⟩ := fun x => by
      rw [World.cell?_setCell_other (h := show (⟨g i, k * 2 + 1, none⟩ : Addr) ≠ ⟨g j, x, none⟩ from fun h => hne (congrArg Addr.block h).symm), World.cell?_setCell_other (h := show (⟨g i, k * 2, none⟩ : Addr) ≠ ⟨g j, x, none⟩ from fun h => hne (congrArg Addr.block h).symm)]
    exact ⟨v, (hoth _).trans hv, u, (hoth _).trans hu, fun hcase => hc (by omega)⟩

theorem Marked2.next {m : Nat} {g N : Nat → Nat} {w : World} {i : Nat} (h : Marked2 m g N w i (N i)) : Marked2 m g N w (i + 1) 0 := by
  intro j hj q hq
  obtain ⟨hf, hf2, v, hv, u, hu, hc⟩ := h j hj q hq
  refine ⟨hf, hf2, v, hv, u, hu, fun hcase => hc ?_⟩
  by_cases e : j = i
  · subst e; exact .inr ⟨rfl, hq⟩
  · exact .inl (by omega)

theorem Marked2.below {m B : Nat} {g N : Nat → Nat} {w w' : World} {i k : Nat} (h : Marked2 m g N w i k) (hb : Below B w w') (hg : ∀ j, j < m → 0 < N j → g j < B) : Marked2 m g N w' i k := by
  intro j hj q hq
  obtain ⟨hf, hf2, v, hv, u, hu, hc⟩ := h j hj q hq
  have hB := hg j hj (by omega)
  exact ⟨(hb.frozen (p := ⟨g j, q * 2, none⟩) hB).trans hf, (hb.frozen (p := ⟨g j, q * 2 + 1, none⟩) hB).trans hf2, v, (hb.cell (p := ⟨g j, q * 2, none⟩) hB).trans hv, u, (hb.cell (p := ⟨g j, q * 2 + 1, none⟩) hB).trans hu, hc⟩

/-- What a list of rules that was gone on with holds. -/
def Longer2 (w : World) (t : TypeId) (j n : Nat) (v : Value) : Prop :=
  ∃ h c cur, v = .slice (some ⟨h, 0, none⟩) (n + 30) c ∧ RowAt w h t cur ∧ (∀ q, q < n → cur[q * 2]? = some (.int .i64 (1000 * (j : Int) + (q : Int)))) ∧ ∀ q, q < 30 → cur[(n + q) * 2]? = some (.int .i64 (500000 + 1000 * (j : Int) + (q : Int)))

theorem Longer2.below {w w' : World} {t : TypeId} {j n B : Nat} {v : Value} (h : Longer2 w t j n v) (hb : Below B w w') (hB : w.heap.size ≤ B) : Longer2 w' t j n v := by
  obtain ⟨a, c, cur, hv, hr, rest⟩ := h
  exact ⟨a, c, cur, hv, hr.below hb (by have := hr.lt; omega), rest⟩

theorem Longer2.grown {t e : TypeId} {w w' : World} {j n : Nat} {v : Value} (h : Longer2 w t j n v) (ht : t ≠ e) {base size k : Nat} {u : Value} {xs : List Value} (hr : w.ownsRow base e size u k xs) (o : Obj) (hg : (w.alloc o).grownBy w' u.ownBlock) : Longer2 w' t j n v := by
  obtain ⟨a, c, cur, hv, hrow, rest⟩ := h
  exact ⟨a, c, cur, hv, (hrow.alloc o).grown hg (hrow.not_own ht hr), rest⟩

def markQ (j n : Nat) : List Q := (List.range n).map fun (q : Nat) => ⟨⟨1000 * (j : Int) + (q : Int), []⟩, none, 0⟩
def moreQ (j k : Nat) : List Q := (List.range k).map fun (q : Nat) => ⟨⟨500000 + 1000 * (j : Int) + (q : Int), []⟩, none, 0⟩
theorem markQ_len (j n : Nat) : (markQ j n).length = n := by simp [markQ]
theorem moreQ_len (j n : Nat) : (moreQ j n).length = n := by simp [moreQ]
theorem moreQ_succ (j k : Nat) : cellsQ (moreQ j (k + 1)) = cellsQ (moreQ j k) ++ [.int .i64 (500000 + 1000 * (j : Int) + (k : Int)), .slice none 0 0] := by
  unfold moreQ
  rw [List.range_succ, List.map_append, cellsQ_app]
  rfl

theorem own_at2 {w : World} {base : Nat} {e : TypeId} {g n c : Nat} {xs : List Value} (h : w.ownsRow base e 2 (.slice (some ⟨g, 0, none⟩) n c) n xs) : ∃ cur, RowAt w g e cur ∧ ∀ q, q < n * 2 → cur[q]? = xs[q]? := by
  obtain ⟨_, h | ⟨g', cap, cur, hv, hb, hg, hn, _, hs, hx⟩⟩ := h
  · exact absurd h.1 (by simp)
  · simp at hv
    obtain ⟨rfl, rfl⟩ := hv
    refine ⟨cur, hg, fun q hq => ?_⟩
    rw [← hx, List.getElem?_take, if_pos hq, Array.getElem?_toList]

theorem longer_of2 {w : World} {base : Nat} {t : TypeId} {j n : Nat} {v : Value} (h : w.ownsRow base t 2 v (n + 30) (cellsQ (markQ j n) ++ cellsQ (moreQ j 30))) : Longer2 w t j n v := by
  obtain ⟨g, c, rfl⟩ := ownsRow_succ (k := n + 29) h
  obtain ⟨cur, hr, hx⟩ := own_at2 h
  refine ⟨g, c, cur, rfl, hr, fun q hq => ?_, fun q hq => ?_⟩
  · rw [hx _ (by omega), List.getElem?_append_left (by rw [cellsQ_len, markQ_len]; omega)]
    exact (cellsQ_get _ q ⟨⟨1000 * (j : Int) + (q : Int), []⟩, none, 0⟩ (by simp [markQ, hq])).1
  · rw [hx _ (by omega), List.getElem?_append_right (by rw [cellsQ_len, markQ_len]; omega), cellsQ_len, markQ_len, show (n + q) * 2 - n * 2 = q * 2 by omega]
    exact (cellsQ_get _ q ⟨⟨500000 + 1000 * (j : Int) + (q : Int), []⟩, none, 0⟩ (by simp [moreQ, hq])).1

theorem markQ_get {m : Nat} {g N : Nat → Nat} {w : World} {i : Nat} (h : Marked2 m g N w m 0) (hi : i < m) : ∀ j u, (cellsQ (markQ i (N i)))[j]? = some u → w.cell? ⟨g i, j, none⟩ = some u := by
  intro j u hj
  have hjl : j < N i * 2 := by
    have := (List.getElem?_eq_some_iff.1 hj).1
    rwa [cellsQ_len, markQ_len] at this
  have hq : j / 2 < N i := by omega
  obtain ⟨_, _, v, hv, u', hu, hc⟩ := h i hi (j / 2) hq
  obtain ⟨e1, e2⟩ := hc (.inl hi)
  obtain ⟨g1, g2⟩ := cellsQ_get (markQ i (N i)) (j / 2) ⟨⟨1000 * (i : Int) + ((j / 2 : Nat) : Int), []⟩, none, 0⟩ (by simp [markQ, hq])
  by_cases h0 : j % 2 = 0
  · have e : j / 2 * 2 = j := by omega
    rw [e] at g1 hv
    rw [g1] at hj
    obtain rfl := Option.some.inj hj
    rw [hv, e1]
  · have e : j / 2 * 2 + 1 = j := by omega
    rw [e] at g2 hu
    rw [g2] at hj
    obtain rfl := Option.some.inj hj
    rw [hu, e2]
    rfl

theorem infoLR : (Tryd.prog.info? 29).map (fun i => (i.zero, i.size, i.bytes)) = some (some (.slice none 0 0), 1, 24) := by kernel_rfl

set_option maxRecDepth 100000 in
set_option maxHeartbeats 8000000 in
theorem apart_rules (S : Nat → Prop) (m A cA : Nat) (g N : Nat → Nat) (ad : Nat → Option Addr) (curA : Array Value) (w : World) (hm : m ≤ 4194304) (hA : RowAt w A 29 curA)
    (hAc : ∀ j, j < m → curA[j]? = some (.slice (ad j) (N j) (N j))) (had : ∀ j, j < m → at' g N j (ad j)) (hR : Marked2 m g N w 0 0)
    (hd : ∀ a, a < m → ∀ b, b < m → a ≠ b → 0 < N a → 0 < N b → g a ≠ g b) (hN : ∀ j, j < m → N j ≤ 4194304) (hBg : ∀ j, j < m → 0 < N j → S (g j)) (hAg : ∀ j, j < m → 0 < N j → A ≠ g j) :
    Calls Tryd.prog 36 #[.slice (some ⟨A, 0, none⟩) m cA] w fun e w' => e = .returned (.bool true) ∧ But S w w' := by
  obtain ⟨i0, hi, hz0, hz1, hz2⟩ := info_parts GramLent.infoR
  obtain ⟨i1, hi1, hz3, hz4, hz5⟩ := info_parts infoLR
  go_enter Tryd.func36, Tryd.ntmps36
  go_wp2
  go_loopw [3] (fun i wr => ∃ k : Nat, k ≤ m ∧ i = .int .i64 k ∧ Marked2 m g N wr k 0 ∧ RowAt wr A 29 curA ∧ But S w wr) (fun i _ => m - (intOf i).toNat)
  case atStart => exact ⟨0, by omega, rfl, hR, hA, But.refl _ _⟩
  case round =>
    obtain ⟨i, him, rfl, hM, hAr, hBr⟩ := hrel
    by_cases hlt : i < m
    · have hcA := hAr.cell (hAc i hlt)
      have hNi := hN i hlt
      go_wp2
      go_loopw [4] (fun q wr => ∃ k : Nat, k ≤ N i ∧ q = .int .i64 k ∧ Marked2 m g N wr i k ∧ RowAt wr A 29 curA ∧ But S w wr) (fun q _ => N i - (intOf q).toNat)
      case atStart => exact ⟨0, by omega, rfl, hM, hAr, hBr⟩
      case round =>
        obtain ⟨k, hk, rfl, hM2, hA2, hB2⟩ := hrel
        have hcA2 := hA2.cell (hAc i hlt)
        by_cases hkl : k < N i
        · have hN0 : 0 < N i := by omega
          obtain ⟨hfk, hfk2, old, hck, old2, hck2, _⟩ := hM2 i hlt k hkl
          have hai : ad i = some ⟨g i, 0, none⟩ := at_some (had i hlt) hN0
          rw [hai] at hcA2
          have S1 := hM2.store hlt hkl hd
          have hneA : A ≠ g i := hAg i hlt hN0
          have S2 := (hA2.other hneA (k * 2) (.int .i64 (1000 * (i : Int) + (k : Int)))).other hneA (k * 2 + 1) (.slice none 0 0)
          have S3 := (hB2.setCell (p := ⟨g i, k * 2, none⟩) (hBg i hlt hN0) (.int .i64 (1000 * (i : Int) + (k : Int)))).setCell (p := ⟨g i, k * 2 + 1, none⟩) (hBg i hlt hN0) (.slice none 0 0)
          clear hM2 hA2 hB2 hM hAr hBr hcA hai
          go_wp2
          go_roundw
          case rel => exact ⟨k + 1, by omega, by go_num, S1, S2, S3⟩
          case measure => simp [intOf]; omega
        · obtain rfl : k = N i := by omega
          have S1 := hM2.next
          clear hM hAr hBr hcA
          go_wp2
          go_roundw
          case rel => exact ⟨i + 1, by omega, by go_num, S1, hA2, hB2⟩
          case measure => simp [intOf]; omega
    · obtain rfl : i = m := by omega
      clear hR hA
      obtain ⟨w1, hw1⟩ : ∃ w1, w1 = wr := ⟨_, rfl⟩
      subst hw1
      have hgl : ∀ j, j < i → 0 < N j → g j < w1.heap.size := fun j hj hNj => by
        obtain ⟨_, _, v, hv, _⟩ := hM j hj 0 hNj
        exact cell_lt hv
      have hAl := hAr.lt
      go_wp2
      go_loopw [5, 6] (fun mv q ws => ∃ (k : Nat) (Ls : List Value), k ≤ i ∧ q = .int .i64 k ∧ Ls.length = k ∧ ws.ownsRow w1.heap.size 29 1 mv k Ls ∧ (∀ j v, Ls[j]? = some v → Longer2 ws 53 j (N j) v) ∧ Below w1.heap.size w1 ws) (fun _ q _ => i - (intOf q).toNat)
      case atStart => exact ⟨0, [], by omega, rfl, rfl, World.ownsRow_nil _ _ _ _, by simp, Below.refl _ _⟩
      case round =>
        obtain ⟨ws, hws⟩ : ∃ ws, ws = wr := ⟨_, rfl⟩
        subst hws
        obtain ⟨k, Ls, hk, rfl, hLs, hmv, hLo, hbs⟩ := hrel
        have hss := hbs.size
        have hAs := hAr.below hbs hAl
        have hMs := hM.below hbs hgl
        by_cases hki : k < i
        · have hcA := hAs.cell (hAc k hki)
          have hNk := hN k hki
          go_wp2
          go_loopw [7, 8] (fun l q wt => ∃ (p : Nat), p ≤ 30 ∧ q = .int .i64 p ∧ (p = 0 → l = .slice (ad k) (N k) (N k)) ∧ (0 < p → wt.ownsRow ws.heap.size 53 2 l (N k + p) (cellsQ (markQ k (N k)) ++ cellsQ (moreQ k p))) ∧ Below ws.heap.size ws wt) (fun _ q _ => 30 - (intOf q).toNat)
          case atStart => exact ⟨0, by omega, rfl, fun _ => rfl, fun h => absurd h (by omega), Below.refl _ _⟩
          case round =>
            obtain ⟨p, hp, rfl, h0, h1, hbt⟩ := hrel
            have hts := hbt.size
            by_cases hp30 : p < 30
            · by_cases hp0 : p = 0
              · obtain rfl := h0 hp0
                have HP : Hid (p = 0) := hp0
                have hmarks := markQ_get (hMs.below hbt (fun j hj hNj => by have := hgl j hj hNj; omega)) hki
                have hak := had k hki
                clear hp0 h0 h1
                go_wp2_with (at_builtin; refine wpList_append_grows _ rfl (.tmp 53) (.tmp 60) 29 rfl 53 i0 (.agg #[.int .i64 0, .slice none 0 0]) 2 32 Tryd.underlying29 hi hz0 hz1 hz2 rfl (by decide) (ad k) (N k) (N k) (cellsQ (markQ k (N k))) rfl (fun h => at_none hak h) (by rw [cellsQ_len, markQ_len]) (fun b hb j u hj => by rw [at_is hak hb, Addr.add_lit, Nat.zero_add]; have hc := hmarks j u hj; rw [World.cell?_alloc_past _ _ _ (cell_lt hc)]; exact hc) ⟨_, 0, none⟩ 1 1 [.int .i64 (500000 + 1000 * (k : Int) + (p : Int)), .slice none 0 0] rfl rfl (GramLent.cells_new _ #[_, _] _) (by simp [Value.oneCell']) (by omega) (by unfold maxLen; omega) (by omega) ?_; intro v2 w2 hown2 hgrow2)
                have O2 : w2.ownsRow ws.heap.size 53 2 v2 (N k + (p + 1)) (cellsQ (markQ k (N k)) ++ cellsQ (moreQ k (p + 1))) := by
                  have e : p = 0 := HP.out
                  subst e
                  rw [moreQ_succ]
                  exact own_base hown2 (by simp; omega)
                have B2 : Below ws.heap.size ws w2 := (hbt.alloc hts _).grown hgrow2 (by simp; omega) (fun j hj => by cases hj)
                clear hown2 hgrow2 hmarks
                go_roundw
                case rel => exact ⟨p + 1, by omega, by go_num, fun h => absurd h (by omega), fun _ => O2, B2⟩
                case measure => simp [intOf]; omega
              · have hl := h1 (by omega)
                clear h0 h1 hp0
                go_wp2_with (at_builtin; refine wpList_append_own _ rfl (.tmp 53) (.tmp 60) 29 rfl ws.heap.size 53 i0 (.agg #[.int .i64 0, .slice none 0 0]) 2 32 Tryd.underlying29 hi hz0 hz1 hz2 rfl (by decide) _ _ _ rfl (hl.alloc _) ⟨_, 0, none⟩ 1 1 [.int .i64 (500000 + 1000 * (k : Int) + (p : Int)), .slice none 0 0] rfl rfl (GramLent.cells_new _ #[_, _] _) (by simp [Value.oneCell']) (by unfold maxLen; omega) (by omega) (by simp; omega) ?_; intro v2 w2 hown2 hgrow2 _)
                have O2 : w2.ownsRow ws.heap.size 53 2 v2 (N k + (p + 1)) (cellsQ (markQ k (N k)) ++ cellsQ (moreQ k (p + 1))) := by
                  rw [moreQ_succ, ← List.append_assoc]
                  exact hown2
                have B2 : Below ws.heap.size ws w2 := (hbt.alloc hts _).grown hgrow2 (by simp; omega) (fun j hj => (hl.lt j hj).1)
                clear hown2 hgrow2 hl
                go_roundw
                case rel => exact ⟨p + 1, by omega, by go_num, fun h => absurd h (by omega), fun _ => O2, B2⟩
                case measure => simp [intOf]; omega
            · obtain rfl : p = 30 := by omega
              have hl := h1 (by omega)
              obtain ⟨hh, cc, rfl⟩ := ownsRow_succ (k := N k + 29) hl
              have L0 := longer_of2 hl
              have hmt := own_below hmv hbt
              have hLt : ∀ j v, Ls[j]? = some v → Longer2 wr 53 j (N j) v := fun j v hj => (hLo j v hj).below hbt (Nat.le_refl _)
              clear h0 h1
              go_wp2_with (at_builtin; refine wpList_append_own _ rfl (.tmp 62) (.tmp 64) 81 rfl w1.heap.size 29 i1 (.slice none 0 0) 1 24 Tryd.underlying81 hi1 hz3 hz4 hz5 rfl (by decide) _ _ _ rfl (hmt.alloc _) ⟨_, 0, none⟩ 1 1 [.slice (some ⟨hh, 0, none⟩) (N k + 30) cc] rfl rfl (cell_one_new _ _ _) (by simp [Value.oneCell']) (by unfold maxLen; omega) (by omega) (by simp; omega) ?_; intro v3 w3 hown3 hgrow3 _)
              have L3 : ∀ j v, (Ls ++ [Value.slice (some ⟨hh, 0, none⟩) (N k + 30) cc])[j]? = some v → Longer2 w3 53 j (N j) v := by
                intro j v hj
                rcases Nat.lt_or_ge j Ls.length with hlt | hge
                · rw [List.getElem?_append_left hlt] at hj
                  exact (hLt j v hj).grown (by decide) hmt _ hgrow3
                · rw [List.getElem?_append_right hge] at hj
                  have hz : j - Ls.length = 0 := by
                    have := (List.getElem?_eq_some_iff.1 hj).1
                    simp at this
                    omega
                  rw [hz] at hj
                  simp at hj
                  obtain rfl : j = k := by omega
                  subst hj
                  exact L0.grown (by decide) hmt _ hgrow3
              have B3 : Below w1.heap.size w1 w3 := ((hbs.trans (hbt.mono hss)).alloc (by omega) _).grown hgrow3 (by simp; omega) (fun j hj => (hmt.lt j hj).1)
              clear hgrow3 hmt hLt L0 hl hmv hLo
              go_wp2
              go_roundw
              case rel => exact ⟨k + 1, _, by omega, by go_num, by simp [hLs], hown3, L3, B3⟩
              case measure => simp [intOf]; omega
        · obtain rfl : k = i := by omega
          have BF : But S w ws := hBr.on hbs
          by_cases hk0 : k = 0
          · subst hk0
            go_wp2
            refine wp_loop_rounds 1 ?_
            rw [rounds_succ]
            go_wp2
            go_ret
            exact ⟨rfl, BF⟩
          · obtain ⟨M, cM, rfl⟩ := ownsRow_succ (k := k - 1) (by rw [Nat.sub_add_cancel (by omega)]; exact hmv)
            rw [Nat.sub_add_cancel (by omega)] at hmv ⊢
            clear hk0 hM hAr hBr hbs hss
            go_wp2
            go_loop [9] (fun q => ∃ j : Nat, j ≤ k ∧ q = .int .i64 j) (fun q => k - (intOf q).toNat)
            case atStart => exact ⟨0, by omega, rfl⟩
            case round =>
              obtain ⟨j, hj, rfl⟩ := hrel
              by_cases hjk : j < k
              · have hcA := hAs.cell (hAc j hjk)
                have hNj := hN j hjk
                obtain ⟨v, hv⟩ : ∃ v, Ls[j]? = some v := ⟨Ls[j]'(by omega), List.getElem?_eq_getElem (by omega)⟩
                obtain ⟨hh, cc, curL, rfl, hrL, hq1, hq2⟩ := hLo j v hv
                have hcM : ws.cell? ⟨M, j, none⟩ = some (.slice (some ⟨hh, 0, none⟩) (N j + 30) cc) := by
                  rw [hmv.cellAt j (by omega)]; exact hv
                have hMj := hMs j hjk
                have haj := had j hjk
                clear hLo hv
                go_wp2
                go_loop [11] (fun q => ∃ p : Nat, p ≤ N j ∧ q = .int .i64 p) (fun q => N j - (intOf q).toNat)
                case atStart => exact ⟨0, by omega, rfl⟩
                case round =>
                  obtain ⟨p, hp, rfl⟩ := hrel
                  by_cases hpn : p < N j
                  · obtain ⟨_, _, v1, c1, _, _, hv1⟩ := hMj p hpn
                    rw [(hv1 (.inl hjk)).1] at c1
                    have c2 := hrL.cell (hq1 p hpn)
                    have hai : ad j = some ⟨g j, 0, none⟩ := at_some haj (by omega)
                    rw [hai] at hcA
                    go_wp2
                    go_round
                    case rel => exact ⟨p + 1, by omega, by go_num⟩
                    case measure => simp [intOf]; omega
                  · go_wp2
                    go_loop [12] (fun q => ∃ p : Nat, p ≤ 30 ∧ q = .int .i64 p) (fun q => 30 - (intOf q).toNat)
                    case atStart => exact ⟨0, by omega, rfl⟩
                    case round =>
                      obtain ⟨p2, hp2, rfl⟩ := hrel
                      by_cases hpn2 : p2 < 30
                      · have c2 := hrL.cell (hq2 p2 hpn2)
                        go_wp2
                        go_round
                        case rel => exact ⟨p2 + 1, by omega, by go_num⟩
                        case measure => simp [intOf]; omega
                      · go_wp2
                        go_round
                        case rel => exact ⟨j + 1, by omega, by go_num⟩
                        case measure => simp [intOf]; omega
              · go_wp2
                go_ret
                exact ⟨rfl, BF⟩

end Go.Proofs.YtcmjneabcdpmoaaDoor.GramApart
