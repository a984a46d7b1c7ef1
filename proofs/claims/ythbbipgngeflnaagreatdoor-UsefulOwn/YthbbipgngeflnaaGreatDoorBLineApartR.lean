/-
  Texts that stand together: LineApartR.
-/
import Derived.Test.YthbbipgngeflnaaGreatDoorBGramLentG
import Derived.Test.YthbbipgngeflnaaGreatDoorBagUsefulRMath
import Derived.Test.YthbbipgngeflnaaGreatDoorBagOpRow
import Derived.OwnWalk
namespace Go.Proofs.YthbbipgngeflnaaGreatDoor.LineApartR
open Go.RowKit Go.Proofs.YthbbipgngeflnaaGreatDoor.GramMath Go.Proofs.YthbbipgngeflnaaGreatDoor.GramRow Go.Proofs.YthbbipgngeflnaaGreatDoor.GramApart
set_option linter.unusedVariables false
set_option linter.unusedSimpArgs false

theorem own_but {S : Nat → Prop} {w w' : World} {base : Nat} {e : TypeId} {size n : Nat} {v : Value} {xs : List Value} (h : w.ownsRow base e size v n xs) (hb : But S w w') (hs : ∀ k, base ≤ k → k < w.heap.size → ¬ S k) : w'.ownsRow base e size v n xs := by
  obtain ⟨h1, h | ⟨g, cap, cur, hv, hbb, hg, rest⟩⟩ := h
  · exact ⟨h1, .inl h⟩
  · have hlt := (Array.getElem?_eq_some_iff.1 hg).1
    exact ⟨h1, .inr ⟨g, cap, cur, hv, hbb, (hb.block g hlt (hs g hbb hlt)).trans hg, rest⟩⟩
theorem own_grown {w w' : World} {base base' : Nat} {e e' : TypeId} {size size' n k : Nat} {v u : Value} {xs ys : List Value} (h : w.ownsRow base e size v n xs) (hu : w.ownsRow base' e' size' u k ys) (hne : e ≠ e') (hg : w.grownBy w' u.ownBlock) : w'.ownsRow base e size v n xs := by
  obtain ⟨h1, h | ⟨g, cap, cur, hv, hbb, hr, rest⟩⟩ := h
  · exact ⟨h1, .inl h⟩
  · refine ⟨h1, .inr ⟨g, cap, cur, hv, hbb, ?_, rest⟩⟩
    have hrow : RowAt w g e cur := hr
    exact (hrow.grown hg (hrow.not_own hne hu))
theorem infoL : (Tryz.prog.info? 28).map (fun i => (i.zero, i.size, i.bytes)) = some (some (.slice none 0 0), 1, 24) := by kernel_rfl

abbrev mkI (j q : Nat) : Value := .int .i64 (1000 * (j : Int) + (q : Int))

theorem own_make {w : World} {base b c j n : Nat} {e : TypeId} {cur : Array Value} (hr : RowAt w b e cur) (hs : cur.size = c) (hn : n ≤ c) (hc : c ≤ maxLen) (hb : base ≤ b) (hm : ∀ q, q < n → w.cell? ⟨b, q, none⟩ = some (mkI j q)) : w.ownsRow base e 1 (.slice (some ⟨b, 0, none⟩) n c) n (markL (.int .i64) j n) := by
  refine ⟨by rw [markL_len, Nat.mul_one], .inr ⟨b, c, cur, rfl, hb, hr, hn, hc, by omega, ?_⟩⟩
  apply List.ext_getElem?
  intro q
  rw [Nat.mul_one, List.getElem?_take]
  by_cases hq : q < n
  · rw [if_pos hq, Array.getElem?_toList]
    obtain ⟨u, hu⟩ : ∃ u, cur[q]? = some u := ⟨cur[q]'(by omega), Array.getElem?_eq_getElem (by omega)⟩
    have h1 := hr.cell hu
    rw [hm q hq] at h1
    rw [hu, ← h1]
    simp [markL, hq]
  · rw [if_neg hq]
    simp [markL, hq]

/-- What is known while the k-th list is gone on with. -/
structure InL (B k gk Nk : Nat) (Hk : Prop) (ws wt : World) (p : Nat) (l : Value) : Prop where
  own : wt.ownsRow B 3 1 l (Nk + p) (markL (.int .i64) k Nk ++ moreL (.int .i64) k p)
  blk : ∀ b, l.ownBlock = some b → (b = gk ∧ Hk) ∨ ws.heap.size ≤ b
  but : But (fun b => b = gk ∧ Hk) ws wt
  mks : ∀ q, q < Nk → wt.cell? ⟨gk, q, none⟩ = some (mkI k q)

theorem InL.grow {B k gk Nk p : Nat} {Hk : Prop} {ws wt w' : World} {l l' : Value} {o : Obj} {row : Option Nat} (h : InL B k gk Nk Hk ws wt p l) (hg : (wt.alloc o).grownBy w' row) (hrow : ∀ b, row = some b → l.ownBlock = some b) (hlt : 0 < Nk → gk < ws.heap.size)
    (hown : w'.ownsRow B 3 1 l' (Nk + (p + 1)) (markL (.int .i64) k Nk ++ moreL (.int .i64) k (p + 1))) (hblk : ∀ b, l'.ownBlock = some b → row = some b ∨ wt.heap.size ≤ b) (hmv : ∀ b, row = some b → l'.ownBlock = some b) : InL B k gk Nk Hk ws w' (p + 1) l' := by
  have hs := h.but.size
  have hsz : (wt.alloc o).heap.size = wt.heap.size + 1 := by simp
  refine ⟨hown, fun b hb => ?_, ⟨?_, ?_, ?_, ?_, fun b hb hne => ?_⟩, fun q hq => ?_⟩
  · rcases hblk b hb with h1 | h1
    · exact h.blk b (hrow b h1)
    · exact .inr (by omega)
  · exact hg.os.trans h.but.os
  · exact hg.tape.trans h.but.tape
  · exact hg.output.trans h.but.output
  · have := hg.size; omega
  · have h1 : w'.heap[b]? = (wt.alloc o).heap[b]? := hg.block b (by omega) (fun e => by
      rcases h.blk b (hrow b e.symm) with h2 | h2
      · exact hne h2
      · omega)
    rw [h1, Below.heap_alloc wt o b (by omega)]
    exact h.but.block b hb hne
  · have hgl := hlt (by omega)
    by_cases e : row = some gk
    · rcases id hown with ⟨_, ⟨rfl, _⟩ | ⟨g', cap, cur, rfl, _⟩⟩
      · have := hmv gk e
        cases this
      · have e2 : g' = gk := by simpa [Value.ownBlock] using hmv gk e
        subst e2
        rw [hown.cellAt q (by omega), List.getElem?_append_left (by rw [markL_len]; exact hq)]
        simp [markL, hq]
    · have h1 : w'.cell? ⟨gk, q, none⟩ = (wt.alloc o).cell? ⟨gk, q, none⟩ := World.cell?_of_block (hg.block gk (by omega) (fun e2 => e e2.symm))
      rw [h1, World.cell?_of_block (Below.heap_alloc wt o gk (by omega))]
      exact h.mks q hq

/-- All below a block stays, and all that lay there but the lists themselves. -/
structure Kb (B m : Nat) (g : Nat → Nat) (ad : Nat → Option Addr) (w ws : World) : Prop where
  low : Below B w ws
  but : But (fun b => ∃ j, j < m ∧ ad j ≠ none ∧ b = g j) w ws
theorem Kb.refl (B m : Nat) (g : Nat → Nat) (ad : Nat → Option Addr) (w : World) : Kb B m g ad w w := ⟨Below.refl _ _, But.refl _ _⟩
theorem Kb.setCell {B m : Nat} {g : Nat → Nat} {ad : Nat → Option Addr} {w ws : World} (h : Kb B m g ad w ws) {i k : Nat} (hi : i < m) (ha : ad i ≠ none) (hB : B ≤ g i) (v : Value) : Kb B m g ad w (ws.setCell ⟨g i, k, none⟩ v) := by
  have h1 := h.low.setCell (p := ⟨g i, k, none⟩) hB v
  exact ⟨h1, h1.os, h1.tape, h1.output, h1.size, fun b hb hn => (Below.heap_setCell _ _ _ _ (fun e => hn ⟨i, hi, ha, e⟩)).trans (h.but.block b hb hn)⟩

/-- What is known between two lists. -/
structure Bet (B m A k : Nat) (g N C : Nat → Nat) (ad : Nat → Option Addr) (curA : Array Value) (w w1 ws : World) (mv : Value) (Ls : List Value) : Prop where
  len : Ls.length = k
  mv : ws.ownsRow w1.heap.size 28 1 mv k Ls
  row : RowAt ws A 28 curA
  lo : ∀ j v, Ls[j]? = some v → Longer (.int .i64) ws 3 j (N j) v ∧ ∀ b, v.ownBlock = some b → (b = g j ∧ ad j ≠ none) ∨ w1.heap.size ≤ b
  mks : ∀ j, j < m → ∀ q, q < N j → ws.cell? ⟨g j, q, none⟩ = some (mkI j q)
  own : ∀ j, k ≤ j → j < m → ws.ownsRow B 3 1 (.slice (ad j) (N j) (C j)) (N j) (markL (.int .i64) j (N j))
  bel : Kb B m g ad w ws
  w01 : w.heap.size ≤ w1.heap.size
  size : w1.heap.size ≤ ws.heap.size

theorem Bet.next {B m A k : Nat} {g N C : Nat → Nat} {ad : Nat → Option Addr} {curA : Array Value} {w w1 ws wt w3 : World} {mv mv' : Value} {Ls : List Value} {hh cc : Nat} {o : Obj} (h : Bet B m A k g N C ad curA w w1 ws mv Ls) (hk : k < m) (hi : InL B k (g k) (N k) (ad k ≠ none) ws wt 30 (.slice (some ⟨hh, 0, none⟩) (N k + 30) cc))
    (hown : w3.ownsRow w1.heap.size 28 1 mv' (k + 1) (Ls ++ [.slice (some ⟨hh, 0, none⟩) (N k + 30) cc])) (hg : (wt.alloc o).grownBy w3 mv.ownBlock) (hd : ∀ a, a < m → ∀ b, b < m → a ≠ b → ad a ≠ none → ad b ≠ none → g a ≠ g b) (hgl : ∀ j, j < m → ad j ≠ none → g j < w1.heap.size) (hgB : ∀ j, j < m → ad j ≠ none → B ≤ g j) (hAl : A < w1.heap.size) (hAg : ∀ j, j < m → ad j ≠ none → A ≠ g j) (hBw : B ≤ w1.heap.size) (had : ∀ j, j < m → (N j = 0 ∧ C j = 0 ∧ ad j = none) ∨ ad j = some ⟨g j, 0, none⟩) :
    Bet B m A (k + 1) g N C ad curA w w1 w3 mv' (Ls ++ [.slice (some ⟨hh, 0, none⟩) (N k + 30) cc]) := by
  have hNa : ∀ j, j < m → 0 < N j → ad j ≠ none := fun j hj h0 e => by
    rcases had j hj with h1 | h1
    · omega
    · rw [e] at h1; cases h1
  have hs := h.size
  have hst := hi.but.size
  have hmt : wt.ownsRow w1.heap.size 28 1 mv k Ls := own_but h.mv hi.but (fun b hb _ e => by have := hgl k hk e.2; omega)
  have hA1 : Below wt.heap.size wt (wt.alloc o) := (Below.refl _ _).alloc (Nat.le_refl _) _
  have hmt' := GramLent.own_below hmt hA1
  have hB3 : Below w1.heap.size wt w3 := (hA1.mono (by omega)).grown hg (by simp; omega) (fun j hj => (hmt'.lt j hj).1)
  have hLt : ∀ j v, Ls[j]? = some v → Longer (.int .i64) wt 3 j (N j) v ∧ ∀ b, v.ownBlock = some b → (b = g j ∧ ad j ≠ none) ∨ w1.heap.size ≤ b := fun j v hj => by
    obtain ⟨h1, h2⟩ := h.lo j v hj
    have hjk : j < k := by have := (List.getElem?_eq_some_iff.1 hj).1; have := h.len; omega
    refine ⟨?_, h2⟩
    obtain ⟨a, c, cur, rfl, hrow, rest⟩ := h1
    refine ⟨a, c, cur, rfl, hrow.but hi.but (fun e => ?_), rest⟩
    rcases h2 a rfl with h3 | h3
    · exact hd j (by omega) k hk (by omega) h3.2 e.2 (h3.1.symm.trans e.1)
    · have := hgl k hk e.2; omega
  refine ⟨by simp [h.len], hown, ?_, ?_, ?_, ?_, ?_, ?_, ?_⟩
  · exact (h.row.but hi.but (fun e => hAg k hk e.2 e.1)).below hB3 hAl
  · intro j v hj
    rcases Nat.lt_or_ge j Ls.length with hlt | hge
    · rw [List.getElem?_append_left hlt] at hj
      exact ⟨(hLt j v hj).1.grown (by decide) hmt _ hg, (hLt j v hj).2⟩
    · rw [List.getElem?_append_right hge] at hj
      have hz : j - Ls.length = 0 := by
        have := (List.getElem?_eq_some_iff.1 hj).1
        simp at this
        omega
      rw [hz] at hj
      simp at hj
      obtain rfl : j = k := by have := h.len; omega
      subst hj
      refine ⟨(longer_of hi.own).grown (by decide) hmt _ hg, fun b hb => ?_⟩
      rcases hi.blk b hb with h3 | h3
      · exact .inl h3
      · exact .inr (by omega)
  · intro j hj q hq
    rw [hB3.cell (p := ⟨g j, q, none⟩) (hgl j hj (hNa j hj (by omega)))]
    by_cases e : j = k
    · subst e
      exact hi.mks q hq
    · rw [hi.but.cell (p := ⟨g j, q, none⟩) (by have := hgl j hj (hNa j hj (by omega)); show g j < _; omega) (fun e2 => hd j hj k hk e (hNa j hj (by omega)) e2.2 e2.1)]
      exact h.mks j hj q hq
  · intro j hj hjm
    have h1 := h.own j (by omega) hjm
    have h2 : wt.ownsRow B 3 1 (.slice (ad j) (N j) (C j)) (N j) (markL (.int .i64) j (N j)) := by
      obtain ⟨e1, e2 | ⟨g', cap, cur, hv, hbb, hr, rest⟩⟩ := h1
      · exact ⟨e1, .inl e2⟩
      · refine ⟨e1, .inr ⟨g', cap, cur, hv, hbb, ?_, rest⟩⟩
        have hlt := (Array.getElem?_eq_some_iff.1 hr).1
        refine (hi.but.block g' hlt (fun e => ?_)).trans hr
        have e3 : ad j = some ⟨g', 0, none⟩ := by simpa using congrArg (fun v => match v with | Value.slice q _ _ => q | _ => none) hv
        have e5 : ad j ≠ none := by rw [e3]; simp
        rcases had j hjm with h4 | h4
        · exact e5 h4.2.2
        · rw [h4] at e3
          have e4 : g j = g' := by simpa using e3
          exact hd j hjm k hk (by omega) e5 e.2 (e4.trans e.1)
    exact own_grown (GramLent.own_below h2 hA1) hmt' (by decide) hg
  · have h1 := (h.bel.low.trans (hi.but.below (by omega) (fun b e => by rw [e.1]; exact hgB k hk e.2))).trans (hB3.mono hBw)
    refine ⟨h1, h1.os, h1.tape, h1.output, h1.size, fun b hb hn => ?_⟩
    have hw := h.w01
    have hws := h.bel.low.size
    rw [hB3.block b (by omega), hi.but.block b (by omega) (fun e => hn ⟨k, hk, e.2, e.1⟩)]
    exact h.bel.but.block b hb hn
  · exact h.w01
  · have := hB3.size; omega


def Blk (m : Nat) (g C : Nat → Nat) (ad : Nat → Option Addr) (w : World) : Prop := ∀ j, j < m → ad j ≠ none → ∃ cur, RowAt w (g j) 3 cur ∧ cur.size = C j

theorem Blk.store {m : Nat} {g C : Nat → Nat} {ad : Nat → Option Addr} {w : World} (h : Blk m g C ad w) {i k : Nat} {v : Value} (hi : i < m) (hN : ad i ≠ none) (hd : ∀ a, a < m → ∀ b, b < m → a ≠ b → ad a ≠ none → ad b ≠ none → g a ≠ g b) : Blk m g C ad (w.setCell ⟨g i, k, none⟩ v) := fun j hj hNj => by
  obtain ⟨cur, h1, h2⟩ := h j hj hNj
  by_cases e : j = i
  · subst e
    exact ⟨_, h1.set k v, by simpa using h2⟩
  · exact ⟨cur, h1.other (hd j hj i hi e hNj hN) k v, h2⟩

set_option maxRecDepth 100000 in
set_option maxHeartbeats 8000000 in
theorem apart_room_but (B m A cA : Nat) (g N C : Nat → Nat) (ad : Nat → Option Addr) (curA : Array Value) (w : World) (hm : m ≤ 1000) (hm0 : 0 < m) (hA : RowAt w A 28 curA) (hAc : ∀ j, j < m → curA[j]? = some (.slice (ad j) (N j) (C j)))
    (had : ∀ j, j < m → (N j = 0 ∧ C j = 0 ∧ ad j = none) ∨ ad j = some ⟨g j, 0, none⟩) (hO : ∀ j, j < m → ad j ≠ none → ∃ xs, w.ownsRow B 3 1 (.slice (some ⟨g j, 0, none⟩) (N j) (C j)) (N j) xs)
    (hd : ∀ a, a < m → ∀ b, b < m → a ≠ b → ad a ≠ none → ad b ≠ none → g a ≠ g b) (hN : ∀ j, j < m → N j ≤ 66000) (hAg : ∀ j, j < m → ad j ≠ none → A ≠ g j) (hBw : B ≤ w.heap.size) :
    Calls Tryz.prog 9 #[.slice (some ⟨A, 0, none⟩) m cA] w fun e w' => e = .returned (.bool true) ∧ Kb B m g ad w w' := by
  obtain ⟨i0, hi, hz0, hz1, hz2⟩ := info_parts GramLent.infoI
  obtain ⟨i1, hi1, hz3, hz4, hz5⟩ := info_parts infoL
  have hNa : ∀ j, j < m → 0 < N j → ad j ≠ none := fun j hj h0 e => by
    rcases had j hj with h1 | h1
    · omega
    · rw [e] at h1; cases h1
  have hdN : ∀ a, a < m → ∀ b, b < m → a ≠ b → 0 < N a → 0 < N b → g a ≠ g b := fun a ha b hb hne h1 h2 => hd a ha b hb hne (hNa a ha h1) (hNa b hb h2)
  have hgB : ∀ j, j < m → ad j ≠ none → B ≤ g j := fun j hj hNj => by
    obtain ⟨xs, h⟩ := hO j hj hNj
    obtain ⟨_, _, _, _, h, _⟩ := own_at h
    exact h
  have hCm : ∀ j, j < m → ad j ≠ none → N j ≤ C j ∧ C j ≤ maxLen := fun j hj hNj => by
    obtain ⟨xs, h⟩ := hO j hj hNj
    rcases h.2 with ⟨e, _⟩ | ⟨g', cap, cur, hv, _, _, h1, h2, _⟩
    · simp at e
    · have e : C j = cap := by simpa using congrArg (fun v => match v with | Value.slice _ _ c => c | _ => 0) hv
      rw [e]
      exact ⟨h1, h2⟩
  have hR : Marked (.int .i64) m g N w 0 0 := fun j hj q hq => by
    obtain ⟨xs, h⟩ := hO j hj (hNa j hj (by omega))
    obtain ⟨cur, hr, hs, hn, _, hx⟩ := own_at h
    obtain ⟨u, hu⟩ : ∃ u, cur[q]? = some u := ⟨cur[q]'(by omega), Array.getElem?_eq_getElem (by omega)⟩
    exact ⟨hr.frozen q, u, hr.cell hu, fun h => by omega⟩
  have hK0 : Hid (Blk m g C ad w) := fun j hj hNj => by
    obtain ⟨xs, h⟩ := hO j hj hNj
    obtain ⟨cur, hr, hs, _⟩ := own_at h
    exact ⟨cur, hr, hs⟩
  have haT : ∀ j, j < m → 0 < N j → ad j = some ⟨g j, 0, none⟩ := fun j hj hNj => by
    rcases had j hj with h | h
    · omega
    · exact h
  clear hO
  go_enter Tryz.func9, Tryz.ntmps9
  go_wp2
  go_loopw [3] (fun i wr => ∃ k : Nat, k ≤ m ∧ i = .int .i64 k ∧ Marked (.int .i64) m g N wr k 0 ∧ RowAt wr A 28 curA ∧ Hid (Kb B m g ad w wr) ∧ Hid (Blk m g C ad wr)) (fun i _ => m - (intOf i).toNat)
  case atStart => exact ⟨0, by omega, rfl, hR, hA, Kb.refl _ _ _ _ _, hK0⟩
  case round =>
    clear hK0
    obtain ⟨i, him, rfl, hM, hAr, hBr, hKr⟩ := hrel
    by_cases hlt : i < m
    · have hcA := hAr.cell (hAc i hlt)
      have hNi := hN i hlt
      go_wp2
      go_loopw [4] (fun q wr => ∃ k : Nat, k ≤ N i ∧ q = .int .i64 k ∧ Marked (.int .i64) m g N wr i k ∧ RowAt wr A 28 curA ∧ Hid (Kb B m g ad w wr) ∧ Hid (Blk m g C ad wr)) (fun q _ => N i - (intOf q).toNat)
      case atStart => exact ⟨0, by omega, rfl, hM, hAr, hBr, hKr⟩
      case round =>
        obtain ⟨k, hk, rfl, hM2, hA2, hB2, hK2⟩ := hrel
        have hcA2 := hA2.cell (hAc i hlt)
        by_cases hkl : k < N i
        · have hN0 : 0 < N i := by omega
          obtain ⟨hfk, old, hck, _⟩ := hM2 i hlt k hkl
          have hai : ad i = some ⟨g i, 0, none⟩ := haT i hlt hN0
          rw [hai] at hcA2
          have S1 := hM2.store hlt hkl hdN
          have hneA : A ≠ g i := hAg i hlt (hNa i hlt hN0)
          have S2 := hA2.other hneA k (.int .i64 (1000 * (i : Int) + (k : Int)))
          have S3 : Hid (Kb B m g ad w (wr.setCell ⟨g i, k, none⟩ (.int .i64 (1000 * (i : Int) + (k : Int))))) := hB2.out.setCell hlt (hNa i hlt hN0) (hgB i hlt (hNa i hlt hN0)) _
          have S4 : Hid (_) := hK2.out.store (k := k) (v := .int .i64 (1000 * (i : Int) + (k : Int))) hlt (hNa i hlt hN0) hd
          clear hM2 hA2 hB2 hM hAr hBr hcA hai hK2 hKr
          go_wp2
          go_roundw
          case rel => exact ⟨k + 1, by omega, by go_num, S1, S2, S3, S4⟩
          case measure => simp [intOf]; omega
        · obtain rfl : k = N i := by omega
          have S1 := hM2.next
          clear hM hAr hBr hcA hKr
          go_wp2
          go_roundw
          case rel => exact ⟨i + 1, by omega, by go_num, S1, hA2, hB2, hK2⟩
          case measure => simp [intOf]; omega
    · obtain rfl : i = m := by omega
      clear hR hA
      obtain ⟨w1, hw1⟩ : ∃ w1, w1 = wr := ⟨_, rfl⟩
      subst hw1
      have hgl : ∀ j, j < i → ad j ≠ none → g j < w1.heap.size := fun j hj hNj => by
        obtain ⟨cur, h1, _⟩ := hKr.out j hj hNj
        exact h1.lt
      have hAl := hAr.lt
      have hB1 : B ≤ w1.heap.size := Nat.le_trans hBw hBr.out.low.size
      have hmks : ∀ j, j < i → ∀ q, q < N j → w1.cell? ⟨g j, q, none⟩ = some (mkI j q) := fun j hj q hq => by
        obtain ⟨_, v, hv, hx⟩ := hM j hj q hq
        rw [hv, hx (.inl hj)]
      have hst : Hid (Bet B i A 0 g N C ad curA w w1 w1 (.slice none 0 0) []) := ⟨rfl, World.ownsRow_nil _ _ _ _, hAr, fun j v hj => by simp at hj, hmks, fun j _ hj => by
        rcases had j hj with h | h
        · rw [h.1, h.2.1, h.2.2]
          exact World.ownsRow_nil _ _ _ _
        · have h9 : ad j ≠ none := by rw [h]; simp
          obtain ⟨cur, h1, h2⟩ := hKr.out j hj h9
          rw [h]
          exact own_make h1 h2 (hCm j hj h9).1 (hCm j hj h9).2 (hgB j hj h9) (fun q hq => hmks j hj q hq), hBr.out, hBr.out.low.size, Nat.le_refl _⟩
      clear hM hAr hBr hKr hmks
      go_wp2
      go_loopw [5, 6] (fun mv q ws => ∃ (k : Nat) (Ls : List Value), k ≤ i ∧ q = .int .i64 k ∧ Hid (Bet B i A k g N C ad curA w w1 ws mv Ls)) (fun _ q _ => i - (intOf q).toNat)
      case atStart => exact ⟨0, [], by omega, rfl, hst⟩
      case round =>
        clear hst
        obtain ⟨ws, hws⟩ : ∃ ws, ws = wr := ⟨_, rfl⟩
        subst hws
        obtain ⟨k, Ls, hk, rfl, hBt⟩ := hrel
        have hss := hBt.out.size
        have hAs := hBt.out.row
        by_cases hki : k < i
        · have hcA := hAs.cell (hAc k hki)
          have hNk := hN k hki
          have hI0 : Hid (InL B k (g k) (N k) (ad k ≠ none) ws ws 0 (.slice (ad k) (N k) (C k))) := ⟨by simpa [moreL] using hBt.out.own k (Nat.le_refl _) hki, fun b hb => by
            rcases had k hki with h | h
            · rw [h.2.2] at hb; cases hb
            · have h9 : ad k ≠ none := by rw [h]; simp
              rw [h] at hb
              exact .inl ⟨by simpa [Value.ownBlock] using hb.symm, h9⟩, But.refl _ _, hBt.out.mks k hki⟩
          have hglk : 0 < N k → g k < ws.heap.size := fun h => Nat.lt_of_lt_of_le (hgl k hki (hNa k hki h)) hss
          go_wp2
          go_loopw [7, 8] (fun l q wt => ∃ (p : Nat), p ≤ 30 ∧ q = .int .i64 p ∧ Hid (InL B k (g k) (N k) (ad k ≠ none) ws wt p l)) (fun _ q _ => 30 - (intOf q).toNat)
          case atStart => exact ⟨0, by omega, rfl, hI0⟩
          case round =>
            clear hI0
            obtain ⟨p, hp, rfl, hI⟩ := hrel
            have hown := hI.out.own
            have hts := hI.out.but.size
            by_cases hp30 : p < 30
            · have hfin : Hid (∀ (l' : Value) (w2 : World) (row : Option Nat) (ob : Obj), (wr.alloc ob).grownBy w2 row → (∀ b, row = some b → Value.ownBlock u7 = some b) → w2.ownsRow B 3 1 l' (N k + p + 1) (markL (.int .i64) k (N k) ++ moreL (.int .i64) k p ++ [.int .i64 (500000 + 1000 * (k : Int) + (p : Int))]) → (∀ b, l'.ownBlock = some b → row = some b ∨ wr.heap.size ≤ b) → (∀ b, row = some b → l'.ownBlock = some b) → InL B k (g k) (N k) (ad k ≠ none) ws w2 (p + 1) l') := fun l' w2 row ob h1 h2 h3 h4 h5 => hI.out.grow h1 h2 hglk (by rw [moreL_succ, ← List.append_assoc]; exact h3) h4 h5
              rcases hown.2 with ⟨rfl, hz⟩ | ⟨gg, cap, cur, rfl, _, _, hcn, hcm, _⟩
              · have HN : Hid (N k = 0 ∧ p = 0) := ⟨by omega, by omega⟩
                clear hI hz hown
                go_wp2_with (at_builtin; refine wpList_append_grows _ rfl (.tmp 52) (.tmp 58) 28 rfl 3 i0 (.int .i64 0) 1 8 Tryz.underlying28 hi hz0 hz1 hz2 rfl (by decide) none 0 0 [] rfl (fun _ => ⟨rfl, rfl⟩) rfl (fun b hb => by cases hb) ⟨_, 0, none⟩ 1 1 [.int .i64 (500000 + 1000 * (k : Int) + (p : Int))] rfl rfl (cell_one_new _ _ _) (by simp [Value.oneCell']) (by omega) (by unfold maxLen; omega) (by omega) ?_; intro v2 w2 hown2 hgrow2)
                have hN2 : Hid (_) := hfin.out v2 w2 none _ hgrow2 (fun b hb => by cases hb) (by
                  have el : markL (.int .i64) k (N k) ++ moreL (.int .i64) k p = [] := by rw [HN.out.1, HN.out.2]; rfl
                  have en : N k + p + 1 = 0 + 1 := by rw [HN.out.1, HN.out.2]
                  rw [el, en]
                  exact own_base hown2 (by simp; omega)) (fun b hb => .inr (by have := (hown2.lt b hb).1; simp at this; omega)) (fun b hb => by cases hb)
                clear hown2 hgrow2 hfin
                go_roundw
                case rel => exact ⟨p + 1, by omega, by go_num, hN2⟩
                case measure => simp [intOf]; omega
              · by_cases hroom : N k + p + 1 ≤ cap
                · clear hI
                  go_wp2_with (at_builtin; refine wpList_append_fits _ rfl (.tmp 52) (.tmp 58) 28 rfl B 3 i0 1 Tryz.underlying28 hi hz1 gg (N k + p) cap _ rfl (hown.alloc _) ⟨_, 0, none⟩ 1 1 [.int .i64 (500000 + 1000 * (k : Int) + (p : Int))] rfl rfl (cell_one_new _ _ _) (by simp [Value.oneCell']) hroom ?_; intro w2 hown2 hgrow2)
                  have hN2 : Hid (_) := hfin.out _ _ _ _ hgrow2 (fun b hb => hb) hown2 (fun b hb => .inl hb) (fun b hb => hb)
                  clear hown2 hgrow2 hfin hown
                  go_roundw
                  case rel => exact ⟨p + 1, by omega, by go_num, hN2⟩
                  case measure => simp [intOf]; omega
                · clear hI
                  go_wp2_with (at_builtin; refine wpList_append_grows _ rfl (.tmp 52) (.tmp 58) 28 rfl 3 i0 (.int .i64 0) 1 8 Tryz.underlying28 hi hz0 hz1 hz2 rfl (by decide) (some ⟨gg, 0, none⟩) (N k + p) cap (markL (.int .i64) k (N k) ++ moreL (.int .i64) k p) rfl (fun h => by cases h) hown.1 (fun b hb j u hj => by cases hb; rw [Addr.add_lit, Nat.zero_add]; have hjl : j < N k + p := (by have := (List.getElem?_eq_some_iff.1 hj).1; simp [markL_len, moreL_len] at this; omega); have hc := (hown.cellAt j (by omega)).trans hj; rw [World.cell?_alloc_past _ _ _ (cell_lt hc)]; exact hc) ⟨_, 0, none⟩ 1 1 [.int .i64 (500000 + 1000 * (k : Int) + (p : Int))] rfl rfl (cell_one_new _ _ _) (by simp [Value.oneCell']) (by omega) (by unfold maxLen; omega) (by omega) ?_; intro v2 w2 hown2 hgrow2)
                  have hN2 : Hid (_) := hfin.out _ _ none _ hgrow2 (fun b hb => by cases hb) (own_base hown2 (by simp; omega)) (fun b hb => .inr (by have := (hown2.lt b hb).1; simp at this; omega)) (fun b hb => by cases hb)
                  clear hown2 hgrow2 hfin hown
                  go_roundw
                  case rel => exact ⟨p + 1, by omega, by go_num, hN2⟩
                  case measure => simp [intOf]; omega
            · obtain rfl : p = 30 := by omega
              obtain ⟨hh, cc, rfl⟩ := ownsRow_succ (k := N k + 29) hown
              have hmt : wr.ownsRow w1.heap.size 28 1 u5 k Ls := own_but hBt.out.mv hI.out.but (fun b hb _ e => by have := hgl k hki e.2; omega)
              have hfin : Hid (∀ (v3 : Value) (w3 : World) (ob : Obj), w3.ownsRow w1.heap.size 28 1 v3 (k + 1) (Ls ++ [.slice (some ⟨hh, 0, none⟩) (N k + 30) cc]) → (wr.alloc ob).grownBy w3 (Value.ownBlock u5) → Bet B i A (k + 1) g N C ad curA w w1 w3 v3 (Ls ++ [.slice (some ⟨hh, 0, none⟩) (N k + 30) cc])) := fun v3 w3 ob h1 h2 => hBt.out.next hki hI.out h1 h2 hd hgl hgB hAl hAg hB1 had
              clear hI hBt hown
              go_wp2_with (at_builtin; refine wpList_append_own _ rfl (.tmp 60) (.tmp 62) 36 rfl w1.heap.size 28 i1 (.slice none 0 0) 1 24 Tryz.underlying36 hi1 hz3 hz4 hz5 rfl (by decide) _ _ _ rfl (hmt.alloc _) ⟨_, 0, none⟩ 1 1 [.slice (some ⟨hh, 0, none⟩) (N k + 30) cc] rfl rfl (cell_one_new _ _ _) (by simp [Value.oneCell']) (by unfold maxLen; omega) (by omega) (by simp; omega) ?_; intro v3 w3 hown3 hgrow3 _)
              have hN2 : Hid (_) := hfin.out _ _ _ hown3 hgrow3
              clear hgrow3 hmt hown3 hfin
              go_wp2
              go_roundw
              case rel => exact ⟨k + 1, _, by omega, by go_num, hN2⟩
              case measure => simp [intOf]; omega
        · obtain rfl : k = i := by omega
          have BF := hBt.out.bel
          have hmv := hBt.out.mv
          have hLo := hBt.out.lo
          have hMs := hBt.out.mks
          have hLs := hBt.out.len
          obtain ⟨M, cM, rfl⟩ := ownsRow_succ (k := k - 1) (by rw [Nat.sub_add_cancel (by omega)]; exact hmv)
          rw [Nat.sub_add_cancel (by omega)] at hmv ⊢
          clear hBt hss
          go_wp2
          go_loop [9] (fun q => ∃ j : Nat, j ≤ k ∧ q = .int .i64 j) (fun q => k - (intOf q).toNat)
          case atStart => exact ⟨0, by omega, rfl⟩
          case round =>
            obtain ⟨j, hj, rfl⟩ := hrel
            by_cases hjk : j < k
            · have hcA := hAs.cell (hAc j hjk)
              have hNj := hN j hjk
              obtain ⟨v, hv⟩ : ∃ v, Ls[j]? = some v := ⟨Ls[j]'(by omega), List.getElem?_eq_getElem (by omega)⟩
              obtain ⟨hh, cc, curL, rfl, hrL, hq1, hq2⟩ := (hLo j v hv).1
              have hcM : ws.cell? ⟨M, j, none⟩ = some (.slice (some ⟨hh, 0, none⟩) (N j + 30) cc) := by
                rw [hmv.cellAt j (by omega)]; exact hv
              have hMj := hMs j hjk
              have haj := haT j hjk
              clear hLo hv
              go_wp2
              go_loop [11] (fun q => ∃ p : Nat, p ≤ N j ∧ q = .int .i64 p) (fun q => N j - (intOf q).toNat)
              case atStart => exact ⟨0, by omega, rfl⟩
              case round =>
                obtain ⟨p, hp, rfl⟩ := hrel
                by_cases hpn : p < N j
                · have c1 := hMj p hpn
                  have c2 := hrL.cell (hq1 p hpn)
                  have hai : ad j = some ⟨g j, 0, none⟩ := haj (by omega)
                  rw [hai] at hcA
                  go_wp2
                  go_round
                  case rel => exact ⟨p + 1, by omega, by go_num⟩
                  case measure => simp [intOf]; omega
                · go_wp2
                  go_loop [12] (fun q => ∃ p : Nat, p ≤ 30 ∧ q = .int .i64 p) (fun q => 30 - (intOf q).toNat)
                  case atStart => exact ⟨0, by omega, rfl⟩
                  case round =>
                    obtain ⟨p2, hp2, rfl⟩ := hrel
                    by_cases hpn2 : p2 < 30
                    · have c2 := hrL.cell (hq2 p2 hpn2)
                      go_wp2
                      go_round
                      case rel => exact ⟨p2 + 1, by omega, by go_num⟩
                      case measure => simp [intOf]; omega
                    · go_wp2
                      go_round
                      case rel => exact ⟨j + 1, by omega, by go_num⟩
                      case measure => simp [intOf]; omega
            · go_wp2
              go_ret
              exact ⟨rfl, BF⟩

end Go.Proofs.YthbbipgngeflnaaGreatDoor.LineApartR
