/-
  ApartInts of lists with room to spare.
-/
import Derived.Test.YtpdkjblmpgmcjaaDoorEndsChainsWalk
import Derived.Test.YtpdkjblmpgmcjaaDoorGramBut
import Derived.Test.YtpdkjblmpgmcjaaDoorGramApartS
import Derived.OwnWalk
namespace Go.Proofs.YtpdkjblmpgmcjaaDoor.EndsApart
open Go.RowKit Go.Proofs.YtpdkjblmpgmcjaaDoor.GramMath Go.Proofs.YtpdkjblmpgmcjaaDoor.GramRow Go.Proofs.YtpdkjblmpgmcjaaDoor.GramApart Go.Proofs.YtpdkjblmpgmcjaaDoor.EndsWays Go.Proofs.YtpdkjblmpgmcjaaDoor.EndsRRing
set_option linter.unusedVariables false

abbrev mkI (j q : Nat) : Value := .int .i64 (1000 * (j : Int) + (q : Int))

theorem own_make {w : World} {base b c j n : Nat} {e : TypeId} {cur : Array Value} (hr : RowAt w b e cur) (hs : cur.size = c) (hn : n ≤ c) (hc : c ≤ maxLen) (hb : base ≤ b) (hm : ∀ q, q < n → w.cell? ⟨b, q, none⟩ = some (mkI j q)) : w.ownsRow base e 1 (.slice (some ⟨b, 0, none⟩) n c) n (markL (.int .i64) j n) := by
  refine ⟨by rw [markL_len, Nat.mul_one], .inr ⟨b, c, cur, rfl, hb, hr, hn, hc, by omega, ?_⟩⟩
  apply List.ext_getElem?
  intro q
  rw [Nat.mul_one, List.getElem?_take]
  by_cases hq : q < n
  · rw [if_pos hq, Array.getElem?_toList]
    obtain ⟨u, hu⟩ : ∃ u, cur[q]? = some u := ⟨cur[q]'(by omega), Array.getElem?_eq_getElem (by omega)⟩
    have h1 := hr.cell hu
    rw [hm q hq] at h1
    rw [hu, ← h1]
    simp [markL, hq]
  · rw [if_neg hq]
    simp [markL, hq]

/-- What is known while the k-th list is gone on with. -/
structure InL (B k gk Nk : Nat) (ws wt : World) (p : Nat) (l : Value) : Prop where
  own : wt.ownsRow B 3 1 l (Nk + p) (markL (.int .i64) k Nk ++ moreL (.int .i64) k p)
  blk : ∀ b, l.ownBlock = some b → (b = gk ∧ 0 < Nk) ∨ ws.heap.size ≤ b
  but : But (fun b => b = gk ∧ 0 < Nk) ws wt
  mks : ∀ q, q < Nk → wt.cell? ⟨gk, q, none⟩ = some (mkI k q)

theorem InL.grow {B k gk Nk p : Nat} {ws wt w' : World} {l l' : Value} {o : Obj} {row : Option Nat} (h : InL B k gk Nk ws wt p l) (hg : (wt.alloc o).grownBy w' row) (hrow : ∀ b, row = some b → l.ownBlock = some b) (hlt : 0 < Nk → gk < ws.heap.size)
    (hown : w'.ownsRow B 3 1 l' (Nk + (p + 1)) (markL (.int .i64) k Nk ++ moreL (.int .i64) k (p + 1))) (hblk : ∀ b, l'.ownBlock = some b → row = some b ∨ wt.heap.size ≤ b) (hmv : ∀ b, row = some b → l'.ownBlock = some b) : InL B k gk Nk ws w' (p + 1) l' := by
  have hs := h.but.size
  have hsz : (wt.alloc o).heap.size = wt.heap.size + 1 := by simp
  refine ⟨hown, fun b hb => ?_, ⟨?_, ?_, ?_, ?_, fun b hb hne => ?_⟩, fun q hq => ?_⟩
  · rcases hblk b hb with h1 | h1
    · exact h.blk b (hrow b h1)
    · exact .inr (by omega)
  · exact hg.os.trans h.but.os
  · exact hg.tape.trans h.but.tape
  · exact hg.output.trans h.but.output
  · have := hg.size; omega
  · have h1 : w'.heap[b]? = (wt.alloc o).heap[b]? := hg.block b (by omega) (fun e => by
      rcases h.blk b (hrow b e.symm) with h2 | h2
      · exact hne h2
      · omega)
    rw [h1, Below.heap_alloc wt o b (by omega)]
    exact h.but.block b hb hne
  · have hgl := hlt (by omega)
    by_cases e : row = some gk
    · rcases id hown with ⟨_, ⟨rfl, _⟩ | ⟨g', cap, cur, rfl, _⟩⟩
      · have := hmv gk e
        cases this
      · have e2 : g' = gk := by simpa [Value.ownBlock] using hmv gk e
        subst e2
        rw [hown.cellAt q (by omega), List.getElem?_append_left (by rw [markL_len]; exact hq)]
        simp [markL, hq]
    · have h1 : w'.cell? ⟨gk, q, none⟩ = (wt.alloc o).cell? ⟨gk, q, none⟩ := World.cell?_of_block (hg.block gk (by omega) (fun e2 => e e2.symm))
      rw [h1, World.cell?_of_block (Below.heap_alloc wt o gk (by omega))]
      exact h.mks q hq

/-- What is known between two lists. -/
structure Bet (B m A k : Nat) (g N C : Nat → Nat) (ad : Nat → Option Addr) (curA : Array Value) (w w1 ws : World) (mv : Value) (Ls : List Value) : Prop where
  len : Ls.length = k
  mv : ws.ownsRow w1.heap.size 27 1 mv k Ls
  row : RowAt ws A 27 curA
  lo : ∀ j v, Ls[j]? = some v → Longer (.int .i64) ws 3 j (N j) v ∧ ∀ b, v.ownBlock = some b → (b = g j ∧ 0 < N j) ∨ w1.heap.size ≤ b
  mks : ∀ j, j < m → ∀ q, q < N j → ws.cell? ⟨g j, q, none⟩ = some (mkI j q)
  own : ∀ j, k ≤ j → j < m → ws.ownsRow B 3 1 (.slice (ad j) (N j) (C j)) (N j) (markL (.int .i64) j (N j))
  bel : Below B w ws
  size : w1.heap.size ≤ ws.heap.size

theorem Bet.next {B m A k : Nat} {g N C : Nat → Nat} {ad : Nat → Option Addr} {curA : Array Value} {w w1 ws wt w3 : World} {mv mv' : Value} {Ls : List Value} {hh cc : Nat} {o : Obj} (h : Bet B m A k g N C ad curA w w1 ws mv Ls) (hk : k < m) (hi : InL B k (g k) (N k) ws wt 30 (.slice (some ⟨hh, 0, none⟩) (N k + 30) cc))
    (hown : w3.ownsRow w1.heap.size 27 1 mv' (k + 1) (Ls ++ [.slice (some ⟨hh, 0, none⟩) (N k + 30) cc])) (hg : (wt.alloc o).grownBy w3 mv.ownBlock) (hd : ∀ a, a < m → ∀ b, b < m → a ≠ b → 0 < N a → 0 < N b → g a ≠ g b) (hgl : ∀ j, j < m → 0 < N j → g j < w1.heap.size) (hgB : ∀ j, j < m → 0 < N j → B ≤ g j) (hAl : A < w1.heap.size) (hAg : ∀ j, j < m → 0 < N j → A ≠ g j) (hBw : B ≤ w1.heap.size) (had : ∀ j, j < m → (N j = 0 ∧ ad j = none) ∨ (0 < N j ∧ ad j = some ⟨g j, 0, none⟩)) :
    Bet B m A (k + 1) g N C ad curA w w1 w3 mv' (Ls ++ [.slice (some ⟨hh, 0, none⟩) (N k + 30) cc]) := by
  have hs := h.size
  have hst := hi.but.size
  have hmt : wt.ownsRow w1.heap.size 27 1 mv k Ls := own_but h.mv hi.but (fun b hb _ e => by have := hgl k hk e.2; omega)
  have hA1 : Below wt.heap.size wt (wt.alloc o) := (Below.refl _ _).alloc (Nat.le_refl _) _
  have hmt' := GramLent.own_below hmt hA1
  have hB3 : Below w1.heap.size wt w3 := (hA1.mono (by omega)).grown hg (by simp; omega) (fun j hj => (hmt'.lt j hj).1)
  have hLt : ∀ j v, Ls[j]? = some v → Longer (.int .i64) wt 3 j (N j) v ∧ ∀ b, v.ownBlock = some b → (b = g j ∧ 0 < N j) ∨ w1.heap.size ≤ b := fun j v hj => by
    obtain ⟨h1, h2⟩ := h.lo j v hj
    have hjk : j < k := by have := (List.getElem?_eq_some_iff.1 hj).1; have := h.len; omega
    refine ⟨?_, h2⟩
    obtain ⟨a, c, cur, rfl, hrow, rest⟩ := h1
    refine ⟨a, c, cur, rfl, hrow.but hi.but (fun e => ?_), rest⟩
    rcases h2 a rfl with h3 | h3
    · exact hd j (by omega) k hk (by omega) h3.2 e.2 (h3.1.symm.trans e.1)
    · have := hgl k hk e.2; omega
  refine ⟨by simp [h.len], hown, ?_, ?_, ?_, ?_, ?_, ?_⟩
  · exact (h.row.but hi.but (fun e => hAg k hk e.2 e.1)).below hB3 hAl
  · intro j v hj
    rcases Nat.lt_or_ge j Ls.length with hlt | hge
    · rw [List.getElem?_append_left hlt] at hj
      exact ⟨(hLt j v hj).1.grown (by decide) hmt _ hg, (hLt j v hj).2⟩
    · rw [List.getElem?_append_right hge] at hj
      have hz : j - Ls.length = 0 := by
        have := (List.getElem?_eq_some_iff.1 hj).1
        simp at this
        omega
      rw [hz] at hj
      simp at hj
      obtain rfl : j = k := by have := h.len; omega
      subst hj
      refine ⟨(longer_of hi.own).grown (by decide) hmt _ hg, fun b hb => ?_⟩
      rcases hi.blk b hb with h3 | h3
      · exact .inl h3
      · exact .inr (by omega)
  · intro j hj q hq
    rw [hB3.cell (p := ⟨g j, q, none⟩) (hgl j hj (by omega))]
    by_cases e : j = k
    · subst e
      exact hi.mks q hq
    · rw [hi.but.cell (p := ⟨g j, q, none⟩) (by have := hgl j hj (by omega); show g j < _; omega) (fun e2 => hd j hj k hk e (by omega) e2.2 e2.1)]
      exact h.mks j hj q hq
  · intro j hj hjm
    have h1 := h.own j (by omega) hjm
    have h2 : wt.ownsRow B 3 1 (.slice (ad j) (N j) (C j)) (N j) (markL (.int .i64) j (N j)) := by
      obtain ⟨e1, e2 | ⟨g', cap, cur, hv, hbb, hr, rest⟩⟩ := h1
      · exact ⟨e1, .inl e2⟩
      · refine ⟨e1, .inr ⟨g', cap, cur, hv, hbb, ?_, rest⟩⟩
        have hlt := (Array.getElem?_eq_some_iff.1 hr).1
        refine (hi.but.block g' hlt (fun e => ?_)).trans hr
        have e3 : ad j = some ⟨g', 0, none⟩ := by simpa using congrArg (fun v => match v with | Value.slice q _ _ => q | _ => none) hv
        rcases had j hjm with h4 | h4
        · rw [h4.2] at e3; cases e3
        · rw [h4.2] at e3
          have e4 : g j = g' := by simpa using e3
          exact hd j hjm k hk (by omega) h4.1 e.2 (e4.trans e.1)
    exact own_grown (GramLent.own_below h2 hA1) hmt' (by decide) hg
  · exact (h.bel.trans (hi.but.below (by omega) (fun b e => by rw [e.1]; exact hgB k hk e.2))).trans (hB3.mono hBw)
  · have := hB3.size; omega

end Go.Proofs.YtpdkjblmpgmcjaaDoor.EndsApart

namespace Go.Proofs.YtpdkjblmpgmcjaaDoor.EndsApart
open Go.RowKit Go.Proofs.YtpdkjblmpgmcjaaDoor.GramMath Go.Proofs.YtpdkjblmpgmcjaaDoor.GramRow Go.Proofs.YtpdkjblmpgmcjaaDoor.GramApart Go.Proofs.YtpdkjblmpgmcjaaDoor.EndsWays Go.Proofs.YtpdkjblmpgmcjaaDoor.EndsRRing Go.Proofs.YtpdkjblmpgmcjaaDoor.EndsSearch Go.Proofs.YtpdkjblmpgmcjaaDoor.EndsConcat
set_option linter.unusedVariables false

def Blk (m : Nat) (g N C : Nat → Nat) (w : World) : Prop := ∀ j, j < m → 0 < N j → ∃ cur, RowAt w (g j) 3 cur ∧ cur.size = C j

theorem Blk.store {m : Nat} {g N C : Nat → Nat} {w : World} (h : Blk m g N C w) {i k : Nat} {v : Value} (hi : i < m) (hN : 0 < N i) (hd : ∀ a, a < m → ∀ b, b < m → a ≠ b → 0 < N a → 0 < N b → g a ≠ g b) : Blk m g N C (w.setCell ⟨g i, k, none⟩ v) := fun j hj hNj => by
  obtain ⟨cur, h1, h2⟩ := h j hj hNj
  by_cases e : j = i
  · subst e
    exact ⟨_, h1.set k v, by simpa using h2⟩
  · exact ⟨cur, h1.other (hd j hj i hi e hNj hN) k v, h2⟩

set_option maxRecDepth 100000 in
set_option maxHeartbeats 8000000 in
theorem apart_room (B m A cA : Nat) (g N C : Nat → Nat) (ad : Nat → Option Addr) (curA : Array Value) (w : World) (hm : m ≤ 1000) (hm0 : 0 < m) (hA : RowAt w A 27 curA) (hAc : ∀ j, j < m → curA[j]? = some (.slice (ad j) (N j) (C j)))
    (had : ∀ j, j < m → (N j = 0 ∧ ad j = none) ∨ (0 < N j ∧ ad j = some ⟨g j, 0, none⟩)) (hO : ∀ j, j < m → 0 < N j → ∃ xs, w.ownsRow B 3 1 (.slice (some ⟨g j, 0, none⟩) (N j) (C j)) (N j) xs) (hC0 : ∀ j, j < m → N j = 0 → C j = 0)
    (hd : ∀ a, a < m → ∀ b, b < m → a ≠ b → 0 < N a → 0 < N b → g a ≠ g b) (hN : ∀ j, j < m → N j ≤ 60) (hAg : ∀ j, j < m → 0 < N j → A ≠ g j) (hBw : B ≤ w.heap.size) :
    Calls Tryd.prog 14 #[.slice (some ⟨A, 0, none⟩) m cA] w fun e w' => e = .returned (.bool true) ∧ Below B w w' := by
  obtain ⟨i0, hi, hz0, hz1, hz2⟩ := info_parts GramLent.infoI
  obtain ⟨i1, hi1, hz3, hz4, hz5⟩ := info_parts infoL
  have hgB : ∀ j, j < m → 0 < N j → B ≤ g j := fun j hj hNj => by
    obtain ⟨xs, h⟩ := hO j hj hNj
    obtain ⟨_, _, _, _, h, _⟩ := own_at h
    exact h
  have hCm : ∀ j, j < m → 0 < N j → N j ≤ C j ∧ C j ≤ maxLen := fun j hj hNj => by
    obtain ⟨xs, h⟩ := hO j hj hNj
    rcases h.2 with ⟨e, _⟩ | ⟨g', cap, cur, hv, _, _, h1, h2, _⟩
    · simp at e
    · have e : C j = cap := by simpa using congrArg (fun v => match v with | Value.slice _ _ c => c | _ => 0) hv
      rw [e]
      exact ⟨h1, h2⟩
  have hR : Marked (.int .i64) m g N w 0 0 := fun j hj q hq => by
    obtain ⟨xs, h⟩ := hO j hj (by omega)
    obtain ⟨cur, hr, hs, hn, _, hx⟩ := own_at h
    obtain ⟨u, hu⟩ : ∃ u, cur[q]? = some u := ⟨cur[q]'(by omega), Array.getElem?_eq_getElem (by omega)⟩
    exact ⟨hr.frozen q, u, hr.cell hu, fun h => by omega⟩
  have hK0 : Hid (Blk m g N C w) := fun j hj hNj => by
    obtain ⟨xs, h⟩ := hO j hj hNj
    obtain ⟨cur, hr, hs, _⟩ := own_at h
    exact ⟨cur, hr, hs⟩
  have haT : ∀ j, j < m → 0 < N j → ad j = some ⟨g j, 0, none⟩ := fun j hj hNj => by
    rcases had j hj with h | h
    · omega
    · exact h.2
  clear hO
  go_enter Tryd.func14, Tryd.ntmps14
  go_wp2
  go_loopw [3] (fun i wr => ∃ k : Nat, k ≤ m ∧ i = .int .i64 k ∧ Marked (.int .i64) m g N wr k 0 ∧ RowAt wr A 27 curA ∧ Below B w wr ∧ Hid (Blk m g N C wr)) (fun i _ => m - (intOf i).toNat)
  case atStart => exact ⟨0, by omega, rfl, hR, hA, Below.refl _ _, hK0⟩
  case round =>
    clear hK0
    obtain ⟨i, him, rfl, hM, hAr, hBr, hKr⟩ := hrel
    by_cases hlt : i < m
    · have hcA := hAr.cell (hAc i hlt)
      have hNi := hN i hlt
      go_wp2
      go_loopw [4] (fun q wr => ∃ k : Nat, k ≤ N i ∧ q = .int .i64 k ∧ Marked (.int .i64) m g N wr i k ∧ RowAt wr A 27 curA ∧ Below B w wr ∧ Hid (Blk m g N C wr)) (fun q _ => N i - (intOf q).toNat)
      case atStart => exact ⟨0, by omega, rfl, hM, hAr, hBr, hKr⟩
      case round =>
        obtain ⟨k, hk, rfl, hM2, hA2, hB2, hK2⟩ := hrel
        have hcA2 := hA2.cell (hAc i hlt)
        by_cases hkl : k < N i
        · have hN0 : 0 < N i := by omega
          obtain ⟨hfk, old, hck, _⟩ := hM2 i hlt k hkl
          have hai : ad i = some ⟨g i, 0, none⟩ := haT i hlt hN0
          rw [hai] at hcA2
          have S1 := hM2.store hlt hkl hd
          have hneA : A ≠ g i := hAg i hlt hN0
          have S2 := hA2.other hneA k (.int .i64 (1000 * (i : Int) + (k : Int)))
          have S3 : Below B w (wr.setCell ⟨g i, k, none⟩ (.int .i64 (1000 * (i : Int) + (k : Int)))) := hB2.setCell (hgB i hlt hN0) _
          have S4 : Hid (_) := hK2.out.store (k := k) (v := .int .i64 (1000 * (i : Int) + (k : Int))) hlt hN0 hd
          clear hM2 hA2 hB2 hM hAr hBr hcA hai hK2 hKr
          go_wp2
          go_roundw
          case rel => exact ⟨k + 1, by omega, by go_num, S1, S2, S3, S4⟩
          case measure => simp [intOf]; omega
        · obtain rfl : k = N i := by omega
          have S1 := hM2.next
          clear hM hAr hBr hcA hKr
          go_wp2
          go_roundw
          case rel => exact ⟨i + 1, by omega, by go_num, S1, hA2, hB2, hK2⟩
          case measure => simp [intOf]; omega
    · obtain rfl : i = m := by omega
      clear hR hA
      obtain ⟨w1, hw1⟩ : ∃ w1, w1 = wr := ⟨_, rfl⟩
      subst hw1
      have hgl : ∀ j, j < i → 0 < N j → g j < w1.heap.size := fun j hj hNj => by
        obtain ⟨_, v, hv, _⟩ := hM j hj 0 hNj
        exact cell_lt hv
      have hAl := hAr.lt
      have hB1 : B ≤ w1.heap.size := Nat.le_trans hBw hBr.size
      have hmks : ∀ j, j < i → ∀ q, q < N j → w1.cell? ⟨g j, q, none⟩ = some (mkI j q) := fun j hj q hq => by
        obtain ⟨_, v, hv, hx⟩ := hM j hj q hq
        rw [hv, hx (.inl hj)]
      have hst : Hid (Bet B i A 0 g N C ad curA w w1 w1 (.slice none 0 0) []) := ⟨rfl, World.ownsRow_nil _ _ _ _, hAr, fun j v hj => by simp at hj, hmks, fun j _ hj => by
        rcases had j hj with h | h
        · rw [h.1, h.2, hC0 j hj h.1]
          exact World.ownsRow_nil _ _ _ _
        · obtain ⟨cur, h1, h2⟩ := hKr.out j hj h.1
          rw [h.2]
          exact own_make h1 h2 (hCm j hj h.1).1 (hCm j hj h.1).2 (hgB j hj h.1) (fun q hq => hmks j hj q hq), hBr, Nat.le_refl _⟩
      clear hM hAr hBr hKr hmks
      go_wp2
      go_loopw [5, 6] (fun mv q ws => ∃ (k : Nat) (Ls : List Value), k ≤ i ∧ q = .int .i64 k ∧ Hid (Bet B i A k g N C ad curA w w1 ws mv Ls)) (fun _ q _ => i - (intOf q).toNat)
      case atStart => exact ⟨0, [], by omega, rfl, hst⟩
      case round =>
        clear hst
        obtain ⟨ws, hws⟩ : ∃ ws, ws = wr := ⟨_, rfl⟩
        subst hws
        obtain ⟨k, Ls, hk, rfl, hBt⟩ := hrel
        have hss := hBt.out.size
        have hAs := hBt.out.row
        by_cases hki : k < i
        · have hcA := hAs.cell (hAc k hki)
          have hNk := hN k hki
          have hI0 : Hid (InL B k (g k) (N k) ws ws 0 (.slice (ad k) (N k) (C k))) := ⟨by simpa [moreL] using hBt.out.own k (Nat.le_refl _) hki, fun b hb => by
            rcases had k hki with h | h
            · rw [h.2] at hb; cases hb
            · rw [h.2] at hb
              exact .inl ⟨by simpa [Value.ownBlock] using hb.symm, h.1⟩, But.refl _ _, hBt.out.mks k hki⟩
          have hglk : 0 < N k → g k < ws.heap.size := fun h => Nat.lt_of_lt_of_le (hgl k hki h) hss
          go_wp2
          go_loopw [7, 8] (fun l q wt => ∃ (p : Nat), p ≤ 30 ∧ q = .int .i64 p ∧ Hid (InL B k (g k) (N k) ws wt p l)) (fun _ q _ => 30 - (intOf q).toNat)
          case atStart => exact ⟨0, by omega, rfl, hI0⟩
          case round =>
            clear hI0
            obtain ⟨p, hp, rfl, hI⟩ := hrel
            have hown := hI.out.own
            have hts := hI.out.but.size
            by_cases hp30 : p < 30
            · have hfin : Hid (∀ (l' : Value) (w2 : World) (row : Option Nat) (ob : Obj), (wr.alloc ob).grownBy w2 row → (∀ b, row = some b → Value.ownBlock u7 = some b) → w2.ownsRow B 3 1 l' (N k + p + 1) (markL (.int .i64) k (N k) ++ moreL (.int .i64) k p ++ [.int .i64 (500000 + 1000 * (k : Int) + (p : Int))]) → (∀ b, l'.ownBlock = some b → row = some b ∨ wr.heap.size ≤ b) → (∀ b, row = some b → l'.ownBlock = some b) → InL B k (g k) (N k) ws w2 (p + 1) l') := fun l' w2 row ob h1 h2 h3 h4 h5 => hI.out.grow h1 h2 hglk (by rw [moreL_succ, ← List.append_assoc]; exact h3) h4 h5
              rcases hown.2 with ⟨rfl, hz⟩ | ⟨gg, cap, cur, rfl, _, _, hcn, hcm, _⟩
              · have HN : Hid (N k = 0 ∧ p = 0) := ⟨by omega, by omega⟩
                clear hI hz hown
                go_wp2_with (at_builtin; refine wpList_append_grows _ rfl (.tmp 52) (.tmp 58) 27 rfl 3 i0 (.int .i64 0) 1 8 Tryd.underlying27 hi hz0 hz1 hz2 rfl (by decide) none 0 0 [] rfl (fun _ => ⟨rfl, rfl⟩) rfl (fun b hb => by cases hb) ⟨_, 0, none⟩ 1 1 [.int .i64 (500000 + 1000 * (k : Int) + (p : Int))] rfl rfl (cell_one_new _ _ _) (by simp [Value.oneCell']) (by omega) (by unfold maxLen; omega) (by omega) ?_; intro v2 w2 hown2 hgrow2)
                have hN2 : Hid (_) := hfin.out v2 w2 none _ hgrow2 (fun b hb => by cases hb) (by
                  have el : markL (.int .i64) k (N k) ++ moreL (.int .i64) k p = [] := by rw [HN.out.1, HN.out.2]; rfl
                  have en : N k + p + 1 = 0 + 1 := by rw [HN.out.1, HN.out.2]
                  rw [el, en]
                  exact own_base hown2 (by simp; omega)) (fun b hb => .inr (by have := (hown2.lt b hb).1; simp at this; omega)) (fun b hb => by cases hb)
                clear hown2 hgrow2 hfin
                go_roundw
                case rel => exact ⟨p + 1, by omega, by go_num, hN2⟩
                case measure => simp [intOf]; omega
              · by_cases hroom : N k + p + 1 ≤ cap
                · clear hI
                  go_wp2_with (at_builtin; refine wpList_append_fits _ rfl (.tmp 52) (.tmp 58) 27 rfl B 3 i0 1 Tryd.underlying27 hi hz1 gg (N k + p) cap _ rfl (hown.alloc _) ⟨_, 0, none⟩ 1 1 [.int .i64 (500000 + 1000 * (k : Int) + (p : Int))] rfl rfl (cell_one_new _ _ _) (by simp [Value.oneCell']) hroom ?_; intro w2 hown2 hgrow2)
                  have hN2 : Hid (_) := hfin.out _ _ _ _ hgrow2 (fun b hb => hb) hown2 (fun b hb => .inl hb) (fun b hb => hb)
                  clear hown2 hgrow2 hfin hown
                  go_roundw
                  case rel => exact ⟨p + 1, by omega, by go_num, hN2⟩
                  case measure => simp [intOf]; omega
                · clear hI
                  go_wp2_with (at_builtin; refine wpList_append_grows _ rfl (.tmp 52) (.tmp 58) 27 rfl 3 i0 (.int .i64 0) 1 8 Tryd.underlying27 hi hz0 hz1 hz2 rfl (by decide) (some ⟨gg, 0, none⟩) (N k + p) cap (markL (.int .i64) k (N k) ++ moreL (.int .i64) k p) rfl (fun h => by cases h) hown.1 (fun b hb j u hj => by cases hb; rw [Addr.add_lit, Nat.zero_add]; have hjl : j < N k + p := (by have := (List.getElem?_eq_some_iff.1 hj).1; simp [markL_len, moreL_len] at this; omega); have hc := (hown.cellAt j (by omega)).trans hj; rw [World.cell?_alloc_past _ _ _ (cell_lt hc)]; exact hc) ⟨_, 0, none⟩ 1 1 [.int .i64 (500000 + 1000 * (k : Int) + (p : Int))] rfl rfl (cell_one_new _ _ _) (by simp [Value.oneCell']) (by omega) (by unfold maxLen; omega) (by omega) ?_; intro v2 w2 hown2 hgrow2)
                  have hN2 : Hid (_) := hfin.out _ _ none _ hgrow2 (fun b hb => by cases hb) (own_base hown2 (by simp; omega)) (fun b hb => .inr (by have := (hown2.lt b hb).1; simp at this; omega)) (fun b hb => by cases hb)
                  clear hown2 hgrow2 hfin hown
                  go_roundw
                  case rel => exact ⟨p + 1, by omega, by go_num, hN2⟩
                  case measure => simp [intOf]; omega
            · obtain rfl : p = 30 := by omega
              obtain ⟨hh, cc, rfl⟩ := ownsRow_succ (k := N k + 29) hown
              have hmt : wr.ownsRow w1.heap.size 27 1 u5 k Ls := own_but hBt.out.mv hI.out.but (fun b hb _ e => by have := hgl k hki e.2; omega)
              have hfin : Hid (∀ (v3 : Value) (w3 : World) (ob : Obj), w3.ownsRow w1.heap.size 27 1 v3 (k + 1) (Ls ++ [.slice (some ⟨hh, 0, none⟩) (N k + 30) cc]) → (wr.alloc ob).grownBy w3 (Value.ownBlock u5) → Bet B i A (k + 1) g N C ad curA w w1 w3 v3 (Ls ++ [.slice (some ⟨hh, 0, none⟩) (N k + 30) cc])) := fun v3 w3 ob h1 h2 => hBt.out.next hki hI.out h1 h2 hd hgl hgB hAl hAg hB1 had
              clear hI hBt hown
              go_wp2_with (at_builtin; refine wpList_append_own _ rfl (.tmp 60) (.tmp 62) 40 rfl w1.heap.size 27 i1 (.slice none 0 0) 1 24 Tryd.underlying40 hi1 hz3 hz4 hz5 rfl (by decide) _ _ _ rfl (hmt.alloc _) ⟨_, 0, none⟩ 1 1 [.slice (some ⟨hh, 0, none⟩) (N k + 30) cc] rfl rfl (cell_one_new _ _ _) (by simp [Value.oneCell']) (by unfold maxLen; omega) (by omega) (by simp; omega) ?_; intro v3 w3 hown3 hgrow3 _)
              have hN2 : Hid (_) := hfin.out _ _ _ hown3 hgrow3
              clear hgrow3 hmt hown3 hfin
              go_wp2
              go_roundw
              case rel => exact ⟨k + 1, _, by omega, by go_num, hN2⟩
              case measure => simp [intOf]; omega
        · obtain rfl : k = i := by omega
          have BF := hBt.out.bel
          have hmv := hBt.out.mv
          have hLo := hBt.out.lo
          have hMs := hBt.out.mks
          have hLs := hBt.out.len
          obtain ⟨M, cM, rfl⟩ := ownsRow_succ (k := k - 1) (by rw [Nat.sub_add_cancel (by omega)]; exact hmv)
          rw [Nat.sub_add_cancel (by omega)] at hmv ⊢
          clear hBt hss
          go_wp2
          go_loop [9] (fun q => ∃ j : Nat, j ≤ k ∧ q = .int .i64 j) (fun q => k - (intOf q).toNat)
          case atStart => exact ⟨0, by omega, rfl⟩
          case round =>
            obtain ⟨j, hj, rfl⟩ := hrel
            by_cases hjk : j < k
            · have hcA := hAs.cell (hAc j hjk)
              have hNj := hN j hjk
              obtain ⟨v, hv⟩ : ∃ v, Ls[j]? = some v := ⟨Ls[j]'(by omega), List.getElem?_eq_getElem (by omega)⟩
              obtain ⟨hh, cc, curL, rfl, hrL, hq1, hq2⟩ := (hLo j v hv).1
              have hcM : ws.cell? ⟨M, j, none⟩ = some (.slice (some ⟨hh, 0, none⟩) (N j + 30) cc) := by
                rw [hmv.cellAt j (by omega)]; exact hv
              have hMj := hMs j hjk
              have haj := haT j hjk
              clear hLo hv
              go_wp2
              go_loop [11] (fun q => ∃ p : Nat, p ≤ N j ∧ q = .int .i64 p) (fun q => N j - (intOf q).toNat)
              case atStart => exact ⟨0, by omega, rfl⟩
              case round =>
                obtain ⟨p, hp, rfl⟩ := hrel
                by_cases hpn : p < N j
                · have c1 := hMj p hpn
                  have c2 := hrL.cell (hq1 p hpn)
                  have hai : ad j = some ⟨g j, 0, none⟩ := haj (by omega)
                  rw [hai] at hcA
                  go_wp2
                  go_round
                  case rel => exact ⟨p + 1, by omega, by go_num⟩
                  case measure => simp [intOf]; omega
                · go_wp2
                  go_loop [12] (fun q => ∃ p : Nat, p ≤ 30 ∧ q = .int .i64 p) (fun q => 30 - (intOf q).toNat)
                  case atStart => exact ⟨0, by omega, rfl⟩
                  case round =>
                    obtain ⟨p2, hp2, rfl⟩ := hrel
                    by_cases hpn2 : p2 < 30
                    · have c2 := hrL.cell (hq2 p2 hpn2)
                      go_wp2
                      go_round
                      case rel => exact ⟨p2 + 1, by omega, by go_num⟩
                      case measure => simp [intOf]; omega
                    · go_wp2
                      go_round
                      case rel => exact ⟨j + 1, by omega, by go_num⟩
                      case measure => simp [intOf]; omega
            · go_wp2
              go_ret
              exact ⟨rfl, BF⟩

theorem chv_parts {B : Nat} {W : World} {v : Value} {o : Option (List Int)} (h : ChV B W v o) (hl : ∀ c, o = some c → 0 < c.length ∧ c.length ≤ 60) : ∃ ad N C g, v = .slice ad N C ∧ ((N = 0 ∧ ad = none) ∨ (0 < N ∧ ad = some ⟨g, 0, none⟩)) ∧ (0 < N → ∃ xs, W.ownsRow B 3 1 (.slice (some ⟨g, 0, none⟩) N C) N xs) ∧ (N = 0 → C = 0) ∧ N ≤ 60 ∧ (0 < N → v.ownBlock = some g) := by
  match o, h, hl with
  | none, h, _ => exact ⟨none, 0, 0, 0, h, .inl ⟨rfl, rfl⟩, fun h => absurd h (by omega), fun _ => rfl, by omega, fun h => absurd h (by omega)⟩
  | some c, ⟨g, cap, h1, h2⟩, hl => 
    have h3 := hl c rfl
    exact ⟨_, _, cap, g, h1, .inr ⟨h3.1, rfl⟩, fun _ => ⟨_, h2⟩, fun h => by omega, h3.2, fun _ => by rw [h1]; rfl⟩

def pick3 {α : Type} (a b c : α) : Nat → α
  | 0 => a
  | 1 => b
  | _ => c

theorem apart3 : EndsChainsW.Apart3 := by
  intro W A B s1 s2 v0 v1 v2 o0 o1 o2 hA h1 h2 h3 hv0 hv1 hv2 hb0 hb1 hb2 hl0 hl1 hl2
  have hlt := hA.lt
  obtain ⟨a0, N0, C0, g0, rfl, p0, q0, r0, n0, k0⟩ := chv_parts hv0 hl0
  obtain ⟨a1, N1, C1, g1, rfl, p1, q1, r1, n1, k1⟩ := chv_parts hv1 hl1
  obtain ⟨a2, N2, C2, g2, rfl, p2, q2, r2, n2, k2⟩ := chv_parts hv2 hl2
  have d0 : 0 < N0 → g0 < s1 := fun h => hb0 g0 (k0 h)
  have d1 : 0 < N1 → g1 < s2 ∧ s1 ≤ g1 := fun h => ⟨hb1 g1 (k1 h), by obtain ⟨xs, hx⟩ := q1 h; obtain ⟨_, _, _, _, hx, _⟩ := own_at hx; exact hx⟩
  have d2 : 0 < N2 → g2 < A ∧ s2 ≤ g2 := fun h => ⟨hb2 g2 (k2 h), by obtain ⟨xs, hx⟩ := q2 h; obtain ⟨_, _, _, _, hx, _⟩ := own_at hx; exact hx⟩
  refine apart_room B 3 A 3 (pick3 g0 g1 g2) (pick3 N0 N1 N2) (pick3 C0 C1 C2) (pick3 a0 a1 a2) _ W (by omega) (by omega) hA ?_ ?_ ?_ ?_ ?_ ?_ ?_ (by omega)
  · intro j hj
    match j, hj with
    | 0, _ => rfl
    | 1, _ => rfl
    | 2, _ => rfl
  · intro j hj
    match j, hj with
    | 0, _ => exact p0
    | 1, _ => exact p1
    | 2, _ => exact p2
  · intro j hj hN
    match j, hj, hN with
    | 0, _, hN => exact q0 hN
    | 1, _, hN =>
      obtain ⟨xs, hx⟩ := q1 hN
      exact ⟨xs, own_base hx h1⟩
    | 2, _, hN =>
      obtain ⟨xs, hx⟩ := q2 hN
      exact ⟨xs, own_base hx (by omega)⟩
  · intro j hj hN
    match j, hj, hN with
    | 0, _, hN => exact r0 hN
    | 1, _, hN => exact r1 hN
    | 2, _, hN => exact r2 hN
  · intro a ha b hb hne hNa hNb
    match a, b, ha, hb, hne, hNa, hNb with
    | 0, 1, _, _, _, hNa, hNb => have := d0 hNa; have := d1 hNb; show g0 ≠ g1; omega
    | 0, 2, _, _, _, hNa, hNb => have := d0 hNa; have := d2 hNb; show g0 ≠ g2; omega
    | 1, 0, _, _, _, hNa, hNb => have := d1 hNa; have := d0 hNb; show g1 ≠ g0; omega
    | 1, 2, _, _, _, hNa, hNb => have := d1 hNa; have := d2 hNb; show g1 ≠ g2; omega
    | 2, 0, _, _, _, hNa, hNb => have := d2 hNa; have := d0 hNb; show g2 ≠ g0; omega
    | 2, 1, _, _, _, hNa, hNb => have := d2 hNa; have := d1 hNb; show g2 ≠ g1; omega
    | 0, 0, _, _, hne, _, _ => exact absurd rfl hne
    | 1, 1, _, _, hne, _, _ => exact absurd rfl hne
    | 2, 2, _, _, hne, _, _ => exact absurd rfl hne
  · intro j hj
    match j, hj with
    | 0, _ => exact n0
    | 1, _ => exact n1
    | 2, _ => exact n2
  · intro j hj hN
    match j, hj, hN with
    | 0, _, hN => have := d0 hN; show A ≠ g0; omega
    | 1, _, hN => have := d1 hN; show A ≠ g1; omega
    | 2, _, hN => have := d2 hN; show A ≠ g2; omega

end Go.Proofs.YtpdkjblmpgmcjaaDoor.EndsApart
