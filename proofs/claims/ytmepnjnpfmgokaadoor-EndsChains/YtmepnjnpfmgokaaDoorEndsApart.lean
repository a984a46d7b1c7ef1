/-
  The helper that writes into lists of numbers, goes on with them and looks at all again: it answers true for lists that lie apart, also where they have room to spare.
-/
import Derived.Test.YtmepnjnpfmgokaaDoorEndsChainsWalk
import Derived.Test.YtmepnjnpfmgokaaDoorGramBut
import Derived.Test.YtmepnjnpfmgokaaDoorGramApartS
import Derived.OwnWalk
namespace Go.Proofs.YtmepnjnpfmgokaaDoor.EndsApart
open Go.RowKit Go.Proofs.YtmepnjnpfmgokaaDoor.GramMath Go.Proofs.YtmepnjnpfmgokaaDoor.GramRow Go.Proofs.YtmepnjnpfmgokaaDoor.GramApart Go.Proofs.YtmepnjnpfmgokaaDoor.EndsWays Go.Proofs.YtmepnjnpfmgokaaDoor.EndsRRing
set_option linter.unusedVariables false

abbrev mkI (j q : Nat) : Value := .int .i64 (1000 * (j : Int) + (q : Int))

theorem own_make {w : World} {base b c j n : Nat} {e : TypeId} {cur : Array Value} (hr : RowAt w b e cur) (hs : cur.size = c) (hn : n ≤ c) (hc : c ≤ maxLen) (hb : base ≤ b) (hm : ∀ q, q < n → w.cell? ⟨b, q, none⟩ = some (mkI j q)) : w.ownsRow base e 1 (.slice (some ⟨b, 0, none⟩) n c) n (markL (.int .i64) j n) := by
  refine ⟨by rw [markL_len, Nat.mul_one], .inr ⟨b, c, cur, rfl, hb, hr, hn, hc, by omega, ?_⟩⟩
  apply List.ext_getElem?
  intro q
  rw [Nat.mul_one, List.getElem?_take]
  by_cases hq : q < n
  · rw [if_pos hq, Array.getElem?_toList]
    obtain ⟨u, hu⟩ : ∃ u, cur[q]? = some u := ⟨cur[q]'(by omega), Array.getElem?_eq_getElem (by omega)⟩
    have h1 := hr.cell hu
    rw [hm q hq] at h1
    rw [hu, ← h1]
    simp [markL, hq]
  · rw [if_neg hq]
    simp [markL, hq]

/-- What is known while the k-th list is gone on with. -/
structure InL (B k gk Nk : Nat) (ws wt : World) (p : Nat) (l : Value) : Prop where
  own : wt.ownsRow B 3 1 l (Nk + p) (markL (.int .i64) k Nk ++ moreL (.int .i64) k p)
  blk : ∀ b, l.ownBlock = some b → (b = gk ∧ 0 < Nk) ∨ ws.heap.size ≤ b
  but : But (fun b => b = gk ∧ 0 < Nk) ws wt
  mks : ∀ q, q < Nk → wt.cell? ⟨gk, q, none⟩ = some (mkI k q)

theorem InL.grow {B k gk Nk p : Nat} {ws wt w' : World} {l l' : Value} {o : Obj} {row : Option Nat} (h : InL B k gk Nk ws wt p l) (hg : (wt.alloc o).grownBy w' row) (hrow : ∀ b, row = some b → l.ownBlock = some b) (hlt : 0 < Nk → gk < ws.heap.size)
    (hown : w'.ownsRow B 3 1 l' (Nk + (p + 1)) (markL (.int .i64) k Nk ++ moreL (.int .i64) k (p + 1))) (hblk : ∀ b, l'.ownBlock = some b → row = some b ∨ wt.heap.size ≤ b) (hmv : ∀ b, row = some b → l'.ownBlock = some b) : InL B k gk Nk ws w' (p + 1) l' := by
  have hs := h.but.size
  have hsz : (wt.alloc o).heap.size = wt.heap.size + 1 := by simp
  refine ⟨hown, fun b hb => ?_, ⟨?_, ?_, ?_, ?_, fun b hb hne => ?_⟩, fun q hq => ?_⟩
  · rcases hblk b hb with h1 | h1
    · exact h.blk b (hrow b h1)
    · exact .inr (by omega)
  · exact hg.os.trans h.but.os
  · exact hg.tape.trans h.but.tape
  · exact hg.output.trans h.but.output
  · have := hg.size; omega
  · have h1 : w'.heap[b]? = (wt.alloc o).heap[b]? := hg.block b (by omega) (fun e => by
      rcases h.blk b (hrow b e.symm) with h2 | h2
      · exact hne h2
      · omega)
    rw [h1, Below.heap_alloc wt o b (by omega)]
    exact h.but.block b hb hne
  · have hgl := hlt (by omega)
    by_cases e : row = some gk
    · rcases id hown with ⟨_, ⟨rfl, _⟩ | ⟨g', cap, cur, rfl, _⟩⟩
      · have := hmv gk e
        cases this
      · have e2 : g' = gk := by simpa [Value.ownBlock] using hmv gk e
        subst e2
        rw [hown.cellAt q (by omega), List.getElem?_append_left (by rw [markL_len]; exact hq)]
        simp [markL, hq]
    · have h1 : w'.cell? ⟨gk, q, none⟩ = (wt.alloc o).cell? ⟨gk, q, none⟩ := World.cell?_of_block (hg.block gk (by omega) (fun e2 => e e2.symm))
      rw [h1, World.cell?_of_block (Below.heap_alloc wt o gk (by omega))]
      exact h.mks q hq

/-- What is known between two lists. -/
structure Bet (B m A k : Nat) (g N C : Nat → Nat) (ad : Nat → Option Addr) (curA : Array Value) (w w1 ws : World) (mv : Value) (Ls : List Value) : Prop where
  len : Ls.length = k
  mv : ws.ownsRow w1.heap.size 43 1 mv k Ls
  row : RowAt ws A 43 curA
  lo : ∀ j v, Ls[j]? = some v → Longer (.int .i64) ws 3 j (N j) v ∧ ∀ b, v.ownBlock = some b → (b = g j ∧ 0 < N j) ∨ w1.heap.size ≤ b
  mks : ∀ j, j < m → ∀ q, q < N j → ws.cell? ⟨g j, q, none⟩ = some (mkI j q)
  own : ∀ j, k ≤ j → j < m → ws.ownsRow B 3 1 (.slice (ad j) (N j) (C j)) (N j) (markL (.int .i64) j (N j))
  bel : Below B w ws
  size : w1.heap.size ≤ ws.heap.size

theorem Bet.next {B m A k : Nat} {g N C : Nat → Nat} {ad : Nat → Option Addr} {curA : Array Value} {w w1 ws wt w3 : World} {mv mv' : Value} {Ls : List Value} {hh cc : Nat} {o : Obj} (h : Bet B m A k g N C ad curA w w1 ws mv Ls) (hk : k < m) (hi : InL B k (g k) (N k) ws wt 30 (.slice (some ⟨hh, 0, none⟩) (N k + 30) cc))
    (hown : w3.ownsRow w1.heap.size 43 1 mv' (k + 1) (Ls ++ [.slice (some ⟨hh, 0, none⟩) (N k + 30) cc])) (hg : (wt.alloc o).grownBy w3 mv.ownBlock) (hd : ∀ a, a < m → ∀ b, b < m → a ≠ b → 0 < N a → 0 < N b → g a ≠ g b) (hgl : ∀ j, j < m → 0 < N j → g j < w1.heap.size) (hgB : ∀ j, j < m → 0 < N j → B ≤ g j) (hAl : A < w1.heap.size) (hAg : ∀ j, j < m → 0 < N j → A ≠ g j) (hBw : B ≤ w1.heap.size) (had : ∀ j, j < m → (N j = 0 ∧ ad j = none) ∨ (0 < N j ∧ ad j = some ⟨g j, 0, none⟩)) :
    Bet B m A (k + 1) g N C ad curA w w1 w3 mv' (Ls ++ [.slice (some ⟨hh, 0, none⟩) (N k + 30) cc]) := by
  have hs := h.size
  have hst := hi.but.size
  have hmt : wt.ownsRow w1.heap.size 43 1 mv k Ls := own_but h.mv hi.but (fun b hb _ e => by have := hgl k hk e.2; omega)
  have hA1 : Below wt.heap.size wt (wt.alloc o) := (Below.refl _ _).alloc (Nat.le_refl _) _
  have hmt' := GramLent.own_below hmt hA1
  have hB3 : Below w1.heap.size wt w3 := (hA1.mono (by omega)).grown hg (by simp; omega) (fun j hj => (hmt'.lt j hj).1)
  have hLt : ∀ j v, Ls[j]? = some v → Longer (.int .i64) wt 3 j (N j) v ∧ ∀ b, v.ownBlock = some b → (b = g j ∧ 0 < N j) ∨ w1.heap.size ≤ b := fun j v hj => by
    obtain ⟨h1, h2⟩ := h.lo j v hj
    have hjk : j < k := by have := (List.getElem?_eq_some_iff.1 hj).1; have := h.len; omega
    refine ⟨?_, h2⟩
    obtain ⟨a, c, cur, rfl, hrow, rest⟩ := h1
    refine ⟨a, c, cur, rfl, hrow.but hi.but (fun e => ?_), rest⟩
    rcases h2 a rfl with h3 | h3
    · exact hd j (by omega) k hk (by omega) h3.2 e.2 (h3.1.symm.trans e.1)
    · have := hgl k hk e.2; omega
  refine ⟨by simp [h.len], hown, ?_, ?_, ?_, ?_, ?_, ?_⟩
  · exact (h.row.but hi.but (fun e => hAg k hk e.2 e.1)).below hB3 hAl
  · intro j v hj
    rcases Nat.lt_or_ge j Ls.length with hlt | hge
    · rw [List.getElem?_append_left hlt] at hj
      exact ⟨(hLt j v hj).1.grown (by decide) hmt _ hg, (hLt j v hj).2⟩
    · rw [List.getElem?_append_right hge] at hj
      have hz : j - Ls.length = 0 := by
        have := (List.getElem?_eq_some_iff.1 hj).1
        simp at this
        omega
      rw [hz] at hj
      simp at hj
      obtain rfl : j = k := by have := h.len; omega
      subst hj
      refine ⟨(longer_of hi.own).grown (by decide) hmt _ hg, fun b hb => ?_⟩
      rcases hi.blk b hb with h3 | h3
      · exact .inl h3
      · exact .inr (by omega)
  · intro j hj q hq
    rw [hB3.cell (p := ⟨g j, q, none⟩) (hgl j hj (by omega))]
    by_cases e : j = k
    · subst e
      exact hi.mks q hq
    · rw [hi.but.cell (p := ⟨g j, q, none⟩) (by have := hgl j hj (by omega); show g j < _; omega) (fun e2 => hd j hj k hk e (by omega) e2.2 e2.1)]
      exact h.mks j hj q hq
  · intro j hj hjm
    have h1 := h.own j (by omega) hjm
    have h2 : wt.ownsRow B 3 1 (.slice (ad j) (N j) (C j)) (N j) (markL (.int .i64) j (N j)) := by
      obtain ⟨e1, e2 | ⟨g', cap, cur, hv, hbb, hr, rest⟩⟩ := h1
      · exact ⟨e1, .inl e2⟩
      · refine ⟨e1, .inr ⟨g', cap, cur, hv, hbb, ?_, rest⟩⟩
        have hlt := (Array.getElem?_eq_some_iff.1 hr).1
        refine (hi.but.block g' hlt (fun e => ?_)).trans hr
        have e3 : ad j = some ⟨g', 0, none⟩ := by simpa using congrArg (fun v => match v with | Value.slice q _ _ => q | _ => none) hv
        rcases had j hjm with h4 | h4
        · rw [h4.2] at e3; cases e3
        · rw [h4.2] at e3
          have e4 : g j = g' := by simpa using e3
          exact hd j hjm k hk (by omega) h4.1 e.2 (e4.trans e.1)
    exact own_grown (GramLent.own_below h2 hA1) hmt' (by decide) hg
  · exact (h.bel.trans (hi.but.below (by omega) (fun b e => by rw [e.1]; exact hgB k hk e.2))).trans (hB3.mono hBw)
  · have := hB3.size; omega

end Go.Proofs.YtmepnjnpfmgokaaDoor.EndsApart
