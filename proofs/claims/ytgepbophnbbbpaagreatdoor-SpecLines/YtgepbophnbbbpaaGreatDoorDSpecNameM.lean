/-
  Texts that stand together: SpecNameM.
-/
import Derived.Test.YtgepbophnbbbpaaGreatDoorDagSpecSt1
namespace Go.Proofs.YtgepbophnbbbpaaGreatDoor.SpecMem
open Go.RowKit Go.Maps Go.WideMaps Go.Proofs.YtgepbophnbbbpaaGreatDoor.GramMath Go.Proofs.YtgepbophnbbbpaaGreatDoor.GramRow Go.Proofs.YtgepbophnbbbpaaGreatDoor.GramOne Go.Proofs.YtgepbophnbbbpaaGreatDoor.GramApart Go.Proofs.YtgepbophnbbbpaaGreatDoor.GramRoll Go.Proofs.YtgepbophnbbbpaaGreatDoor.GramCopy Go.Proofs.YtgepbophnbbbpaaGreatDoor.LineMath Go.Proofs.YtgepbophnbbbpaaGreatDoor.SpecLn Go.Proofs.YtgepbophnbbbpaaGreatDoor.SpecMd Go.Proofs.YtgepbophnbbbpaaGreatDoor.WordsBytes
set_option linter.unusedVariables false
set_option linter.unusedSimpArgs false

theorem cellsR_len (ns : List ByteArray) : ∀ (qs : List Qr), (cellsR ns qs).length = qs.length * 3
  | [] => rfl
  | q :: qs => by
    have := cellsR_len ns qs
    unfold cellsR at this ⊢
    rw [List.flatMap_cons, List.length_append, this]
    simp only [List.length_cons, List.length_nil]
    omega
theorem cellsR_app (ns : List ByteArray) (qs : List Qr) (q : Qr) : cellsR ns (qs ++ [q]) = cellsR ns qs ++ [.int .i64 (idx ns (bt q.s.left)), q.v, .int .i64 (q.s.at_ : Int)] := by
  unfold cellsR
  rw [List.flatMap_append]
  rfl

section
variable {w w' W2 : World} {rb bb mb base start : Nat} {nx : Value} {ln : Int} {ns : List ByteArray} {qs : List Qr} {q : Qr} {D : DataW Unit} {nv mv : Value}

/-- A rule's place, put. -/
theorem RdN.putAt {g c : Nat} (h : RdN w rb bb mb base nx start ln ns (qs ++ [q]) D (.slice (some ⟨g, 0, none⟩) (qs.length + 1) c) nv mv) (hlt : base ≤ w.heap.size) (at_ : Nat) :
    RdN (w.setCell ⟨g, qs.length * 3 + 2, none⟩ (.int .i64 (at_ : Int))) rb bb mb base nx start ln ns (qs ++ [⟨⟨q.s.left, q.s.names, at_⟩, q.v⟩]) D (.slice (some ⟨g, 0, none⟩) (qs.length + 1) c) nv mv
    ∧ Chg base rb bb mb (qs ++ [q]) (qs ++ [⟨⟨q.s.left, q.s.names, at_⟩, q.v⟩]) w (w.setCell ⟨g, qs.length * 3 + 2, none⟩ (.int .i64 (at_ : Int))) := by
  have hr := h.rules
  rw [List.length_append, List.length_singleton] at hr
  obtain ⟨s1, s2⟩ := hr.stored (qs.length * 3 + 2) (.int .i64 (at_ : Int))
  have hgb := (hr.lt g rfl).1
  obtain ⟨gc, hgr⟩ := own_row hr (g := g) rfl
  have far : ∀ k, k ≠ g → (w.setCell ⟨g, qs.length * 3 + 2, none⟩ (.int .i64 (at_ : Int))).heap[k]? = w.heap[k]? := fun k hk => Below.heap_setCell _ _ _ _ hk
  have hrl := h.rlt
  have hml := h.mlt
  have hbl := h.blt
  obtain ⟨e1, e2, e3, e4, e5, e6⟩ := h.heads (w' := w.setCell ⟨g, qs.length * 3 + 2, none⟩ (.int .i64 (at_ : Int))) (fun k hk hc => by
    rcases hc with rfl | rfl | ⟨h1, h2⟩
    · exact far _ (by omega)
    · exact far _ (by omega)
    · exact far k (fun e => h.n.not_row (e ▸ hgr) (by decide) h2))
  have hq : ∀ p ∈ qs ++ [q], (w.setCell ⟨g, qs.length * 3 + 2, none⟩ (.int .i64 (at_ : Int))).ownsRow base 102 3 p.v p.s.names.length (cellsW p.s.names) := fun p hp => own_block (h.each p hp) (fun k hk => far k (fun e => by
    obtain ⟨cur, hc⟩ := own_row (h.each p hp) hk
    exact hc.ne hgr (by decide) e))
  refine ⟨⟨h.box.other (by omega) _ _, e1, e2, e3, e4, e5, e6, h.map, ?_, ?_, ?_, ?_, h.rlt, h.mlt, h.rbb, h.mbb⟩, ⟨rfl, rfl, rfl, by simp, fun k hk _ _ _ => far k (by omega), fun b t C _ _ ht _ hb => (far b (hb.ne hgr ht)).trans hb, ?_⟩⟩
  · rw [List.length_append, List.length_singleton]
    have e : (cellsR ns (qs ++ [q])).set (qs.length * 3 + 2) (.int .i64 (at_ : Int)) = cellsR ns (qs ++ [⟨⟨q.s.left, q.s.names, at_⟩, q.v⟩]) := by
      rw [cellsR_app, cellsR_app, List.set_append_right _ _ (by rw [cellsR_len]; omega), cellsR_len, Nat.add_sub_cancel_left]
      rfl
    rw [← e]
    exact s1
  · intro p hp
    rcases List.mem_append.1 hp with hp | hp
    · exact hq p (List.mem_append_left _ hp)
    · rw [List.mem_singleton.1 hp]
      exact hq q (by simp)
  · have hf := h.far
    rw [List.pairwise_append] at hf ⊢
    refine ⟨hf.1, List.pairwise_singleton _ _, fun a ha b hb => ?_⟩
    rw [List.mem_singleton.1 hb]
    exact hf.2.2 a ha q (by simp)
  · intro p hp
    rcases List.mem_append.1 hp with hp | hp
    · exact h.known p (List.mem_append_left _ hp)
    · rw [List.mem_singleton.1 hp]
      exact h.known q (by simp)
  · intro k hk
    refine .inl ?_
    obtain ⟨p, hp, hv⟩ := hk
    rw [List.getLast?_append] at hp
    simp at hp
    exact ⟨q, by simp, by rw [← hp] at hv; exact hv⟩

/-- A NAME MORE. -/
theorem RdN.name {g c g2 c2 : Nat} {x : Wd} {o : Obj} (h : RdN w rb bb mb base nx start ln ns (qs ++ [q]) D (.slice (some ⟨g, 0, none⟩) (qs.length + 1) c) nv mv) (hlt : base ≤ w.heap.size) (hg : (w.alloc o).grownBy W2 q.v.ownBlock)
    (hown : W2.ownsRow base 102 3 (.slice (some ⟨g2, 0, none⟩) (q.s.names.length + 1) c2) (q.s.names.length + 1) (cellsW q.s.names ++ wv x)) (hat : q.v.ownBlock = some g2 ∨ g2 = w.heap.size + 1) :
    RdN (W2.setCell ⟨g, qs.length * 3 + 1, none⟩ (.slice (some ⟨g2, 0, none⟩) (q.s.names.length + 1) c2)) rb bb mb base nx start ln ns (qs ++ [⟨⟨q.s.left, q.s.names ++ [x], q.s.at_⟩, .slice (some ⟨g2, 0, none⟩) (q.s.names.length + 1) c2⟩]) D (.slice (some ⟨g, 0, none⟩) (qs.length + 1) c) nv mv
    ∧ Chg base rb bb mb (qs ++ [q]) (qs ++ [⟨⟨q.s.left, q.s.names ++ [x], q.s.at_⟩, .slice (some ⟨g2, 0, none⟩) (q.s.names.length + 1) c2⟩]) w (W2.setCell ⟨g, qs.length * 3 + 1, none⟩ (.slice (some ⟨g2, 0, none⟩) (q.s.names.length + 1) c2))
    ∧ W2.heap[g]? = w.heap[g]? := by
  have hq := h.each q (by simp)
  have hr := h.rules
  rw [List.length_append, List.length_singleton] at hr
  have hgb := hr.lt g rfl
  obtain ⟨gc, hgr⟩ := own_row hr (g := g) rfl
  have hty : ∀ k, q.v.ownBlock = some k → ∃ cur, RowAt w k 102 cur := fun k hk => own_row hq hk
  have hlo : ∀ k, k < base → q.v.ownBlock ≠ some k := fun k hk e => by have := (hq.lt k e).1; omega
  have hng : q.v.ownBlock ≠ some g := fun e => by
    obtain ⟨cur, hc⟩ := hty g e
    exact hc.ne hgr (by decide) rfl
  have hg0 : W2.heap[g]? = w.heap[g]? := grown_far hg hgb.2 hng
  have hr2 : W2.ownsRow base 88 3 (.slice (some ⟨g, 0, none⟩) (qs.length + 1) c) (qs.length + 1) (cellsR ns (qs ++ [q])) := own_block hr (fun k hk => by
    have e : g = k := by simpa [Value.ownBlock] using hk
    rw [← e]; exact hg0)
  obtain ⟨s1, s2⟩ := hr2.stored (qs.length * 3 + 1) (.slice (some ⟨g2, 0, none⟩) (q.s.names.length + 1) c2)
  have far : ∀ k, k < w.heap.size → k ≠ g → q.v.ownBlock ≠ some k → (W2.setCell ⟨g, qs.length * 3 + 1, none⟩ (.slice (some ⟨g2, 0, none⟩) (q.s.names.length + 1) c2)).heap[k]? = w.heap[k]? := fun k hk hn hw =>
    (Below.heap_setCell _ _ _ _ hn).trans (grown_far hg hk hw)
  have hrl := h.rlt
  have hml := h.mlt
  have hbl := h.blt
  have hgs := hg.size
  rw [World.size_alloc] at hgs
  have hg2 : g2 ≠ g := fun e => by
    rcases hat with h1 | h1
    · exact hng (e ▸ h1)
    · omega
  obtain ⟨e1, e2, e3, e4, e5, e6⟩ := h.heads (w' := W2.setCell ⟨g, qs.length * 3 + 1, none⟩ (.slice (some ⟨g2, 0, none⟩) (q.s.names.length + 1) c2)) (fun k hk hc => by
    rcases hc with rfl | rfl | ⟨h1, h2⟩
    · exact far _ hk (by omega) (hlo _ hbl)
    · exact far _ hk (by omega) (hlo _ hml)
    · refine far k hk (fun e => h.n.not_row (e ▸ hgr) (by decide) h2) (fun e => ?_)
      obtain ⟨cur, hc⟩ := hty k e
      exact h.n.not_row hc (by decide) h2)
  have hf := h.far
  rw [List.pairwise_append] at hf
  refine ⟨⟨(far rb h.box.lt (by omega) (hlo rb hrl)).trans h.box, e1, e2, e3, e4, e5, e6, h.map, ?_, ?_, ?_, ?_, h.rlt, h.mlt, h.rbb, h.mbb⟩, ⟨hg.os, hg.tape, hg.output, by simp; omega, fun k hk _ _ _ => far k (by omega) (by omega) (hlo k hk), ?_, ?_⟩, hg0⟩
  · rw [List.length_append, List.length_singleton]
    have e : (cellsR ns (qs ++ [q])).set (qs.length * 3 + 1) (.slice (some ⟨g2, 0, none⟩) (q.s.names.length + 1) c2) = cellsR ns (qs ++ [⟨⟨q.s.left, q.s.names ++ [x], q.s.at_⟩, .slice (some ⟨g2, 0, none⟩) (q.s.names.length + 1) c2⟩]) := by
      rw [cellsR_app, cellsR_app, List.set_append_right _ _ (by rw [cellsR_len]; omega), cellsR_len, Nat.add_sub_cancel_left]
      rfl
    rw [← e]
    exact s1
  · intro p hp
    rcases List.mem_append.1 hp with hp | hp
    · have hpe := h.each p (List.mem_append_left _ hp)
      refine own_block hpe (fun k hk => far k (hpe.lt k hk).2 (fun e => ?_) (fun e => hf.2.2 p hp q (by simp) k hk e))
      obtain ⟨cur, hc⟩ := own_row hpe hk
      exact hc.ne hgr (by decide) e
    · rw [List.mem_singleton.1 hp]
      show World.ownsRow _ _ _ _ _ (q.s.names ++ [x]).length (cellsW (q.s.names ++ [x]))
      rw [List.length_append, List.length_singleton, cellsW, List.flatMap_append, List.flatMap_cons, List.flatMap_nil, List.append_nil]
      exact own_block hown (fun k hk => Below.heap_setCell _ _ _ _ (show k ≠ g by
        have e : g2 = k := by simpa [Value.ownBlock] using hk
        omega))
  · rw [List.pairwise_append]
    refine ⟨hf.1, List.pairwise_singleton _ _, fun a ha b hb k hk => ?_⟩
    rw [List.mem_singleton.1 hb]
    intro e
    have e : g2 = k := by simpa [Value.ownBlock] using e
    subst e
    rcases hat with h1 | h1
    · exact hf.2.2 a ha q (by simp) _ hk h1
    · have := ((h.each a (List.mem_append_left _ ha)).lt _ hk).2
      omega
  · intro p hp
    rcases List.mem_append.1 hp with hp | hp
    · exact h.known p (List.mem_append_left _ hp)
    · rw [List.mem_singleton.1 hp]
      exact h.known q (by simp)
  · intro b t C _ _ ht hno hb
    refine (far b hb.lt (hb.ne hgr ht) (fun e => ?_)).trans hb
    by_cases htw : t = 102
    · exact hno htw ⟨q, by simp, e⟩
    · obtain ⟨cur, hc⟩ := hty b e
      exact hb.ne hc htw rfl
  · intro k hk
    obtain ⟨p, hp, hv⟩ := hk
    rw [List.getLast?_append] at hp
    simp at hp
    rw [← hp] at hv
    have e : g2 = k := by simpa [Value.ownBlock] using hv
    subst e
    rcases hat with h1 | h1
    · exact .inl ⟨q, by simp, h1⟩
    · exact .inr (by omega)
end

end Go.Proofs.YtgepbophnbbbpaaGreatDoor.SpecMem
