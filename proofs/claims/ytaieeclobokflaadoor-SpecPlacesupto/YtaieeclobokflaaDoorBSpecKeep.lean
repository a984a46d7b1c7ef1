/-
  Texts that stand together: SpecKeep.
-/
import Derived.Test.YtaieeclobokflaaDoorBSpecSt1
import Derived.Deep.AppendLies
namespace Go.Proofs.YtaieeclobokflaaDoor.SpecMem
open Go.RowKit Go.Maps Go.WideMaps Go.Proofs.YtaieeclobokflaaDoor.GramMath Go.Proofs.YtaieeclobokflaaDoor.GramRow Go.Proofs.YtaieeclobokflaaDoor.GramOne Go.Proofs.YtaieeclobokflaaDoor.GramApart Go.Proofs.YtaieeclobokflaaDoor.GramRoll Go.Proofs.YtaieeclobokflaaDoor.GramCopy Go.Proofs.YtaieeclobokflaaDoor.LineMath Go.Proofs.YtaieeclobokflaaDoor.SpecLn Go.Proofs.YtaieeclobokflaaDoor.SpecMd Go.Proofs.YtaieeclobokflaaDoor.WordsBytes
set_option linter.unusedVariables false
set_option linter.unusedSimpArgs false

section
variable {w w' W2 : World} {rb bb mb base start : Nat} {nx : Value} {ln : Int} {ns : List ByteArray} {qs : List Qr} {D : DataW Unit} {rv nv mv : Value}

theorem RdN.heads (h : RdN w rb bb mb base nx start ln ns qs D rv nv mv) (hk : ∀ k, k < w.heap.size → (k = bb ∨ k = mb ∨ (base ≤ k ∧ ofRoll nv mv k)) → w'.heap[k]? = w.heap[k]?) :
    Roll w' bb 0 base [] (.slice none 0 0) (.map none) ∧ Roll w' bb 2 base ns nv mv ∧ w'.cell? ⟨bb, 4, none⟩ = some (.int .i64 0) ∧ w'.frozen? ⟨bb, 4, none⟩ = false ∧ RulesOf w' bb base [] (.slice none 0 0) [] ∧ OwnM w' mb (start + 1) D := by
  have hb := hk bb h.bsz (.inl rfl)
  refine ⟨Roll.at h.t hb (fun k _ _ e => by rcases e with e | e <;> cases e), Roll.at h.n hb (fun k h1 h2 e => hk k h2 (.inr (.inr ⟨h1, e⟩))), (World.cell?_of_block hb).trans h.a, (frozen_of_block hb _).trans h.af, RulesOf.at h.r hb, h.own.at (hk mb h.own.lt (.inr (.inl rfl)))⟩

theorem RdN.mrb (h : RdN w rb bb mb base nx start ln ns qs D rv nv mv) : mb ≠ rb := map_not_row h.own h.box
/-- What is not the rules' row, nor the box, lies as it did behind a rule appended. -/
theorem grown_far {o : Obj} {row : Option Nat} (hg : (w.alloc o).grownBy W2 row) {k : Nat} (hk : k < w.heap.size) (hn : row ≠ some k) : W2.heap[k]? = w.heap[k]? := by
  rw [hg.block k (by simp; omega) (fun e => hn e.symm), Below.heap_alloc _ _ _ hk]

/-- AN ALTERNATIVE MORE. -/
theorem RdN.more (h : RdN w rb bb mb base nx start ln ns qs D rv nv mv) (hlt : base ≤ w.heap.size) {o : Obj} {g c at_ : Nat} {left : List UInt8} (hg : (w.alloc o).grownBy W2 rv.ownBlock)
    (hown : W2.ownsRow base 65 3 (.slice (some ⟨g, 0, none⟩) (qs.length + 1) c) (qs.length + 1) (cellsR ns qs ++ [.int .i64 ln, .slice none 0 0, .int .i64 (at_ : Int)])) (hln : ln = idx ns (bt left)) (hmem : memB (bt left) ns = true) :
    RdN (W2.setCell ⟨rb, 5, none⟩ (.slice (some ⟨g, 0, none⟩) (qs.length + 1) c)) rb bb mb base nx start ln ns (qs ++ [⟨⟨left, [], at_⟩, .slice none 0 0⟩]) D (.slice (some ⟨g, 0, none⟩) (qs.length + 1) c) nv mv
    ∧ Chg base rb bb mb qs (qs ++ [⟨⟨left, [], at_⟩, .slice none 0 0⟩]) w (W2.setCell ⟨rb, 5, none⟩ (.slice (some ⟨g, 0, none⟩) (qs.length + 1) c)) ∧ RowAt W2 rb 56 #[nx, .int .i64 (start : Int), .int .i64 ln, .pointer (some ⟨bb, 0, none⟩), .map (some mb), rv] := by
  have hlo : ∀ k, k < base → rv.ownBlock ≠ some k := fun k hk e => by have := (h.rules.lt k e).1; omega
  have hty : ∀ k, rv.ownBlock = some k → ∃ cur, RowAt w k 65 cur := fun k hk => own_row h.rules hk
  have far : ∀ k, k < w.heap.size → k ≠ rb → rv.ownBlock ≠ some k → (W2.setCell ⟨rb, 5, none⟩ (.slice (some ⟨g, 0, none⟩) (qs.length + 1) c)).heap[k]? = w.heap[k]? := fun k hk hr hn =>
    (Below.heap_setCell _ _ _ _ (show k ≠ rb from hr)).trans (grown_far hg hk hn)
  have hbox : RowAt W2 rb 56 _ := (grown_far hg h.box.lt (hlo rb h.rlt)).trans h.box
  have hml := h.own.lt
  obtain ⟨e1, e2, e3, e4, e5, e6⟩ := h.heads (w' := W2.setCell ⟨rb, 5, none⟩ (.slice (some ⟨g, 0, none⟩) (qs.length + 1) c)) (fun k hk hc => by
    rcases hc with rfl | rfl | ⟨h1, h2⟩
    · exact far _ hk (fun e => h.rbb e.symm) (hlo _ h.blt)
    · exact far _ hk h.mrb (hlo _ h.mlt)
    · refine far k hk (fun e => by have := h.rlt; omega) (fun e => ?_)
      obtain ⟨cur, hc⟩ := hty k e
      exact h.n.not_row hc (by decide) h2)
  have hsz := hg.size
  rw [World.size_alloc] at hsz
  have hkw : ∀ q ∈ qs, ∀ k, q.v.ownBlock = some k → (W2.setCell ⟨rb, 5, none⟩ (.slice (some ⟨g, 0, none⟩) (qs.length + 1) c)).heap[k]? = w.heap[k]? := fun q hq k hk => by
    have hl := (h.each q hq).lt k hk
    obtain ⟨cur, hr⟩ := own_row (h.each q hq) hk
    refine far k hl.2 (fun e => by have := h.rlt; omega) (fun e => ?_)
    obtain ⟨cur', hr'⟩ := hty k e
    exact hr.ne hr' (by decide) rfl
  refine ⟨⟨hbox.set 5 _, e1, e2, e3, e4, e5, e6, h.map, ?_, ?_, ?_, ?_, h.rlt, h.mlt, h.rbb, h.mbb⟩, ⟨hg.os, hg.tape, hg.output, by simp; omega, ?_, ?_, ?_⟩, hbox⟩
  · rw [List.length_append]
    have : cellsR ns (qs ++ [⟨⟨left, [], at_⟩, .slice none 0 0⟩]) = cellsR ns qs ++ [.int .i64 ln, .slice none 0 0, .int .i64 (at_ : Int)] := by
      unfold cellsR
      rw [List.flatMap_append, hln]
      rfl
    rw [this]
    exact own_block hown (fun k hk => Below.heap_setCell _ _ _ _ (show k ≠ rb by have := (hown.lt k hk).1; have := h.rlt; omega))
  · intro q hq
    rcases List.mem_append.1 hq with hq | hq
    · exact own_block (h.each q hq) (hkw q hq)
    · rw [List.mem_singleton.1 hq]
      exact World.ownsRow_nil _ _ _ _
  · rw [List.pairwise_append]
    refine ⟨h.far, List.pairwise_singleton _ _, fun p hp q hq k hk => ?_⟩
    rw [List.mem_singleton.1 hq]
    simp [Value.ownBlock]
  · intro q hq
    rcases List.mem_append.1 hq with hq | hq
    · exact h.known q hq
    · rw [List.mem_singleton.1 hq]
      exact hmem
  · intro k hk hr _ _
    exact far k (by omega) hr (hlo k hk)
  · intro b t C hb _ ht _ hr
    have hrl := h.rlt
    refine (far b hr.lt (by omega) (fun e => ?_)).trans hr
    obtain ⟨cur', hr'⟩ := hty b e
    exact hr.ne hr' ht rfl
  · intro k hk
    obtain ⟨q, hq, hv⟩ := hk
    rw [List.getLast?_append] at hq
    simp at hq
    rw [← hq] at hv
    simp [Value.ownBlock] at hv
end

theorem infoRl : (Tryd.prog.info? 65).map (fun i => (i.zero, i.size, i.bytes)) = some (some (.agg #[.int .i64 0, .slice none 0 0, .int .i64 0]), 3, 40) := by kernel_rfl

end Go.Proofs.YtaieeclobokflaaDoor.SpecMem
