/-
  Texts that stand together: SpecSt1, SpecKeep.
-/
import Derived.Test.YtgepbophnbbbpaaGreatDoorDagSpecTextM
import Derived.Deep.AppendLies
namespace Go.Proofs.YtgepbophnbbbpaaGreatDoor.SpecMem
open Go.RowKit Go.Maps Go.WideMaps Go.Proofs.YtgepbophnbbbpaaGreatDoor.GramMath Go.Proofs.YtgepbophnbbbpaaGreatDoor.GramRow Go.Proofs.YtgepbophnbbbpaaGreatDoor.GramOne Go.Proofs.YtgepbophnbbbpaaGreatDoor.GramApart Go.Proofs.YtgepbophnbbbpaaGreatDoor.GramRoll Go.Proofs.YtgepbophnbbbpaaGreatDoor.GramCopy Go.Proofs.YtgepbophnbbbpaaGreatDoor.LineMath Go.Proofs.YtgepbophnbbbpaaGreatDoor.SpecLn Go.Proofs.YtgepbophnbbbpaaGreatDoor.SpecMd Go.Proofs.YtgepbophnbbbpaaGreatDoor.WordsBytes
set_option linter.unusedVariables false
set_option linter.unusedSimpArgs false

def wA (x : Wd) : Value := .agg #[.string ⟨x.text.toArray⟩, .bool x.quoted, .int .i64 (x.place : Int)]

set_option maxRecDepth 100000 in
set_option maxHeartbeats 400000 in
theorem isMark_any (x : Wd) (c : UInt8) (w : World) : Calls Tryz.prog 96 #[.agg #[.string ⟨x.text.toArray⟩, .bool x.quoted, .int .i64 (x.place : Int)], .string ⟨#[c]⟩] w fun e w' => e = .returned (.bool (mk x c)) ∧ w' = w.alloc (.cells #[.string ⟨x.text.toArray⟩, .bool x.quoted, .int .i64 (x.place : Int)] 102) := by
  have E : Hid (mk x c = (!x.quoted && (x.text == [c]))) := rfl
  cases ht : (x.text == [c]) with
  | true =>
    rw [ht] at E
    go_enter Tryz.func96, Tryz.ntmps96
    go_wp2
    go_ret
    rw [E.out]
    simp
  | false =>
    rw [ht] at E
    go_enter Tryz.func96, Tryz.ntmps96
    go_wp2
    go_ret
    rw [E.out]
    simp

set_option maxRecDepth 100000 in
set_option maxHeartbeats 400000 in
theorem isEnd_any (x : Wd) (w : World) : Calls Tryz.prog 95 #[.agg #[.string ⟨x.text.toArray⟩, .bool x.quoted, .int .i64 (x.place : Int)]] w fun e w' => e = .returned (.bool (isEnd x)) ∧ w' = w.alloc (.cells #[.string ⟨x.text.toArray⟩, .bool x.quoted, .int .i64 (x.place : Int)] 102) := by
  have E : Hid (isEnd x = (!x.quoted && x.text.isEmpty)) := by show _ = _; unfold isEnd; cases x.text <;> rfl
  cases ht : x.text.isEmpty with
  | true =>
    rw [ht] at E
    go_enter Tryz.func95, Tryz.ntmps95
    go_wp2
    go_ret
    rw [E.out]
    simp
  | false =>
    rw [ht] at E
    go_enter Tryz.func95, Tryz.ntmps95
    go_wp2
    go_ret
    rw [E.out]
    simp

set_option maxRecDepth 100000 in
set_option maxHeartbeats 400000 in
theorem wrongS_any (p : Nat) (aS : Addr) (w : World) (hS : WordsBytes.Sent w 1 aS) : Calls Tryz.prog 46 #[.int .i64 (p : Int)] w fun e w' =>
    e = .returned (.iface 68 (.pointer (some ⟨w.heap.size, 0, none⟩))) ∧ w' = w.alloc (.cells #[.int .i64 (p : Int), .iface 204 (.pointer (some aS))] 72) := by
  have h : w.cell? ⟨1, 0, none⟩ = some (.iface 204 (.pointer (some aS))) := hS
  go_enter Tryz.func46, Tryz.ntmps46
  go_wp2
  go_ret
  exact ⟨rfl, rfl⟩

theorem lenB_cases (x : Wd) : (mk x 58 = true ∧ lenB x = false) ∨ (mk x 58 = false ∧ x.text = [] ∧ lenB x = false) ∨ (mk x 58 = false ∧ x.text ≠ [] ∧ 32 < x.text.length ∧ lenB x = false) ∨ (mk x 58 = false ∧ x.text ≠ [] ∧ x.text.length ≤ 32 ∧ lenB x = true) := by
  unfold lenB
  cases mk x 58 with
  | true => exact .inl ⟨rfl, rfl⟩
  | false =>
    by_cases h : x.text = []
    · exact .inr (.inl ⟨rfl, h, by simp [h]⟩)
    · have hp := List.length_pos_iff.2 h
      by_cases h2 : x.text.length ≤ 32
      · exact .inr (.inr (.inr ⟨rfl, h, h2, by simp [h2, hp]⟩))
      · exact .inr (.inr (.inl ⟨rfl, h, by omega, by simp [h2, hp]⟩))

/-- Names: nothing, or a panic at the word's place. -/
def NameR (aS : Addr) (x : Wd) (w : World) (e : Ending) (w' : World) : Prop :=
  ((lenB x = true ∧ e = .returned (.tuple #[])) ∨ (lenB x = false ∧ ∃ v, e = .panicked [{ v := v, recovered := false }] ∧ ErrAt w.heap.size aS x.place w' v)) ∧ Below w.heap.size w w'

set_option maxRecDepth 100000 in
set_option maxHeartbeats 4000000 in
theorem checkName_any (x : Wd) (aS : Addr) (w : World) (hS : WordsBytes.Sent w 1 aS) (hx : x.text.length ≤ 1048576) : Calls Tryz.prog 98 #[.agg #[.string ⟨x.text.toArray⟩, .bool x.quoted, .int .i64 (x.place : Int)]] w fun e w' => NameR aS x w e w' := by
  have hsz : ((⟨x.text.toArray⟩ : ByteArray).size : Int) = (x.text.length : Int) := by simp [ByteArray.size]
  obtain ⟨o, ho⟩ : ∃ o : Obj, o = .cells #[.string ⟨x.text.toArray⟩, .bool x.quoted, .int .i64 (x.place : Int)] 102 := ⟨_, rfl⟩
  have B1 : Below w.heap.size w (w.alloc o) := (Below.refl _ _).alloc (Nat.le_refl _) _
  have B2 : Below w.heap.size w ((w.alloc o).alloc o) := B1.alloc (by simp) _
  have hw2 := wrongS_any x.place aS ((w.alloc o).alloc o) (hS.below B2 (Nat.le_refl _))
  have hmk := isMark_any x 58 (w.alloc o)
  have B3 := B2.alloc (by simp; omega) (.cells #[.int .i64 (x.place : Int), .iface 204 (.pointer (some aS))] 72)
  have E3 : ErrAt w.heap.size aS x.place (((w.alloc o).alloc o).alloc (.cells #[.int .i64 (x.place : Int), .iface 204 (.pointer (some aS))] 72)) (.iface 68 (.pointer (some ⟨((w.alloc o).alloc o).heap.size, 0, none⟩))) := ErrAt.new (by simp; omega)
  rw [World.size_alloc, World.size_alloc] at E3
  rw [ho] at hmk hw2 B1 B2 B3 E3
  rcases lenB_cases x with ⟨h1, h2⟩ | ⟨h1, h3, h2⟩ | ⟨h1, h3, h4, h2⟩ | ⟨h1, h3, h4, h2⟩
  · rw [h1] at hmk
    have F : Hid (lenB x = false) := h2
    go_enter Tryz.func98, Tryz.ntmps98
    go_wp2_with fail
    refine hmk.mono ?_
    rintro e w1 ⟨rfl, hw1⟩
    obtain rfl := hw1
    go_wp2_with fail
    refine hw2.mono ?_
    rintro e w1 ⟨rfl, hw1⟩
    obtain rfl := hw1
    clear hmk hw2
    go_wp2
    exact ⟨rfl, .inr ⟨F.out, _, rfl, E3⟩, B3⟩
  · rw [h1] at hmk
    have hs' : x.text.isEmpty = true := by rw [h3]; rfl
    clear h3
    have F : Hid (lenB x = false) := h2
    go_enter Tryz.func98, Tryz.ntmps98
    go_wp2_with fail
    refine hmk.mono ?_
    rintro e w1 ⟨rfl, hw1⟩
    obtain rfl := hw1
    go_wp2_with fail
    refine hw2.mono ?_
    rintro e w1 ⟨rfl, hw1⟩
    obtain rfl := hw1
    clear hmk hw2
    go_wp2
    exact ⟨rfl, .inr ⟨F.out, _, rfl, E3⟩, B3⟩
  · rw [h1] at hmk
    have hs' : x.text.isEmpty = false := by simpa using h3
    have F : Hid (lenB x = false) := h2
    have h5 : (32 : Int) < ((⟨x.text.toArray⟩ : ByteArray).size : Int) := by omega
    go_enter Tryz.func98, Tryz.ntmps98
    go_wp2_with fail
    refine hmk.mono ?_
    rintro e w1 ⟨rfl, hw1⟩
    obtain rfl := hw1
    go_wp2_with fail
    refine hw2.mono ?_
    rintro e w1 ⟨rfl, hw1⟩
    obtain rfl := hw1
    clear hmk hw2
    go_wp2
    exact ⟨rfl, .inr ⟨F.out, _, rfl, E3⟩, B3⟩
  · rw [h1] at hmk
    have hs' : x.text.isEmpty = false := by simpa using h3
    have F : Hid (lenB x = true) := h2
    have h5 : ¬ (32 : Int) < ((⟨x.text.toArray⟩ : ByteArray).size : Int) := by omega
    go_enter Tryz.func98, Tryz.ntmps98
    go_wp2_with fail
    refine hmk.mono ?_
    rintro e w1 ⟨rfl, hw1⟩
    obtain rfl := hw1
    clear hmk hw2
    go_wp2
    go_end0
    exact ⟨.inl ⟨F.out, rfl⟩, B2⟩

end Go.Proofs.YtgepbophnbbbpaaGreatDoor.SpecMem

namespace Go.Proofs.YtgepbophnbbbpaaGreatDoor.SpecMem
open Go.RowKit Go.Maps Go.WideMaps Go.Proofs.YtgepbophnbbbpaaGreatDoor.GramMath Go.Proofs.YtgepbophnbbbpaaGreatDoor.GramRow Go.Proofs.YtgepbophnbbbpaaGreatDoor.GramOne Go.Proofs.YtgepbophnbbbpaaGreatDoor.GramApart Go.Proofs.YtgepbophnbbbpaaGreatDoor.GramRoll Go.Proofs.YtgepbophnbbbpaaGreatDoor.GramCopy Go.Proofs.YtgepbophnbbbpaaGreatDoor.LineMath Go.Proofs.YtgepbophnbbbpaaGreatDoor.SpecLn Go.Proofs.YtgepbophnbbbpaaGreatDoor.SpecMd Go.Proofs.YtgepbophnbbbpaaGreatDoor.WordsBytes
set_option linter.unusedVariables false
set_option linter.unusedSimpArgs false

section
variable {w w' W2 : World} {rb bb mb base start : Nat} {nx : Value} {ln : Int} {ns : List ByteArray} {qs : List Qr} {D : DataW Unit} {rv nv mv : Value}

theorem RdN.heads (h : RdN w rb bb mb base nx start ln ns qs D rv nv mv) (hk : ∀ k, k < w.heap.size → (k = bb ∨ k = mb ∨ (base ≤ k ∧ ofRoll nv mv k)) → w'.heap[k]? = w.heap[k]?) :
    Roll w' bb 0 base [] (.slice none 0 0) (.map none) ∧ Roll w' bb 2 base ns nv mv ∧ w'.cell? ⟨bb, 4, none⟩ = some (.int .i64 0) ∧ w'.frozen? ⟨bb, 4, none⟩ = false ∧ RulesOf w' bb base [] (.slice none 0 0) [] ∧ OwnM w' mb (start + 1) D := by
  have hb := hk bb h.bsz (.inl rfl)
  refine ⟨Roll.at h.t hb (fun k _ _ e => by rcases e with e | e <;> cases e), Roll.at h.n hb (fun k h1 h2 e => hk k h2 (.inr (.inr ⟨h1, e⟩))), (World.cell?_of_block hb).trans h.a, (frozen_of_block hb _).trans h.af, RulesOf.at h.r hb, h.own.at (hk mb h.own.lt (.inr (.inl rfl)))⟩

theorem RdN.mrb (h : RdN w rb bb mb base nx start ln ns qs D rv nv mv) : mb ≠ rb := map_not_row h.own h.box
/-- What is not the rules' row, nor the box, lies as it did behind a rule appended. -/
theorem grown_far {o : Obj} {row : Option Nat} (hg : (w.alloc o).grownBy W2 row) {k : Nat} (hk : k < w.heap.size) (hn : row ≠ some k) : W2.heap[k]? = w.heap[k]? := by
  rw [hg.block k (by simp; omega) (fun e => hn e.symm), Below.heap_alloc _ _ _ hk]

/-- AN ALTERNATIVE MORE. -/
theorem RdN.more (h : RdN w rb bb mb base nx start ln ns qs D rv nv mv) (hlt : base ≤ w.heap.size) {o : Obj} {g c at_ : Nat} {left : List UInt8} (hg : (w.alloc o).grownBy W2 rv.ownBlock)
    (hown : W2.ownsRow base 88 3 (.slice (some ⟨g, 0, none⟩) (qs.length + 1) c) (qs.length + 1) (cellsR ns qs ++ [.int .i64 ln, .slice none 0 0, .int .i64 (at_ : Int)])) (hln : ln = idx ns (bt left)) (hmem : memB (bt left) ns = true) :
    RdN (W2.setCell ⟨rb, 5, none⟩ (.slice (some ⟨g, 0, none⟩) (qs.length + 1) c)) rb bb mb base nx start ln ns (qs ++ [⟨⟨left, [], at_⟩, .slice none 0 0⟩]) D (.slice (some ⟨g, 0, none⟩) (qs.length + 1) c) nv mv
    ∧ Chg base rb bb mb qs (qs ++ [⟨⟨left, [], at_⟩, .slice none 0 0⟩]) w (W2.setCell ⟨rb, 5, none⟩ (.slice (some ⟨g, 0, none⟩) (qs.length + 1) c)) ∧ RowAt W2 rb 85 #[nx, .int .i64 (start : Int), .int .i64 ln, .pointer (some ⟨bb, 0, none⟩), .map (some mb), rv] := by
  have hlo : ∀ k, k < base → rv.ownBlock ≠ some k := fun k hk e => by have := (h.rules.lt k e).1; omega
  have hty : ∀ k, rv.ownBlock = some k → ∃ cur, RowAt w k 88 cur := fun k hk => own_row h.rules hk
  have far : ∀ k, k < w.heap.size → k ≠ rb → rv.ownBlock ≠ some k → (W2.setCell ⟨rb, 5, none⟩ (.slice (some ⟨g, 0, none⟩) (qs.length + 1) c)).heap[k]? = w.heap[k]? := fun k hk hr hn =>
    (Below.heap_setCell _ _ _ _ (show k ≠ rb from hr)).trans (grown_far hg hk hn)
  have hbox : RowAt W2 rb 85 _ := (grown_far hg h.box.lt (hlo rb h.rlt)).trans h.box
  have hml := h.own.lt
  obtain ⟨e1, e2, e3, e4, e5, e6⟩ := h.heads (w' := W2.setCell ⟨rb, 5, none⟩ (.slice (some ⟨g, 0, none⟩) (qs.length + 1) c)) (fun k hk hc => by
    rcases hc with rfl | rfl | ⟨h1, h2⟩
    · exact far _ hk (fun e => h.rbb e.symm) (hlo _ h.blt)
    · exact far _ hk h.mrb (hlo _ h.mlt)
    · refine far k hk (fun e => by have := h.rlt; omega) (fun e => ?_)
      obtain ⟨cur, hc⟩ := hty k e
      exact h.n.not_row hc (by decide) h2)
  have hsz := hg.size
  rw [World.size_alloc] at hsz
  have hkw : ∀ q ∈ qs, ∀ k, q.v.ownBlock = some k → (W2.setCell ⟨rb, 5, none⟩ (.slice (some ⟨g, 0, none⟩) (qs.length + 1) c)).heap[k]? = w.heap[k]? := fun q hq k hk => by
    have hl := (h.each q hq).lt k hk
    obtain ⟨cur, hr⟩ := own_row (h.each q hq) hk
    refine far k hl.2 (fun e => by have := h.rlt; omega) (fun e => ?_)
    obtain ⟨cur', hr'⟩ := hty k e
    exact hr.ne hr' (by decide) rfl
  refine ⟨⟨hbox.set 5 _, e1, e2, e3, e4, e5, e6, h.map, ?_, ?_, ?_, ?_, h.rlt, h.mlt, h.rbb, h.mbb⟩, ⟨hg.os, hg.tape, hg.output, by simp; omega, ?_, ?_, ?_⟩, hbox⟩
  · rw [List.length_append]
    have : cellsR ns (qs ++ [⟨⟨left, [], at_⟩, .slice none 0 0⟩]) = cellsR ns qs ++ [.int .i64 ln, .slice none 0 0, .int .i64 (at_ : Int)] := by
      unfold cellsR
      rw [List.flatMap_append, hln]
      rfl
    rw [this]
    exact own_block hown (fun k hk => Below.heap_setCell _ _ _ _ (show k ≠ rb by have := (hown.lt k hk).1; have := h.rlt; omega))
  · intro q hq
    rcases List.mem_append.1 hq with hq | hq
    · exact own_block (h.each q hq) (hkw q hq)
    · rw [List.mem_singleton.1 hq]
      exact World.ownsRow_nil _ _ _ _
  · rw [List.pairwise_append]
    refine ⟨h.far, List.pairwise_singleton _ _, fun p hp q hq k hk => ?_⟩
    rw [List.mem_singleton.1 hq]
    simp [Value.ownBlock]
  · intro q hq
    rcases List.mem_append.1 hq with hq | hq
    · exact h.known q hq
    · rw [List.mem_singleton.1 hq]
      exact hmem
  · intro k hk hr _ _
    exact far k (by omega) hr (hlo k hk)
  · intro b t C hb _ ht _ hr
    have hrl := h.rlt
    refine (far b hr.lt (by omega) (fun e => ?_)).trans hr
    obtain ⟨cur', hr'⟩ := hty b e
    exact hr.ne hr' ht rfl
  · intro k hk
    obtain ⟨q, hq, hv⟩ := hk
    rw [List.getLast?_append] at hq
    simp at hq
    rw [← hq] at hv
    simp [Value.ownBlock] at hv
end

theorem infoRl : (Tryz.prog.info? 88).map (fun i => (i.zero, i.size, i.bytes)) = some (some (.agg #[.int .i64 0, .slice none 0 0, .int .i64 0]), 3, 40) := by kernel_rfl

end Go.Proofs.YtgepbophnbbbpaaGreatDoor.SpecMem
