/-
  Texts that stand together: GramBuild4, SpecMem, SpecSt1, SpecKeep.
-/
import Derived.Test.YtjblkgephboajaaGreatDoorBGramBuild3
import Derived.Test.YtjblkgephboajaaGreatDoorBagGramCopyF
import Derived.Test.YtjblkgephboajaaGreatDoorBGramBase
import Derived.Test.YtjblkgephboajaaGreatDoorBagWordsUnquote
import Derived.Test.YtjblkgephboajaaGreatDoorBagLineMath
import Derived.Test.YtjblkgephboajaaGreatDoorBagSpecFns1
import Derived.Test.YtjblkgephboajaaGreatDoorBGramErrs
import Derived.Deep.AppendLies
namespace Go.Proofs.YtjblkgephboajaaGreatDoor.GramRoll
open Go.RowKit Go.Maps Go.WideMaps GramLess GramMath GramRow GramOne GramApart GramCopy GramName GramCheck
set_option linter.unusedVariables false
set_option linter.unusedSimpArgs false

theorem ints_get {zs : List Int} {k : Nat} {x : Int} (h : zs[k]? = some x) : (intsA zs)[k]? = some (.int .i64 x) := by
  simp [intsA, h]

theorem _root_.Go.Proofs.YtjblkgephboajaaGreatDoor.GramRow.CkV.set {base k : Nat} {p : Nat → Addr} {r : Nat × Option Nat} {w : World} {v : Value} (h : CkV base p r w v) (hk : k < base) (q : Nat) (x : Value) : CkV base p r (w.setCell ⟨k, q, none⟩ x) v := by
  obtain ⟨n, o⟩ := r
  cases n with
  | zero => exact h
  | succ n =>
    cases o with
    | none => exact h
    | some i =>
      obtain ⟨b, hb, hv, hc⟩ := h
      exact ⟨b, hb, hv, (Below.heap_setCell _ _ _ _ (show b ≠ k by omega)).trans hc⟩

theorem nil_neq (w : World) : (binOp .neq 27 .nilIface .nilIface).run Tryz.prog w = .ok (.bool false) w := by kernel_rfl

theorem srow_own {w : World} {base : Nat} {v : Value} {ss : List ByteArray} (h : w.ownsRow base 9 1 v ss.length (ss.map Value.string)) : ∃ a c, v = .slice a ss.length c ∧ SRow w a ss ∧ ss.length ≤ c := by
  obtain ⟨_, ⟨rfl, h0⟩ | ⟨g, cap, cur, rfl, hb, hg, hn, _, _, _⟩⟩ := id h
  · refine ⟨none, 0, by rw [h0], fun k x hx => ?_, by omega⟩
    have := (List.getElem?_eq_some_iff.1 hx).1
    omega
  · refine ⟨_, cap, rfl, fun k x hx => ⟨g, 0, rfl, ?_⟩, hn⟩
    have hk := (List.getElem?_eq_some_iff.1 hx).1
    rw [Nat.zero_add, h.cellAt k (by omega), List.getElem?_map, hx]
    rfl

theorem rules_own {w : World} {base : Nat} {v : Value} {lq : List Q} (h : w.ownsRow base 46 2 v lq.length (cellsQ lq)) : ∃ a c, v = .slice a lq.length c ∧ (∀ i x, lq[i]? = some x → ∃ g, a = some ⟨g, 0, none⟩ ∧ w.cell? ⟨g, i * 2, none⟩ = some (.int .i64 x.r.left) ∧ w.cell? ⟨g, i * 2 + 1, none⟩ = some (.slice x.a x.r.right.length x.c)) := by
  obtain ⟨_, ⟨rfl, h0⟩ | ⟨g, cap, cur, rfl, hb, hg, hn, _, _, _⟩⟩ := id h
  · refine ⟨none, 0, by rw [h0], fun k x hx => ?_⟩
    have := (List.getElem?_eq_some_iff.1 hx).1
    omega
  · refine ⟨_, cap, rfl, fun k x hx => ⟨g, rfl, ?_⟩⟩
    have hk := (List.getElem?_eq_some_iff.1 hx).1
    obtain ⟨e1, e2⟩ := cellsQ_get lq k x hx
    exact ⟨by rw [h.cellAt (k * 2) (by omega), e1], by rw [h.cellAt (k * 2 + 1) (by omega), e2]⟩

theorem Build.rows {w : World} {b base : Nat} {g : G} {nv mv nv2 mv2 rv : Value} {lq : List Q} (h : Build w b base g nv mv nv2 mv2 rv lq) :
    ∃ ta tc na nc ra rc, nv = .slice ta g.ts.length tc ∧ nv2 = .slice na g.ns.length nc ∧ rv = .slice ra g.rs.length rc ∧ GRow w ta na ra g ∧ g.ts.length ≤ tc ∧ g.ns.length ≤ nc := by
  obtain ⟨ta, tc, e1, r1, l1⟩ := srow_own h.t.row
  obtain ⟨na, nc, e2, r2, l2⟩ := srow_own h.n.row
  have hl : lq.length = g.rs.length := by rw [← h.r.map, List.length_map]
  have hrow := h.r.row
  rw [← hl] at hrow
  obtain ⟨ra, rc, e3, r3⟩ := rules_own hrow
  rw [hl] at e3
  refine ⟨ta, tc, na, nc, ra, rc, e1, e2, e3, ⟨r1, r2, fun i r hr => ?_⟩, l1, l2⟩
  rw [← h.r.map, List.getElem?_map] at hr
  cases hq : lq[i]? with
  | none => rw [hq] at hr; cases hr
  | some x =>
    rw [hq] at hr
    cases hr
    obtain ⟨gb, ea, c1, c2⟩ := r3 i x hq
    obtain ⟨xb, e5, e6, _, e8⟩ := h.r.each x (List.mem_of_getElem? hq)
    refine ⟨gb, 0, x.a, x.c, ea, by rw [Nat.zero_add]; exact c1, by rw [Nat.zero_add]; exact c2, ?_⟩
    intro j z hz
    exact ⟨xb, 0, e5, by rw [Nat.zero_add]; exact e8.cell (ints_get hz)⟩

theorem RulesAt.kept {w w' : World} {b k : Nat} {bs : List Nat} {rs : List R} (h : RulesAt w b bs rs k) (hs : ∀ i, b ≤ i → i < w.heap.size → w'.heap[i]? = w.heap[i]?) (hz : w.heap.size ≤ w'.heap.size) (hlt : b < w.heap.size) : RulesAt w' b bs rs k where
  room q hq := by
    obtain ⟨h1, v, h2⟩ := h.room q hq
    have e := hs b (Nat.le_refl _) hlt
    refine ⟨(World.frozen?_of_block (a := ⟨b, q, none⟩) e).trans h1, v, (World.cell?_of_block (a := ⟨b, q, none⟩) e).trans h2⟩
  len := h.len
  each i r x hr hx := by
    obtain ⟨h1, h2, h3⟩ := h.each i r x hr hx
    have e := hs b (Nat.le_refl _) hlt
    have hm := List.mem_of_getElem? hx
    exact ⟨(World.cell?_of_block (a := ⟨b, i * 2, none⟩) e).trans h1, (World.cell?_of_block (a := ⟨b, i * 2 + 1, none⟩) e).trans h2, (hs x (Nat.le_of_lt (h.lo x hm)) (h.hi x hm)).trans h3⟩
  inc := h.inc
  lo := h.lo
  hi x hx := Nat.lt_of_lt_of_le (h.hi x hx) hz

theorem CopyAt.kept {w w' : World} {B C b1 b2 b3 : Nat} {bs : List Nat} {g : G} (h : CopyAt w B b1 b2 b3 bs g) (hs : ∀ i, B ≤ i → i < w.heap.size → w'.heap[i]? = w.heap[i]?) (hz : w.heap.size ≤ w'.heap.size) (hC : C ≤ B) : CopyAt w' C b1 b2 b3 bs g where
  ts := (hs b1 h.l1 h.ts.lt).trans h.ts
  ns := (hs b2 h.l2 h.ns.lt).trans h.ns
  rs := RulesAt.kept h.rs (fun i hi hl => hs i (Nat.le_trans h.l3 hi) hl) hz h.lt
  l1 := Nat.le_trans hC h.l1
  l2 := Nat.le_trans hC h.l2
  l3 := Nat.le_trans hC h.l3
  ne := h.ne
  l4 := h.l4
  lt := Nat.lt_of_lt_of_le h.lt hz

set_option maxRecDepth 100000 in
set_option maxHeartbeats 2000000 in
theorem bgrammar_any (b base : Nat) (g : G) (nv mv nv2 mv2 rv : Value) (lq : List Q) (p : Nat → Addr) (w : World) (h : Build w b base g nv mv nv2 mv2 rv lq) (ho : okG g) (hS : Sents w p) (tm : g.ts.length * 16 ≤ 140737488351232) (nm : g.ns.length * 16 ≤ 140737488351232) (rm : g.rs.length * 32 ≤ 140737488351232) (em : ∀ r ∈ g.rs, r.right.length * 8 ≤ 140737488351232) :
    Calls Tryz.prog 49 #[.pointer (some ⟨b, 0, none⟩)] w fun e w' =>
      (((checkG g).1 = 0 ∧ ∃ b1 b2 b3 bs, e = .returned (.tuple #[.agg #[.slice (some ⟨b1, 0, none⟩) g.ts.length g.ts.length, .slice (some ⟨b2, 0, none⟩) g.ns.length g.ns.length, .int .i64 g.ax, .slice (some ⟨b3, 0, none⟩) g.rs.length g.rs.length], .nilIface]) ∧ CopyAt w' w.heap.size b1 b2 b3 bs g)
      ∨ ((checkG g).1 ≠ 0 ∧ ∃ v, e = .returned (.tuple #[.agg #[.slice none 0 0, .slice none 0 0, .int .i64 0, .slice none 0 0], v]) ∧ CkV w.heap.size p (checkG g) w' v)) ∧ Below w.heap.size w w' := by
  have hptr := ptr_some
  have hneq := neq_nil
  obtain ⟨ta, tc, na, nc, ra, rc, rfl, rfl, rfl, hG, htc, hnc⟩ := h.rows
  have c0 := h.t.c0
  have c1 := h.n.c0
  have c2 := h.a
  have c3 := h.r.c
  have hblt : b < w.heap.size := cell_lt c0
  have hB1 : Below w.heap.size w (w.alloc (.cells #[.slice none 0 0, .slice none 0 0, .int .i64 0, .slice none 0 0] 25)) := (Below.refl _ _).alloc (Nat.le_refl _) _
  have r1 : RowAt (w.alloc (.cells #[.slice none 0 0, .slice none 0 0, .int .i64 0, .slice none 0 0] 25)) w.heap.size 25 #[.slice none 0 0, .slice none 0 0, .int .i64 0, .slice none 0 0] := World.alloc_heap_new w _
  have z1 : (w.alloc (.cells #[.slice none 0 0, .slice none 0 0, .int .i64 0, .slice none 0 0] 25)).heap.size = w.heap.size + 1 := by simp
  clear h
  go_enter Tryz.func49, Tryz.ntmps49
  go_wp2_with fail
  generalize w.alloc (.cells #[.slice none 0 0, .slice none 0 0, .int .i64 0, .slice none 0 0] 25) = W at *
  have hSS : ∀ w', Below w.heap.size w w' → (w'.cell? ⟨b, 0, none⟩ = some (.slice ta g.ts.length tc) ∧ w'.cell? ⟨b, 2, none⟩ = some (.slice na g.ns.length nc) ∧ w'.cell? ⟨b, 4, none⟩ = some (.int .i64 g.ax) ∧ w'.cell? ⟨b, 5, none⟩ = some (.slice ra g.rs.length rc)) := fun w' hb => ⟨(hb.cell (p := ⟨b, 0, none⟩) hblt).trans c0, (hb.cell (p := ⟨b, 2, none⟩) hblt).trans c1, (hb.cell (p := ⟨b, 4, none⟩) hblt).trans c2, (hb.cell (p := ⟨b, 5, none⟩) hblt).trans c3⟩
  have hdZ : Below W.heap.size W W.drew := ⟨rfl, rfl, rfl, Nat.le_refl W.heap.size, fun _ _ => rfl⟩
  have hB2 : Below w.heap.size w W.drew := ⟨hB1.os, hB1.tape, hB1.output, hB1.size, hB1.block⟩
  have r2 : RowAt W.drew w.heap.size 25 #[.slice none 0 0, .slice none 0 0, .int .i64 0, .slice none 0 0] := r1
  have z2 : W.drew.heap.size = w.heap.size + 1 := z1
  refine wp_region_noPanic ?_
  refine wp_region_held_drew (S := (fun w' => w'.cell? ⟨b, 0, none⟩ = some (.slice ta g.ts.length tc) ∧ w'.cell? ⟨b, 2, none⟩ = some (.slice na g.ns.length nc) ∧ w'.cell? ⟨b, 4, none⟩ = some (.int .i64 g.ax) ∧ w'.cell? ⟨b, 5, none⟩ = some (.slice ra g.rs.length rc))) (by kernel_rfl) (hSS _ hB2) (fun hHeld => ?_)
  refine wpAnyH_take (i := 0) (v := .pointer (some ⟨b, 0, none⟩)) rfl (by kernel_rfl) (by kernel_rfl) (by kernel_rfl) (fun _ _ _ h => h) (Or.inl ⟨by rfl, fun w9 hSw => ?_⟩) hHeld ?_
  · obtain ⟨s0, s1, s2, s3⟩ := hSw
    go_simp
  simp only [zA, zB, zC, Act.put, zD, zE, zF]
  refine wpAnyH_take (i := 1) (v := .pointer (some ⟨b, 0, none⟩)) rfl (by kernel_rfl) (by kernel_rfl) (by kernel_rfl) (fun _ _ _ h => h) (Or.inl ⟨by rfl, fun w9 hSw => ?_⟩) hHeld ?_
  · obtain ⟨s0, s1, s2, s3⟩ := hSw
    go_simp
  simp only [zA, zB, zC, Act.put, zD, zE, zF]
  refine wpAnyH_take (i := 2) (v := .pointer (some ⟨b, 0, none⟩)) rfl (by kernel_rfl) (by kernel_rfl) (by kernel_rfl) (fun _ _ _ h => h) (Or.inl ⟨by rfl, fun w9 hSw => ?_⟩) hHeld ?_
  · obtain ⟨s0, s1, s2, s3⟩ := hSw
    go_simp
  simp only [zA, zB, zC, Act.put, zD, zE, zF]
  refine wpAnyH_take (i := 3) (v := .pointer (some ⟨b, 0, none⟩)) rfl (by kernel_rfl) (by kernel_rfl) (by kernel_rfl) (fun _ _ _ h => h) (Or.inl ⟨by rfl, fun w9 hSw => ?_⟩) hHeld ?_
  · obtain ⟨s0, s1, s2, s3⟩ := hSw
    go_simp
  simp only [zA, zB, zC, Act.put, zD, zE, zF]
  refine wpAnyH_take (i := 4) (v := .slice ta g.ts.length tc) rfl (by kernel_rfl) (by kernel_rfl) (by kernel_rfl) (fun _ _ _ h => h) (Or.inl ⟨by rfl, fun w9 hSw => ?_⟩) hHeld ?_
  · obtain ⟨s0, s1, s2, s3⟩ := hSw
    go_simp
  simp only [zA, zB, zC, Act.put, zD, zE, zF]
  refine wpAnyH_take (i := 5) (v := .pointer (some ⟨b, 0, none⟩)) rfl (by kernel_rfl) (by kernel_rfl) (by kernel_rfl) (fun _ _ _ h => h) (Or.inl ⟨by rfl, fun w9 hSw => ?_⟩) hHeld ?_
  · obtain ⟨s0, s1, s2, s3⟩ := hSw
    go_simp
  simp only [zA, zB, zC, Act.put, zD, zE, zF]
  refine wpAnyH_take (i := 6) (v := .pointer (some ⟨b, 0, none⟩)) rfl (by kernel_rfl) (by kernel_rfl) (by kernel_rfl) (fun _ _ _ h => h) (Or.inl ⟨by rfl, fun w9 hSw => ?_⟩) hHeld ?_
  · obtain ⟨s0, s1, s2, s3⟩ := hSw
    go_simp
  simp only [zA, zB, zC, Act.put, zD, zE, zF]
  refine wpAnyH_take (i := 7) (v := .pointer (some ⟨b, 2, none⟩)) rfl (by kernel_rfl) (by kernel_rfl) (by kernel_rfl) (fun _ _ _ h => h) (Or.inl ⟨by rfl, fun w9 hSw => ?_⟩) hHeld ?_
  · obtain ⟨s0, s1, s2, s3⟩ := hSw
    go_simp
  simp only [zA, zB, zC, Act.put, zD, zE, zF]
  refine wpAnyH_take (i := 8) (v := .pointer (some ⟨b, 2, none⟩)) rfl (by kernel_rfl) (by kernel_rfl) (by kernel_rfl) (fun _ _ _ h => h) (Or.inl ⟨by rfl, fun w9 hSw => ?_⟩) hHeld ?_
  · obtain ⟨s0, s1, s2, s3⟩ := hSw
    go_simp
  simp only [zA, zB, zC, Act.put, zD, zE, zF]
  refine wpAnyH_take (i := 9) (v := .slice na g.ns.length nc) rfl (by kernel_rfl) (by kernel_rfl) (by kernel_rfl) (fun _ _ _ h => h) (Or.inl ⟨by rfl, fun w9 hSw => ?_⟩) hHeld ?_
  · obtain ⟨s0, s1, s2, s3⟩ := hSw
    go_simp
  simp only [zA, zB, zC, Act.put, zD, zE, zF]
  refine wpAnyH_take (i := 10) (v := .pointer (some ⟨b, 0, none⟩)) rfl (by kernel_rfl) (by kernel_rfl) (by kernel_rfl) (fun _ _ _ h => h) (Or.inl ⟨by rfl, fun w9 hSw => ?_⟩) hHeld ?_
  · obtain ⟨s0, s1, s2, s3⟩ := hSw
    go_simp
  simp only [zA, zB, zC, Act.put, zD, zE, zF]
  refine wpAnyH_take (i := 11) (v := .pointer (some ⟨b, 0, none⟩)) rfl (by kernel_rfl) (by kernel_rfl) (by kernel_rfl) (fun _ _ _ h => h) (Or.inl ⟨by rfl, fun w9 hSw => ?_⟩) hHeld ?_
  · obtain ⟨s0, s1, s2, s3⟩ := hSw
    go_simp
  simp only [zA, zB, zC, Act.put, zD, zE, zF]
  refine wpAnyH_take (i := 12) (v := .pointer (some ⟨b, 4, none⟩)) rfl (by kernel_rfl) (by kernel_rfl) (by kernel_rfl) (fun _ _ _ h => h) (Or.inl ⟨by rfl, fun w9 hSw => ?_⟩) hHeld ?_
  · obtain ⟨s0, s1, s2, s3⟩ := hSw
    go_simp
  simp only [zA, zB, zC, Act.put, zD, zE, zF]
  refine wpAnyH_take (i := 13) (v := .int .i64 g.ax) rfl (by kernel_rfl) (by kernel_rfl) (by kernel_rfl) (fun _ _ _ h => h) (Or.inl ⟨by rfl, fun w9 hSw => ?_⟩) hHeld ?_
  · obtain ⟨s0, s1, s2, s3⟩ := hSw
    go_simp
  simp only [zA, zB, zC, Act.put, zD, zE, zF]
  refine wpAnyH_take (i := 14) (v := .pointer (some ⟨b, 0, none⟩)) rfl (by kernel_rfl) (by kernel_rfl) (by kernel_rfl) (fun _ _ _ h => h) (Or.inl ⟨by rfl, fun w9 hSw => ?_⟩) hHeld ?_
  · obtain ⟨s0, s1, s2, s3⟩ := hSw
    go_simp
  simp only [zA, zB, zC, Act.put, zD, zE, zF]
  refine wpAnyH_take (i := 15) (v := .pointer (some ⟨b, 0, none⟩)) rfl (by kernel_rfl) (by kernel_rfl) (by kernel_rfl) (fun _ _ _ h => h) (Or.inl ⟨by rfl, fun w9 hSw => ?_⟩) hHeld ?_
  · obtain ⟨s0, s1, s2, s3⟩ := hSw
    go_simp
  simp only [zA, zB, zC, Act.put, zD, zE, zF]
  refine wpAnyH_take (i := 16) (v := .pointer (some ⟨b, 5, none⟩)) rfl (by kernel_rfl) (by kernel_rfl) (by kernel_rfl) (fun _ _ _ h => h) (Or.inl ⟨by rfl, fun w9 hSw => ?_⟩) hHeld ?_
  · obtain ⟨s0, s1, s2, s3⟩ := hSw
    go_simp
  simp only [zA, zB, zC, Act.put, zD, zE, zF]
  refine wpAnyH_take (i := 17) (v := .slice ra g.rs.length rc) rfl (by kernel_rfl) (by kernel_rfl) (by kernel_rfl) (fun _ _ _ h => h) (Or.inl ⟨by rfl, fun w9 hSw => ?_⟩) hHeld ?_
  · obtain ⟨s0, s1, s2, s3⟩ := hSw
    go_simp
  simp only [zA, zB, zC, Act.put, zD, zE, zF]
  refine wpAnyH_take (i := 18) (v := .agg #[.slice ta g.ts.length tc, .slice na g.ns.length nc, .int .i64 g.ax, .slice ra g.rs.length rc]) rfl (by kernel_rfl) (by kernel_rfl) (by kernel_rfl) (fun _ _ _ h => h) (Or.inl ⟨by rfl, fun w9 hSw => ?_⟩) hHeld ?_
  · obtain ⟨s0, s1, s2, s3⟩ := hSw
    go_simp
  simp only [zA, zB, zC, Act.put, zD, zE, zF]
  generalize W.drew = W2 at *
  have hB3 : Below w.heap.size w (W2.alloc (.cells #[.slice none 0 0, .slice none 0 0, .int .i64 0, .slice none 0 0] 25)) := hB2.alloc (by omega) _
  refine wpAnyH_ready (rs := [19]) (by kernel_rfl) (by simp) ?_
  refine AllReadyH.cons rfl (fun K hK => ?_) AllReadyH.nil
  go_simp
  refine hK.out _ _ (hSS _ hB3) (fun hHeld2 => ?_)
  clear hK K hHeld
  have r3 : RowAt (W2.alloc (.cells #[.slice none 0 0, .slice none 0 0, .int .i64 0, .slice none 0 0] 25)) w.heap.size 25 #[.slice none 0 0, .slice none 0 0, .int .i64 0, .slice none 0 0] := (Below.heap_alloc _ _ _ r2.lt).trans r2
  have n3 : RowAt (W2.alloc (.cells #[.slice none 0 0, .slice none 0 0, .int .i64 0, .slice none 0 0] 25)) (w.heap.size + 1) 25 #[.slice none 0 0, .slice none 0 0, .int .i64 0, .slice none 0 0] := by
    have : RowAt (W2.alloc (.cells #[.slice none 0 0, .slice none 0 0, .int .i64 0, .slice none 0 0] 25)) W2.heap.size 25 #[.slice none 0 0, .slice none 0 0, .int .i64 0, .slice none 0 0] := World.alloc_heap_new W2 _
    rwa [z2] at this
  have n4 : RowAt (((((W2.alloc (.cells #[.slice none 0 0, .slice none 0 0, .int .i64 0, .slice none 0 0] 25)).setCell ⟨w.heap.size + 1, 0, none⟩ (.slice ta g.ts.length tc)).setCell ⟨w.heap.size + 1, 1, none⟩ (.slice na g.ns.length nc)).setCell ⟨w.heap.size + 1, 2, none⟩ (.int .i64 g.ax)).setCell ⟨w.heap.size + 1, 3, none⟩ (.slice ra g.rs.length rc)) (w.heap.size + 1) 25 #[.slice ta g.ts.length tc, .slice na g.ns.length nc, .int .i64 g.ax, .slice ra g.rs.length rc] := (((n3.set 0 _).set 1 _).set 2 _).set 3 _
  have r4 : RowAt (((((W2.alloc (.cells #[.slice none 0 0, .slice none 0 0, .int .i64 0, .slice none 0 0] 25)).setCell ⟨w.heap.size + 1, 0, none⟩ (.slice ta g.ts.length tc)).setCell ⟨w.heap.size + 1, 1, none⟩ (.slice na g.ns.length nc)).setCell ⟨w.heap.size + 1, 2, none⟩ (.int .i64 g.ax)).setCell ⟨w.heap.size + 1, 3, none⟩ (.slice ra g.rs.length rc)) w.heap.size 25 #[.slice none 0 0, .slice none 0 0, .int .i64 0, .slice none 0 0] := (((r3.other (by omega) _ _).other (by omega) _ _).other (by omega) _ _).other (by omega) _ _
  have hB4 : Below w.heap.size w (((((W2.alloc (.cells #[.slice none 0 0, .slice none 0 0, .int .i64 0, .slice none 0 0] 25)).setCell ⟨w.heap.size + 1, 0, none⟩ (.slice ta g.ts.length tc)).setCell ⟨w.heap.size + 1, 1, none⟩ (.slice na g.ns.length nc)).setCell ⟨w.heap.size + 1, 2, none⟩ (.int .i64 g.ax)).setCell ⟨w.heap.size + 1, 3, none⟩ (.slice ra g.rs.length rc)) := (((hB3.setCell (p := ⟨w.heap.size + 1, 0, none⟩) (show w.heap.size ≤ w.heap.size + 1 by omega) _).setCell (p := ⟨w.heap.size + 1, 1, none⟩) (show w.heap.size ≤ w.heap.size + 1 by omega) _).setCell (p := ⟨w.heap.size + 1, 2, none⟩) (show w.heap.size ≤ w.heap.size + 1 by omega) _).setCell (p := ⟨w.heap.size + 1, 3, none⟩) (show w.heap.size ≤ w.heap.size + 1 by omega) _
  have z4 : (((((W2.alloc (.cells #[.slice none 0 0, .slice none 0 0, .int .i64 0, .slice none 0 0] 25)).setCell ⟨w.heap.size + 1, 0, none⟩ (.slice ta g.ts.length tc)).setCell ⟨w.heap.size + 1, 1, none⟩ (.slice na g.ns.length nc)).setCell ⟨w.heap.size + 1, 2, none⟩ (.int .i64 g.ax)).setCell ⟨w.heap.size + 1, 3, none⟩ (.slice ra g.rs.length rc)).heap.size = w.heap.size + 2 := by simp [z2]
  have m0 := n3.cell (q := 0) rfl
  have m1 := n3.cell (q := 1) rfl
  have m2 := n3.cell (q := 2) rfl
  have m3 := n3.cell (q := 3) rfl
  have f0 := n3.frozen 0
  have f1 := n3.frozen 1
  have f2 := n3.frozen 2
  have f3 := n3.frozen 3
  generalize hWq : W2.alloc (.cells #[.slice none 0 0, .slice none 0 0, .int .i64 0, .slice none 0 0] 25) = Wq at *
  refine wpAnyH_ready (rs := [20]) (by kernel_rfl) (by simp) ?_
  refine AllReadyH.cons rfl (fun K hK => ?_) AllReadyH.nil
  go_simp
  refine hK.out _ _ (hSS _ hB4) (fun _ => ?_)
  clear hK K
  refine wpAnyH_done (by kernel_rfl) (NoPanic.normal ?_) _
  clear m0 m1 m2 m3 f0 f1 f2 f3 n3 r3 hB3 hHeld2 hSS hdZ hB2 r2 z2 hB1 r1 z1 c0 c1 c2 c3
  generalize ((((Wq.setCell ⟨w.heap.size + 1, 0, none⟩ (.slice ta g.ts.length tc)).setCell ⟨w.heap.size + 1, 1, none⟩ (.slice na g.ns.length nc)).setCell ⟨w.heap.size + 1, 2, none⟩ (.int .i64 g.ax)).setCell ⟨w.heap.size + 1, 3, none⟩ (.slice ra g.rs.length rc)) = W4 at *
  clear hWq
  have k0 : W4.cell? ⟨w.heap.size + 1, 0, none⟩ = some (.slice ta g.ts.length tc) := n4.cell rfl
  have k1 : W4.cell? ⟨w.heap.size + 1, 1, none⟩ = some (.slice na g.ns.length nc) := n4.cell rfl
  have k2 : W4.cell? ⟨w.heap.size + 1, 2, none⟩ = some (.int .i64 g.ax) := n4.cell rfl
  have k3 : W4.cell? ⟨w.heap.size + 1, 3, none⟩ = some (.slice ra g.rs.length rc) := n4.cell rfl
  have hck := check_any ta na ra tc nc rc g p W4 (hG.below hB4 (Nat.le_refl _)) ho htc hnc (hS.below hB4 (Nat.le_refl _))
  go_wp2_with fail
  refine hck.mono ?_
  rintro e W5 ⟨⟨v, rfl, hv⟩, hb5⟩
  have hB5 := hB4.trans (hb5.mono (by omega))
  have n5 := n4.below hb5 n4.lt
  have r5 := r4.below hb5 r4.lt
  have z5 := hb5.size
  have q0 : W5.cell? ⟨w.heap.size, 0, none⟩ = some (.slice none 0 0) := r5.cell rfl
  have q1 : W5.cell? ⟨w.heap.size, 1, none⟩ = some (.slice none 0 0) := r5.cell rfl
  have q2 : W5.cell? ⟨w.heap.size, 2, none⟩ = some (.int .i64 0) := r5.cell rfl
  have q3 : W5.cell? ⟨w.heap.size, 3, none⟩ = some (.slice none 0 0) := r5.cell rfl
  have g0 := r5.frozen 0
  have g1 := r5.frozen 1
  have g2 := r5.frozen 2
  have g3 := r5.frozen 3
  clear hck k0 k1 k2 k3 n4 r4 hb5
  by_cases hz : (checkG g).1 = 0
  · have hvn : v = .nilIface := by
      cases hc : checkG g with
      | mk k o =>
        rw [hc] at hz hv
        cases hz
        exact hv
    subst hvn
    have k0 : W5.cell? ⟨w.heap.size + 1, 0, none⟩ = some (.slice ta g.ts.length tc) := n5.cell rfl
    have k1 : W5.cell? ⟨w.heap.size + 1, 1, none⟩ = some (.slice na g.ns.length nc) := n5.cell rfl
    have k2 : W5.cell? ⟨w.heap.size + 1, 2, none⟩ = some (.int .i64 g.ax) := n5.cell rfl
    have k3 : W5.cell? ⟨w.heap.size + 1, 3, none⟩ = some (.slice ra g.rs.length rc) := n5.cell rfl
    have hnn := nil_neq
    have hcp := copy_any ta na ra tc nc rc g W5 (hG.below hB5 (Nat.le_refl _)) ho tm nm rm em
    go_wp2_with fail
    refine hcp.mono ?_
    rintro e W6 ⟨⟨b1, b2, b3, bs, rfl, hco⟩, hb6⟩
    have hB6 := hB5.trans (hb6.mono (by omega))
    have r6 := r5.below hb6 r5.lt
    have q0 : W6.cell? ⟨w.heap.size, 0, none⟩ = some (.slice none 0 0) := r6.cell rfl
    have q1 : W6.cell? ⟨w.heap.size, 1, none⟩ = some (.slice none 0 0) := r6.cell rfl
    have q2 : W6.cell? ⟨w.heap.size, 2, none⟩ = some (.int .i64 0) := r6.cell rfl
    have q3 : W6.cell? ⟨w.heap.size, 3, none⟩ = some (.slice none 0 0) := r6.cell rfl
    have g0 := r6.frozen 0
    have g1 := r6.frozen 1
    have g2 := r6.frozen 2
    have g3 := r6.frozen 3
    have r7 : RowAt ((((W6.setCell ⟨w.heap.size, 0, none⟩ (.slice (some ⟨b1, 0, none⟩) g.ts.length g.ts.length)).setCell ⟨w.heap.size, 1, none⟩ (.slice (some ⟨b2, 0, none⟩) g.ns.length g.ns.length)).setCell ⟨w.heap.size, 2, none⟩ (.int .i64 g.ax)).setCell ⟨w.heap.size, 3, none⟩ (.slice (some ⟨b3, 0, none⟩) g.rs.length g.rs.length)) w.heap.size 25 #[.slice (some ⟨b1, 0, none⟩) g.ts.length g.ts.length, .slice (some ⟨b2, 0, none⟩) g.ns.length g.ns.length, .int .i64 g.ax, .slice (some ⟨b3, 0, none⟩) g.rs.length g.rs.length] := (((r6.set 0 _).set 1 _).set 2 _).set 3 _
    have hB7 := (((hB6.setCell (p := ⟨w.heap.size, 0, none⟩) (Nat.le_refl _) (.slice (some ⟨b1, 0, none⟩) g.ts.length g.ts.length)).setCell (p := ⟨w.heap.size, 1, none⟩) (Nat.le_refl _) (.slice (some ⟨b2, 0, none⟩) g.ns.length g.ns.length)).setCell (p := ⟨w.heap.size, 2, none⟩) (Nat.le_refl _) (.int .i64 g.ax)).setCell (p := ⟨w.heap.size, 3, none⟩) (Nat.le_refl _) (.slice (some ⟨b3, 0, none⟩) g.rs.length g.rs.length)
    have hco7 : CopyAt ((((W6.setCell ⟨w.heap.size, 0, none⟩ (.slice (some ⟨b1, 0, none⟩) g.ts.length g.ts.length)).setCell ⟨w.heap.size, 1, none⟩ (.slice (some ⟨b2, 0, none⟩) g.ns.length g.ns.length)).setCell ⟨w.heap.size, 2, none⟩ (.int .i64 g.ax)).setCell ⟨w.heap.size, 3, none⟩ (.slice (some ⟨b3, 0, none⟩) g.rs.length g.rs.length)) w.heap.size b1 b2 b3 bs g :=
      CopyAt.kept hco (fun i hi _ => by
        have hne : i ≠ w.heap.size := by omega
        exact (Below.heap_setCell _ _ _ _ hne).trans ((Below.heap_setCell _ _ _ _ hne).trans ((Below.heap_setCell _ _ _ _ hne).trans (Below.heap_setCell _ _ _ _ hne)))) (by simp) (by omega)
    clear hcp hco k0 k1 k2 k3 hv
    go_wp2_with fail
    generalize ((((W6.setCell ⟨w.heap.size, 0, none⟩ (.slice (some ⟨b1, 0, none⟩) g.ts.length g.ts.length)).setCell ⟨w.heap.size, 1, none⟩ (.slice (some ⟨b2, 0, none⟩) g.ns.length g.ns.length)).setCell ⟨w.heap.size, 2, none⟩ (.int .i64 g.ax)).setCell ⟨w.heap.size, 3, none⟩ (.slice (some ⟨b3, 0, none⟩) g.rs.length g.rs.length)) = W7 at *
    have p0 : W7.cell? ⟨w.heap.size, 0, none⟩ = some (.slice (some ⟨b1, 0, none⟩) g.ts.length g.ts.length) := r7.cell rfl
    have p1 : W7.cell? ⟨w.heap.size, 1, none⟩ = some (.slice (some ⟨b2, 0, none⟩) g.ns.length g.ns.length) := r7.cell rfl
    have p2 : W7.cell? ⟨w.heap.size, 2, none⟩ = some (.int .i64 g.ax) := r7.cell rfl
    have p3 : W7.cell? ⟨w.heap.size, 3, none⟩ = some (.slice (some ⟨b3, 0, none⟩) g.rs.length g.rs.length) := r7.cell rfl
    refine bodyPost_ret (v := .tuple #[.agg #[.slice (some ⟨b1, 0, none⟩) g.ts.length g.ts.length, .slice (some ⟨b2, 0, none⟩) g.ns.length g.ns.length, .int .i64 g.ax, .slice (some ⟨b3, 0, none⟩) g.rs.length g.rs.length], .nilIface]) (by simp [results, Tryz.results49, go_sem, p0, p1, p2, p3]; try rfl) rfl ?_
    exact ⟨.inl ⟨hz, b1, b2, b3, bs, rfl, hco7⟩, hB7⟩
  · obtain ⟨tt, u, hvi⟩ : ∃ tt u, v = .iface tt u := by
      cases hc : checkG g with
      | mk k o =>
        rw [hc] at hz hv
        cases k with
        | zero => exact absurd rfl hz
        | succ k =>
          cases o with
          | none => exact ⟨_, _, hv⟩
          | some i =>
            obtain ⟨b, _, e, _⟩ := hv
            exact ⟨_, _, e⟩
    subst hvi
    have hv7 : CkV w.heap.size p (checkG g) ((((W5.setCell ⟨w.heap.size, 0, none⟩ (.slice none 0 0)).setCell ⟨w.heap.size, 1, none⟩ (.slice none 0 0)).setCell ⟨w.heap.size, 2, none⟩ (.int .i64 0)).setCell ⟨w.heap.size, 3, none⟩ (.slice none 0 0)) (.iface tt u) := ((((hv.set (show w.heap.size < W4.heap.size by omega) 0 _).set (show w.heap.size < W4.heap.size by omega) 1 _).set (show w.heap.size < W4.heap.size by omega) 2 _).set (show w.heap.size < W4.heap.size by omega) 3 _).mono (by omega)
    have r7 : RowAt ((((W5.setCell ⟨w.heap.size, 0, none⟩ (.slice none 0 0)).setCell ⟨w.heap.size, 1, none⟩ (.slice none 0 0)).setCell ⟨w.heap.size, 2, none⟩ (.int .i64 0)).setCell ⟨w.heap.size, 3, none⟩ (.slice none 0 0)) w.heap.size 25 #[.slice none 0 0, .slice none 0 0, .int .i64 0, .slice none 0 0] := (((r5.set 0 _).set 1 _).set 2 _).set 3 _
    have hB7 := (((hB5.setCell (p := ⟨w.heap.size, 0, none⟩) (Nat.le_refl _) (.slice none 0 0)).setCell (p := ⟨w.heap.size, 1, none⟩) (Nat.le_refl _) (.slice none 0 0)).setCell (p := ⟨w.heap.size, 2, none⟩) (Nat.le_refl _) (.int .i64 0)).setCell (p := ⟨w.heap.size, 3, none⟩) (Nat.le_refl _) (.slice none 0 0)
    clear hv
    go_wp2_with fail
    generalize ((((W5.setCell ⟨w.heap.size, 0, none⟩ (.slice none 0 0)).setCell ⟨w.heap.size, 1, none⟩ (.slice none 0 0)).setCell ⟨w.heap.size, 2, none⟩ (.int .i64 0)).setCell ⟨w.heap.size, 3, none⟩ (.slice none 0 0)) = W7 at *
    have p0 : W7.cell? ⟨w.heap.size, 0, none⟩ = some (.slice none 0 0) := r7.cell rfl
    have p1 : W7.cell? ⟨w.heap.size, 1, none⟩ = some (.slice none 0 0) := r7.cell rfl
    have p2 : W7.cell? ⟨w.heap.size, 2, none⟩ = some (.int .i64 0) := r7.cell rfl
    have p3 : W7.cell? ⟨w.heap.size, 3, none⟩ = some (.slice none 0 0) := r7.cell rfl
    refine bodyPost_ret (v := .tuple #[.agg #[.slice none 0 0, .slice none 0 0, .int .i64 0, .slice none 0 0], .iface tt u]) (by simp [results, Tryz.results49, go_sem, p0, p1, p2, p3]; try rfl) rfl ?_
    exact ⟨.inr ⟨hz, _, rfl, hv7⟩, hB7⟩

end Go.Proofs.YtjblkgephboajaaGreatDoor.GramRoll

namespace Go.Proofs.YtjblkgephboajaaGreatDoor.SpecMem
open Go.RowKit Go.Maps Go.WideMaps GramMath GramRow GramOne GramApart GramRoll GramCopy LineMath SpecLn SpecMd WordsBytes
set_option linter.unusedVariables false
set_option linter.unusedSimpArgs false

/-! Names and their numbers. -/
theorem add_in {ss : List ByteArray} {s : ByteArray} (h : memB s ss = true) : addN ss s = ss := by unfold addN; rw [if_pos h]
theorem add_out {ss : List ByteArray} {s : ByteArray} (h : memB s ss = false) : addN ss s = ss ++ [s] := by unfold addN; rw [if_neg (by rw [h]; decide)]
theorem add_mem (ss : List ByteArray) (s : ByteArray) : memB s (addN ss s) = true := by
  cases h : memB s ss with
  | true => rw [add_in h]; exact h
  | false => rw [add_out h]; exact (memB_iff _ _).2 (by simp)
theorem mem_add {ss : List ByteArray} {s : ByteArray} (t : ByteArray) (h : memB s ss = true) : memB s (addN ss t) = true := by
  cases ht : memB t ss with
  | true => rw [add_in ht]; exact h
  | false => rw [add_out ht]; exact (memB_iff _ _).2 (List.mem_append_left _ ((memB_iff _ _).1 h))
theorem idx_app {ss : List ByteArray} {s : ByteArray} (more : List ByteArray) (h : memB s ss = true) : idx (ss ++ more) s = idx ss s := by
  have h2 : memB s (ss ++ more) = true := (memB_iff _ _).2 (List.mem_append_left _ ((memB_iff _ _).1 h))
  rcases idx_cases ss s with ⟨_, h3⟩ | ⟨k, e, hk, hb, _⟩
  · rw [h] at h3; cases h3
  rcases idx_cases (ss ++ more) s with ⟨_, h3⟩ | ⟨j, e2, hj, hb2, _⟩
  · rw [h2] at h3; cases h3
  rw [e, e2]
  have hkl := (List.getElem?_eq_some_iff.1 hk).1
  rcases Nat.lt_trichotomy j k with h4 | h4 | h4
  · have := hb j h4
    rw [List.getElem?_append_left (by omega)] at hj
    exact absurd hj this
  · rw [h4]
  · have := hb2 k h4
    rw [List.getElem?_append_left hkl] at this
    exact absurd hk this
theorem idx_add {ss : List ByteArray} {s : ByteArray} (t : ByteArray) (h : memB s ss = true) : idx (addN ss t) s = idx ss s := by
  cases ht : memB t ss with
  | true => rw [add_in ht]
  | false => rw [add_out ht, idx_app _ h]
theorem num_add (ss : List ByteArray) (s : ByteArray) : numS ss s = idx (addN ss s) s := by
  cases h : memB s ss with
  | true => unfold numS; rw [if_pos h, add_in h]
  | false =>
    unfold numS
    rw [if_neg (by rw [h]; decide), add_out h]
    rcases idx_cases (ss ++ [s]) s with ⟨_, h3⟩ | ⟨k, e, hk, hb, _⟩
    · rw [show memB s (ss ++ [s]) = true from (memB_iff _ _).2 (by simp)] at h3; cases h3
    rw [e]
    have hkl := (List.getElem?_eq_some_iff.1 hk).1
    simp at hkl
    rcases Nat.lt_or_ge k ss.length with h4 | h4
    · rw [List.getElem?_append_left h4] at hk
      have : memB s ss = true := (memB_iff _ _).2 (List.mem_of_getElem? hk)
      rw [h] at this; cases this
    · rw [show k = ss.length by omega]

/-- An alternative, and the value of its names. -/
structure Qr where
  s : Sd
  v : Value
def cellsR (ns : List ByteArray) (qs : List Qr) : List Value := qs.flatMap (fun q => [.int .i64 (idx ns (bt q.s.left)), q.v, .int .i64 (q.s.at_ : Int)])
/-- The block of the last names. -/
def ofNames (qs : List Qr) (k : Nat) : Prop := ∃ q, qs.getLast? = some q ∧ q.v.ownBlock = some k

/-- A map of at most so many entries. -/
def OwnM (w : World) (mb M : Nat) (D : DataW Unit) : Prop := ∃ n, n ≤ M ∧ w.ownsMap (H := Unit) Tryz.prog 9 (plainElem Tryz.prog 3) mb n D
theorem OwnM.at {w w' : World} {mb M : Nat} {D : DataW Unit} (h : OwnM w mb M D) (he : w'.heap[mb]? = w.heap[mb]?) : OwnM w' mb M D := by
  obtain ⟨n, h1, h2⟩ := h
  exact ⟨n, h1, ownsMap_of h2 he⟩
theorem OwnM.lt {w : World} {mb M : Nat} {D : DataW Unit} (h : OwnM w mb M D) : mb < w.heap.size := by
  obtain ⟨n, h1, h2⟩ := h
  exact ownsMap_lt h2
theorem OwnM.mono {w : World} {mb M M' : Nat} {D : DataW Unit} (h : OwnM w mb M D) (hM : M ≤ M') : OwnM w mb M' D := by
  obtain ⟨n, h1, h2⟩ := h
  exact ⟨n, Nat.le_trans h1 hM, h2⟩

structure RdN (w : World) (rb bb mb base : Nat) (nx : Value) (start : Nat) (ln : Int) (ns : List ByteArray) (qs : List Qr) (D : DataW Unit) (rv nv mv : Value) : Prop where
  box : RowAt w rb 85 #[nx, .int .i64 (start : Int), .int .i64 ln, .pointer (some ⟨bb, 0, none⟩), .map (some mb), rv]
  t : Roll w bb 0 base [] (.slice none 0 0) (.map none)
  n : Roll w bb 2 base ns nv mv
  a : w.cell? ⟨bb, 4, none⟩ = some (.int .i64 0)
  af : w.frozen? ⟨bb, 4, none⟩ = false
  r : RulesOf w bb base [] (.slice none 0 0) []
  own : OwnM w mb (start + 1) D
  map : MapOf D ns
  rules : w.ownsRow base 88 3 rv qs.length (cellsR ns qs)
  each : ∀ q ∈ qs, w.ownsRow base 102 3 q.v q.s.names.length (cellsW q.s.names)
  far : qs.Pairwise (fun p q => ∀ k, p.v.ownBlock = some k → q.v.ownBlock ≠ some k)
  known : ∀ q ∈ qs, memB (bt q.s.left) ns = true
  rlt : rb < base
  mlt : mb < base
  rbb : rb ≠ bb
  mbb : mb ≠ bb

theorem frozen_of_block {w w' : World} {b : Nat} (h : w'.heap[b]? = w.heap[b]?) (o : Nat) : w'.frozen? ⟨b, o, none⟩ = w.frozen? ⟨b, o, none⟩ := by
  unfold World.frozen?
  rw [h]
theorem Roll.at {w w' : World} {b off base : Nat} {ss : List ByteArray} {nv mv : Value} (h : Roll w b off base ss nv mv) (hb : w'.heap[b]? = w.heap[b]?) (hk : ∀ k, base ≤ k → k < w.heap.size → ofRoll nv mv k → w'.heap[k]? = w.heap[k]?) : Roll w' b off base ss nv mv where
  c0 := (World.cell?_of_block hb).trans h.c0
  c1 := (World.cell?_of_block hb).trans h.c1
  f0 := (frozen_of_block hb _).trans h.f0
  f1 := (frozen_of_block hb _).trans h.f1
  row := own_block h.row (fun g hg => hk g (h.blocks (.inl hg)).1 (h.blocks (.inl hg)).2 (.inl hg))
  map := by
    rcases h.map with hm | ⟨mb, D, hne, hm, hb1, hown, hD⟩
    · exact .inl hm
    · have hr : ofRoll nv mv mb := .inr hm
      exact .inr ⟨mb, D, hne, hm, hb1, ownsMap_of hown (hk mb (h.blocks hr).1 (h.blocks hr).2 hr), hD⟩
  nil := h.nil
  lt := h.lt
theorem RulesOf.at {w w' : World} {b base : Nat} (h : RulesOf w b base [] (.slice none 0 0) []) (hb : w'.heap[b]? = w.heap[b]?) : RulesOf w' b base [] (.slice none 0 0) [] :=
  ⟨(World.cell?_of_block hb).trans h.c, (frozen_of_block hb _).trans h.f, own_block h.row (fun g hg => by simp [Value.ownBlock] at hg), h.map, fun x hx => by cases hx⟩

section
variable {w w' : World} {rb bb mb base start : Nat} {nx : Value} {ln : Int} {ns : List ByteArray} {qs : List Qr} {D : DataW Unit} {rv nv mv : Value}

theorem RdN.blt (h : RdN w rb bb mb base nx start ln ns qs D rv nv mv) : bb < base := h.n.lt
theorem RdN.bsz (h : RdN w rb bb mb base nx start ln ns qs D rv nv mv) : bb < w.heap.size := GramRow.cell_lt h.a
theorem RdN.far2 (h : RdN w rb bb mb base nx start ln ns qs D rv nv mv) : ∀ k, ofRoll (.slice none 0 0) (.map none) k → ¬ ofRoll nv mv k := fun k hk => by
  rcases hk with hk | hk <;> cases hk
theorem RdN.bld (h : RdN w rb bb mb base nx start ln ns qs D rv nv mv) (hlt : base ≤ w.heap.size) : Build w bb base ⟨[], ns, 0, []⟩ (.slice none 0 0) (.map none) nv mv (.slice none 0 0) [] :=
  ⟨h.t, h.n, h.a, h.af, h.r, h.far2, hlt⟩
/-- All that a reader has lies as it did. -/
theorem RdN.block (h : RdN w rb bb mb base nx start ln ns qs D rv nv mv) (hk : ∀ k, k < w.heap.size → (k = rb ∨ k = bb ∨ k = mb ∨ base ≤ k) → w'.heap[k]? = w.heap[k]?) : RdN w' rb bb mb base nx start ln ns qs D rv nv mv where
  box := (hk rb h.box.lt (.inl rfl)).trans h.box
  t := Roll.at h.t (hk bb h.bsz (.inr (.inl rfl))) (fun k h1 h2 _ => hk k h2 (.inr (.inr (.inr h1))))
  n := Roll.at h.n (hk bb h.bsz (.inr (.inl rfl))) (fun k h1 h2 _ => hk k h2 (.inr (.inr (.inr h1))))
  a := (World.cell?_of_block (hk bb h.bsz (.inr (.inl rfl)))).trans h.a
  af := (frozen_of_block (hk bb h.bsz (.inr (.inl rfl))) _).trans h.af
  r := RulesOf.at h.r (hk bb h.bsz (.inr (.inl rfl)))
  own := h.own.at (hk mb h.own.lt (.inr (.inr (.inl rfl))))
  map := h.map
  rules := own_block h.rules (fun g hg => hk g (h.rules.lt g hg).2 (.inr (.inr (.inr (h.rules.lt g hg).1))))
  each q hq := own_block (h.each q hq) (fun g hg => hk g ((h.each q hq).lt g hg).2 (.inr (.inr (.inr ((h.each q hq).lt g hg).1))))
  far := h.far
  known := h.known
  rlt := h.rlt
  mlt := h.mlt
  rbb := h.rbb
  mbb := h.mbb
theorem RdN.below (h : RdN w rb bb mb base nx start ln ns qs D rv nv mv) (hb : Below w.heap.size w w') : RdN w' rb bb mb base nx start ln ns qs D rv nv mv := h.block (fun k hk _ => hb.block k hk)

theorem map_not_row {b mb M : Nat} {t : TypeId} {C : Array Value} {D : DataW Unit} (h : OwnM w mb M D) (hr : RowAt w b t C) : mb ≠ b := by
  obtain ⟨_, _, es, clock, h1, _⟩ := h
  rintro rfl
  rw [show w.heap[mb]? = _ from hr] at h1
  cases h1
theorem own_row {e : TypeId} {size n g : Nat} {v : Value} {xs : List Value} (h : w.ownsRow base e size v n xs) (hg : v.ownBlock = some g) : ∃ cur, RowAt w g e cur := by
  obtain ⟨_, ⟨hn, _⟩ | ⟨g', cap, cur, hv, _, hh, _⟩⟩ := h
  · rw [hn] at hg; simp [Value.ownBlock] at hg
  · rw [hv] at hg
    have e : g' = g := by simpa [Value.ownBlock] using hg
    subst e
    exact ⟨cur, hh⟩
end

/-- What a call writes of what was there: below a number but three blocks; and no words but the last alternative's. -/
structure Chg (base rb bb mb : Nat) (qs qs' : List Qr) (w w' : World) : Prop where
  os : w'.os = w.os
  tape : w'.tape = w.tape
  output : w'.output = w.output
  size : w.heap.size ≤ w'.heap.size
  block : ∀ k, k < base → k ≠ rb → k ≠ bb → k ≠ mb → w'.heap[k]? = w.heap[k]?
  row : ∀ b t C, base ≤ b → t ≠ 9 → t ≠ 88 → (t = 102 → ¬ ofNames qs b) → RowAt w b t C → RowAt w' b t C
  new : ∀ k, ofNames qs' k → ofNames qs k ∨ w.heap.size ≤ k
theorem Chg.trans {base rb bb mb : Nat} {q1 q2 q3 : List Qr} {a b c : World} (h : Chg base rb bb mb q1 q2 a b) (k : Chg base rb bb mb q2 q3 b c) : Chg base rb bb mb q1 q3 a c :=
  ⟨k.os.trans h.os, k.tape.trans h.tape, k.output.trans h.output, Nat.le_trans h.size k.size, fun i h1 h2 h3 h4 => (k.block i h1 h2 h3 h4).trans (h.block i h1 h2 h3 h4),
   fun i t C h0 h9 hr h2 h1 => k.row i t C h0 h9 hr (fun ht e => by
     rcases h.new i e with h3 | h3
     · exact h2 ht h3
     · have := h1.lt; omega) (h.row i t C h0 h9 hr h2 h1),
   fun i h1 => by
     rcases k.new i h1 with h2 | h2
     · exact h.new i h2
     · exact .inr (Nat.le_trans h.size h2)⟩
theorem Chg.of_below {base rb bb mb : Nat} (qs : List Qr) {w w' : World} (h : Below w.heap.size w w') (hB : base ≤ w.heap.size) : Chg base rb bb mb qs qs w w' :=
  ⟨h.os, h.tape, h.output, h.size, fun k hk _ _ _ => h.block k (by omega), fun b t C _ _ _ _ hr => hr.below h hr.lt, fun _ h => .inl h⟩
theorem Chg.below {base rb bb mb B : Nat} {qs qs' : List Qr} {w w' : World} (h : Chg base rb bb mb qs qs' w w') (h1 : B ≤ rb) (h2 : B ≤ bb) (h3 : B ≤ mb) (h4 : B ≤ base) : Below B w w' := ⟨h.os, h.tape, h.output, h.size, fun k hk => h.block k (by omega) (by omega) (by omega) (by omega)⟩

theorem Chg.word {base rb bb mb : Nat} {qs qs' : List Qr} {w w' : World} (h : Chg base rb bb mb qs qs' w w') {b : Nat} {C : Array Value} (hb : base ≤ b) (hr : RowAt w b 102 C) (hn : ¬ ofNames qs b) : RowAt w' b 102 C := h.row b _ C hb (by decide) (by decide) (fun _ => hn) hr

/-- The state that takes the next word. -/
def stV (rb : Nat) : St → Value
  | .beg => .func (.func 76) #[.pointer (some ⟨rb, 0, none⟩)] #[]
  | .col => .func (.func 100) #[.pointer (some ⟨rb, 0, none⟩)] #[]
  | .nam => .func (.func 108) #[.pointer (some ⟨rb, 0, none⟩)] #[]
  | .fin => .nilFunc
/-- What the reader knows of the nonterminals. -/
def Knows (p : PS) (ln : Int) (ns : List ByteArray) : Prop :=
  match p.st with
  | .col => ns = addN (ntsZ p.rs []) (bt p.left) ∧ ln = idx ns (bt p.left) ∧ memB (bt p.left) ns = true
  | .nam => p.rs ≠ [] ∧ ns = ntsZ p.rs [] ∧ ln = idx ns (bt p.left) ∧ memB (bt p.left) ns = true
  | _ => ns = ntsZ p.rs [] ∧ (p.rs ≠ [] → ln = idx ns (bt p.left) ∧ memB (bt p.left) ns = true)
/-- What a state answers. -/
def StepR (aS : Addr) (rb bb mb base : Nat) (nx : Value) (start : Nat) (qs : List Qr) (z : Except Nat PS) (w : World) (e : Ending) (w' : World) : Prop :=
  match z with
  | .error p => (∃ v, e = .panicked [{ v := v, recovered := false }] ∧ ErrAt w.heap.size aS p w' v) ∧ Below w.heap.size w w'
  | .ok p' => e = .returned (stV rb p'.st) ∧ ∃ ln' ns' qs' D' rv' nv' mv', RdN w' rb bb mb base nx start ln' ns' qs' D' rv' nv' mv' ∧ qs'.map (·.s) = p'.rs ∧ Knows p' ln' ns' ∧ Chg base rb bb mb qs qs' w w'

theorem nts_app (l : List Sd) (s : Sd) : ∀ ns, ntsZ (l ++ [s]) ns = addN (ntsZ l ns) (bt s.left) := by
  induction l with
  | nil => intro ns; rfl
  | cons x l ih => intro ns; exact ih _
theorem nts_len (l : List Sd) : ∀ ns, (ntsZ l ns).length ≤ ns.length + l.length := by
  induction l with
  | nil => intro ns; exact Nat.le_refl _
  | cons x l ih =>
    intro ns
    have h1 := ih (addN ns (bt x.left))
    have h2 : (addN ns (bt x.left)).length ≤ ns.length + 1 := by unfold addN; split <;> simp
    show (ntsZ l _).length ≤ _
    simp only [List.length_cons]
    omega

end Go.Proofs.YtjblkgephboajaaGreatDoor.SpecMem

namespace Go.Proofs.YtjblkgephboajaaGreatDoor.SpecMem
open Go.RowKit Go.Maps Go.WideMaps GramMath GramRow GramOne GramApart GramRoll GramCopy LineMath SpecLn SpecMd WordsBytes
set_option linter.unusedVariables false
set_option linter.unusedSimpArgs false

def wA (x : Wd) : Value := .agg #[.string ⟨x.text.toArray⟩, .bool x.quoted, .int .i64 (x.place : Int)]

set_option maxRecDepth 100000 in
set_option maxHeartbeats 400000 in
theorem isMark_any (x : Wd) (c : UInt8) (w : World) : Calls Tryz.prog 96 #[.agg #[.string ⟨x.text.toArray⟩, .bool x.quoted, .int .i64 (x.place : Int)], .string ⟨#[c]⟩] w fun e w' => e = .returned (.bool (mk x c)) ∧ w' = w.alloc (.cells #[.string ⟨x.text.toArray⟩, .bool x.quoted, .int .i64 (x.place : Int)] 102) := by
  have E : Hid (mk x c = (!x.quoted && (x.text == [c]))) := rfl
  cases ht : (x.text == [c]) with
  | true =>
    rw [ht] at E
    go_enter Tryz.func96, Tryz.ntmps96
    go_wp2
    go_ret
    rw [E.out]
    simp
  | false =>
    rw [ht] at E
    go_enter Tryz.func96, Tryz.ntmps96
    go_wp2
    go_ret
    rw [E.out]
    simp

set_option maxRecDepth 100000 in
set_option maxHeartbeats 400000 in
theorem isEnd_any (x : Wd) (w : World) : Calls Tryz.prog 95 #[.agg #[.string ⟨x.text.toArray⟩, .bool x.quoted, .int .i64 (x.place : Int)]] w fun e w' => e = .returned (.bool (isEnd x)) ∧ w' = w.alloc (.cells #[.string ⟨x.text.toArray⟩, .bool x.quoted, .int .i64 (x.place : Int)] 102) := by
  have E : Hid (isEnd x = (!x.quoted && x.text.isEmpty)) := by show _ = _; unfold isEnd; cases x.text <;> rfl
  cases ht : x.text.isEmpty with
  | true =>
    rw [ht] at E
    go_enter Tryz.func95, Tryz.ntmps95
    go_wp2
    go_ret
    rw [E.out]
    simp
  | false =>
    rw [ht] at E
    go_enter Tryz.func95, Tryz.ntmps95
    go_wp2
    go_ret
    rw [E.out]
    simp

set_option maxRecDepth 100000 in
set_option maxHeartbeats 400000 in
theorem wrongS_any (p : Nat) (aS : Addr) (w : World) (hS : WordsBytes.Sent w 1 aS) : Calls Tryz.prog 46 #[.int .i64 (p : Int)] w fun e w' =>
    e = .returned (.iface 68 (.pointer (some ⟨w.heap.size, 0, none⟩))) ∧ w' = w.alloc (.cells #[.int .i64 (p : Int), .iface 204 (.pointer (some aS))] 72) := by
  have h : w.cell? ⟨1, 0, none⟩ = some (.iface 204 (.pointer (some aS))) := hS
  go_enter Tryz.func46, Tryz.ntmps46
  go_wp2
  go_ret
  exact ⟨rfl, rfl⟩

theorem lenB_cases (x : Wd) : (mk x 58 = true ∧ lenB x = false) ∨ (mk x 58 = false ∧ x.text = [] ∧ lenB x = false) ∨ (mk x 58 = false ∧ x.text ≠ [] ∧ 32 < x.text.length ∧ lenB x = false) ∨ (mk x 58 = false ∧ x.text ≠ [] ∧ x.text.length ≤ 32 ∧ lenB x = true) := by
  unfold lenB
  cases mk x 58 with
  | true => exact .inl ⟨rfl, rfl⟩
  | false =>
    by_cases h : x.text = []
    · exact .inr (.inl ⟨rfl, h, by simp [h]⟩)
    · have hp := List.length_pos_iff.2 h
      by_cases h2 : x.text.length ≤ 32
      · exact .inr (.inr (.inr ⟨rfl, h, h2, by simp [h2, hp]⟩))
      · exact .inr (.inr (.inl ⟨rfl, h, by omega, by simp [h2, hp]⟩))

/-- Names: nothing, or a panic at the word's place. -/
def NameR (aS : Addr) (x : Wd) (w : World) (e : Ending) (w' : World) : Prop :=
  ((lenB x = true ∧ e = .returned (.tuple #[])) ∨ (lenB x = false ∧ ∃ v, e = .panicked [{ v := v, recovered := false }] ∧ ErrAt w.heap.size aS x.place w' v)) ∧ Below w.heap.size w w'

set_option maxRecDepth 100000 in
set_option maxHeartbeats 4000000 in
theorem checkName_any (x : Wd) (aS : Addr) (w : World) (hS : WordsBytes.Sent w 1 aS) (hx : x.text.length ≤ 1048576) : Calls Tryz.prog 98 #[.agg #[.string ⟨x.text.toArray⟩, .bool x.quoted, .int .i64 (x.place : Int)]] w fun e w' => NameR aS x w e w' := by
  have hsz : ((⟨x.text.toArray⟩ : ByteArray).size : Int) = (x.text.length : Int) := by simp [ByteArray.size]
  obtain ⟨o, ho⟩ : ∃ o : Obj, o = .cells #[.string ⟨x.text.toArray⟩, .bool x.quoted, .int .i64 (x.place : Int)] 102 := ⟨_, rfl⟩
  have B1 : Below w.heap.size w (w.alloc o) := (Below.refl _ _).alloc (Nat.le_refl _) _
  have B2 : Below w.heap.size w ((w.alloc o).alloc o) := B1.alloc (by simp) _
  have hw2 := wrongS_any x.place aS ((w.alloc o).alloc o) (hS.below B2 (Nat.le_refl _))
  have hmk := isMark_any x 58 (w.alloc o)
  have B3 := B2.alloc (by simp; omega) (.cells #[.int .i64 (x.place : Int), .iface 204 (.pointer (some aS))] 72)
  have E3 : ErrAt w.heap.size aS x.place (((w.alloc o).alloc o).alloc (.cells #[.int .i64 (x.place : Int), .iface 204 (.pointer (some aS))] 72)) (.iface 68 (.pointer (some ⟨((w.alloc o).alloc o).heap.size, 0, none⟩))) := ErrAt.new (by simp; omega)
  rw [World.size_alloc, World.size_alloc] at E3
  rw [ho] at hmk hw2 B1 B2 B3 E3
  rcases lenB_cases x with ⟨h1, h2⟩ | ⟨h1, h3, h2⟩ | ⟨h1, h3, h4, h2⟩ | ⟨h1, h3, h4, h2⟩
  · rw [h1] at hmk
    have F : Hid (lenB x = false) := h2
    go_enter Tryz.func98, Tryz.ntmps98
    go_wp2_with fail
    refine hmk.mono ?_
    rintro e w1 ⟨rfl, hw1⟩
    obtain rfl := hw1
    go_wp2_with fail
    refine hw2.mono ?_
    rintro e w1 ⟨rfl, hw1⟩
    obtain rfl := hw1
    clear hmk hw2
    go_wp2
    exact ⟨rfl, .inr ⟨F.out, _, rfl, E3⟩, B3⟩
  · rw [h1] at hmk
    have hs' : x.text.isEmpty = true := by rw [h3]; rfl
    clear h3
    have F : Hid (lenB x = false) := h2
    go_enter Tryz.func98, Tryz.ntmps98
    go_wp2_with fail
    refine hmk.mono ?_
    rintro e w1 ⟨rfl, hw1⟩
    obtain rfl := hw1
    go_wp2_with fail
    refine hw2.mono ?_
    rintro e w1 ⟨rfl, hw1⟩
    obtain rfl := hw1
    clear hmk hw2
    go_wp2
    exact ⟨rfl, .inr ⟨F.out, _, rfl, E3⟩, B3⟩
  · rw [h1] at hmk
    have hs' : x.text.isEmpty = false := by simpa using h3
    have F : Hid (lenB x = false) := h2
    have h5 : (32 : Int) < ((⟨x.text.toArray⟩ : ByteArray).size : Int) := by omega
    go_enter Tryz.func98, Tryz.ntmps98
    go_wp2_with fail
    refine hmk.mono ?_
    rintro e w1 ⟨rfl, hw1⟩
    obtain rfl := hw1
    go_wp2_with fail
    refine hw2.mono ?_
    rintro e w1 ⟨rfl, hw1⟩
    obtain rfl := hw1
    clear hmk hw2
    go_wp2
    exact ⟨rfl, .inr ⟨F.out, _, rfl, E3⟩, B3⟩
  · rw [h1] at hmk
    have hs' : x.text.isEmpty = false := by simpa using h3
    have F : Hid (lenB x = true) := h2
    have h5 : ¬ (32 : Int) < ((⟨x.text.toArray⟩ : ByteArray).size : Int) := by omega
    go_enter Tryz.func98, Tryz.ntmps98
    go_wp2_with fail
    refine hmk.mono ?_
    rintro e w1 ⟨rfl, hw1⟩
    obtain rfl := hw1
    clear hmk hw2
    go_wp2
    go_end0
    exact ⟨.inl ⟨F.out, rfl⟩, B2⟩

end Go.Proofs.YtjblkgephboajaaGreatDoor.SpecMem

namespace Go.Proofs.YtjblkgephboajaaGreatDoor.SpecMem
open Go.RowKit Go.Maps Go.WideMaps GramMath GramRow GramOne GramApart GramRoll GramCopy LineMath SpecLn SpecMd WordsBytes
set_option linter.unusedVariables false
set_option linter.unusedSimpArgs false

section
variable {w w' W2 : World} {rb bb mb base start : Nat} {nx : Value} {ln : Int} {ns : List ByteArray} {qs : List Qr} {D : DataW Unit} {rv nv mv : Value}

theorem RdN.heads (h : RdN w rb bb mb base nx start ln ns qs D rv nv mv) (hk : ∀ k, k < w.heap.size → (k = bb ∨ k = mb ∨ (base ≤ k ∧ ofRoll nv mv k)) → w'.heap[k]? = w.heap[k]?) :
    Roll w' bb 0 base [] (.slice none 0 0) (.map none) ∧ Roll w' bb 2 base ns nv mv ∧ w'.cell? ⟨bb, 4, none⟩ = some (.int .i64 0) ∧ w'.frozen? ⟨bb, 4, none⟩ = false ∧ RulesOf w' bb base [] (.slice none 0 0) [] ∧ OwnM w' mb (start + 1) D := by
  have hb := hk bb h.bsz (.inl rfl)
  refine ⟨Roll.at h.t hb (fun k _ _ e => by rcases e with e | e <;> cases e), Roll.at h.n hb (fun k h1 h2 e => hk k h2 (.inr (.inr ⟨h1, e⟩))), (World.cell?_of_block hb).trans h.a, (frozen_of_block hb _).trans h.af, RulesOf.at h.r hb, h.own.at (hk mb h.own.lt (.inr (.inl rfl)))⟩

theorem RdN.mrb (h : RdN w rb bb mb base nx start ln ns qs D rv nv mv) : mb ≠ rb := map_not_row h.own h.box
/-- What is not the rules' row, nor the box, lies as it did behind a rule appended. -/
theorem grown_far {o : Obj} {row : Option Nat} (hg : (w.alloc o).grownBy W2 row) {k : Nat} (hk : k < w.heap.size) (hn : row ≠ some k) : W2.heap[k]? = w.heap[k]? := by
  rw [hg.block k (by simp; omega) (fun e => hn e.symm), Below.heap_alloc _ _ _ hk]

/-- AN ALTERNATIVE MORE. -/
theorem RdN.more (h : RdN w rb bb mb base nx start ln ns qs D rv nv mv) (hlt : base ≤ w.heap.size) {o : Obj} {g c at_ : Nat} {left : List UInt8} (hg : (w.alloc o).grownBy W2 rv.ownBlock)
    (hown : W2.ownsRow base 88 3 (.slice (some ⟨g, 0, none⟩) (qs.length + 1) c) (qs.length + 1) (cellsR ns qs ++ [.int .i64 ln, .slice none 0 0, .int .i64 (at_ : Int)])) (hln : ln = idx ns (bt left)) (hmem : memB (bt left) ns = true) :
    RdN (W2.setCell ⟨rb, 5, none⟩ (.slice (some ⟨g, 0, none⟩) (qs.length + 1) c)) rb bb mb base nx start ln ns (qs ++ [⟨⟨left, [], at_⟩, .slice none 0 0⟩]) D (.slice (some ⟨g, 0, none⟩) (qs.length + 1) c) nv mv
    ∧ Chg base rb bb mb qs (qs ++ [⟨⟨left, [], at_⟩, .slice none 0 0⟩]) w (W2.setCell ⟨rb, 5, none⟩ (.slice (some ⟨g, 0, none⟩) (qs.length + 1) c)) ∧ RowAt W2 rb 85 #[nx, .int .i64 (start : Int), .int .i64 ln, .pointer (some ⟨bb, 0, none⟩), .map (some mb), rv] := by
  have hlo : ∀ k, k < base → rv.ownBlock ≠ some k := fun k hk e => by have := (h.rules.lt k e).1; omega
  have hty : ∀ k, rv.ownBlock = some k → ∃ cur, RowAt w k 88 cur := fun k hk => own_row h.rules hk
  have far : ∀ k, k < w.heap.size → k ≠ rb → rv.ownBlock ≠ some k → (W2.setCell ⟨rb, 5, none⟩ (.slice (some ⟨g, 0, none⟩) (qs.length + 1) c)).heap[k]? = w.heap[k]? := fun k hk hr hn =>
    (Below.heap_setCell _ _ _ _ (show k ≠ rb from hr)).trans (grown_far hg hk hn)
  have hbox : RowAt W2 rb 85 _ := (grown_far hg h.box.lt (hlo rb h.rlt)).trans h.box
  have hml := h.own.lt
  obtain ⟨e1, e2, e3, e4, e5, e6⟩ := h.heads (w' := W2.setCell ⟨rb, 5, none⟩ (.slice (some ⟨g, 0, none⟩) (qs.length + 1) c)) (fun k hk hc => by
    rcases hc with rfl | rfl | ⟨h1, h2⟩
    · exact far _ hk (fun e => h.rbb e.symm) (hlo _ h.blt)
    · exact far _ hk h.mrb (hlo _ h.mlt)
    · refine far k hk (fun e => by have := h.rlt; omega) (fun e => ?_)
      obtain ⟨cur, hc⟩ := hty k e
      exact h.n.not_row hc (by decide) h2)
  have hsz := hg.size
  rw [World.size_alloc] at hsz
  have hkw : ∀ q ∈ qs, ∀ k, q.v.ownBlock = some k → (W2.setCell ⟨rb, 5, none⟩ (.slice (some ⟨g, 0, none⟩) (qs.length + 1) c)).heap[k]? = w.heap[k]? := fun q hq k hk => by
    have hl := (h.each q hq).lt k hk
    obtain ⟨cur, hr⟩ := own_row (h.each q hq) hk
    refine far k hl.2 (fun e => by have := h.rlt; omega) (fun e => ?_)
    obtain ⟨cur', hr'⟩ := hty k e
    exact hr.ne hr' (by decide) rfl
  refine ⟨⟨hbox.set 5 _, e1, e2, e3, e4, e5, e6, h.map, ?_, ?_, ?_, ?_, h.rlt, h.mlt, h.rbb, h.mbb⟩, ⟨hg.os, hg.tape, hg.output, by simp; omega, ?_, ?_, ?_⟩, hbox⟩
  · rw [List.length_append]
    have : cellsR ns (qs ++ [⟨⟨left, [], at_⟩, .slice none 0 0⟩]) = cellsR ns qs ++ [.int .i64 ln, .slice none 0 0, .int .i64 (at_ : Int)] := by
      unfold cellsR
      rw [List.flatMap_append, hln]
      rfl
    rw [this]
    exact own_block hown (fun k hk => Below.heap_setCell _ _ _ _ (show k ≠ rb by have := (hown.lt k hk).1; have := h.rlt; omega))
  · intro q hq
    rcases List.mem_append.1 hq with hq | hq
    · exact own_block (h.each q hq) (hkw q hq)
    · rw [List.mem_singleton.1 hq]
      exact World.ownsRow_nil _ _ _ _
  · rw [List.pairwise_append]
    refine ⟨h.far, List.pairwise_singleton _ _, fun p hp q hq k hk => ?_⟩
    rw [List.mem_singleton.1 hq]
    simp [Value.ownBlock]
  · intro q hq
    rcases List.mem_append.1 hq with hq | hq
    · exact h.known q hq
    · rw [List.mem_singleton.1 hq]
      exact hmem
  · intro k hk hr _ _
    exact far k (by omega) hr (hlo k hk)
  · intro b t C hb _ ht _ hr
    have hrl := h.rlt
    refine (far b hr.lt (by omega) (fun e => ?_)).trans hr
    obtain ⟨cur', hr'⟩ := hty b e
    exact hr.ne hr' ht rfl
  · intro k hk
    obtain ⟨q, hq, hv⟩ := hk
    rw [List.getLast?_append] at hq
    simp at hq
    rw [← hq] at hv
    simp [Value.ownBlock] at hv
end

theorem infoRl : (Tryz.prog.info? 88).map (fun i => (i.zero, i.size, i.bytes)) = some (some (.agg #[.int .i64 0, .slice none 0 0, .int .i64 0]), 3, 40) := by kernel_rfl

end Go.Proofs.YtjblkgephboajaaGreatDoor.SpecMem
