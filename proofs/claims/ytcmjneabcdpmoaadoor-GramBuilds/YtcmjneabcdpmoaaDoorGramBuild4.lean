/-
  The Builder: the grammar that it was told.
-/
import Derived.Test.YtcmjneabcdpmoaaDoorGramBuild3
import Derived.Test.YtcmjneabcdpmoaaDoorGramCopyF
import Derived.Test.YtcmjneabcdpmoaaDoorGramBase
namespace Go.Proofs.YtcmjneabcdpmoaaDoor.GramRoll
open Go.RowKit Go.Maps Go.WideMaps Go.Proofs.YtcmjneabcdpmoaaDoor.GramLess Go.Proofs.YtcmjneabcdpmoaaDoor.GramMath Go.Proofs.YtcmjneabcdpmoaaDoor.GramRow Go.Proofs.YtcmjneabcdpmoaaDoor.GramOne Go.Proofs.YtcmjneabcdpmoaaDoor.GramApart Go.Proofs.YtcmjneabcdpmoaaDoor.GramCopy Go.Proofs.YtcmjneabcdpmoaaDoor.GramName Go.Proofs.YtcmjneabcdpmoaaDoor.GramCheck
set_option linter.unusedVariables false
set_option linter.unusedSimpArgs false

theorem ints_get {zs : List Int} {k : Nat} {x : Int} (h : zs[k]? = some x) : (intsA zs)[k]? = some (.int .i64 x) := by
  simp [intsA, h]

theorem _root_.Go.Proofs.YtcmjneabcdpmoaaDoor.GramRow.CkV.set {base k : Nat} {p : Nat → Addr} {r : Nat × Option Nat} {w : World} {v : Value} (h : CkV base p r w v) (hk : k < base) (q : Nat) (x : Value) : CkV base p r (w.setCell ⟨k, q, none⟩ x) v := by
  obtain ⟨n, o⟩ := r
  cases n with
  | zero => exact h
  | succ n =>
    cases o with
    | none => exact h
    | some i =>
      obtain ⟨b, hb, hv, hc⟩ := h
      exact ⟨b, hb, hv, (Below.heap_setCell _ _ _ _ (show b ≠ k by omega)).trans hc⟩

theorem nil_neq (w : World) : (binOp .neq 58 .nilIface .nilIface).run Tryd.prog w = .ok (.bool false) w := by kernel_rfl

theorem srow_own {w : World} {base : Nat} {v : Value} {ss : List ByteArray} (h : w.ownsRow base 9 1 v ss.length (ss.map Value.string)) : ∃ a c, v = .slice a ss.length c ∧ SRow w a ss ∧ ss.length ≤ c := by
  obtain ⟨_, ⟨rfl, h0⟩ | ⟨g, cap, cur, rfl, hb, hg, hn, _, _, _⟩⟩ := id h
  · refine ⟨none, 0, by rw [h0], fun k x hx => ?_, by omega⟩
    have := (List.getElem?_eq_some_iff.1 hx).1
    omega
  · refine ⟨_, cap, rfl, fun k x hx => ⟨g, 0, rfl, ?_⟩, hn⟩
    have hk := (List.getElem?_eq_some_iff.1 hx).1
    rw [Nat.zero_add, h.cellAt k (by omega), List.getElem?_map, hx]
    rfl

theorem rules_own {w : World} {base : Nat} {v : Value} {lq : List Q} (h : w.ownsRow base 53 2 v lq.length (cellsQ lq)) : ∃ a c, v = .slice a lq.length c ∧ (∀ i x, lq[i]? = some x → ∃ g, a = some ⟨g, 0, none⟩ ∧ w.cell? ⟨g, i * 2, none⟩ = some (.int .i64 x.r.left) ∧ w.cell? ⟨g, i * 2 + 1, none⟩ = some (.slice x.a x.r.right.length x.c)) := by
  obtain ⟨_, ⟨rfl, h0⟩ | ⟨g, cap, cur, rfl, hb, hg, hn, _, _, _⟩⟩ := id h
  · refine ⟨none, 0, by rw [h0], fun k x hx => ?_⟩
    have := (List.getElem?_eq_some_iff.1 hx).1
    omega
  · refine ⟨_, cap, rfl, fun k x hx => ⟨g, rfl, ?_⟩⟩
    have hk := (List.getElem?_eq_some_iff.1 hx).1
    obtain ⟨e1, e2⟩ := cellsQ_get lq k x hx
    exact ⟨by rw [h.cellAt (k * 2) (by omega), e1], by rw [h.cellAt (k * 2 + 1) (by omega), e2]⟩

theorem Build.rows {w : World} {b base : Nat} {g : G} {nv mv nv2 mv2 rv : Value} {lq : List Q} (h : Build w b base g nv mv nv2 mv2 rv lq) :
    ∃ ta tc na nc ra rc, nv = .slice ta g.ts.length tc ∧ nv2 = .slice na g.ns.length nc ∧ rv = .slice ra g.rs.length rc ∧ GRow w ta na ra g ∧ g.ts.length ≤ tc ∧ g.ns.length ≤ nc := by
  obtain ⟨ta, tc, e1, r1, l1⟩ := srow_own h.t.row
  obtain ⟨na, nc, e2, r2, l2⟩ := srow_own h.n.row
  have hl : lq.length = g.rs.length := by rw [← h.r.map, List.length_map]
  have hrow := h.r.row
  rw [← hl] at hrow
  obtain ⟨ra, rc, e3, r3⟩ := rules_own hrow
  rw [hl] at e3
  refine ⟨ta, tc, na, nc, ra, rc, e1, e2, e3, ⟨r1, r2, fun i r hr => ?_⟩, l1, l2⟩
  rw [← h.r.map, List.getElem?_map] at hr
  cases hq : lq[i]? with
  | none => rw [hq] at hr; cases hr
  | some x =>
    rw [hq] at hr
    cases hr
    obtain ⟨gb, ea, c1, c2⟩ := r3 i x hq
    obtain ⟨xb, e5, e6, _, e8⟩ := h.r.each x (List.mem_of_getElem? hq)
    refine ⟨gb, 0, x.a, x.c, ea, by rw [Nat.zero_add]; exact c1, by rw [Nat.zero_add]; exact c2, ?_⟩
    intro j z hz
    exact ⟨xb, 0, e5, by rw [Nat.zero_add]; exact e8.cell (ints_get hz)⟩

theorem RulesAt.kept {w w' : World} {b k : Nat} {bs : List Nat} {rs : List R} (h : RulesAt w b bs rs k) (hs : ∀ i, b ≤ i → i < w.heap.size → w'.heap[i]? = w.heap[i]?) (hz : w.heap.size ≤ w'.heap.size) (hlt : b < w.heap.size) : RulesAt w' b bs rs k where
  room q hq := by
    obtain ⟨h1, v, h2⟩ := h.room q hq
    have e := hs b (Nat.le_refl _) hlt
    refine ⟨(World.frozen?_of_block (a := ⟨b, q, none⟩) e).trans h1, v, (World.cell?_of_block (a := ⟨b, q, none⟩) e).trans h2⟩
  len := h.len
  each i r x hr hx := by
    obtain ⟨h1, h2, h3⟩ := h.each i r x hr hx
    have e := hs b (Nat.le_refl _) hlt
    have hm := List.mem_of_getElem? hx
    exact ⟨(World.cell?_of_block (a := ⟨b, i * 2, none⟩) e).trans h1, (World.cell?_of_block (a := ⟨b, i * 2 + 1, none⟩) e).trans h2, (hs x (Nat.le_of_lt (h.lo x hm)) (h.hi x hm)).trans h3⟩
  inc := h.inc
  lo := h.lo
  hi x hx := Nat.lt_of_lt_of_le (h.hi x hx) hz

theorem CopyAt.kept {w w' : World} {B C b1 b2 b3 : Nat} {bs : List Nat} {g : G} (h : CopyAt w B b1 b2 b3 bs g) (hs : ∀ i, B ≤ i → i < w.heap.size → w'.heap[i]? = w.heap[i]?) (hz : w.heap.size ≤ w'.heap.size) (hC : C ≤ B) : CopyAt w' C b1 b2 b3 bs g where
  ts := (hs b1 h.l1 h.ts.lt).trans h.ts
  ns := (hs b2 h.l2 h.ns.lt).trans h.ns
  rs := RulesAt.kept h.rs (fun i hi hl => hs i (Nat.le_trans h.l3 hi) hl) hz h.lt
  l1 := Nat.le_trans hC h.l1
  l2 := Nat.le_trans hC h.l2
  l3 := Nat.le_trans hC h.l3
  ne := h.ne
  l4 := h.l4
  lt := Nat.lt_of_lt_of_le h.lt hz

set_option maxRecDepth 100000 in
set_option maxHeartbeats 2000000 in
theorem bgrammar_any (b base : Nat) (g : G) (nv mv nv2 mv2 rv : Value) (lq : List Q) (p : Nat → Addr) (w : World) (h : Build w b base g nv mv nv2 mv2 rv lq) (ho : okG g) (hS : Sents w p) (tm : g.ts.length * 16 ≤ 140737488351232) (nm : g.ns.length * 16 ≤ 140737488351232) (rm : g.rs.length * 32 ≤ 140737488351232) (em : ∀ r ∈ g.rs, r.right.length * 8 ≤ 140737488351232) :
    Calls Tryd.prog 21 #[.pointer (some ⟨b, 0, none⟩)] w fun e w' =>
      (((checkG g).1 = 0 ∧ ∃ b1 b2 b3 bs, e = .returned (.tuple #[.agg #[.slice (some ⟨b1, 0, none⟩) g.ts.length g.ts.length, .slice (some ⟨b2, 0, none⟩) g.ns.length g.ns.length, .int .i64 g.ax, .slice (some ⟨b3, 0, none⟩) g.rs.length g.rs.length], .nilIface]) ∧ CopyAt w' w.heap.size b1 b2 b3 bs g)
      ∨ ((checkG g).1 ≠ 0 ∧ ∃ v, e = .returned (.tuple #[.agg #[.slice none 0 0, .slice none 0 0, .int .i64 0, .slice none 0 0], v]) ∧ CkV w.heap.size p (checkG g) w' v)) ∧ Below w.heap.size w w' := by
  have hptr := ptr_some
  have hneq := neq_nil
  obtain ⟨ta, tc, na, nc, ra, rc, rfl, rfl, rfl, hG, htc, hnc⟩ := h.rows
  have c0 := h.t.c0
  have c1 := h.n.c0
  have c2 := h.a
  have c3 := h.r.c
  have hblt : b < w.heap.size := cell_lt c0
  have hB1 : Below w.heap.size w (w.alloc (.cells #[.slice none 0 0, .slice none 0 0, .int .i64 0, .slice none 0 0] 35)) := (Below.refl _ _).alloc (Nat.le_refl _) _
  have r1 : RowAt (w.alloc (.cells #[.slice none 0 0, .slice none 0 0, .int .i64 0, .slice none 0 0] 35)) w.heap.size 35 #[.slice none 0 0, .slice none 0 0, .int .i64 0, .slice none 0 0] := World.alloc_heap_new w _
  have z1 : (w.alloc (.cells #[.slice none 0 0, .slice none 0 0, .int .i64 0, .slice none 0 0] 35)).heap.size = w.heap.size + 1 := by simp
  clear h
  go_enter Tryd.func21, Tryd.ntmps21
  go_wp2_with fail
  generalize w.alloc (.cells #[.slice none 0 0, .slice none 0 0, .int .i64 0, .slice none 0 0] 35) = W at *
  have hSS : ∀ w', Below w.heap.size w w' → (w'.cell? ⟨b, 0, none⟩ = some (.slice ta g.ts.length tc) ∧ w'.cell? ⟨b, 2, none⟩ = some (.slice na g.ns.length nc) ∧ w'.cell? ⟨b, 4, none⟩ = some (.int .i64 g.ax) ∧ w'.cell? ⟨b, 5, none⟩ = some (.slice ra g.rs.length rc)) := fun w' hb => ⟨(hb.cell (p := ⟨b, 0, none⟩) hblt).trans c0, (hb.cell (p := ⟨b, 2, none⟩) hblt).trans c1, (hb.cell (p := ⟨b, 4, none⟩) hblt).trans c2, (hb.cell (p := ⟨b, 5, none⟩) hblt).trans c3⟩
  have hdZ : Below W.heap.size W W.drew := ⟨rfl, rfl, rfl, Nat.le_refl W.heap.size, fun _ _ => rfl⟩
  have hB2 : Below w.heap.size w W.drew := ⟨hB1.os, hB1.tape, hB1.output, hB1.size, hB1.block⟩
  have r2 : RowAt W.drew w.heap.size 35 #[.slice none 0 0, .slice none 0 0, .int .i64 0, .slice none 0 0] := r1
  have z2 : W.drew.heap.size = w.heap.size + 1 := z1
  refine wp_region_noPanic ?_
  refine wp_region_held_drew (S := (fun w' => w'.cell? ⟨b, 0, none⟩ = some (.slice ta g.ts.length tc) ∧ w'.cell? ⟨b, 2, none⟩ = some (.slice na g.ns.length nc) ∧ w'.cell? ⟨b, 4, none⟩ = some (.int .i64 g.ax) ∧ w'.cell? ⟨b, 5, none⟩ = some (.slice ra g.rs.length rc))) (by kernel_rfl) (hSS _ hB2) (fun hHeld => ?_)
  refine wpAnyH_take (i := 0) (v := .pointer (some ⟨b, 0, none⟩)) rfl (by kernel_rfl) (by kernel_rfl) (by kernel_rfl) (fun _ _ _ h => h) (Or.inl ⟨by rfl, fun w9 hSw => ?_⟩) hHeld ?_
  · obtain ⟨s0, s1, s2, s3⟩ := hSw
    go_simp
  simp only [List.getElem_toArray, List.getElem_cons_zero, List.getElem_cons_succ, Act.put, List.setIfInBounds_toArray, List.set_cons_zero, List.set_cons_succ]
  refine wpAnyH_take (i := 1) (v := .pointer (some ⟨b, 0, none⟩)) rfl (by kernel_rfl) (by kernel_rfl) (by kernel_rfl) (fun _ _ _ h => h) (Or.inl ⟨by rfl, fun w9 hSw => ?_⟩) hHeld ?_
  · obtain ⟨s0, s1, s2, s3⟩ := hSw
    go_simp
  simp only [List.getElem_toArray, List.getElem_cons_zero, List.getElem_cons_succ, Act.put, List.setIfInBounds_toArray, List.set_cons_zero, List.set_cons_succ]
  refine wpAnyH_take (i := 2) (v := .pointer (some ⟨b, 0, none⟩)) rfl (by kernel_rfl) (by kernel_rfl) (by kernel_rfl) (fun _ _ _ h => h) (Or.inl ⟨by rfl, fun w9 hSw => ?_⟩) hHeld ?_
  · obtain ⟨s0, s1, s2, s3⟩ := hSw
    go_simp
  simp only [List.getElem_toArray, List.getElem_cons_zero, List.getElem_cons_succ, Act.put, List.setIfInBounds_toArray, List.set_cons_zero, List.set_cons_succ]
  refine wpAnyH_take (i := 3) (v := .pointer (some ⟨b, 0, none⟩)) rfl (by kernel_rfl) (by kernel_rfl) (by kernel_rfl) (fun _ _ _ h => h) (Or.inl ⟨by rfl, fun w9 hSw => ?_⟩) hHeld ?_
  · obtain ⟨s0, s1, s2, s3⟩ := hSw
    go_simp
  simp only [List.getElem_toArray, List.getElem_cons_zero, List.getElem_cons_succ, Act.put, List.setIfInBounds_toArray, List.set_cons_zero, List.set_cons_succ]
  refine wpAnyH_take (i := 4) (v := .slice ta g.ts.length tc) rfl (by kernel_rfl) (by kernel_rfl) (by kernel_rfl) (fun _ _ _ h => h) (Or.inl ⟨by rfl, fun w9 hSw => ?_⟩) hHeld ?_
  · obtain ⟨s0, s1, s2, s3⟩ := hSw
    go_simp
  simp only [List.getElem_toArray, List.getElem_cons_zero, List.getElem_cons_succ, Act.put, List.setIfInBounds_toArray, List.set_cons_zero, List.set_cons_succ]
  refine wpAnyH_take (i := 5) (v := .pointer (some ⟨b, 0, none⟩)) rfl (by kernel_rfl) (by kernel_rfl) (by kernel_rfl) (fun _ _ _ h => h) (Or.inl ⟨by rfl, fun w9 hSw => ?_⟩) hHeld ?_
  · obtain ⟨s0, s1, s2, s3⟩ := hSw
    go_simp
  simp only [List.getElem_toArray, List.getElem_cons_zero, List.getElem_cons_succ, Act.put, List.setIfInBounds_toArray, List.set_cons_zero, List.set_cons_succ]
  refine wpAnyH_take (i := 6) (v := .pointer (some ⟨b, 0, none⟩)) rfl (by kernel_rfl) (by kernel_rfl) (by kernel_rfl) (fun _ _ _ h => h) (Or.inl ⟨by rfl, fun w9 hSw => ?_⟩) hHeld ?_
  · obtain ⟨s0, s1, s2, s3⟩ := hSw
    go_simp
  simp only [List.getElem_toArray, List.getElem_cons_zero, List.getElem_cons_succ, Act.put, List.setIfInBounds_toArray, List.set_cons_zero, List.set_cons_succ]
  refine wpAnyH_take (i := 7) (v := .pointer (some ⟨b, 2, none⟩)) rfl (by kernel_rfl) (by kernel_rfl) (by kernel_rfl) (fun _ _ _ h => h) (Or.inl ⟨by rfl, fun w9 hSw => ?_⟩) hHeld ?_
  · obtain ⟨s0, s1, s2, s3⟩ := hSw
    go_simp
  simp only [List.getElem_toArray, List.getElem_cons_zero, List.getElem_cons_succ, Act.put, List.setIfInBounds_toArray, List.set_cons_zero, List.set_cons_succ]
  refine wpAnyH_take (i := 8) (v := .pointer (some ⟨b, 2, none⟩)) rfl (by kernel_rfl) (by kernel_rfl) (by kernel_rfl) (fun _ _ _ h => h) (Or.inl ⟨by rfl, fun w9 hSw => ?_⟩) hHeld ?_
  · obtain ⟨s0, s1, s2, s3⟩ := hSw
    go_simp
  simp only [List.getElem_toArray, List.getElem_cons_zero, List.getElem_cons_succ, Act.put, List.setIfInBounds_toArray, List.set_cons_zero, List.set_cons_succ]
  refine wpAnyH_take (i := 9) (v := .slice na g.ns.length nc) rfl (by kernel_rfl) (by kernel_rfl) (by kernel_rfl) (fun _ _ _ h => h) (Or.inl ⟨by rfl, fun w9 hSw => ?_⟩) hHeld ?_
  · obtain ⟨s0, s1, s2, s3⟩ := hSw
    go_simp
  simp only [List.getElem_toArray, List.getElem_cons_zero, List.getElem_cons_succ, Act.put, List.setIfInBounds_toArray, List.set_cons_zero, List.set_cons_succ]
  refine wpAnyH_take (i := 10) (v := .pointer (some ⟨b, 0, none⟩)) rfl (by kernel_rfl) (by kernel_rfl) (by kernel_rfl) (fun _ _ _ h => h) (Or.inl ⟨by rfl, fun w9 hSw => ?_⟩) hHeld ?_
  · obtain ⟨s0, s1, s2, s3⟩ := hSw
    go_simp
  simp only [List.getElem_toArray, List.getElem_cons_zero, List.getElem_cons_succ, Act.put, List.setIfInBounds_toArray, List.set_cons_zero, List.set_cons_succ]
  refine wpAnyH_take (i := 11) (v := .pointer (some ⟨b, 0, none⟩)) rfl (by kernel_rfl) (by kernel_rfl) (by kernel_rfl) (fun _ _ _ h => h) (Or.inl ⟨by rfl, fun w9 hSw => ?_⟩) hHeld ?_
  · obtain ⟨s0, s1, s2, s3⟩ := hSw
    go_simp
  simp only [List.getElem_toArray, List.getElem_cons_zero, List.getElem_cons_succ, Act.put, List.setIfInBounds_toArray, List.set_cons_zero, List.set_cons_succ]
  refine wpAnyH_take (i := 12) (v := .pointer (some ⟨b, 4, none⟩)) rfl (by kernel_rfl) (by kernel_rfl) (by kernel_rfl) (fun _ _ _ h => h) (Or.inl ⟨by rfl, fun w9 hSw => ?_⟩) hHeld ?_
  · obtain ⟨s0, s1, s2, s3⟩ := hSw
    go_simp
  simp only [List.getElem_toArray, List.getElem_cons_zero, List.getElem_cons_succ, Act.put, List.setIfInBounds_toArray, List.set_cons_zero, List.set_cons_succ]
  refine wpAnyH_take (i := 13) (v := .int .i64 g.ax) rfl (by kernel_rfl) (by kernel_rfl) (by kernel_rfl) (fun _ _ _ h => h) (Or.inl ⟨by rfl, fun w9 hSw => ?_⟩) hHeld ?_
  · obtain ⟨s0, s1, s2, s3⟩ := hSw
    go_simp
  simp only [List.getElem_toArray, List.getElem_cons_zero, List.getElem_cons_succ, Act.put, List.setIfInBounds_toArray, List.set_cons_zero, List.set_cons_succ]
  refine wpAnyH_take (i := 14) (v := .pointer (some ⟨b, 0, none⟩)) rfl (by kernel_rfl) (by kernel_rfl) (by kernel_rfl) (fun _ _ _ h => h) (Or.inl ⟨by rfl, fun w9 hSw => ?_⟩) hHeld ?_
  · obtain ⟨s0, s1, s2, s3⟩ := hSw
    go_simp
  simp only [List.getElem_toArray, List.getElem_cons_zero, List.getElem_cons_succ, Act.put, List.setIfInBounds_toArray, List.set_cons_zero, List.set_cons_succ]
  refine wpAnyH_take (i := 15) (v := .pointer (some ⟨b, 0, none⟩)) rfl (by kernel_rfl) (by kernel_rfl) (by kernel_rfl) (fun _ _ _ h => h) (Or.inl ⟨by rfl, fun w9 hSw => ?_⟩) hHeld ?_
  · obtain ⟨s0, s1, s2, s3⟩ := hSw
    go_simp
  simp only [List.getElem_toArray, List.getElem_cons_zero, List.getElem_cons_succ, Act.put, List.setIfInBounds_toArray, List.set_cons_zero, List.set_cons_succ]
  refine wpAnyH_take (i := 16) (v := .pointer (some ⟨b, 5, none⟩)) rfl (by kernel_rfl) (by kernel_rfl) (by kernel_rfl) (fun _ _ _ h => h) (Or.inl ⟨by rfl, fun w9 hSw => ?_⟩) hHeld ?_
  · obtain ⟨s0, s1, s2, s3⟩ := hSw
    go_simp
  simp only [List.getElem_toArray, List.getElem_cons_zero, List.getElem_cons_succ, Act.put, List.setIfInBounds_toArray, List.set_cons_zero, List.set_cons_succ]
  refine wpAnyH_take (i := 17) (v := .slice ra g.rs.length rc) rfl (by kernel_rfl) (by kernel_rfl) (by kernel_rfl) (fun _ _ _ h => h) (Or.inl ⟨by rfl, fun w9 hSw => ?_⟩) hHeld ?_
  · obtain ⟨s0, s1, s2, s3⟩ := hSw
    go_simp
  simp only [List.getElem_toArray, List.getElem_cons_zero, List.getElem_cons_succ, Act.put, List.setIfInBounds_toArray, List.set_cons_zero, List.set_cons_succ]
  refine wpAnyH_take (i := 18) (v := .agg #[.slice ta g.ts.length tc, .slice na g.ns.length nc, .int .i64 g.ax, .slice ra g.rs.length rc]) rfl (by kernel_rfl) (by kernel_rfl) (by kernel_rfl) (fun _ _ _ h => h) (Or.inl ⟨by rfl, fun w9 hSw => ?_⟩) hHeld ?_
  · obtain ⟨s0, s1, s2, s3⟩ := hSw
    go_simp
  simp only [List.getElem_toArray, List.getElem_cons_zero, List.getElem_cons_succ, Act.put, List.setIfInBounds_toArray, List.set_cons_zero, List.set_cons_succ]
  generalize W.drew = W2 at *
  have hB3 : Below w.heap.size w (W2.alloc (.cells #[.slice none 0 0, .slice none 0 0, .int .i64 0, .slice none 0 0] 35)) := hB2.alloc (by omega) _
  refine wpAnyH_ready (rs := [19]) (by kernel_rfl) (by simp) ?_
  refine AllReadyH.cons rfl (fun K hK => ?_) AllReadyH.nil
  go_simp
  refine hK.out _ _ (hSS _ hB3) (fun hHeld2 => ?_)
  clear hK K hHeld
  have r3 : RowAt (W2.alloc (.cells #[.slice none 0 0, .slice none 0 0, .int .i64 0, .slice none 0 0] 35)) w.heap.size 35 #[.slice none 0 0, .slice none 0 0, .int .i64 0, .slice none 0 0] := (Below.heap_alloc _ _ _ r2.lt).trans r2
  have n3 : RowAt (W2.alloc (.cells #[.slice none 0 0, .slice none 0 0, .int .i64 0, .slice none 0 0] 35)) (w.heap.size + 1) 35 #[.slice none 0 0, .slice none 0 0, .int .i64 0, .slice none 0 0] := by
    have : RowAt (W2.alloc (.cells #[.slice none 0 0, .slice none 0 0, .int .i64 0, .slice none 0 0] 35)) W2.heap.size 35 #[.slice none 0 0, .slice none 0 0, .int .i64 0, .slice none 0 0] := World.alloc_heap_new W2 _
    rwa [z2] at this
  have n4 : RowAt (((((W2.alloc (.cells #[.slice none 0 0, .slice none 0 0, .int .i64 0, .slice none 0 0] 35)).setCell ⟨w.heap.size + 1, 0, none⟩ (.slice ta g.ts.length tc)).setCell ⟨w.heap.size + 1, 1, none⟩ (.slice na g.ns.length nc)).setCell ⟨w.heap.size + 1, 2, none⟩ (.int .i64 g.ax)).setCell ⟨w.heap.size + 1, 3, none⟩ (.slice ra g.rs.length rc)) (w.heap.size + 1) 35 #[.slice ta g.ts.length tc, .slice na g.ns.length nc, .int .i64 g.ax, .slice ra g.rs.length rc] := (((n3.set 0 _).set 1 _).set 2 _).set 3 _
  have r4 : RowAt (((((W2.alloc (.cells #[.slice none 0 0, .slice none 0 0, .int .i64 0, .slice none 0 0] 35)).setCell ⟨w.heap.size + 1, 0, none⟩ (.slice ta g.ts.length tc)).setCell ⟨w.heap.size + 1, 1, none⟩ (.slice na g.ns.length nc)).setCell ⟨w.heap.size + 1, 2, none⟩ (.int .i64 g.ax)).setCell ⟨w.heap.size + 1, 3, none⟩ (.slice ra g.rs.length rc)) w.heap.size 35 #[.slice none 0 0, .slice none 0 0, .int .i64 0, .slice none 0 0] := (((r3.other (by omega) _ _).other (by omega) _ _).other (by omega) _ _).other (by omega) _ _
  have hB4 : Below w.heap.size w (((((W2.alloc (.cells #[.slice none 0 0, .slice none 0 0, .int .i64 0, .slice none 0 0] 35)).setCell ⟨w.heap.size + 1, 0, none⟩ (.slice ta g.ts.length tc)).setCell ⟨w.heap.size + 1, 1, none⟩ (.slice na g.ns.length nc)).setCell ⟨w.heap.size + 1, 2, none⟩ (.int .i64 g.ax)).setCell ⟨w.heap.size + 1, 3, none⟩ (.slice ra g.rs.length rc)) := (((hB3.setCell (p := ⟨w.heap.size + 1, 0, none⟩) (show w.heap.size ≤ w.heap.size + 1 by omega) _).setCell (p := ⟨w.heap.size + 1, 1, none⟩) (show w.heap.size ≤ w.heap.size + 1 by omega) _).setCell (p := ⟨w.heap.size + 1, 2, none⟩) (show w.heap.size ≤ w.heap.size + 1 by omega) _).setCell (p := ⟨w.heap.size + 1, 3, none⟩) (show w.heap.size ≤ w.heap.size + 1 by omega) _
  have z4 : (((((W2.alloc (.cells #[.slice none 0 0, .slice none 0 0, .int .i64 0, .slice none 0 0] 35)).setCell ⟨w.heap.size + 1, 0, none⟩ (.slice ta g.ts.length tc)).setCell ⟨w.heap.size + 1, 1, none⟩ (.slice na g.ns.length nc)).setCell ⟨w.heap.size + 1, 2, none⟩ (.int .i64 g.ax)).setCell ⟨w.heap.size + 1, 3, none⟩ (.slice ra g.rs.length rc)).heap.size = w.heap.size + 2 := by simp [z2]
  have m0 := n3.cell (q := 0) rfl
  have m1 := n3.cell (q := 1) rfl
  have m2 := n3.cell (q := 2) rfl
  have m3 := n3.cell (q := 3) rfl
  have f0 := n3.frozen 0
  have f1 := n3.frozen 1
  have f2 := n3.frozen 2
  have f3 := n3.frozen 3
  generalize hWq : W2.alloc (.cells #[.slice none 0 0, .slice none 0 0, .int .i64 0, .slice none 0 0] 35) = Wq at *
  refine wpAnyH_ready (rs := [20]) (by kernel_rfl) (by simp) ?_
  refine AllReadyH.cons rfl (fun K hK => ?_) AllReadyH.nil
  go_simp
  refine hK.out _ _ (hSS _ hB4) (fun _ => ?_)
  clear hK K
  refine wpAnyH_done (by kernel_rfl) (NoPanic.normal ?_) _
  clear m0 m1 m2 m3 f0 f1 f2 f3 n3 r3 hB3 hHeld2 hSS hdZ hB2 r2 z2 hB1 r1 z1 c0 c1 c2 c3
  generalize ((((Wq.setCell ⟨w.heap.size + 1, 0, none⟩ (.slice ta g.ts.length tc)).setCell ⟨w.heap.size + 1, 1, none⟩ (.slice na g.ns.length nc)).setCell ⟨w.heap.size + 1, 2, none⟩ (.int .i64 g.ax)).setCell ⟨w.heap.size + 1, 3, none⟩ (.slice ra g.rs.length rc)) = W4 at *
  clear hWq
  have k0 : W4.cell? ⟨w.heap.size + 1, 0, none⟩ = some (.slice ta g.ts.length tc) := n4.cell rfl
  have k1 : W4.cell? ⟨w.heap.size + 1, 1, none⟩ = some (.slice na g.ns.length nc) := n4.cell rfl
  have k2 : W4.cell? ⟨w.heap.size + 1, 2, none⟩ = some (.int .i64 g.ax) := n4.cell rfl
  have k3 : W4.cell? ⟨w.heap.size + 1, 3, none⟩ = some (.slice ra g.rs.length rc) := n4.cell rfl
  have hck := check_any ta na ra tc nc rc g p W4 (hG.below hB4 (Nat.le_refl _)) ho htc hnc (hS.below hB4 (Nat.le_refl _))
  go_wp2_with fail
  refine hck.mono ?_
  rintro e W5 ⟨⟨v, rfl, hv⟩, hb5⟩
  have hB5 := hB4.trans (hb5.mono (by omega))
  have n5 := n4.below hb5 n4.lt
  have r5 := r4.below hb5 r4.lt
  have z5 := hb5.size
  have q0 : W5.cell? ⟨w.heap.size, 0, none⟩ = some (.slice none 0 0) := r5.cell rfl
  have q1 : W5.cell? ⟨w.heap.size, 1, none⟩ = some (.slice none 0 0) := r5.cell rfl
  have q2 : W5.cell? ⟨w.heap.size, 2, none⟩ = some (.int .i64 0) := r5.cell rfl
  have q3 : W5.cell? ⟨w.heap.size, 3, none⟩ = some (.slice none 0 0) := r5.cell rfl
  have g0 := r5.frozen 0
  have g1 := r5.frozen 1
  have g2 := r5.frozen 2
  have g3 := r5.frozen 3
  clear hck k0 k1 k2 k3 n4 r4 hb5
  by_cases hz : (checkG g).1 = 0
  · have hvn : v = .nilIface := by
      cases hc : checkG g with
      | mk k o =>
        rw [hc] at hz hv
        cases hz
        exact hv
    subst hvn
    have k0 : W5.cell? ⟨w.heap.size + 1, 0, none⟩ = some (.slice ta g.ts.length tc) := n5.cell rfl
    have k1 : W5.cell? ⟨w.heap.size + 1, 1, none⟩ = some (.slice na g.ns.length nc) := n5.cell rfl
    have k2 : W5.cell? ⟨w.heap.size + 1, 2, none⟩ = some (.int .i64 g.ax) := n5.cell rfl
    have k3 : W5.cell? ⟨w.heap.size + 1, 3, none⟩ = some (.slice ra g.rs.length rc) := n5.cell rfl
    have hnn := nil_neq
    have hcp := copy_any ta na ra tc nc rc g W5 (hG.below hB5 (Nat.le_refl _)) ho tm nm rm em
    go_wp2_with fail
    refine hcp.mono ?_
    rintro e W6 ⟨⟨b1, b2, b3, bs, rfl, hco⟩, hb6⟩
    have hB6 := hB5.trans (hb6.mono (by omega))
    have r6 := r5.below hb6 r5.lt
    have q0 : W6.cell? ⟨w.heap.size, 0, none⟩ = some (.slice none 0 0) := r6.cell rfl
    have q1 : W6.cell? ⟨w.heap.size, 1, none⟩ = some (.slice none 0 0) := r6.cell rfl
    have q2 : W6.cell? ⟨w.heap.size, 2, none⟩ = some (.int .i64 0) := r6.cell rfl
    have q3 : W6.cell? ⟨w.heap.size, 3, none⟩ = some (.slice none 0 0) := r6.cell rfl
    have g0 := r6.frozen 0
    have g1 := r6.frozen 1
    have g2 := r6.frozen 2
    have g3 := r6.frozen 3
    have r7 : RowAt ((((W6.setCell ⟨w.heap.size, 0, none⟩ (.slice (some ⟨b1, 0, none⟩) g.ts.length g.ts.length)).setCell ⟨w.heap.size, 1, none⟩ (.slice (some ⟨b2, 0, none⟩) g.ns.length g.ns.length)).setCell ⟨w.heap.size, 2, none⟩ (.int .i64 g.ax)).setCell ⟨w.heap.size, 3, none⟩ (.slice (some ⟨b3, 0, none⟩) g.rs.length g.rs.length)) w.heap.size 35 #[.slice (some ⟨b1, 0, none⟩) g.ts.length g.ts.length, .slice (some ⟨b2, 0, none⟩) g.ns.length g.ns.length, .int .i64 g.ax, .slice (some ⟨b3, 0, none⟩) g.rs.length g.rs.length] := (((r6.set 0 _).set 1 _).set 2 _).set 3 _
    have hB7 := (((hB6.setCell (p := ⟨w.heap.size, 0, none⟩) (Nat.le_refl _) (.slice (some ⟨b1, 0, none⟩) g.ts.length g.ts.length)).setCell (p := ⟨w.heap.size, 1, none⟩) (Nat.le_refl _) (.slice (some ⟨b2, 0, none⟩) g.ns.length g.ns.length)).setCell (p := ⟨w.heap.size, 2, none⟩) (Nat.le_refl _) (.int .i64 g.ax)).setCell (p := ⟨w.heap.size, 3, none⟩) (Nat.le_refl _) (.slice (some ⟨b3, 0, none⟩) g.rs.length g.rs.length)
    have hco7 : CopyAt ((((W6.setCell ⟨w.heap.size, 0, none⟩ (.slice (some ⟨b1, 0, none⟩) g.ts.length g.ts.length)).setCell ⟨w.heap.size, 1, none⟩ (.slice (some ⟨b2, 0, none⟩) g.ns.length g.ns.length)).setCell ⟨w.heap.size, 2, none⟩ (.int .i64 g.ax)).setCell ⟨w.heap.size, 3, none⟩ (.slice (some ⟨b3, 0, none⟩) g.rs.length g.rs.length)) w.heap.size b1 b2 b3 bs g :=
      CopyAt.kept hco (fun i hi _ => by
        have hne : i ≠ w.heap.size := by omega
        exact (Below.heap_setCell _ _ _ _ hne).trans ((Below.heap_setCell _ _ _ _ hne).trans ((Below.heap_setCell _ _ _ _ hne).trans (Below.heap_setCell _ _ _ _ hne)))) (by simp) (by omega)
    clear hcp hco k0 k1 k2 k3 hv
    go_wp2_with fail
    generalize ((((W6.setCell ⟨w.heap.size, 0, none⟩ (.slice (some ⟨b1, 0, none⟩) g.ts.length g.ts.length)).setCell ⟨w.heap.size, 1, none⟩ (.slice (some ⟨b2, 0, none⟩) g.ns.length g.ns.length)).setCell ⟨w.heap.size, 2, none⟩ (.int .i64 g.ax)).setCell ⟨w.heap.size, 3, none⟩ (.slice (some ⟨b3, 0, none⟩) g.rs.length g.rs.length)) = W7 at *
    have p0 : W7.cell? ⟨w.heap.size, 0, none⟩ = some (.slice (some ⟨b1, 0, none⟩) g.ts.length g.ts.length) := r7.cell rfl
    have p1 : W7.cell? ⟨w.heap.size, 1, none⟩ = some (.slice (some ⟨b2, 0, none⟩) g.ns.length g.ns.length) := r7.cell rfl
    have p2 : W7.cell? ⟨w.heap.size, 2, none⟩ = some (.int .i64 g.ax) := r7.cell rfl
    have p3 : W7.cell? ⟨w.heap.size, 3, none⟩ = some (.slice (some ⟨b3, 0, none⟩) g.rs.length g.rs.length) := r7.cell rfl
    refine bodyPost_ret (v := .tuple #[.agg #[.slice (some ⟨b1, 0, none⟩) g.ts.length g.ts.length, .slice (some ⟨b2, 0, none⟩) g.ns.length g.ns.length, .int .i64 g.ax, .slice (some ⟨b3, 0, none⟩) g.rs.length g.rs.length], .nilIface]) (by simp [results, Tryd.results21, go_sem, p0, p1, p2, p3]; try rfl) rfl ?_
    exact ⟨.inl ⟨hz, b1, b2, b3, bs, rfl, hco7⟩, hB7⟩
  · obtain ⟨tt, u, hvi⟩ : ∃ tt u, v = .iface tt u := by
      cases hc : checkG g with
      | mk k o =>
        rw [hc] at hz hv
        cases k with
        | zero => exact absurd rfl hz
        | succ k =>
          cases o with
          | none => exact ⟨_, _, hv⟩
          | some i =>
            obtain ⟨b, _, e, _⟩ := hv
            exact ⟨_, _, e⟩
    subst hvi
    have hv7 : CkV w.heap.size p (checkG g) ((((W5.setCell ⟨w.heap.size, 0, none⟩ (.slice none 0 0)).setCell ⟨w.heap.size, 1, none⟩ (.slice none 0 0)).setCell ⟨w.heap.size, 2, none⟩ (.int .i64 0)).setCell ⟨w.heap.size, 3, none⟩ (.slice none 0 0)) (.iface tt u) := ((((hv.set (show w.heap.size < W4.heap.size by omega) 0 _).set (show w.heap.size < W4.heap.size by omega) 1 _).set (show w.heap.size < W4.heap.size by omega) 2 _).set (show w.heap.size < W4.heap.size by omega) 3 _).mono (by omega)
    have r7 : RowAt ((((W5.setCell ⟨w.heap.size, 0, none⟩ (.slice none 0 0)).setCell ⟨w.heap.size, 1, none⟩ (.slice none 0 0)).setCell ⟨w.heap.size, 2, none⟩ (.int .i64 0)).setCell ⟨w.heap.size, 3, none⟩ (.slice none 0 0)) w.heap.size 35 #[.slice none 0 0, .slice none 0 0, .int .i64 0, .slice none 0 0] := (((r5.set 0 _).set 1 _).set 2 _).set 3 _
    have hB7 := (((hB5.setCell (p := ⟨w.heap.size, 0, none⟩) (Nat.le_refl _) (.slice none 0 0)).setCell (p := ⟨w.heap.size, 1, none⟩) (Nat.le_refl _) (.slice none 0 0)).setCell (p := ⟨w.heap.size, 2, none⟩) (Nat.le_refl _) (.int .i64 0)).setCell (p := ⟨w.heap.size, 3, none⟩) (Nat.le_refl _) (.slice none 0 0)
    clear hv
    go_wp2_with fail
    generalize ((((W5.setCell ⟨w.heap.size, 0, none⟩ (.slice none 0 0)).setCell ⟨w.heap.size, 1, none⟩ (.slice none 0 0)).setCell ⟨w.heap.size, 2, none⟩ (.int .i64 0)).setCell ⟨w.heap.size, 3, none⟩ (.slice none 0 0)) = W7 at *
    have p0 : W7.cell? ⟨w.heap.size, 0, none⟩ = some (.slice none 0 0) := r7.cell rfl
    have p1 : W7.cell? ⟨w.heap.size, 1, none⟩ = some (.slice none 0 0) := r7.cell rfl
    have p2 : W7.cell? ⟨w.heap.size, 2, none⟩ = some (.int .i64 0) := r7.cell rfl
    have p3 : W7.cell? ⟨w.heap.size, 3, none⟩ = some (.slice none 0 0) := r7.cell rfl
    refine bodyPost_ret (v := .tuple #[.agg #[.slice none 0 0, .slice none 0 0, .int .i64 0, .slice none 0 0], .iface tt u]) (by simp [results, Tryd.results21, go_sem, p0, p1, p2, p3]; try rfl) rfl ?_
    exact ⟨.inr ⟨hz, _, rfl, hv7⟩, hB7⟩

end Go.Proofs.YtcmjneabcdpmoaaDoor.GramRoll
