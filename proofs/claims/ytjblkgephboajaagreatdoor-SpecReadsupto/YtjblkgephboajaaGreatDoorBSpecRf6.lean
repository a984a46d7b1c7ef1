/-
  Texts that stand together: SpecRf6.
-/
import Derived.Test.YtjblkgephboajaaGreatDoorBSpecRf5
import Derived.Test.YtjblkgephboajaaGreatDoorBGramRefs
import Derived.Test.YtjblkgephboajaaGreatDoorBagLineMath
namespace Go.Proofs.YtjblkgephboajaaGreatDoor.SpecRb
open Go.RowKit Go.Maps GramRef GramMath GramLess GramOne GramApart GramCopy GramRow SpecMd SpecMem SpecFn
set_option linter.unusedVariables false
set_option linter.unusedSimpArgs false

theorem infoRl : (Tryz.prog.info? 46).map (fun i => (i.zero, i.size, i.bytes)) = some (some (.agg #[.int .i64 0, .slice none 0 0]), 2, 32) := by kernel_rfl
/-- The Builder's box and what it holds. -/
structure RB (w : World) (b base : Nat) (g : G) (tv nv rv : Value) (lq : List Q) : Prop where
  box : RowAt w b 122 #[tv, nv, .int .i64 g.ax, rv]
  ts : w.ownsRow base 9 1 tv g.ts.length (g.ts.map Value.string)
  ns : w.ownsRow base 9 1 nv g.ns.length (g.ns.map Value.string)
  rs : w.ownsRow base 46 2 rv g.rs.length (cellsQ lq)
  len : lq.map (·.r) = g.rs
  each : ∀ (i : Nat) (q : Q), lq[i]? = some q → w.ownsRow base 3 1 (.slice q.a q.r.right.length q.c) q.r.right.length (q.r.right.map (Value.int .i64))
  far : ∀ k, tv.ownBlock = some k → nv.ownBlock ≠ some k
theorem RB.below {w w' : World} {b base : Nat} {g : G} {tv nv rv : Value} {lq : List Q} (h : RB w b base g tv nv rv lq) (hb : Below w.heap.size w w') : RB w' b base g tv nv rv lq :=
  ⟨h.box.below hb h.box.lt, GramApart.own_below h.ts hb, GramApart.own_below h.ns hb, GramApart.own_below h.rs hb, h.len, fun i q hq => GramApart.own_below (h.each i q hq) hb, h.far⟩
theorem own_form {w : World} {B : Nat} {e : TypeId} {s n : Nat} {v : Value} {xs : List Value} (h : w.ownsRow B e s v n xs) : ∃ a c, v = .slice a n c ∧ n ≤ n := by
  obtain ⟨_, ⟨e1, e2⟩ | ⟨g, cap, cur, e1, _⟩⟩ := h
  · exact ⟨none, 0, by rw [e1, e2], Nat.le_refl _⟩
  · exact ⟨_, _, e1, Nat.le_refl _⟩
theorem srow_own {w : World} {B n c : Nat} {a : Option Addr} {ss : List ByteArray} (h : w.ownsRow B 9 1 (.slice a n c) n (ss.map Value.string)) : SRow w a ss := by
  intro i x hx
  have hl : n = ss.length := by have := h.1; simp at this; omega
  have hi := (List.getElem?_eq_some_iff.1 hx).1
  obtain ⟨g, cap, e, _, _⟩ := h.form (by omega)
  cases e
  refine ⟨g, 0, rfl, ?_⟩
  rw [Nat.zero_add, h.cellAt i (by omega), List.getElem?_map, hx]
  rfl
theorem kept_ne {w w' : World} {base : Nat} {e : TypeId} {s n : Nat} {v : Value} {xs : List Value} {row : Option Nat} (h : w.ownsRow base e s v n xs) (hg : w.grownBy w' row) (hne : ∀ k, v.ownBlock = some k → row ≠ some k) : w'.ownsRow base e s v n xs := by
  refine h.kept hg ?_
  cases hv : v.ownBlock with
  | none => exact .inl rfl
  | some k => exact .inr (fun e => hne k hv e.symm)
theorem set_below {w w' : World} {B b q : Nat} {v : Value} (h : Below B w w') (hb : B ≤ b) : Below B w (w'.setCell ⟨b, q, none⟩ v) := h.setCell (p := ⟨b, q, none⟩) hb v
theorem num_mem {ss : List ByteArray} {s : ByteArray} (h : memB s ss = true) : idxB ss s = true ∧ idxN ss s = numS ss s ∧ addN ss s = ss := by
  obtain ⟨k, h1, _, _, _⟩ := SpecNm.idx_in h
  refine ⟨?_, ?_, ?_⟩
  · unfold idxB; rw [h1]; simp
  · unfold idxN numS; rw [if_pos h, h1, if_neg (by omega)]
  · unfold addN; rw [if_pos h]
theorem num_new {ss : List ByteArray} {s : ByteArray} (h : memB s ss = false) : idxB ss s = false ∧ numS ss s = (ss.length : Int) ∧ addN ss s = ss ++ [s] := by
  refine ⟨?_, ?_, ?_⟩
  · rcases idx_cases ss s with ⟨h1, _⟩ | ⟨k, _, _, _, h2⟩
    · unfold idxB; rw [h1]; rfl
    · rw [h] at h2; cases h2
  · unfold numS; rw [if_neg (by rw [h]; decide)]
  · unfold addN; rw [if_neg (by rw [h]; decide)]

set_option maxRecDepth 100000 in
set_option maxHeartbeats 4000000 in
theorem rbN_any (b base B : Nat) (g : G) (tv nv rv : Value) (lq : List Q) (s : ByteArray) (w : World) (h : RB w b base g tv nv rv lq) (hbB : B ≤ b) (hB : B ≤ base) (hbs : base ≤ w.heap.size) (hl : g.ns.length ≤ 4194304) :
    Calls Tryz.prog 53 #[.pointer (some ⟨b, 0, none⟩), .string s] w fun e w' => e = .returned (.int .i64 (numS g.ns s)) ∧ (∃ v', RB w' b base { g with ns := addN g.ns s } tv v' rv lq) ∧ Below B w w' ∧ ∀ (B2 n : Nat) (u : Value) (xs : List Value), w.ownsRow B2 3 1 u n xs → w'.ownsRow B2 3 1 u n xs := by
  obtain ⟨i0, hi, hz0, hz1, hz2⟩ := info_parts infoSt
  have hrow := h.ns
  obtain ⟨va, vc, hv, _⟩ := own_form hrow
  subst hv
  have hsr := srow_own hrow
  have y := h.box.cell (q := 1) rfl
  have hbl := h.box.lt
  cases hm : memB s g.ns with
  | true =>
    obtain ⟨k1, k2, k3⟩ := num_mem hm
    have hf := rfind_any va vc g.ns s w hsr (by omega)
    rw [k1, k2] at hf
    rw [k3]
    clear hm k1 k2
    go_enter Tryz.func53, Tryz.ntmps53
    go_wp2_with fail
    refine hf.mono ?_
    rintro e w1 ⟨rfl, rfl⟩
    clear hf
    go_wp2
    go_ret
    exact ⟨rfl, ⟨_, h⟩, Below.refl _ _, fun _ _ _ _ h9 => h9⟩
  | false =>
    obtain ⟨k1, k2, k3⟩ := num_new hm
    have hf := rfind_any va vc g.ns s w hsr (by omega)
    rw [k1] at hf
    rw [k2, k3]
    clear hm k1 k2
    go_enter Tryz.func53, Tryz.ntmps53
    go_wp2_with fail
    refine hf.mono ?_
    rintro e w1 ⟨rfl, rfl⟩
    clear hf
    go_wp2_with (at_builtin; refine wpList_append_lies _ rfl _ _ 22 rfl base 9 i0 (.string ⟨#[]⟩) 1 16 Tryz.underlying22 hi hz0 hz1 hz2 rfl (by decide) _ _ _ rfl (hrow.alloc _) ⟨w1.heap.size, 0, none⟩ 1 1 [.string s] rfl rfl (cell_one_new _ _ _) (by simp [Value.oneCell']) (by omega) (by unfold maxLen; omega) (by omega) (by simp; omega) (w1.heap.size + 1) (by simp) ?_; intro g6 c6 w3 hown1 hgrow1 hat6 hlt6; have hbox3 := (h.box.alloc (.cells #[.string s] 9)).grown hgrow1 ((h.box.alloc (.cells #[.string s] 9)).not_own (by decide) (hrow.alloc (.cells #[.string s] 9))); have f3 := hbox3.frozen 1; have y3 := hbox3.cell (q := 1) rfl)
    have hb3 : Below B w1 w3 := by
      have hgs := hgrow1.size
      rw [World.size_alloc] at hgs
      exact ⟨hgrow1.os, hgrow1.tape, hgrow1.output, by omega, fun j hj => by
        by_cases hjw : j < w1.heap.size
        · exact grown_far hgrow1 hjw (fun e => by have := (hrow.lt j e).1; omega)
        · omega⟩
    have hrb : RB (w3.setCell ⟨b, 1, none⟩ (.slice (some ⟨g6, 0, none⟩) (g.ns.length + 1) c6)) b base { g with ns := g.ns ++ [s] } tv (.slice (some ⟨g6, 0, none⟩) (g.ns.length + 1) c6) rv lq := by
      have hoA : w3.ownsRow base 9 1 tv g.ts.length (g.ts.map Value.string) := kept_ne (h.ts.alloc _) hgrow1 (fun k hk e => h.far k hk e)
      have hoR : w3.ownsRow base 46 2 rv g.rs.length (cellsQ lq) := SpecRf.own_grown (h.rs.alloc _) (hrow.alloc _) (by decide) hgrow1
      have hoN : w3.ownsRow base 9 1 (.slice (some ⟨g6, 0, none⟩) (g.ns.length + 1) c6) (g.ns ++ [s]).length ((g.ns ++ [s]).map Value.string) := by
        rw [List.length_append, List.map_append]
        exact hown1
      refine ⟨hbox3.set 1 _, SpecRf.own_setOther hoA hbox3 (by decide), SpecRf.own_setOther hoN hbox3 (by decide), SpecRf.own_setOther hoR hbox3 (by decide), h.len, fun i q hq => SpecRf.own_setOther (SpecRf.own_grown ((h.each i q hq).alloc _) (hrow.alloc _) (by decide) hgrow1) hbox3 (by decide), ?_⟩
      intro k hk
      intro e
      have e2 : some g6 = some k := e
      cases e2
      rcases hat6 with e3 | e3
      · exact h.far _ hk e3
      · have := (h.ts.lt _ hk).2
        omega
    have hint : Hid (∀ (B2 n : Nat) (u : Value) (xs : List Value), w1.ownsRow B2 3 1 u n xs → (w3.setCell ⟨b, 1, none⟩ (.slice (some ⟨g6, 0, none⟩) (g.ns.length + 1) c6)).ownsRow B2 3 1 u n xs) := fun B2 n u xs h9 => SpecRf.own_setOther (SpecRf.own_grown (h9.alloc _) (hrow.alloc _) (by decide) hgrow1) hbox3 (by decide)
    clear hown1 hgrow1 hat6 hlt6 hrow y hsr h hbox3
    go_wp2
    go_ret
    exact ⟨rfl, ⟨_, hrb⟩, set_below hb3 hbB, hint.out⟩

set_option maxRecDepth 100000 in
set_option maxHeartbeats 4000000 in
theorem rbT_any (b base B : Nat) (g : G) (tv nv rv : Value) (lq : List Q) (s : ByteArray) (w : World) (h : RB w b base g tv nv rv lq) (hbB : B ≤ b) (hB : B ≤ base) (hbs : base ≤ w.heap.size) (hl : g.ts.length ≤ 4194304) :
    Calls Tryz.prog 55 #[.pointer (some ⟨b, 0, none⟩), .string s] w fun e w' => e = .returned (.int .i64 (numS g.ts s)) ∧ (∃ v', RB w' b base { g with ts := addN g.ts s } v' nv rv lq) ∧ Below B w w' ∧ ∀ (B2 n : Nat) (u : Value) (xs : List Value), w.ownsRow B2 3 1 u n xs → w'.ownsRow B2 3 1 u n xs := by
  obtain ⟨i0, hi, hz0, hz1, hz2⟩ := info_parts infoSt
  have hrow := h.ts
  obtain ⟨va, vc, hv, _⟩ := own_form hrow
  subst hv
  have hsr := srow_own hrow
  have y := h.box.cell (q := 0) rfl
  have hbl := h.box.lt
  cases hm : memB s g.ts with
  | true =>
    obtain ⟨k1, k2, k3⟩ := num_mem hm
    have hf := rfind_any va vc g.ts s w hsr (by omega)
    rw [k1, k2] at hf
    rw [k3]
    clear hm k1 k2
    go_enter Tryz.func55, Tryz.ntmps55
    go_wp2_with fail
    refine hf.mono ?_
    rintro e w1 ⟨rfl, rfl⟩
    clear hf
    go_wp2
    go_ret
    exact ⟨rfl, ⟨_, h⟩, Below.refl _ _, fun _ _ _ _ h9 => h9⟩
  | false =>
    obtain ⟨k1, k2, k3⟩ := num_new hm
    have hf := rfind_any va vc g.ts s w hsr (by omega)
    rw [k1] at hf
    rw [k2, k3]
    clear hm k1 k2
    go_enter Tryz.func55, Tryz.ntmps55
    go_wp2_with fail
    refine hf.mono ?_
    rintro e w1 ⟨rfl, rfl⟩
    clear hf
    go_wp2_with (at_builtin; refine wpList_append_lies _ rfl _ _ 22 rfl base 9 i0 (.string ⟨#[]⟩) 1 16 Tryz.underlying22 hi hz0 hz1 hz2 rfl (by decide) _ _ _ rfl (hrow.alloc _) ⟨w1.heap.size, 0, none⟩ 1 1 [.string s] rfl rfl (cell_one_new _ _ _) (by simp [Value.oneCell']) (by omega) (by unfold maxLen; omega) (by omega) (by simp; omega) (w1.heap.size + 1) (by simp) ?_; intro g6 c6 w3 hown1 hgrow1 hat6 hlt6; have hbox3 := (h.box.alloc (.cells #[.string s] 9)).grown hgrow1 ((h.box.alloc (.cells #[.string s] 9)).not_own (by decide) (hrow.alloc (.cells #[.string s] 9))); have f3 := hbox3.frozen 0; have y3 := hbox3.cell (q := 0) rfl)
    have hb3 : Below B w1 w3 := by
      have hgs := hgrow1.size
      rw [World.size_alloc] at hgs
      exact ⟨hgrow1.os, hgrow1.tape, hgrow1.output, by omega, fun j hj => by
        by_cases hjw : j < w1.heap.size
        · exact grown_far hgrow1 hjw (fun e => by have := (hrow.lt j e).1; omega)
        · omega⟩
    have hrb : RB (w3.setCell ⟨b, 0, none⟩ (.slice (some ⟨g6, 0, none⟩) (g.ts.length + 1) c6)) b base { g with ts := g.ts ++ [s] } (.slice (some ⟨g6, 0, none⟩) (g.ts.length + 1) c6) nv rv lq := by
      have hoA : w3.ownsRow base 9 1 nv g.ns.length (g.ns.map Value.string) := kept_ne (h.ns.alloc _) hgrow1 (fun k hk e => h.far k e hk)
      have hoR : w3.ownsRow base 46 2 rv g.rs.length (cellsQ lq) := SpecRf.own_grown (h.rs.alloc _) (hrow.alloc _) (by decide) hgrow1
      have hoN : w3.ownsRow base 9 1 (.slice (some ⟨g6, 0, none⟩) (g.ts.length + 1) c6) (g.ts ++ [s]).length ((g.ts ++ [s]).map Value.string) := by
        rw [List.length_append, List.map_append]
        exact hown1
      refine ⟨hbox3.set 0 _, SpecRf.own_setOther hoN hbox3 (by decide), SpecRf.own_setOther hoA hbox3 (by decide), SpecRf.own_setOther hoR hbox3 (by decide), h.len, fun i q hq => SpecRf.own_setOther (SpecRf.own_grown ((h.each i q hq).alloc _) (hrow.alloc _) (by decide) hgrow1) hbox3 (by decide), ?_⟩
      intro k hk
      intro e
      have e2 : some g6 = some k := hk
      cases e2
      rcases hat6 with e3 | e3
      · exact h.far _ e3 e
      · have := (h.ns.lt _ e).2
        omega
    have hint : Hid (∀ (B2 n : Nat) (u : Value) (xs : List Value), w1.ownsRow B2 3 1 u n xs → (w3.setCell ⟨b, 0, none⟩ (.slice (some ⟨g6, 0, none⟩) (g.ts.length + 1) c6)).ownsRow B2 3 1 u n xs) := fun B2 n u xs h9 => SpecRf.own_setOther (SpecRf.own_grown (h9.alloc _) (hrow.alloc _) (by decide) hgrow1) hbox3 (by decide)
    clear hown1 hgrow1 hat6 hlt6 hrow y hsr h hbox3
    go_wp2
    go_ret
    exact ⟨rfl, ⟨_, hrb⟩, set_below hb3 hbB, hint.out⟩

set_option maxRecDepth 100000 in
set_option maxHeartbeats 4000000 in
theorem rbNM_any (b base : Nat) (g : G) (tv nv rv : Value) (lq : List Q) (s : ByteArray) (w : World) (h : RB w b base g tv nv rv lq) (hl : g.ns.length ≤ 4194304) (hm : memB s g.ns = true) :
    Calls Tryz.prog 53 #[.pointer (some ⟨b, 0, none⟩), .string s] w fun e w' => e = .returned (.int .i64 (idx g.ns s)) ∧ w' = w := by
  have hrow := h.ns
  obtain ⟨va, vc, hv, _⟩ := own_form hrow
  subst hv
  have hsr := srow_own hrow
  have y := h.box.cell (q := 1) rfl
  have hbl := h.box.lt
  obtain ⟨k1, k2, k3⟩ := num_mem hm
  have hf := rfind_any va vc g.ns s w hsr (by omega)
  rw [k1, k2, show numS g.ns s = idx g.ns s from by unfold numS; rw [if_pos hm]] at hf
  clear hm k1 k2
  go_enter Tryz.func53, Tryz.ntmps53
  go_wp2_with fail
  refine hf.mono ?_
  rintro e w1 ⟨rfl, rfl⟩
  clear hf
  go_wp2
  go_ret
  exact ⟨rfl, rfl⟩

theorem kept_nil {w w' : World} {base : Nat} {e : TypeId} {s n : Nat} {v : Value} {xs : List Value} (h : w.ownsRow base e s v n xs) (hg : w.grownBy w' none) : w'.ownsRow base e s v n xs := kept_ne h hg (fun k hk e => by cases e)
theorem RB.grown_nil {w w' : World} {b base : Nat} {g : G} {tv nv rv : Value} {lq : List Q} (h : RB w b base g tv nv rv lq) (hg : w.grownBy w' none) : RB w' b base g tv nv rv lq :=
  ⟨h.box.grown hg (by simp), kept_nil h.ts hg, kept_nil h.ns hg, kept_nil h.rs hg, h.len, fun i q hq => kept_nil (h.each i q hq) hg, h.far⟩
theorem below_nil {w w' : World} (hg : w.grownBy w' none) : Below w.heap.size w w' := ⟨hg.os, hg.tape, hg.output, hg.size, fun j hj => hg.block j hj (by simp)⟩
theorem cellsQ_snoc (lq : List Q) (q : Q) : cellsQ (lq ++ [q]) = cellsQ lq ++ qv q := by unfold cellsQ; rw [List.flatMap_append]; simp

set_option maxRecDepth 100000 in
set_option maxHeartbeats 4000000 in
theorem rbR_any (b base B : Nat) (g : G) (tv nv rv : Value) (lq : List Q) (left : Int) (ra : Option Addr) (c B2 : Nat) (zs : List Int) (w : World) (h : RB w b base g tv nv rv lq) (hr : w.ownsRow B2 3 1 (.slice ra zs.length c) zs.length (zs.map (Value.int .i64))) (hbB : B ≤ b) (hB : B ≤ base) (hbs : base ≤ w.heap.size) (hl : g.rs.length ≤ 1048576) (hz : zs.length ≤ 4194304) :
    Calls Tryz.prog 56 #[.pointer (some ⟨b, 0, none⟩), .int .i64 left, .slice ra zs.length c] w fun e w' => e = .returned (.tuple #[]) ∧ (∃ rv' lq', RB w' b base { g with rs := g.rs ++ [⟨left, zs⟩] } tv nv rv' lq') ∧ Below B w w' := by
  obtain ⟨i0, hi, hz0, hz1, hz2⟩ := info_parts infoRl
  obtain ⟨i1, hi1, hz3, hz4, hz5⟩ := info_parts SpecRf.infoIt
  have hnil : w.ownsRow base 3 1 (.slice none 0 0) 0 [] := World.ownsRow_nil _ _ _ _
  rcases hr.2 with ⟨e1, e2⟩ | ⟨gr, cap, cur, e1, _⟩
  · obtain ⟨rfl, rfl⟩ : ra = none ∧ c = 0 := by
      have h9 : ra = none ∧ zs.length = 0 ∧ c = 0 := by simpa using e1
      exact ⟨h9.1, h9.2.2⟩
    have HZ : Hid (zs = []) := List.length_eq_zero_iff.1 e2
    rw [e2]
    have hown0 : w.ownsRow base 3 1 (.slice none 0 0) 0 [] := hnil
    have ybx := h.box.cell (q := 3) rfl
    go_enter Tryz.func56, Tryz.ntmps56
    go_wp2_with (at_builtin; first | (refine wpList_append_own_none rfl _ _ 34 rfl base 3 i1 1 Tryz.underlying34 hi1 (.slice none 0 0) 0 [] rfl hnil rfl ?_) | (refine wpList_append_own _ rfl _ _ 23 rfl base 46 i0 (.agg #[.int .i64 0, .slice none 0 0]) 2 32 Tryz.underlying23 hi hz0 hz1 hz2 rfl (by decide) _ _ _ rfl (h.rs.alloc _) ⟨w.heap.size, 0, none⟩ 1 1 [.int .i64 left, .slice none 0 0] rfl rfl (WordsBytes.cells_new _ #[_, _] _) (by simp [Value.oneCell']) (by unfold maxLen; omega) (by omega) (by simp; omega) ?_; intro u1 w3 hown1 hgrow1 _; obtain ⟨a1, c1, hu1, _⟩ := own_form hown1; subst hu1; have hbox3 := (h.box.alloc (.cells #[.int .i64 left, .slice none 0 0] 46)).grown hgrow1 ((h.box.alloc (.cells #[.int .i64 left, .slice none 0 0] 46)).not_own (by decide) (h.rs.alloc (.cells #[.int .i64 left, .slice none 0 0] 46))); have f3 := hbox3.frozen 3; have y3 := hbox3.cell (q := 3) rfl))
    have hown1' : w3.ownsRow base 46 2 (.slice a1 (g.rs.length + 1) c1) (g.rs.length + 1) (cellsQ lq ++ qv ⟨⟨left, zs⟩, none, 0⟩) := by
      have e9 : qv ⟨⟨left, zs⟩, none, 0⟩ = [.int .i64 left, .slice none 0 0] := by rw [HZ.out]; rfl
      rw [e9]
      exact hown1
    have hown0' : w.ownsRow base 3 1 (.slice none zs.length 0) zs.length (zs.map (Value.int .i64)) := by
      rw [HZ.out]
      exact hown0
    have hgs := hgrow1.size
    rw [World.size_alloc] at hgs
    have hb3 : Below B w w3 := ⟨hgrow1.os, hgrow1.tape, hgrow1.output, by omega, fun j hj => by
      by_cases hjw : j < w.heap.size
      · exact grown_far hgrow1 hjw (fun e => by have := (h.rs.lt j e).1; omega)
      · omega⟩
    have hrb : RB (w3.setCell ⟨b, 3, none⟩ (.slice a1 (g.rs.length + 1) c1)) b base { g with rs := g.rs ++ [⟨left, zs⟩] } tv nv (.slice a1 (g.rs.length + 1) c1) (lq ++ [⟨⟨left, zs⟩, none, 0⟩]) := by
      have hoR : w3.ownsRow base 46 2 (.slice a1 (g.rs.length + 1) c1) (g.rs ++ [(⟨left, zs⟩ : R)]).length (cellsQ (lq ++ [⟨⟨left, zs⟩, none, 0⟩])) := by
        rw [List.length_append, cellsQ_snoc]
        exact hown1'
      refine ⟨hbox3.set 3 _, SpecRf.own_setOther (SpecRf.own_grown (h.ts.alloc _) (h.rs.alloc _) (by decide) hgrow1) hbox3 (by decide), SpecRf.own_setOther (SpecRf.own_grown (h.ns.alloc _) (h.rs.alloc _) (by decide) hgrow1) hbox3 (by decide), SpecRf.own_setOther hoR hbox3 (by decide), by rw [List.map_append, h.len]; rfl, fun i q hq => ?_, h.far⟩
      by_cases hi9 : i < lq.length
      · rw [List.getElem?_append_left hi9] at hq
        exact SpecRf.own_setOther (SpecRf.own_grown ((h.each i q hq).alloc _) (h.rs.alloc _) (by decide) hgrow1) hbox3 (by decide)
      · rw [List.getElem?_append_right (by omega)] at hq
        have hi2 : i - lq.length = 0 := by
          have := (List.getElem?_eq_some_iff.1 hq).1
          simp at this
          omega
        rw [hi2] at hq
        cases hq
        exact SpecRf.own_setOther (SpecRf.own_grown (hown0'.alloc _) (h.rs.alloc _) (by decide) hgrow1) hbox3 (by decide)
    clear hgrow1 hown1 hown1' hbox3
    go_wp2
    go_end0
    exact ⟨rfl, ⟨_, _, hrb⟩, set_below hb3 hbB⟩
  · obtain ⟨rfl, rfl⟩ : ra = some ⟨gr, 0, none⟩ ∧ cap = c := by
      have h9 : ra = some ⟨gr, 0, none⟩ ∧ c = cap := by simpa using e1
      exact ⟨h9.1, h9.2.symm⟩
    have hnews : ∀ (j : Nat) (u : Value), (zs.map (Value.int .i64))[j]? = some u → w.cell? ((⟨gr, 0, none⟩ : Addr).add j) = some u := by
      intro j u hu
      rw [Addr.add_lit, Nat.zero_add]
      have hjl := (List.getElem?_eq_some_iff.1 hu).1
      rw [List.length_map] at hjl
      rw [hr.cellAt j (by omega)]
      exact hu
    have h1c : ∀ u ∈ zs.map (Value.int .i64), u.oneCell' = true := by
      intro u hu
      obtain ⟨z, _, rfl⟩ := List.mem_map.1 hu
      rfl
    go_enter Tryz.func56, Tryz.ntmps56
    go_wp2_with (at_builtin; first | (refine wpList_append_own _ rfl _ _ 34 rfl base 3 i1 (.int .i64 0) 1 8 Tryz.underlying34 hi1 hz3 hz4 hz5 rfl (by decide) _ _ _ rfl hnil ⟨gr, 0, none⟩ zs.length cap (zs.map (Value.int .i64)) rfl (by simp) hnews h1c (by unfold maxLen; omega) (by omega) hbs ?_; intro u0 w2 hown0 hgrow0 _; rw [Nat.zero_add, List.nil_append] at hown0; obtain ⟨a0, c0, hu0, _⟩ := own_form hown0; subst hu0; have h2 := RB.grown_nil h hgrow0; have hb2 := below_nil hgrow0; have hs2 := hb2.size; have ybx := h2.box.cell (q := 3) rfl) | (refine wpList_append_own _ rfl _ _ 23 rfl base 46 i0 (.agg #[.int .i64 0, .slice none 0 0]) 2 32 Tryz.underlying23 hi hz0 hz1 hz2 rfl (by decide) _ _ _ rfl (h2.rs.alloc _) ⟨w2.heap.size, 0, none⟩ 1 1 [.int .i64 left, .slice a0 zs.length c0] rfl rfl (WordsBytes.cells_new _ #[_, _] _) (by simp [Value.oneCell']) (by unfold maxLen; omega) (by omega) (by simp; omega) ?_; intro u1 w3 hown1 hgrow1 _; obtain ⟨a1, c1, hu1, _⟩ := own_form hown1; subst hu1; have hbox3 := (h2.box.alloc (.cells #[.int .i64 left, .slice a0 zs.length c0] 46)).grown hgrow1 ((h2.box.alloc (.cells #[.int .i64 left, .slice a0 zs.length c0] 46)).not_own (by decide) (h2.rs.alloc (.cells #[.int .i64 left, .slice a0 zs.length c0] 46))); have f3 := hbox3.frozen 3; have y3 := hbox3.cell (q := 3) rfl))
    have hown1' : w3.ownsRow base 46 2 (.slice a1 (g.rs.length + 1) c1) (g.rs.length + 1) (cellsQ lq ++ qv ⟨⟨left, zs⟩, a0, c0⟩) := hown1
    have hown0' := hown0
    have hgs := hgrow1.size
    rw [World.size_alloc] at hgs
    have hb3 : Below B w2 w3 := ⟨hgrow1.os, hgrow1.tape, hgrow1.output, by omega, fun j hj => by
      by_cases hjw : j < w2.heap.size
      · exact grown_far hgrow1 hjw (fun e => by have := (h2.rs.lt j e).1; omega)
      · omega⟩
    have hrb : RB (w3.setCell ⟨b, 3, none⟩ (.slice a1 (g.rs.length + 1) c1)) b base { g with rs := g.rs ++ [⟨left, zs⟩] } tv nv (.slice a1 (g.rs.length + 1) c1) (lq ++ [⟨⟨left, zs⟩, a0, c0⟩]) := by
      have hoR : w3.ownsRow base 46 2 (.slice a1 (g.rs.length + 1) c1) (g.rs ++ [(⟨left, zs⟩ : R)]).length (cellsQ (lq ++ [⟨⟨left, zs⟩, a0, c0⟩])) := by
        rw [List.length_append, cellsQ_snoc]
        exact hown1'
      refine ⟨hbox3.set 3 _, SpecRf.own_setOther (SpecRf.own_grown (h2.ts.alloc _) (h2.rs.alloc _) (by decide) hgrow1) hbox3 (by decide), SpecRf.own_setOther (SpecRf.own_grown (h2.ns.alloc _) (h2.rs.alloc _) (by decide) hgrow1) hbox3 (by decide), SpecRf.own_setOther hoR hbox3 (by decide), by rw [List.map_append, h.len]; rfl, fun i q hq => ?_, h.far⟩
      by_cases hi9 : i < lq.length
      · rw [List.getElem?_append_left hi9] at hq
        exact SpecRf.own_setOther (SpecRf.own_grown ((h2.each i q hq).alloc _) (h2.rs.alloc _) (by decide) hgrow1) hbox3 (by decide)
      · rw [List.getElem?_append_right (by omega)] at hq
        have hi2 : i - lq.length = 0 := by
          have := (List.getElem?_eq_some_iff.1 hq).1
          simp at this
          omega
        rw [hi2] at hq
        cases hq
        exact SpecRf.own_setOther (SpecRf.own_grown (hown0'.alloc _) (h2.rs.alloc _) (by decide) hgrow1) hbox3 (by decide)
    clear hgrow1 hown1 hown1' hbox3
    go_wp2
    go_end0
    exact ⟨rfl, ⟨_, _, hrb⟩, set_below ((hb2.mono (Nat.le_trans hB hbs)).trans hb3) hbB⟩

end Go.Proofs.YtjblkgephboajaaGreatDoor.SpecRb
