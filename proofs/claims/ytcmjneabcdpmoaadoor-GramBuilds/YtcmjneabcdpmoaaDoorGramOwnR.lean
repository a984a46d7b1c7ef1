/-
  The document's Builder, its blocks counted: what a call changes, and what it then owns.
-/
import Derived.Test.YtcmjneabcdpmoaaDoorGramOwnP
import Derived.Test.YtcmjneabcdpmoaaDoorGramRefs
import Derived.Test.YtcmjneabcdpmoaaDoorGramAll
import Derived.Deep.AppendLies
namespace Go.Proofs.YtcmjneabcdpmoaaDoor.GramRoll
open Go.RowKit Go.Maps Go.WideMaps Go.Proofs.YtcmjneabcdpmoaaDoor.GramLess Go.Proofs.YtcmjneabcdpmoaaDoor.GramMath Go.Proofs.YtcmjneabcdpmoaaDoor.GramRow Go.Proofs.YtcmjneabcdpmoaaDoor.GramOne Go.Proofs.YtcmjneabcdpmoaaDoor.GramApart Go.Proofs.YtcmjneabcdpmoaaDoor.GramCopy Go.Proofs.YtcmjneabcdpmoaaDoor.GramName Go.Proofs.YtcmjneabcdpmoaaDoor.GramRef
set_option linter.unusedVariables false
set_option linter.unusedSimpArgs false

theorem own_setR {w : World} {b q base n s : Nat} {e t : TypeId} {cur : Array Value} {v x : Value} {xs : List Value} (h : w.ownsRow base e s v n xs) (hr : RowAt w b t cur) (ht : t ≠ e) : (w.setCell ⟨b, q, none⟩ x).ownsRow base e s v n xs :=
  own_block h (fun g hg => Below.heap_setCell _ ⟨b, q, none⟩ _ _ (fun e2 => hr.not_own ht h (by rw [hg, e2])))
theorem but_grown {w w' : World} {row : Option Nat} (h : w.grownBy w' row) : But (fun k => row = some k) w w' := ⟨h.os, h.tape, h.output, h.size, fun k hk hn => h.block k hk (fun e => hn e.symm)⟩
theorem keptR {w w' : World} {base : Nat} {e : TypeId} {s n : Nat} {v : Value} {xs : List Value} {row : Option Nat} (h : w.ownsRow base e s v n xs) (hg : w.grownBy w' row) (hne : ∀ k, v.ownBlock = some k → row ≠ some k) : w'.ownsRow base e s v n xs := by
  refine h.kept hg ?_
  cases hv : v.ownBlock with
  | none => exact .inl rfl
  | some k => exact .inr (fun e => hne k hv e.symm)
theorem formR {w : World} {B : Nat} {e : TypeId} {s n : Nat} {v : Value} {xs : List Value} (h : w.ownsRow B e s v n xs) : ∃ a c, v = .slice a n c ∧ (a = none → n = 0 ∧ c = 0) := by
  obtain ⟨_, ⟨e1, e2⟩ | ⟨g, cap, cur, e1, _⟩⟩ := h
  · exact ⟨none, 0, by rw [e1, e2], fun _ => ⟨e2, rfl⟩⟩
  · exact ⟨_, _, e1, fun h => by cases h⟩
theorem srowR {w : World} {B n c : Nat} {a : Option Addr} {ss : List ByteArray} (h : w.ownsRow B 9 1 (.slice a n c) n (ss.map Value.string)) : SRow w a ss := by
  intro i x hx
  have hl : n = ss.length := by
    have h9 := h.1
    simp at h9
    omega
  have hi := (List.getElem?_eq_some_iff.1 hx).1
  obtain ⟨g, cap, e, _, hg⟩ := h.form (by omega)
  cases e
  refine ⟨g, 0, rfl, ?_⟩
  rw [Nat.zero_add, h.cellAt i (by omega)]
  simp [hx]
theorem num_memR {ss : List ByteArray} {s : ByteArray} (h : memB s ss = true) : idxB ss s = true ∧ idxN ss s = numZ ss s ∧ addS ss s = ss := by
  rcases idx_cases ss s with ⟨_, h2⟩ | ⟨k, h1, _, _, _⟩
  · rw [h] at h2; cases h2
  · refine ⟨?_, ?_, ?_⟩
    · unfold idxB; rw [h1]; simp
    · unfold idxN numZ; rw [if_pos h, h1, if_neg (by omega)]
    · unfold addS; rw [if_pos h]
theorem num_newR {ss : List ByteArray} {s : ByteArray} (h : memB s ss = false) : idxB ss s = false ∧ numZ ss s = (ss.length : Int) ∧ addS ss s = ss ++ [s] := by
  refine ⟨?_, ?_, ?_⟩
  · rcases idx_cases ss s with ⟨h1, _⟩ | ⟨k, _, _, _, h2⟩
    · unfold idxB; rw [h1]; rfl
    · rw [h] at h2; cases h2
  · unfold numZ; rw [if_neg (by rw [h]; decide)]
  · unfold addS; rw [if_neg (by rw [h]; decide)]
theorem cellsQ_snocR (lq : List Q) (q : Q) : cellsQ (lq ++ [q]) = cellsQ lq ++ qv q := by unfold cellsQ; rw [List.flatMap_append]; simp

/-- A Builder of the document in memory. -/
structure RB2 (w : World) (b : Nat) (g : G) (tv nv rv : Value) (lq : List Q) : Prop where
  box : RowAt w b 37 #[tv, nv, .int .i64 g.ax, rv]
  ts : w.ownsRow 0 9 1 tv g.ts.length (g.ts.map Value.string)
  ns : w.ownsRow 0 9 1 nv g.ns.length (g.ns.map Value.string)
  rs : w.ownsRow 0 53 2 rv g.rs.length (cellsQ lq)
  len : lq.map (·.r) = g.rs
  each : ∀ q ∈ lq, w.ownsRow 0 3 1 (.slice q.a q.r.right.length q.c) q.r.right.length (q.r.right.map (Value.int .i64))
  far : ∀ k, tv.ownBlock = some k → nv.ownBlock ≠ some k
/-- Its blocks. -/
def ownR (b : Nat) (tv nv rv : Value) (lq : List Q) (k : Nat) : Prop := k = b ∨ tv.ownBlock = some k ∨ nv.ownBlock = some k ∨ rv.ownBlock = some k ∨ ∃ q ∈ lq, (Value.slice q.a q.r.right.length q.c).ownBlock = some k
theorem RB2.blocks {w : World} {b : Nat} {g : G} {tv nv rv : Value} {lq : List Q} (h : RB2 w b g tv nv rv lq) {k : Nat} (hk : ownR b tv nv rv lq k) : k < w.heap.size := by
  rcases hk with rfl | hk | hk | hk | ⟨q, hq, hk⟩
  · exact h.box.lt
  · exact (h.ts.lt k hk).2
  · exact (h.ns.lt k hk).2
  · exact (h.rs.lt k hk).2
  · exact ((h.each q hq).lt k hk).2
theorem RB2.but {S : Nat → Prop} {w w' : World} {b : Nat} {g : G} {tv nv rv : Value} {lq : List Q} (h : RB2 w b g tv nv rv lq) (hb : But S w w') (hs : ∀ k, ownR b tv nv rv lq k → ¬ S k) : RB2 w' b g tv nv rv lq where
  box := h.box.but hb (hs b (.inl rfl))
  ts := own_block h.ts (fun k hk => hb.block k (h.ts.lt k hk).2 (hs k (.inr (.inl hk))))
  ns := own_block h.ns (fun k hk => hb.block k (h.ns.lt k hk).2 (hs k (.inr (.inr (.inl hk)))))
  rs := own_block h.rs (fun k hk => hb.block k (h.rs.lt k hk).2 (hs k (.inr (.inr (.inr (.inl hk))))))
  len := h.len
  each := fun q hq => own_block (h.each q hq) (fun k hk => hb.block k ((h.each q hq).lt k hk).2 (hs k (.inr (.inr (.inr (.inr ⟨q, hq, hk⟩))))))
  far := h.far
theorem RB2.grow {w : World} {b tn nn rn tc nc rc : Nat} {g : G} {ta na ra : Option Addr} {lq : List Q} (h : RB2 w b g (.slice ta tn tc) (.slice na nn nc) (.slice ra rn rc) lq) (h1 : tn = g.ts.length) (h2 : nn = g.ns.length) (h3 : rn = g.rs.length) : GRow w ta na ra g := by
  subst h1 h2 h3
  refine ⟨srowR h.ts, srowR h.ns, fun i r hr => ?_⟩
  have hi := (List.getElem?_eq_some_iff.1 hr).1
  obtain ⟨q, hq⟩ : ∃ q, lq[i]? = some q := ⟨_, List.getElem?_eq_getElem (by rw [← List.length_map (f := fun x : Q => x.r), h.len]; exact hi)⟩
  have hqr : q.r = r := by
    have : (lq.map (·.r))[i]? = some q.r := by rw [List.getElem?_map, hq]; rfl
    rw [h.len, hr] at this
    exact (Option.some.inj this).symm
  subst hqr
  have hrs := h.rs
  obtain ⟨g5, cap, e, _, hg5⟩ := hrs.form (by omega)
  cases e
  have hcq : (cellsQ lq)[i * 2]? = some (.int .i64 q.r.left) ∧ (cellsQ lq)[i * 2 + 1]? = some (.slice q.a q.r.right.length q.c) := by
    exact cellsQ_get lq i q hq
  have hc0 : w.cell? ⟨g5, i * 2, none⟩ = some (.int .i64 q.r.left) := by rw [hrs.cellAt (i * 2) (by omega)]; exact hcq.1
  have hc1 : w.cell? ⟨g5, i * 2 + 1, none⟩ = some (.slice q.a q.r.right.length q.c) := by rw [hrs.cellAt (i * 2 + 1) (by omega)]; exact hcq.2
  refine ⟨g5, 0, q.a, q.c, rfl, by rw [Nat.zero_add]; exact hc0, by rw [Nat.zero_add]; exact hc1, ?_⟩
  have he := h.each q (List.mem_of_getElem? hq)
  intro j x hx
  have hj := (List.getElem?_eq_some_iff.1 hx).1
  obtain ⟨g6, cap6, e6, _, hg6⟩ := he.form (by omega)
  have e7 : q.a = some ⟨g6, 0, none⟩ := by
    have h9 := e6
    simp only [Value.slice.injEq] at h9
    exact h9.1
  refine ⟨g6, 0, e7, ?_⟩
  rw [e6] at he
  rw [Nat.zero_add, he.cellAt j (by omega)]
  simp [hx]

/-- A Builder of the document that was told a grammar, or none, and its blocks. -/
def RO (w : World) (v : Value) (og : Option G) (O : Nat → Prop) : Prop := match og with
  | none => v = .pointer none
  | some g => ∃ b tv nv rv lq, v = .pointer (some ⟨b, 0, none⟩) ∧ RB2 w b g tv nv rv lq ∧ ∀ k, ownR b tv nv rv lq k → O k
theorem RO.but {S O : Nat → Prop} {w w' : World} {v : Value} {og : Option G} (h : RO w v og O) (hb : But S w w') (hs : ∀ k, O k → ¬ S k) : RO w' v og O := by
  cases og with
  | none => exact h
  | some g =>
    obtain ⟨b, tv, nv, rv, lq, e, hB, hO⟩ := h
    exact ⟨b, tv, nv, rv, lq, e, hB.but hb (fun k hk => hs k (hO k hk)), hO⟩
theorem ptr_noneR (w : World) : (binOp .eql 33 (.pointer none) (.pointer none)).run Tryd.prog w = .ok (.bool true) w := by kernel_rfl
theorem ptr_someR (a : Addr) (w : World) : (binOp .eql 33 (.pointer (some a)) (.pointer none)).run Tryd.prog w = .ok (.bool false) w := by kernel_rfl
theorem ptr_noneN (w : World) : (binOp .neq 33 (.pointer none) (.pointer none)).run Tryd.prog w = .ok (.bool false) w := by kernel_rfl
theorem ptr_someN (a : Addr) (w : World) : (binOp .neq 33 (.pointer (some a)) (.pointer none)).run Tryd.prog w = .ok (.bool true) w := by kernel_rfl

set_option maxRecDepth 100000 in
set_option maxHeartbeats 4000000 in
theorem ro_term {w : World} {v : Value} {og : Option G} {O : Nat → Prop} (h0 : RO w v og O) (s : ByteArray) (hl : ∀ g, og = some g → g.ts.length ≤ 2199023255552) :
    Calls Tryd.prog 6 #[v, .string s] w fun e w' => e = .returned (.int .i64 (numO og (·.ts) s)) ∧ RO w' v (og.map fun g => withTs g (addS g.ts s)) (more O w w') ∧ But O w w' := by
  cases og with
  | none =>
    obtain rfl : v = _ := h0
    have hptr := ptr_noneR
    go_enter Tryd.func6, Tryd.ntmps6
    go_wp2
    go_ret
    exact ⟨rfl, rfl, But.refl _ _⟩
  | some g =>
    obtain ⟨b, tv, nv, rv, lq, rfl, h, hO⟩ := h0
    have hlen := hl g rfl
    obtain ⟨i0, hi, hz0, hz1, hz2⟩ := info_parts infoStr
    have hptr := ptr_someR
    have hrow := h.ts
    obtain ⟨va, vc, hv, _⟩ := formR hrow
    subst hv
    have hsr := srowR hrow
    have y := h.box.cell (q := 0) rfl
    have hbl := h.box.lt
    cases hm : memB s g.ts with
    | true =>
      obtain ⟨k1, k2, k3⟩ := num_memR hm
      have hf := rfind_any va vc g.ts s w hsr (by omega)
      rw [k1, k2] at hf
      have HR : Hid (RO w (.pointer (some ⟨b, 0, none⟩)) (some (withTs g (addS g.ts s))) O) := by
        rw [k3]
        exact ⟨b, _, _, rv, lq, rfl, h, hO⟩
      clear hm k1 k2 k3
      go_enter Tryd.func6, Tryd.ntmps6
      go_wp2_with fail
      refine hf.mono ?_
      rintro e w1 ⟨rfl, rfl⟩
      clear hf
      go_wp2
      go_ret
      exact ⟨rfl, HR.out.but (But.refl (fun _ => False) _) (fun k _ h => h) |> fun hh => by
        obtain ⟨b9, t9, n9, r9, l9, e9, h9, o9⟩ := hh
        exact ⟨b9, t9, n9, r9, l9, e9, h9, fun k hk => .inl (o9 k hk)⟩, But.refl _ _⟩
    | false =>
      obtain ⟨k1, k2, k3⟩ := num_newR hm
      have hf := rfind_any va vc g.ts s w hsr (by omega)
      rw [k1] at hf
      have HK : Hid (numZ g.ts s = (g.ts.length : Int) ∧ addS g.ts s = g.ts ++ [s]) := ⟨k2, k3⟩
      clear hm k1 k2 k3
      go_enter Tryd.func6, Tryd.ntmps6
      go_wp2_with fail
      refine hf.mono ?_
      rintro e w1 ⟨rfl, rfl⟩
      clear hf
      go_wp2_with (at_builtin; refine wpList_append_lies _ rfl _ _ 25 rfl 0 9 i0 (.string ⟨#[]⟩) 1 16 Tryd.underlying25 hi hz0 hz1 hz2 rfl (by decide) _ _ _ rfl (hrow.alloc _) ⟨w1.heap.size, 0, none⟩ 1 1 [.string s] rfl rfl (cell_one_new _ _ _) (by simp [Value.oneCell']) (by omega) (by unfold maxLen; omega) (by omega) (by omega) (w1.heap.size + 1) (by simp) ?_; intro g6 c6 w3 hown1 hgrow1 hat6 hlt6; have hbox3 := (h.box.alloc (.cells #[.string s] 9)).grown hgrow1 ((h.box.alloc (.cells #[.string s] 9)).not_own (by decide) (hrow.alloc (.cells #[.string s] 9))); have f3 := hbox3.frozen 0; have y3 := hbox3.cell (q := 0) rfl)
      have hbut : But (fun k => k = b ∨ (Value.slice va g.ts.length vc).ownBlock = some k) w1 (w3.setCell ⟨b, 0, none⟩ (.slice (some ⟨g6, 0, none⟩) (g.ts.length + 1) c6)) := by
        have j1 : But (fun k => k = b ∨ (Value.slice va g.ts.length vc).ownBlock = some k) w1 (w1.alloc (.cells #[.string s] 9)) := But.of ((Below.refl _ _).alloc (Nat.le_refl _) _)
        have j2 : But (fun k => k = b ∨ (Value.slice va g.ts.length vc).ownBlock = some k) (w1.alloc (.cells #[.string s] 9)) w3 := (but_grown hgrow1).mono (fun k _ hk => .inr hk)
        exact (j1.trans j2).setCell (p := ⟨b, 0, none⟩) (.inl rfl) _
      have hrb : RB2 (w3.setCell ⟨b, 0, none⟩ (.slice (some ⟨g6, 0, none⟩) (g.ts.length + 1) c6)) b (withTs g (g.ts ++ [s])) (.slice (some ⟨g6, 0, none⟩) (g.ts.length + 1) c6) nv rv lq := by
        have hoA : w3.ownsRow 0 9 1 nv g.ns.length (g.ns.map Value.string) := keptR (h.ns.alloc _) hgrow1 (fun k hk e => h.far k e hk)
        have hoR : w3.ownsRow 0 53 2 rv g.rs.length (cellsQ lq) := GramAll.own_grown (h.rs.alloc _) (hrow.alloc _) (by decide) hgrow1
        have hoN : w3.ownsRow 0 9 1 (.slice (some ⟨g6, 0, none⟩) (g.ts.length + 1) c6) (g.ts ++ [s]).length ((g.ts ++ [s]).map Value.string) := by
          rw [List.length_append, List.map_append]
          exact hown1
        refine ⟨hbox3.set 0 _, own_setR hoN hbox3 (by decide), own_setR hoA hbox3 (by decide), own_setR hoR hbox3 (by decide), h.len, fun q hq => own_setR (GramAll.own_grown ((h.each q hq).alloc _) (hrow.alloc _) (by decide) hgrow1) hbox3 (by decide), fun k hk e2 => by
          have e3 : some g6 = some k := hk
          cases e3
          rcases hat6 with e4 | e4
          · exact h.far _ e4 e2
          · have := (h.ns.lt _ e2).2; omega⟩
      have HR : Hid (RO (w3.setCell ⟨b, 0, none⟩ (.slice (some ⟨g6, 0, none⟩) (g.ts.length + 1) c6)) (.pointer (some ⟨b, 0, none⟩)) (some (withTs g (addS g.ts s))) (more O w1 (w3.setCell ⟨b, 0, none⟩ (.slice (some ⟨g6, 0, none⟩) (g.ts.length + 1) c6))) ∧ But O w1 (w3.setCell ⟨b, 0, none⟩ (.slice (some ⟨g6, 0, none⟩) (g.ts.length + 1) c6))) := by
        rw [HK.out.2]
        refine ⟨⟨b, _, _, rv, lq, rfl, hrb, fun k hk => ?_⟩, hbut.mono (fun k _ hk2 => by rcases hk2 with rfl | hk2; exact hO _ (.inl rfl); exact hO _ (.inr (.inl hk2)))⟩
        have hlt := hrb.blocks hk
        have hnew : ∀ k, (.slice (some ⟨g6, 0, none⟩) (g.ts.length + 1) c6 : Value).ownBlock = some k → (Value.slice va g.ts.length vc).ownBlock = some k ∨ w1.heap.size ≤ k := fun k hk3 => by
          have e : some g6 = some k := hk3
          cases e
          rcases hat6 with e4 | e4
          · exact .inl e4
          · exact .inr (by omega)
        rcases hk with rfl | hk | hk
        · exact .inl (hO _ (.inl rfl))
        · rcases hnew k hk with h9 | h9
          · exact .inl (hO _ (.inr (.inl h9)))
          · exact .inr ⟨h9, hlt⟩
        · exact .inl (hO _ (.inr (.inr hk)))
      clear hown1 hgrow1 hat6 hlt6 hrow y hsr h hbox3 hrb hbut
      go_wp2
      go_ret
      exact ⟨by show _ = Ending.returned (.int .i64 (numZ g.ts s)); rw [HK.out.1]; rfl, HR.out.1, HR.out.2⟩

set_option maxRecDepth 100000 in
set_option maxHeartbeats 4000000 in
theorem ro_nonterm {w : World} {v : Value} {og : Option G} {O : Nat → Prop} (h0 : RO w v og O) (s : ByteArray) (hl : ∀ g, og = some g → g.ns.length ≤ 2199023255552) :
    Calls Tryd.prog 8 #[v, .string s] w fun e w' => e = .returned (.int .i64 (numO og (·.ns) s)) ∧ RO w' v (og.map fun g => withNs g (addS g.ns s)) (more O w w') ∧ But O w w' := by
  cases og with
  | none =>
    obtain rfl : v = _ := h0
    have hptr := ptr_noneR
    go_enter Tryd.func8, Tryd.ntmps8
    go_wp2
    go_ret
    exact ⟨rfl, rfl, But.refl _ _⟩
  | some g =>
    obtain ⟨b, tv, nv, rv, lq, rfl, h, hO⟩ := h0
    have hlen := hl g rfl
    obtain ⟨i0, hi, hz0, hz1, hz2⟩ := info_parts infoStr
    have hptr := ptr_someR
    have hrow := h.ns
    obtain ⟨va, vc, hv, _⟩ := formR hrow
    subst hv
    have hsr := srowR hrow
    have y := h.box.cell (q := 1) rfl
    have hbl := h.box.lt
    cases hm : memB s g.ns with
    | true =>
      obtain ⟨k1, k2, k3⟩ := num_memR hm
      have hf := rfind_any va vc g.ns s w hsr (by omega)
      rw [k1, k2] at hf
      have HR : Hid (RO w (.pointer (some ⟨b, 0, none⟩)) (some (withNs g (addS g.ns s))) O) := by
        rw [k3]
        exact ⟨b, _, _, rv, lq, rfl, h, hO⟩
      clear hm k1 k2 k3
      go_enter Tryd.func8, Tryd.ntmps8
      go_wp2_with fail
      refine hf.mono ?_
      rintro e w1 ⟨rfl, rfl⟩
      clear hf
      go_wp2
      go_ret
      exact ⟨rfl, HR.out.but (But.refl (fun _ => False) _) (fun k _ h => h) |> fun hh => by
        obtain ⟨b9, t9, n9, r9, l9, e9, h9, o9⟩ := hh
        exact ⟨b9, t9, n9, r9, l9, e9, h9, fun k hk => .inl (o9 k hk)⟩, But.refl _ _⟩
    | false =>
      obtain ⟨k1, k2, k3⟩ := num_newR hm
      have hf := rfind_any va vc g.ns s w hsr (by omega)
      rw [k1] at hf
      have HK : Hid (numZ g.ns s = (g.ns.length : Int) ∧ addS g.ns s = g.ns ++ [s]) := ⟨k2, k3⟩
      clear hm k1 k2 k3
      go_enter Tryd.func8, Tryd.ntmps8
      go_wp2_with fail
      refine hf.mono ?_
      rintro e w1 ⟨rfl, rfl⟩
      clear hf
      go_wp2_with (at_builtin; refine wpList_append_lies _ rfl _ _ 25 rfl 0 9 i0 (.string ⟨#[]⟩) 1 16 Tryd.underlying25 hi hz0 hz1 hz2 rfl (by decide) _ _ _ rfl (hrow.alloc _) ⟨w1.heap.size, 0, none⟩ 1 1 [.string s] rfl rfl (cell_one_new _ _ _) (by simp [Value.oneCell']) (by omega) (by unfold maxLen; omega) (by omega) (by omega) (w1.heap.size + 1) (by simp) ?_; intro g6 c6 w3 hown1 hgrow1 hat6 hlt6; have hbox3 := (h.box.alloc (.cells #[.string s] 9)).grown hgrow1 ((h.box.alloc (.cells #[.string s] 9)).not_own (by decide) (hrow.alloc (.cells #[.string s] 9))); have f3 := hbox3.frozen 1; have y3 := hbox3.cell (q := 1) rfl)
      have hbut : But (fun k => k = b ∨ (Value.slice va g.ns.length vc).ownBlock = some k) w1 (w3.setCell ⟨b, 1, none⟩ (.slice (some ⟨g6, 0, none⟩) (g.ns.length + 1) c6)) := by
        have j1 : But (fun k => k = b ∨ (Value.slice va g.ns.length vc).ownBlock = some k) w1 (w1.alloc (.cells #[.string s] 9)) := But.of ((Below.refl _ _).alloc (Nat.le_refl _) _)
        have j2 : But (fun k => k = b ∨ (Value.slice va g.ns.length vc).ownBlock = some k) (w1.alloc (.cells #[.string s] 9)) w3 := (but_grown hgrow1).mono (fun k _ hk => .inr hk)
        exact (j1.trans j2).setCell (p := ⟨b, 1, none⟩) (.inl rfl) _
      have hrb : RB2 (w3.setCell ⟨b, 1, none⟩ (.slice (some ⟨g6, 0, none⟩) (g.ns.length + 1) c6)) b (withNs g (g.ns ++ [s])) tv (.slice (some ⟨g6, 0, none⟩) (g.ns.length + 1) c6) rv lq := by
        have hoA : w3.ownsRow 0 9 1 tv g.ts.length (g.ts.map Value.string) := keptR (h.ts.alloc _) hgrow1 (fun k hk e => h.far k hk e)
        have hoR : w3.ownsRow 0 53 2 rv g.rs.length (cellsQ lq) := GramAll.own_grown (h.rs.alloc _) (hrow.alloc _) (by decide) hgrow1
        have hoN : w3.ownsRow 0 9 1 (.slice (some ⟨g6, 0, none⟩) (g.ns.length + 1) c6) (g.ns ++ [s]).length ((g.ns ++ [s]).map Value.string) := by
          rw [List.length_append, List.map_append]
          exact hown1
        refine ⟨hbox3.set 1 _, own_setR hoA hbox3 (by decide), own_setR hoN hbox3 (by decide), own_setR hoR hbox3 (by decide), h.len, fun q hq => own_setR (GramAll.own_grown ((h.each q hq).alloc _) (hrow.alloc _) (by decide) hgrow1) hbox3 (by decide), fun k hk e2 => by
          have e3 : some g6 = some k := e2
          cases e3
          rcases hat6 with e4 | e4
          · exact h.far _ hk e4
          · have := (h.ts.lt _ hk).2; omega⟩
      have HR : Hid (RO (w3.setCell ⟨b, 1, none⟩ (.slice (some ⟨g6, 0, none⟩) (g.ns.length + 1) c6)) (.pointer (some ⟨b, 0, none⟩)) (some (withNs g (addS g.ns s))) (more O w1 (w3.setCell ⟨b, 1, none⟩ (.slice (some ⟨g6, 0, none⟩) (g.ns.length + 1) c6))) ∧ But O w1 (w3.setCell ⟨b, 1, none⟩ (.slice (some ⟨g6, 0, none⟩) (g.ns.length + 1) c6))) := by
        rw [HK.out.2]
        refine ⟨⟨b, _, _, rv, lq, rfl, hrb, fun k hk => ?_⟩, hbut.mono (fun k _ hk2 => by rcases hk2 with rfl | hk2; exact hO _ (.inl rfl); exact hO _ (.inr (.inr (.inl hk2))))⟩
        have hlt := hrb.blocks hk
        have hnew : ∀ k, (.slice (some ⟨g6, 0, none⟩) (g.ns.length + 1) c6 : Value).ownBlock = some k → (Value.slice va g.ns.length vc).ownBlock = some k ∨ w1.heap.size ≤ k := fun k hk3 => by
          have e : some g6 = some k := hk3
          cases e
          rcases hat6 with e4 | e4
          · exact .inl e4
          · exact .inr (by omega)
        rcases hk with rfl | hk | hk | hk
        · exact .inl (hO _ (.inl rfl))
        · exact .inl (hO _ (.inr (.inl hk)))
        · rcases hnew k hk with h9 | h9
          · exact .inl (hO _ (.inr (.inr (.inl h9))))
          · exact .inr ⟨h9, hlt⟩
        · exact .inl (hO _ (.inr (.inr (.inr hk))))
      clear hown1 hgrow1 hat6 hlt6 hrow y hsr h hbox3 hrb hbut
      go_wp2
      go_ret
      exact ⟨by show _ = Ending.returned (.int .i64 (numZ g.ns s)); rw [HK.out.1]; rfl, HR.out.1, HR.out.2⟩

set_option maxRecDepth 100000 in
set_option maxHeartbeats 1000000 in
theorem ro_axiom {w : World} {v : Value} {og : Option G} {O : Nat → Prop} (h0 : RO w v og O) (n : Int) :
    Calls Tryd.prog 13 #[v, .int .i64 n] w fun e w' => e = .returned (.tuple #[]) ∧ RO w' v (og.map fun g => withAx g n) (more O w w') ∧ But O w w' := by
  cases og with
  | none =>
    obtain rfl : v = _ := h0
    have hptr := ptr_noneN
    go_enter Tryd.func13, Tryd.ntmps13
    go_wp2
    go_end0
    exact ⟨rfl, rfl, But.refl _ _⟩
  | some g =>
    obtain ⟨b, tv, nv, rv, lq, rfl, h, hO⟩ := h0
    have hptr := ptr_someN
    have y := h.box.cell (q := 2) rfl
    have f := h.box.frozen 2
    have HR : Hid (RO (w.setCell ⟨b, 2, none⟩ (.int .i64 n)) (.pointer (some ⟨b, 0, none⟩)) (some (withAx g n)) (more O w (w.setCell ⟨b, 2, none⟩ (.int .i64 n))) ∧ But O w (w.setCell ⟨b, 2, none⟩ (.int .i64 n))) := by
      refine ⟨⟨b, tv, nv, rv, lq, rfl, ⟨h.box.set 2 _, own_setR h.ts h.box (by decide), own_setR h.ns h.box (by decide), own_setR h.rs h.box (by decide), h.len, fun q hq => own_setR (h.each q hq) h.box (by decide), h.far⟩, fun k hk => .inl (hO k hk)⟩, (But.refl _ _).setCell (p := ⟨b, 2, none⟩) (hO b (.inl rfl)) _⟩
    clear h
    go_enter Tryd.func13, Tryd.ntmps13
    go_wp2
    go_end0
    exact ⟨rfl, HR.out.1, HR.out.2⟩

end Go.Proofs.YtcmjneabcdpmoaaDoor.GramRoll
