/-
  Texts that stand together: UsefulTI.
-/
import Derived.Test.YthbbipgngeflnaaGreatDoorBUsefulTrimFn2
namespace Go.Proofs.YthbbipgngeflnaaGreatDoor.UsefulTrim
open Go.RowKit Go.Proofs.YthbbipgngeflnaaGreatDoor.GramLess Go.Proofs.YthbbipgngeflnaaGreatDoor.GramMath Go.Proofs.YthbbipgngeflnaaGreatDoor.GramRow Go.Proofs.YthbbipgngeflnaaGreatDoor.GramOne Go.Proofs.YthbbipgngeflnaaGreatDoor.GramApart Go.Proofs.YthbbipgngeflnaaGreatDoor.GramCopy Go.Proofs.YthbbipgngeflnaaGreatDoor.GramRoll Go.Proofs.YthbbipgngeflnaaGreatDoor.SetsMath Go.Proofs.YthbbipgngeflnaaGreatDoor.UsefulMath Go.Proofs.YthbbipgngeflnaaGreatDoor.UsefulFn Go.Proofs.YthbbipgngeflnaaGreatDoor.UsefulTrimM Go.Proofs.YthbbipgngeflnaaGreatDoor.UsefulRange Go.Proofs.YthbbipgngeflnaaGreatDoor.UsefulTop
set_option linter.unusedVariables false

structure TI (w3 : World) (bb bx : Nat) (g : G) (W : World) : Prop where
  ex : ∃ nv mv nv2 mv2 rv lq, Build W bb (bb + 1) g nv mv nv2 mv2 rv lq
  box : RowAt W bx 97 #[.pointer (some ⟨bb, 0, none⟩)]
  b : Below bb w3 W
  ne : bx ≠ bb

theorem TI.keep {w3 W W' : World} {bb bx : Nat} {g : G} (h : TI w3 bb bx g W) (hk : KeepsCM W W') (hb : Below bb W W') : TI w3 bb bx g W' := by
  obtain ⟨⟨nv, mv, nv2, mv2, rv, lq, hB⟩, h2, h3, h4⟩ := h
  exact ⟨⟨nv, mv, nv2, mv2, rv, lq, UsefulRange.Build.keepCM hB hk⟩, UsefulRange.RowAt.keepCM h2 hk, h3.trans hb, h4⟩
theorem TI.below {w3 W W' : World} {bb bx : Nat} {g : G} (h : TI w3 bb bx g W) (hb : Below W.heap.size W W') (hl : bb ≤ W.heap.size) : TI w3 bb bx g W' := h.keep (KeepsCM.of hb) (hb.mono hl)
theorem TI.lt {w3 W : World} {bb bx : Nat} {g : G} (h : TI w3 bb bx g W) : bb + 1 ≤ W.heap.size := by
  obtain ⟨⟨nv, mv, nv2, mv2, rv, lq, hB⟩, h2, h3, h4⟩ := h
  exact hB.lt

theorem rk_below {w w' : World} {bb off : Nat} {T : Nat → Prop} (h : RKeep w w' bb off T) (hT : ∀ k, T k → bb + 1 ≤ k) (hs : bb ≤ w.heap.size) : Below bb w w' :=
  ⟨h.os, h.tape, h.output, h.size, fun k hk => h.block k (by omega) (by omega) (fun e => by have := hT k e; omega)⟩

set_option maxHeartbeats 400000 in
theorem ti_nonterm {w3 W : World} {bb bx : Nat} {g : G} (h : TI w3 bb bx g W) (s : ByteArray) (hs : s.size ≤ 281474976710656) (hl : g.ns.length ≤ 1000000000000) :
    Calls Tryz.prog 59 #[.pointer (some ⟨bb, 0, none⟩), .string s] W fun e W' => (∃ v, e = .returned v) ∧ TI w3 bb bx (withNs g (addS g.ns s)) W' ∧ KeepsLo W W' ∧ Below bb W W' := by
  obtain ⟨⟨nv, mv, nv2, mv2, rv, lq, hB⟩, h2, h3, h4⟩ := h
  refine (bnonterm_any bb (bb + 1) g nv mv nv2 mv2 rv lq s W hB hs hl).mono ?_
  rintro e W' ⟨⟨nv', mv', rfl, hB'⟩, hk⟩
  have hbel := rk_below hk (fun k hk => (hB.n.blocks hk).1) (by have := hB.lt; omega)
  refine ⟨⟨_, rfl⟩, ⟨⟨_, _, _, _, _, _, hB'⟩, ?_, h3.trans hbel, h4⟩, lo_of_keep hB.n hk ⟨_, hB.a⟩, hbel⟩
  exact (hk.block bx h2.lt h4 (hB.n.not_row h2 (by decide))).trans h2

set_option maxHeartbeats 400000 in
theorem ti_term {w3 W : World} {bb bx : Nat} {g : G} (h : TI w3 bb bx g W) (s : ByteArray) (hs : s.size ≤ 281474976710656) (hl : g.ts.length ≤ 1000000000000) :
    Calls Tryz.prog 61 #[.pointer (some ⟨bb, 0, none⟩), .string s] W fun e W' => (∃ v, e = .returned v) ∧ TI w3 bb bx (withTs g (addS g.ts s)) W' ∧ KeepsLo W W' ∧ Below bb W W' := by
  obtain ⟨⟨nv, mv, nv2, mv2, rv, lq, hB⟩, h2, h3, h4⟩ := h
  refine (bterm_any bb (bb + 1) g nv mv nv2 mv2 rv lq s W hB hs hl).mono ?_
  rintro e W' ⟨⟨nv', mv', rfl, hB'⟩, hk⟩
  have hbel := rk_below hk (fun k hk => (hB.t.blocks hk).1) (by have := hB.lt; omega)
  refine ⟨⟨_, rfl⟩, ⟨⟨_, _, _, _, _, _, hB'⟩, ?_, h3.trans hbel, h4⟩, lo_of_keep hB.t hk ⟨_, hB.a⟩, hbel⟩
  exact (hk.block bx h2.lt h4 (hB.t.not_row h2 (by decide))).trans h2

theorem ti_hit {w3 W : World} {bb bx : Nat} {g : G} (h : TI w3 bb bx g W) (s : ByteArray) (hs : s.size ≤ 281474976710656) (hl : g.ns.length ≤ 1000000000000) (hm : memB s g.ns = true) :
    Calls Tryz.prog 59 #[.pointer (some ⟨bb, 0, none⟩), .string s] W fun e W' => e = .returned (.int .i64 (idx g.ns s)) ∧ W' = W := by
  obtain ⟨⟨nv, mv, nv2, mv2, rv, lq, hB⟩, h2, h3, h4⟩ := h
  exact bnonterm_hit bb (bb + 1) g nv mv nv2 mv2 rv lq s W hB hs hl hm

set_option maxHeartbeats 400000 in
theorem ti_rule {w3 W : World} {bb bx : Nat} {g : G} {nv mv nv2 mv2 rv : Value} {lq : List Q} (hB : Build W bb (bb + 1) g nv mv nv2 mv2 rv lq) (h2 : RowAt W bx 97 #[.pointer (some ⟨bb, 0, none⟩)]) (h3 : Below bb w3 W) (h4 : bx ≠ bb) (l : Int) (a : Option Addr) (c : Nat) (zs : List Int) (hr : IRow W a zs) (hm : zs.length * 8 ≤ 140737488351232) (hl : g.rs.length ≤ 1000000000) :
    Calls Tryz.prog 62 #[.pointer (some ⟨bb, 0, none⟩), .int .i64 l, .slice a zs.length c] W fun e W' => e = .returned (.tuple #[]) ∧ TI w3 bb bx (withRs g (g.rs ++ [⟨l, zs⟩])) W' ∧ KeepsLo W W' ∧ Below bb W W' ∧ ∀ x, x < W.heap.size → x ≠ bb → ¬ rv.ownBlock = some x → W'.heap[x]? = W.heap[x]? := by
  refine (brule_any bb (bb + 1) g nv mv nv2 mv2 rv lq l a c zs W hB hr hm hl).mono ?_
  rintro e W' ⟨⟨rv', lq', rfl, hB'⟩, hk⟩
  have hrow := hB.r.row
  have hbel := rk_below hk (fun k hk => (hrow.lt k hk).1) (by have := hB.lt; omega)
  have key : ∀ (x : Nat) (o : Obj), W.heap[x]? = some o → (loopish o = true ∨ ∃ t cur, o = .cells cur t (0, 0) ∧ t ≠ 38) → ¬ rv.ownBlock = some x := fun x o ho hh e => by
    obtain ⟨_, ⟨hn, _⟩ | ⟨g', cap, cur, hv, _, hr, _⟩⟩ := hrow
    · rw [hn] at e; cases e
    · rw [hv] at e
      have e : g' = x := by simpa [Value.ownBlock] using e
      subst e
      rw [show W.heap[g']? = _ from hr] at ho
      cases ho
      rcases hh with hh | ⟨t, cur', e1, e2⟩
      · cases hh
      · cases e1
        exact e2 rfl
  refine ⟨rfl, ⟨⟨_, _, _, _, _, _, hB'⟩, ?_, h3.trans hbel, h4⟩, ⟨hk.size, fun k o hko ho => (hk.block k (Array.getElem?_eq_some_iff.1 hko).1 (fun e => ?_) (key k o hko (.inl ho))).trans hko⟩, hbel, fun x hx hxb hxo => hk.block x hx hxb hxo⟩
  · exact (hk.block bx h2.lt h4 (key bx _ h2 (.inr ⟨_, _, rfl, by decide⟩))).trans h2
  · subst e
    have hv := hB.a
    cases o with
    | loop r => simp [World.cell?, hko] at hv
    | deferred r => simp [World.cell?, hko] at hv
    | _ => cases ho

set_option maxHeartbeats 400000 in
theorem ti_axiom {w3 W : World} {bb bx : Nat} {g : G} (h : TI w3 bb bx g W) (n : Int) :
    Calls Tryz.prog 64 #[.pointer (some ⟨bb, 0, none⟩), .int .i64 n] W fun e W' => e = .returned (.tuple #[]) ∧ TI w3 bb bx (withAx g n) W' ∧ KeepsLo W W' ∧ Below bb W W' := by
  obtain ⟨⟨nv, mv, nv2, mv2, rv, lq, hB⟩, h2, h3, h4⟩ := h
  refine (baxiom_any bb (bb + 1) g nv mv nv2 mv2 rv lq n W hB).mono ?_
  rintro e W' ⟨rfl, hB', hk⟩
  have hbel := rk_below hk (fun k hk => hk.elim) (by have := hB.lt; omega)
  refine ⟨rfl, ⟨⟨_, _, _, _, _, _, hB'⟩, (hk.block bx h2.lt h4 id).trans h2, h3.trans hbel, h4⟩, ⟨hk.size, fun k o hko ho => (hk.block k (Array.getElem?_eq_some_iff.1 hko).1 (fun e => ?_) id).trans hko⟩, hbel⟩
  subst e
  have hv := hB.a
  cases o with
  | loop r => simp [World.cell?, hko] at hv
  | deferred r => simp [World.cell?, hko] at hv
  | _ => cases ho

theorem ti_renum {w3 W : World} {bb bx : Nat} {h : G} (hTI : TI w3 bb bx h W) (ta na ra : Option Addr) (tc nc rc : Nat) (g : G) (qa : Option Addr) (qc : Nat) (zs : List Int) (hT : SRow W ta g.ts) (hN : SRow W na g.ns) (hI : IRow W qa zs) (hz : zs.length ≤ 32) (hkn : Known g h zs) (st : ∀ s ∈ g.ts, s.size ≤ 281474976710656) (sn : ∀ s ∈ g.ns, s.size ≤ 281474976710656) (hht : h.ts.length ≤ 64) (hhn : h.ns.length ≤ 64) (hgt : g.ts.length ≤ 60) (hgn : g.ns.length ≤ 60) :
    Calls Tryz.prog 63 #[.agg #[.slice ta g.ts.length tc, .slice na g.ns.length nc, .int .i64 g.ax, .slice ra g.rs.length rc], .slice qa zs.length qc, .pointer (some ⟨bb, 0, none⟩)] W fun e w' => (∃ b2, e = .returned (.slice (some ⟨b2, 0, none⟩) zs.length zs.length) ∧ IRow w' (some ⟨b2, 0, none⟩) (zs.map (newX g h))) ∧ Below W.heap.size W w' := by
  obtain ⟨⟨nv, mv, nv2, mv2, rv, lq, hB⟩, h2, h3, h4⟩ := hTI
  exact renumbered_any ta na ra tc nc rc g h bb (bb + 1) nv mv nv2 mv2 rv lq qa qc zs W hT hN hB hI hz hkn st sn hht hhn hgt hgn

theorem ti_grammar {w3 W : World} {bb bx : Nat} {g : G} (hTI : TI w3 bb bx g W) (p : Nat → Addr) (ho : okG g) (hS : Sents W p) (hc : (checkG g).1 = 0) :
    Calls Tryz.prog 65 #[.pointer (some ⟨bb, 0, none⟩)] W fun e w' =>
      (∃ b1 b2 b3 bs, e = .returned (.tuple #[.agg #[.slice (some ⟨b1, 0, none⟩) g.ts.length g.ts.length, .slice (some ⟨b2, 0, none⟩) g.ns.length g.ns.length, .int .i64 g.ax, .slice (some ⟨b3, 0, none⟩) g.rs.length g.rs.length], .nilIface]) ∧ CopyAt w' W.heap.size b1 b2 b3 bs g) ∧ Below W.heap.size W w' := by
  obtain ⟨⟨nv, mv, nv2, mv2, rv, lq, hB⟩, h2, h3, h4⟩ := hTI
  have hg := good_of hc
  have := hg.few
  have := hg.rules
  refine (bgrammar_any bb (bb + 1) g nv mv nv2 mv2 rv lq p W hB ho hS (by omega) (by omega) (by omega) (fun r hr => by have := (ruleK_ok (hg.each r hr)).1; omega)).mono ?_
  rintro e w' ⟨⟨_, h⟩ | ⟨h, _⟩, hb⟩
  · exact ⟨h, hb⟩
  · exact absurd hc h

theorem tell_len (ss : List ByteArray) : ∀ (zs : List Int), (tell ss zs).length ≤ zs.length := by
  have key : ∀ (zs : List Int) (acc : List ByteArray), (zs.foldl (fun acc z => addS acc (nmI ss z)) acc).length ≤ acc.length + zs.length := by
    intro zs
    induction zs with
    | nil => intro acc; simp
    | cons z zs ih =>
      intro acc
      have h1 := ih (addS acc (nmI ss z))
      have h2 : (addS acc (nmI ss z)).length ≤ acc.length + 1 := by
        unfold addS
        split <;> simp
      simp only [List.foldl_cons, List.length_cons]
      omega
  intro zs
  have := key zs []
  simpa [tell] using this

end Go.Proofs.YthbbipgngeflnaaGreatDoor.UsefulTrim
