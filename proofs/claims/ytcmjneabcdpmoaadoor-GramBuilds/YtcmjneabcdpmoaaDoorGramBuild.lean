/-
  The Builder: its names and its axiom.
-/
import Derived.Test.YtcmjneabcdpmoaaDoorGramRoll2
namespace Go.Proofs.YtcmjneabcdpmoaaDoor.GramRoll
open Go.RowKit Go.Maps Go.WideMaps Go.Proofs.YtcmjneabcdpmoaaDoor.GramLess Go.Proofs.YtcmjneabcdpmoaaDoor.GramMath Go.Proofs.YtcmjneabcdpmoaaDoor.GramRow Go.Proofs.YtcmjneabcdpmoaaDoor.GramOne Go.Proofs.YtcmjneabcdpmoaaDoor.GramApart Go.Proofs.YtcmjneabcdpmoaaDoor.GramCopy Go.Proofs.YtcmjneabcdpmoaaDoor.GramName
set_option linter.unusedVariables false

theorem Roll.blocks {w : World} {b off base : Nat} {ss : List ByteArray} {nv mv : Value} (h : Roll w b off base ss nv mv) {k : Nat} (hk : ofRoll nv mv k) : base ≤ k ∧ k < w.heap.size := by
  rcases hk with hk | hk
  · exact h.row.lt k hk
  · rcases h.map with ⟨_, hm⟩ | ⟨mb, D, _, hm, hb, hown, _⟩
    · rw [hm] at hk; cases hk
    · rw [hm] at hk
      have e : mb = k := by simpa using hk
      subst e
      exact ⟨hb, ownsMap_lt hown⟩

/-- A row of another kind than names is no roll's. -/
theorem Roll.not_row {w : World} {b off base : Nat} {ss : List ByteArray} {nv mv : Value} (h : Roll w b off base ss nv mv) {x : Nat} {t : TypeId} {cur : Array Value} (hr : RowAt w x t cur) (ht : t ≠ 9) : ¬ ofRoll nv mv x := by
  rintro (e | e)
  · exact hr.not_own ht h.row e.symm
  · rcases h.map with ⟨_, hm⟩ | ⟨mb, D, _, hm, _, ⟨es, clock, h1, _⟩, _⟩
    · rw [hm] at e; cases e
    · rw [hm] at e
      have e2 : mb = x := by simpa using e
      subst e2
      rw [show w.heap[mb]? = _ from hr] at h1
      cases h1

theorem Roll.keep {w w' : World} {b off off' base : Nat} {ss : List ByteArray} {nv mv : Value} {T : Nat → Prop} (h : Roll w b off base ss nv mv) (hk : RKeep w w' b off' T) (h0 : off ≠ off') (h1 : off ≠ off' + 1) (h2 : off + 1 ≠ off') (hT : ∀ k, ofRoll nv mv k → ¬ T k) : Roll w' b off base ss nv mv where
  c0 := (hk.cell off h0 h1).trans h.c0
  c1 := (hk.cell (off + 1) h2 (by omega)).trans h.c1
  f0 := (hk.frozen off).trans h.f0
  f1 := (hk.frozen (off + 1)).trans h.f1
  row := own_block h.row (fun g hg => hk.block g (h.blocks (.inl hg)).2 (by have := (h.blocks (.inl hg)).1; have := h.lt; omega) (hT g (.inl hg)))
  map := by
    rcases h.map with hm | ⟨mb, D, hne, hm, hb, hown, hD⟩
    · exact .inl hm
    · have hr : ofRoll nv mv mb := .inr hm
      exact .inr ⟨mb, D, hne, hm, hb, ownsMap_of hown (hk.block mb (h.blocks hr).2 (by have := (h.blocks hr).1; have := h.lt; omega) (hT mb hr)), hD⟩
  nil := h.nil
  lt := h.lt

/-- The rules that a Builder was told. -/
structure RulesOf (w : World) (b base : Nat) (rs : List R) (rv : Value) (lq : List Q) : Prop where
  c : w.cell? ⟨b, 5, none⟩ = some rv
  f : w.frozen? ⟨b, 5, none⟩ = false
  row : w.ownsRow base 53 2 rv rs.length (cellsQ lq)
  map : lq.map (·.r) = rs
  each : ∀ x ∈ lq, ∃ xb, x.a = some ⟨xb, 0, none⟩ ∧ x.c = x.r.right.length ∧ base ≤ xb ∧ RowAt w xb 3 (intsA x.r.right)

theorem RulesOf.keep {w w' : World} {b off base : Nat} {rs : List R} {rv : Value} {lq : List Q} {T : Nat → Prop} (h : RulesOf w b base rs rv lq) (hk : RKeep w w' b off T) (hb : b < base) (h0 : off ≠ 5) (h1 : off + 1 ≠ 5) (hT : ∀ x t cur, RowAt w x t cur → t ≠ 9 → ¬ T x) : RulesOf w' b base rs rv lq where
  c := (hk.cell 5 (by omega) (by omega)).trans h.c
  f := (hk.frozen 5).trans h.f
  row := by
    refine own_block h.row (fun g hg => ?_)
    have hlt := h.row.lt g hg
    refine hk.block g hlt.2 (by omega) ?_
    obtain ⟨_, ⟨hn, _⟩ | ⟨g', cap, cur, hv, _, hr, _⟩⟩ := h.row
    · rw [hn] at hg; cases hg
    · rw [hv] at hg
      have e : g' = g := by simpa [Value.ownBlock] using hg
      subst e
      exact hT g' _ cur hr (by decide)
  map := h.map
  each x hx := by
    obtain ⟨xb, e1, e2, e3, e4⟩ := h.each x hx
    exact ⟨xb, e1, e2, e3, (hk.block xb e4.lt (by omega) (hT xb _ _ e4 (by decide))).trans e4⟩

/-- A Builder in memory. -/
structure Build (w : World) (b base : Nat) (g : G) (nv mv nv2 mv2 rv : Value) (lq : List Q) : Prop where
  t : Roll w b 0 base g.ts nv mv
  n : Roll w b 2 base g.ns nv2 mv2
  a : w.cell? ⟨b, 4, none⟩ = some (.int .i64 g.ax)
  af : w.frozen? ⟨b, 4, none⟩ = false
  r : RulesOf w b base g.rs rv lq
  far : ∀ k, ofRoll nv mv k → ¬ ofRoll nv2 mv2 k
  lt : base ≤ w.heap.size

def withTs (g : G) (ts : List ByteArray) : G := ⟨ts, g.ns, g.ax, g.rs⟩
def withNs (g : G) (ns : List ByteArray) : G := ⟨g.ts, ns, g.ax, g.rs⟩

theorem ptr_some (a : Addr) (w : World) : (binOp .eql 23 (.pointer (some a)) (.pointer none)).run Tryd.prog w = .ok (.bool false) w := by kernel_rfl

set_option maxRecDepth 100000 in
set_option maxHeartbeats 400000 in
theorem bterm_any (b base : Nat) (g : G) (nv mv nv2 mv2 rv : Value) (lq : List Q) (s : ByteArray) (w : World) (h : Build w b base g nv mv nv2 mv2 rv lq) (hs : s.size ≤ 281474976710656) (hl : g.ts.length ≤ 2199023255552) :
    Calls Tryd.prog 5 #[.pointer (some ⟨b, 0, none⟩), .string s] w fun e w' => (∃ nv' mv', e = .returned (.int .i64 (numZ g.ts s)) ∧ Build w' b base (withTs g (addS g.ts s)) nv' mv' nv2 mv2 rv lq) ∧ RKeep w w' b 0 (ofRoll nv mv) := by
  have hnum := number_any b 0 base g.ts s nv mv w h.t h.lt hs hl
  have hptr := ptr_some
  go_enter Tryd.func5, Tryd.ntmps5
  go_wp2_with fail
  refine hnum.mono ?_
  rintro e w1 ⟨⟨nv', mv', rfl, hroll, hnew⟩, hkp⟩
  have hfin : Hid (Build w1 b base (withTs g (addS g.ts s)) nv' mv' nv2 mv2 rv lq) := by
    refine ⟨hroll, h.n.keep hkp (by decide) (by decide) (by decide) (fun k hk hk2 => h.far k hk2 hk), (hkp.cell 4 (by decide) (by decide)).trans h.a, (hkp.frozen 4).trans h.af, h.r.keep hkp h.t.lt (by decide) (by decide) (fun x t cur hr ht => h.t.not_row hr ht), fun k hk hk2 => ?_, Nat.le_trans h.lt hkp.size⟩
    rcases hnew k hk with hk3 | hk3
    · exact h.far k hk3 hk2
    · have := (h.n.blocks hk2).2
      omega
  clear hnum hroll hnew
  go_wp2
  go_ret
  exact ⟨⟨nv', mv', rfl, hfin.out⟩, hkp⟩

end Go.Proofs.YtcmjneabcdpmoaaDoor.GramRoll
