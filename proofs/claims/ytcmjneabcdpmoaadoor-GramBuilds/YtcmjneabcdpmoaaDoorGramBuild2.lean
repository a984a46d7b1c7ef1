/-
  The Builder: a new one, nonterminals, the axiom.
-/
import Derived.Test.YtcmjneabcdpmoaaDoorGramBuild
namespace Go.Proofs.YtcmjneabcdpmoaaDoor.GramRoll
open Go.RowKit Go.Maps Go.WideMaps Go.Proofs.YtcmjneabcdpmoaaDoor.GramLess Go.Proofs.YtcmjneabcdpmoaaDoor.GramMath Go.Proofs.YtcmjneabcdpmoaaDoor.GramRow Go.Proofs.YtcmjneabcdpmoaaDoor.GramOne Go.Proofs.YtcmjneabcdpmoaaDoor.GramApart Go.Proofs.YtcmjneabcdpmoaaDoor.GramCopy Go.Proofs.YtcmjneabcdpmoaaDoor.GramName
set_option linter.unusedVariables false

set_option maxRecDepth 100000 in
set_option maxHeartbeats 400000 in
theorem bnonterm_any (b base : Nat) (g : G) (nv mv nv2 mv2 rv : Value) (lq : List Q) (s : ByteArray) (w : World) (h : Build w b base g nv mv nv2 mv2 rv lq) (hs : s.size ≤ 281474976710656) (hl : g.ns.length ≤ 2199023255552) :
    Calls Tryd.prog 7 #[.pointer (some ⟨b, 0, none⟩), .string s] w fun e w' => (∃ nv' mv', e = .returned (.int .i64 (numZ g.ns s)) ∧ Build w' b base (withNs g (addS g.ns s)) nv mv nv' mv' rv lq) ∧ RKeep w w' b 2 (ofRoll nv2 mv2) := by
  have hnum := number_any b 2 base g.ns s nv2 mv2 w h.n h.lt hs hl
  have hptr := ptr_some
  go_enter Tryd.func7, Tryd.ntmps7
  go_wp2_with fail
  refine hnum.mono ?_
  rintro e w1 ⟨⟨nv', mv', rfl, hroll, hnew⟩, hkp⟩
  have hfin : Hid (Build w1 b base (withNs g (addS g.ns s)) nv mv nv' mv' rv lq) := by
    refine ⟨h.t.keep hkp (by decide) (by decide) (by decide) (fun k hk hk2 => h.far k hk hk2), hroll, (hkp.cell 4 (by decide) (by decide)).trans h.a, (hkp.frozen 4).trans h.af, h.r.keep hkp h.t.lt (by decide) (by decide) (fun x t cur hr ht => h.n.not_row hr ht), fun k hk hk2 => ?_, Nat.le_trans h.lt hkp.size⟩
    rcases hnew k hk2 with hk3 | hk3
    · exact h.far k hk hk3
    · have := (h.t.blocks hk).2
      omega
  clear hnum hroll hnew
  go_wp2
  go_ret
  exact ⟨⟨nv', mv', rfl, hfin.out⟩, hkp⟩

def emptyG : G := ⟨[], [], 0, []⟩

theorem build_new (w : World) : Build (w.alloc (.cells #[.slice none 0 0, .map none, .slice none 0 0, .map none, .int .i64 0, .slice none 0 0] 31)) w.heap.size (w.heap.size + 1) emptyG (.slice none 0 0) (.map none) (.slice none 0 0) (.map none) (.slice none 0 0) [] := by
  refine ⟨⟨by simp, by simp, by simp, by simp, World.ownsRow_nil _ _ _ _, .inl ⟨rfl, rfl⟩, fun _ => rfl, by omega⟩, ⟨by simp, by simp, by simp, by simp, World.ownsRow_nil _ _ _ _, .inl ⟨rfl, rfl⟩, fun _ => rfl, by omega⟩, by simp [emptyG], by simp, ⟨by simp, by simp, World.ownsRow_nil _ _ _ _, rfl, fun x hx => by cases hx⟩, fun k hk => ?_, by simp⟩
  rcases hk with hk | hk <;> cases hk

set_option maxRecDepth 100000 in
set_option maxHeartbeats 400000 in
theorem new_any (w : World) : Calls Tryd.prog 4 #[] w fun e w' => e = .returned (.pointer (some ⟨w.heap.size, 0, none⟩)) ∧ Build w' w.heap.size (w.heap.size + 1) emptyG (.slice none 0 0) (.map none) (.slice none 0 0) (.map none) (.slice none 0 0) [] ∧ Below w.heap.size w w' := by
  have hn := build_new w
  go_enter Tryd.func4, Tryd.ntmps4
  go_wp2
  go_ret
  exact ⟨rfl, hn, (Below.refl _ _).alloc (Nat.le_refl _) _⟩

def withAx (g : G) (ax : Int) : G := ⟨g.ts, g.ns, ax, g.rs⟩

set_option maxRecDepth 100000 in
set_option maxHeartbeats 400000 in
theorem baxiom_any (b base : Nat) (g : G) (nv mv nv2 mv2 rv : Value) (lq : List Q) (n : Int) (w : World) (h : Build w b base g nv mv nv2 mv2 rv lq) :
    Calls Tryd.prog 14 #[.pointer (some ⟨b, 0, none⟩), .int .i64 n] w fun e w' => e = .returned (.tuple #[]) ∧ Build w' b base (withAx g n) nv mv nv2 mv2 rv lq ∧ RKeep w w' b 4 (fun _ => False) := by
  have hptr := ptr_some
  have a := h.a
  have af := h.af
  have hkp : RKeep w (w.setCell ⟨b, 4, none⟩ (.int .i64 n)) b 4 (fun _ => False) := RKeep.set (.inl rfl) _
  have hkp3 : RKeep w (w.setCell ⟨b, 4, none⟩ (.int .i64 n)) b 3 (fun _ => False) := RKeep.set (.inr rfl) _
  have hfin : Hid (Build (w.setCell ⟨b, 4, none⟩ (.int .i64 n)) b base (withAx g n) nv mv nv2 mv2 rv lq) := by
    refine ⟨h.t.keep hkp (by decide) (by decide) (by decide) (fun k _ hk => hk), h.n.keep hkp (by decide) (by decide) (by decide) (fun k _ hk => hk), World.cell?_setCell_same (h := a) .., (hkp.frozen 4).trans h.af, h.r.keep hkp3 h.t.lt (by decide) (by decide) (fun x t cur _ _ hk => hk), h.far, Nat.le_trans h.lt hkp.size⟩
  clear h
  go_enter Tryd.func14, Tryd.ntmps14
  go_wp2
  go_end0
  exact ⟨rfl, hfin.out, hkp⟩

end Go.Proofs.YtcmjneabcdpmoaaDoor.GramRoll
