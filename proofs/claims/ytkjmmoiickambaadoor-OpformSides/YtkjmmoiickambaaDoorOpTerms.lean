/-
  The terminals of a right side, one by one: the program's sequence, and any loop over it.
-/
import Derived.Test.YtkjmmoiickambaaDoorOpRow
import Derived.Test.YtkjmmoiickambaaDoorRangeOwn
import Derived.RangeFuncNested
import Derived.RangeFuncBound
import Derived.RangeFuncCalls
import Derived.RangeFuncLeaves
import Derived.RangeFuncBox
import Derived.Shelf.Abstract
import Derived.Shelf.RegionOpen
import Derived.OwnWalkIn
import Derived.TacticsInMore
import Derived.LoopNIn
import Derived.LoopIn
import Derived.BigRegionIn
namespace Go.Proofs.YtkjmmoiickambaaDoor.OpTerms
open Go.RowKit Go.Proofs.YtkjmmoiickambaaDoor.GramMath Go.Proofs.YtkjmmoiickambaaDoor.GramRow Go.Proofs.YtkjmmoiickambaaDoor.GramApart Go.Proofs.YtkjmmoiickambaaDoor.GramLent Go.Proofs.YtkjmmoiickambaaDoor.OpRow
set_option linter.unusedVariables false

/-- What a sequence keeps: a copy of the right side, behind a captured variable. -/
def TermsAt (w : World) (bx rb : Nat) (zs : List Int) : Prop := RowAt w bx 43 #[.slice (some ⟨rb, 0, none⟩) zs.length zs.length] ∧ RowAt w rb 3 (intsA zs)

theorem TermsAt.below {w w' : World} {B bx rb : Nat} {zs : List Int} (h : TermsAt w bx rb zs) (hb : Below B w w') (hB : w.heap.size ≤ B) : TermsAt w' bx rb zs :=
  ⟨h.1.below hb (Nat.lt_of_lt_of_le h.1.lt hB), h.2.below hb (Nat.lt_of_lt_of_le h.2.lt hB)⟩
theorem RowAt.own {w w' : World} {row : Option Nat} {b : Nat} {t : TypeId} {cur : Array Value} (h : RowAt w b t cur) (hg : w.grownBy w' row) (hr : ∀ r, row = some r → ∃ o : Obj, w.heap[r]? = some o ∧ o.isCells = false) : RowAt w' b t cur := by
  refine h.grown hg ?_
  intro e
  obtain ⟨o, h1, h2⟩ := hr b e.symm
  have h3 : w.heap[b]? = _ := h
  rw [h3] at h1
  cases h1
  cases h2
theorem TermsAt.own {w w' : World} {row : Option Nat} {bx rb : Nat} {zs : List Int} (h : TermsAt w bx rb zs) (hg : w.grownBy w' row) (hr : ∀ r, row = some r → ∃ o : Obj, w.heap[r]? = some o ∧ o.isCells = false) : TermsAt w' bx rb zs :=
  ⟨RowAt.own h.1 hg hr, RowAt.own h.2 hg hr⟩
theorem TermsAt.put {w : World} {bx rb l : Nat} {zs : List Int} {o : Obj} (o' : Obj) (h : TermsAt w bx rb zs) (hl : w.heap[l]? = some o) (ho : o.isCells = false) : TermsAt (w.putObj l o') bx rb zs :=
  h.own (grownBy_putObj' w l o') (fun r e => by cases e; exact ⟨o, hl, ho⟩)
theorem TermsAt.alloc {w : World} {bx rb : Nat} {zs : List Int} (h : TermsAt w bx rb zs) (o : Obj) : TermsAt (w.alloc o) bx rb zs := ⟨h.1.alloc o, h.2.alloc o⟩

set_option maxRecDepth 100000 in
set_option maxHeartbeats 2000000 in
theorem terms1_in (n : Nat) (hn : 1 ≤ n) (l bx rb : Nat) (zs : List Int) (hm : zs.length ≤ 1125899906842624) (J : Nat → World → Prop) (Jx : World → Prop)
    (hskip : ∀ k x W, zs[k]? = some x → x < 0 → J k W → J (k + 1) W)
    (hY : ∀ k x W, zs[k]? = some x → 0 ≤ x → TermsAt W bx rb zs → J k W → YieldAt Fence.wide (n - 1) Tryd.prog l #[.int .i64 (k : Int), .int .i64 x] W fun e W' =>
      (e = .returned (.bool true) ∧ J (k + 1) W' ∧ TermsAt W' bx rb zs) ∨ (e = .returned (.bool false) ∧ Jx W'))
    (W : World) (hT : TermsAt W bx rb zs) (h0 : J 0 W) :
    CallsIn Fence.wide n Tryd.prog 38 #[.func (.yield l) #[] #[], .pointer (some ⟨bx, 0, none⟩)] W fun e W' => (∃ v, e = .returned v) ∧ (J zs.length W' ∨ Jx W') := by
  refine callsIn_of_wp Tryd.func38 rfl trivial ?_ rfl
  simp only [Tryd.ntmps38, List.size_toArray, List.length_cons, List.length_nil, Nat.reduceAdd, Nat.reduceSub, Array.replicate_succ, Array.replicate_zero, List.push_toArray, List.append_toArray, List.nil_append, List.cons_append]
  have c0 : W.cell? ⟨bx, 0, none⟩ = some (.slice (some ⟨rb, 0, none⟩) zs.length zs.length) := hT.1.cell rfl
  gi_wp2
  clear c0
  gi_loopw [7] (fun i wr => ∃ k : Nat, k ≤ zs.length ∧ i = .int .i64 k ∧ TermsAt wr bx rb zs ∧ J k wr) (fun i _ => zs.length - (intOf i).toNat)
  case atStart => exact ⟨0, by omega, rfl, hT, h0⟩
  case round =>
    clear hT h0
    obtain ⟨k, hk, rfl, hT, hJ⟩ := hrel
    by_cases hlt : k < zs.length
    · obtain ⟨x, hx⟩ : ∃ x, zs[k]? = some x := ⟨zs[k], List.getElem?_eq_getElem hlt⟩
      have c1 : wr.cell? ⟨rb, k, none⟩ = some (.int .i64 x) := hT.2.cell (intsA_get hx)
      have hlt2 : (k : Int) < (zs.length : Int) := by omega
      by_cases h0 : 0 ≤ x
      · obtain ⟨fn, tmps, assign, body, hy, hR⟩ := hY k x wr hx h0 hT hJ
        clear hY hskip hx hT hJ
        gi_wp2
        refine hR.mono ?_
        rintro e W3 (⟨rfl, hJ3, hT3⟩ | ⟨rfl, hJx3⟩)
        · clear hy hR
          gi_wp2
          go_roundw
          case rel => exact ⟨k + 1, by omega, by go_num, hT3, hJ3⟩
          case measure => simp [intOf]; omega
        · clear hy hR
          gi_wp2
          refine bodyPost_ret (results_none rfl _ _ _) rfl ?_
          exact ⟨⟨_, rfl⟩, .inr hJx3⟩
      · have hJ2 := hskip k x wr hx (by omega) hJ
        clear hY hskip hx hJ
        gi_wp2
        refine ⟨fun f hf => (by cases hf), ?_⟩
        gi_wp2
        go_roundw
        case rel => exact ⟨k + 1, by omega, by go_num, hT, hJ2⟩
        case measure => simp [intOf]; omega
    · obtain rfl : k = zs.length := by omega
      have hnl : ¬ (zs.length : Int) < (zs.length : Int) := by omega
      clear hY hskip
      gi_wp2
      go_end0
      exact ⟨⟨_, rfl⟩, .inl hJ⟩

/-- How the body of a round may be left. -/
def postT (zs : List Int) (B bx rb : Nat) (I : Nat → World → Prop) (Ix : Code → World → Prop) (k : Nat) (W : World) : Exit → Act → World → Prop
  | .normal, _, W' => KeepsFrom B W W' ∧ TermsAt W' bx rb zs ∧ I k W'
  | .ret, _, W' => KeepsFrom B W W' ∧ Ix .ret W'
  | .exit id, _, W' => KeepsFrom B W W' ∧ Ix (.exit id) W'
  | .goto t, _, W' => KeepsFrom B W W' ∧ Ix (.goto t) W'
  | .panic _, _, _ => False
  | .outgrown, _, _ => False

theorem range_terms {g : Operand} {ps : Array Tmp} {assign body : Code} {Q : Exit → Act → World → Prop} {a : Act} {w : World} (n : Nat) (hn : 2 ≤ n) (bx rb : Nat) (zs : List Int) (hm : zs.length ≤ 1125899906842624)
    (hg : a.eval g = .func (.func 38) #[] #[.pointer (some ⟨bx, 0, none⟩)]) (hT : TermsAt w bx rb zs) (hps : ps.size = 2)
    (I : Nat → World → Prop) (Ix : Code → World → Prop) (hI : OwnFrom w.heap.size I) (hIx : ∀ c, OwnFrom w.heap.size (fun (_ : Unit) W => Ix c W)) (h0 : I 0 w)
    (hskip : ∀ k x W, zs[k]? = some x → x < 0 → I k W → I (k + 1) W) (a₁ : Nat → Int → Act)
    (hassign : ∀ (l k : Nat) (x : Int) (W : World) (K : Act → World → Prop), K (a₁ k x) W →
      assign.wpIn (Fence.wide.inRound l) (n - 1 - 1) Tryd.prog (Exit.then K (fun _ _ _ => False)) { tmps := (ps.zip #[Value.int .i64 (k : Int), Value.int .i64 x]).foldl (fun t (p, v) => t.setIfInBounds p v) a.tmps, defers := [] } W)
    (hbody : ∀ (l k : Nat) (x : Int) (W : World), zs[k]? = some x → 0 ≤ x → TermsAt W bx rb zs → I k W → body.wpIn (Fence.wide.inRound l) (n - 1 - 1) Tryd.prog (postT zs w.heap.size bx rb I Ix (k + 1) W) (a₁ k x) W)
    (hdone : ∀ (D : Nat) (W : World), w.heap.size ≤ D → I zs.length W → W.heap[D]? = some (.deferred (some [])) → Q .normal { a with defers := { target := .collected D, args := #[] } :: a.defers } W)
    (hstop : ∀ (D : Nat) (c : Code) (W : World), w.heap.size ≤ D → Ix c W → W.heap[D]? = some (.deferred (some [])) → c.wpIn Fence.wide n Tryd.prog Q { a with defers := { target := .collected D, args := #[] } :: a.defers } W) :
    (Code.rangeFunc g ps assign body).wpIn Fence.wide n Tryd.prog Q a w := by
  refine RangeOwn.enter rfl (by omega) hg trivial (enters_of Tryd.func38 (by kernel_rfl) rfl) ?_
  intro fn hfn
  have hL1 : ((w.alloc (.deferred (some []))).alloc (.loop (RangeOwn.recOf fn a ps assign body w.heap.size))).heap[w.heap.size + 1]? = some (.loop (RangeOwn.recOf fn a ps assign body w.heap.size)) := by
    have := World.alloc_heap_new (w.alloc (.deferred (some []))) (.loop (RangeOwn.recOf fn a ps assign body w.heap.size))
    rwa [World.size_alloc] at this
  have hK1 : ((w.alloc (.deferred (some []))).alloc (.loop (RangeOwn.recOf fn a ps assign body w.heap.size))).heap[w.heap.size]? = some (.deferred (some [])) :=
    (Below.heap_alloc _ _ _ (by simp)).trans (World.alloc_heap_new w _)
  have hI1 := hI.alloc (.loop (RangeOwn.recOf fn a ps assign body w.heap.size)) (hI.alloc (.deferred (some [])) h0)
  have hT1 := (hT.alloc (.deferred (some []))).alloc (.loop (RangeOwn.recOf fn a ps assign body w.heap.size))
  refine (terms1_in (n - 1) (by omega) (w.heap.size + 1) bx rb zs hm
    (fun k W => I k W ∧ W.heap[w.heap.size + 1]? = some (.loop (RangeOwn.recOf fn a ps assign body w.heap.size)) ∧ W.heap[w.heap.size]? = some (.deferred (some [])))
    (fun W => ∃ c, Ix c W ∧ W.heap[w.heap.size + 1]? = some (.loop { RangeOwn.recOf fn a ps assign body w.heap.size with state := .done, pending := some c }) ∧ W.heap[w.heap.size]? = some (.deferred (some [])))
    (fun k x W hx h0 h => ⟨hskip k x W hx h0 h.1, h.2⟩) ?_ _ hT1 ⟨hI1, hL1, hK1⟩).mono ?_
  · rintro k x W hx h0 hT2 ⟨hi, hl, hk⟩
    have hlt : w.heap.size + 1 < W.heap.size := (Array.getElem?_eq_some_iff.1 hl).1
    refine RangeOwn.round hl (by show 2 = ps.size; omega) hfn (hassign _ k x W _ ⟨_, hl, rfl, ?_⟩)
    have hl2 : (W.putObj (w.heap.size + 1) (.loop { RangeOwn.recOf fn a ps assign body w.heap.size with state := .busy })).heap[w.heap.size + 1]? = some (.loop { RangeOwn.recOf fn a ps assign body w.heap.size with state := .busy }) := World.putObj_heap_same hlt
    have hk2 : (W.putObj (w.heap.size + 1) (.loop { RangeOwn.recOf fn a ps assign body w.heap.size with state := .busy })).heap[w.heap.size]? = some (.deferred (some [])) := (World.putObj_heap_other (by omega)).trans hk
    refine wpIn_mono (hbody _ k x _ hx h0 (hT2.put _ hl rfl) (hI.putObj _ hi (by omega) hl rfl)) ?_
    have fin : ∀ (o : Obj) (W3 : World), KeepsFrom w.heap.size (W.putObj (w.heap.size + 1) (.loop { RangeOwn.recOf fn a ps assign body w.heap.size with state := .busy })) W3 →
        W3.heap[w.heap.size + 1]? = some (.loop { RangeOwn.recOf fn a ps assign body w.heap.size with state := .busy }) ∧ (W3.putObj (w.heap.size + 1) o).heap[w.heap.size + 1]? = some o ∧ (W3.putObj (w.heap.size + 1) o).heap[w.heap.size]? = some (.deferred (some [])) := fun o W3 hk3 => by
      have hl3 := hk3.same _ _ (by omega) hl2 rfl
      exact ⟨hl3, World.putObj_heap_same (Array.getElem?_eq_some_iff.1 hl3).1, (World.putObj_heap_other (by omega)).trans (hk3.same _ _ (Nat.le_refl _) hk2 rfl)⟩
    rintro e a3 W3 hp
    cases e with
    | normal =>
      obtain ⟨hk3, hT3, hi3⟩ := hp
      obtain ⟨hl3, hl4, hk4⟩ := fin (.loop (RangeOwn.recOf fn a ps assign body w.heap.size)) W3 hk3
      exact RangeOwn.goes_on hl3 (.inl ⟨rfl, ⟨hI.putObj _ hi3 (by omega) hl3 rfl, hl4, hk4⟩, hT3.put _ hl3 rfl⟩)
    | ret =>
      obtain ⟨hk3, hi3⟩ := hp
      obtain ⟨hl3, hl4, hk4⟩ := fin (.loop { RangeOwn.recOf fn a ps assign body w.heap.size with state := .done, pending := some .ret }) W3 hk3
      exact ⟨_, _, run_endRound (some .ret) hl3, .inr ⟨rfl, .ret, (hIx _).putObj (s := ()) _ hi3 (by omega) hl3 rfl, hl4, hk4⟩⟩
    | exit id =>
      obtain ⟨hk3, hi3⟩ := hp
      obtain ⟨hl3, hl4, hk4⟩ := fin (.loop { RangeOwn.recOf fn a ps assign body w.heap.size with state := .done, pending := some (.exit id) }) W3 hk3
      exact ⟨_, _, run_endRound (some (.exit id)) hl3, .inr ⟨rfl, .exit id, (hIx _).putObj (s := ()) _ hi3 (by omega) hl3 rfl, hl4, hk4⟩⟩
    | goto t =>
      obtain ⟨hk3, hi3⟩ := hp
      obtain ⟨hl3, hl4, hk4⟩ := fin (.loop { RangeOwn.recOf fn a ps assign body w.heap.size with state := .done, pending := some (.goto t) }) W3 hk3
      exact ⟨_, _, run_endRound (some (.goto t)) hl3, .inr ⟨rfl, .goto t, (hIx _).putObj (s := ()) _ hi3 (by omega) hl3 rfl, hl4, hk4⟩⟩
    | panic ch => exact hp.elim
    | outgrown => exact hp.elim
  · rintro e W2 ⟨⟨v, rfl⟩, (⟨hi, hl, hk⟩ | ⟨c, hi, hl, hk⟩)⟩
    · exact RangeOwn.ran_out hl rfl rfl (hdone _ _ (Nat.le_refl _) (hI.putObj _ hi (by omega) hl rfl) ((World.putObj_heap_other (by omega)).trans hk))
    · exact RangeOwn.was_left (c := c) hl rfl rfl (hstop _ c _ (Nat.le_refl _) ((hIx c).putObj (s := ()) _ hi (by omega) hl rfl) ((World.putObj_heap_other (by omega)).trans hk))

set_option maxRecDepth 100000 in
set_option maxHeartbeats 1000000 in
theorem terms_any (a : Option Addr) (c : Nat) (zs : List Int) (w : World) (hr : IRow w a zs) (hm : zs.length * 8 ≤ 140737488351232) :
    Calls Tryd.prog 20 #[.slice a zs.length c] w fun e w' => (e = .returned (.func (.func 38) #[] #[.pointer (some ⟨w.heap.size + 1, 0, none⟩)]) ∧ TermsAt w' (w.heap.size + 1) w.heap.size zs ∧ w'.heap.size = w.heap.size + 2) ∧ Below w.heap.size w w' := by
  have hmf : ∀ (fn : Fn) (first cap : Array Value) (w : World), (Instr.makeFunc fn first cap).run Tryd.prog w = .ok (.func fn first cap) w := fun _ _ _ _ => rfl
  have hmk := fun W => madeI_any zs.length hm W
  have hrow0 := made_row w zs.length 3
  have hB0 : Below w.heap.size w (w.alloc (.cells (madeCells #[.int .i64 0] zs.length) 3)) := (Below.refl _ _).alloc (Nat.le_refl _) _
  have hs0 : (w.alloc (.cells (madeCells #[.int .i64 0] zs.length) 3)).heap.size = w.heap.size + 1 := by simp
  generalize hW0 : w.alloc (.cells (madeCells #[.int .i64 0] zs.length) 3) = W0 at *
  have hB1 : Below w.heap.size w (W0.alloc (.cells #[.slice (some ⟨w.heap.size, 0, none⟩) zs.length zs.length] 43)) := hB0.alloc (by omega) _
  obtain ⟨w1, hrun, hrow1, hb1, ho1, hsz1⟩ := copy_any a c w.heap.size zs (List.replicate zs.length 0) _ (hr.below hB1 (Nat.le_refl _)) (hrow0.alloc (.cells #[.slice (some ⟨w.heap.size, 0, none⟩) zs.length zs.length] 43)) (by simp)
  have hbx := ho1 (w.heap.size + 1) (by omega)
  have hnew := heap_new W0 (.cells #[.slice (some ⟨w.heap.size, 0, none⟩) zs.length zs.length] 43)
  rw [hs0] at hnew
  have hx : TermsAt w1 (w.heap.size + 1) w.heap.size zs := ⟨hbx.trans hnew, hrow1⟩
  have hB2 := hB1.trans hb1
  have hs2 : w1.heap.size = w.heap.size + 2 := by
    have e2 := hsz1
    rw [World.size_alloc, hs0] at e2
    exact e2
  clear hrow0 hB0 hB1 hr hrow1 hb1 ho1 hbx hnew hsz1
  go_enter Tryd.func20, Tryd.ntmps20
  go_wp2
  go_ret
  exact ⟨⟨rfl, hx, hs2⟩, hB2⟩

end Go.Proofs.YtkjmmoiickambaaDoor.OpTerms
