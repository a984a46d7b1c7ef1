/-
  For UsefulLess: what is in which set, the shift, one more rule; an append to a row of rules as a step of a region that draws its order.
-/
import Derived.Test.YtjmodcpeggafhaaDoorUsefulTop
import Derived.Test.YtjmodcpeggafhaaDoorGramLessMath
import Derived.Deep.DeepCutAuto
namespace Go.Proofs.YtjmodcpeggafhaaDoor.UsefulLess
open Go.RowKit Go.Proofs.YtjmodcpeggafhaaDoor.GramMath Go.Proofs.YtjmodcpeggafhaaDoor.GramRow Go.Proofs.YtjmodcpeggafhaaDoor.SetsMath Go.Proofs.YtjmodcpeggafhaaDoor.SetsAlg Go.Proofs.YtjmodcpeggafhaaDoor.UsefulMath Go.Proofs.YtjmodcpeggafhaaDoor.UsefulTop Go.Proofs.YtjmodcpeggafhaaDoor.GramLess Go.Proofs.YtjmodcpeggafhaaDoor.GramCheck
set_option linter.unusedVariables false

theorem reachI_isSet (g : G) : IsSet (reachI g) := setI_isSet _
theorem usefulI_isSet (g : G) : IsSet (usefulI g) := setI_isSet _
theorem okI_isSet {g : G} {x : Int} (h : IsSet x) : IsSet (okI g x) := by
  unfold okI
  split
  · exact h
  · exact zero_isSet

theorem hasB_reachI {g : G} (h : GoodG g) (k : Int) : hasB (reachI g) k = true ↔ UsefulMath.Reach g.rs (fun k => k = g.ax) k := hasB_setI (reach_range h h.okRs) k
theorem hasB_usefulI {g : G} (h : GoodG g) (k : Int) : hasB (usefulI g) k = true ↔ Prod g.rs k ∧ UsefulMath.Reach (g.rs.filter (nin (prodI g))) (fun k => k = g.ax) k := hasB_setI (fun k hk => prod_range h k hk.1) k

theorem useful_prod {g : G} (h : GoodG g) : minusI (usefulI g) (prodI g) = 0 := (minus_zero (usefulI_isSet g) (prodI_isSet g)).2 fun j hj => (hasB_prodI h j).2 ((hasB_usefulI h j).1 hj).1
theorem useful_reach {g : G} (h : GoodG g) : minusI (usefulI g) (reachI g) = 0 := (minus_zero (usefulI_isSet g) (reachI_isSet g)).2 fun j hj => (hasB_reachI h j).2 (((hasB_usefulI h j).1 hj).2.mono (fun r hr => (List.mem_filter.1 hr).1) (fun _ h => h))
theorem ax_reach {g : G} (h : GoodG g) : hasB (reachI g) g.ax = true := (hasB_reachI h _).2 (.base rfl)

theorem more_prod {g g' : G} (h : GoodG g) (h' : GoodG g') (hr : ∀ r ∈ g.rs, r ∈ g'.rs) : minusI (prodI g) (prodI g') = 0 := (minus_zero (prodI_isSet g) (prodI_isSet g')).2 fun j hj => (hasB_prodI h' j).2 (((hasB_prodI h j).1 hj).mono hr)
theorem more_reach {g g' : G} (h : GoodG g) (h' : GoodG g') (ha : g'.ax = g.ax) (hr : ∀ r ∈ g.rs, r ∈ g'.rs) : minusI (reachI g) (reachI g') = 0 := (minus_zero (reachI_isSet g) (reachI_isSet g')).2 fun j hj => (hasB_reachI h' j).2 (((hasB_reachI h j).1 hj).mono hr (fun k hk => hk.trans ha.symm))

/-- The statement's own look: is one set within another? -/
theorem in_yes {s t : Int} (hs : IsSet s) (ht : IsSet t) (h : minusI s t = 0) (w : World) : Calls Tryd.prog 27 #[.int .u64 s, .int .u64 t] w fun e w' => e = .returned (.bool true) ∧ w' = w := by
  have E : Hid (_) := bits_andNot2 hs ht
  go_enter Tryd.func27, Tryd.ntmps27
  go_wp2
  go_ret
  exact ⟨by rw [E.out, h]; rfl, rfl⟩

theorem shift_one {s k : Int} (hs : IsSet s) (a : 0 ≤ k) (b : k < 64) (h : hasB s k = true) : (bits .and .u64 (s / 2 ^ k.toNat) 1 != 1) = false := by
  have hd := div_isSet hs k.toNat
  have h1 := hasB_div hs a b
  rw [h, beq_iff_eq] at h1
  rw [bits_and2 hd ⟨by decide, by decide⟩]
  have h0 := hd.1
  generalize s / 2 ^ k.toNat = x at *
  have e : meetI x 1 = 1 := by
    unfold meetI
    rw [show (1 : Int).toNat = 1 from rfl, Nat.and_one_is_mod]
    omega
  rw [e]
  rfl

/-- The grammar with one more rule. -/
def more (g : G) (r : R) : G := withR g (g.rs ++ [r])

theorem more_ok {g : G} {r : R} (hg : okG g) (hr : okR r) (h : g.rs.length ≤ 120) : okG (more g r) := ⟨hg.1, hg.2.1, by show (g.rs ++ [r]).length ≤ _; rw [List.length_append, List.length_singleton]; omega, hg.2.2.2.1, fun x hx => by
  rcases List.mem_append.1 hx with h | h
  · exact hg.2.2.2.2.1 x h
  · rw [List.mem_singleton.1 h]; exact hr, hg.2.2.2.2.2.1, hg.2.2.2.2.2.2⟩

theorem more_len (g : G) (r : R) : (more g r).rs.length = g.rs.length + 1 := by show (g.rs ++ [r]).length = _; rw [List.length_append, List.length_singleton]

theorem prod_top2 (ta na ra : Option Addr) (tc nc rc : Nat) (g : G) (r : R) (p : Nat → Addr) (w : World) (hG : GRow w ta na ra (more g r)) (hg : okG (more g r)) (htc : g.ts.length ≤ tc) (hnc : g.ns.length ≤ nc) (hS : Sents w p) :
    Calls Tryd.prog 10 #[.agg #[.slice ta g.ts.length tc, .slice na g.ns.length nc, .int .i64 g.ax, .slice ra (g.rs.length + 1) rc]] w fun e w' => (∃ v, e = .returned (.tuple #[.int .u64 (okI (more g r) (prodI (more g r))), v]) ∧ CkV w.heap.size p (checkG (more g r)) w' v) ∧ Below w.heap.size w w' := by
  have h := Productive_top ta na ra tc nc rc (more g r) p w hG hg htc hnc hS
  rw [more_len] at h
  exact h
theorem reach_top2 (ta na ra : Option Addr) (tc nc rc : Nat) (g : G) (r : R) (p : Nat → Addr) (w : World) (hG : GRow w ta na ra (more g r)) (hg : okG (more g r)) (htc : g.ts.length ≤ tc) (hnc : g.ns.length ≤ nc) (hS : Sents w p) :
    Calls Tryd.prog 11 #[.agg #[.slice ta g.ts.length tc, .slice na g.ns.length nc, .int .i64 g.ax, .slice ra (g.rs.length + 1) rc]] w fun e w' => (∃ v, e = .returned (.tuple #[.int .u64 (okI (more g r) (reachI (more g r))), v]) ∧ CkV w.heap.size p (checkG (more g r)) w' v) ∧ Below w.heap.size w w' := by
  have h := Reached_top ta na ra tc nc rc (more g r) p w hG hg htc hnc hS
  rw [more_len] at h
  exact h
theorem in_more (g : G) (r : R) : ∀ x ∈ g.rs, x ∈ (more g r).rs := fun x hx => List.mem_append.2 (.inl hx)

theorem infoR : (Tryd.prog.info? 56).map (fun i => (i.zero, i.size, i.bytes)) = some (some (.agg #[.int .i64 0, .slice none 0 0]), 2, 32) := by kernel_rfl

/-- An append to a row of rules of the call's own, as one step of a region that draws its order. -/
theorem stepQ {ops : Array Oper} {o : Oper} {a : Act} {w : World} {K : Act → World → Prop} {Q' : Exit → Act → World → Prop} {E : Prop} (hg : o.guard = none) (s x : Operand)
    (ho : o.op = .call { callee := .builtin .append, args := #[s, x], argTypes := #[23, 23] }) (base : Nat) (v : Value) (n : Nat) (l : List Q) (hn : n = l.length) (hs : a.eval s = v) (hown : w.ownsRow base 56 2 v n (cellsQ l))
    (ad : Addr) (k c : Nat) (m : List Q) (hk : k = m.length) (hx : a.eval x = .slice (some ad) k c) (hsrc : ∀ j u, (cellsQ m)[j]? = some u → w.cell? (ad.add j) = some u) (hsz : n + k ≤ 1000000) (hbase : base ≤ w.heap.size)
    (h : ∀ v' w', w'.ownsRow base 56 2 v' (n + k) (cellsQ (l ++ m)) → w.grownBy w' v.ownBlock → K (a.put o.dst v') w') :
    if Region.wanted o (yielded ops a.tmps) = true then Oper.wp Tryd.prog o a w K Q' else E := by
  obtain ⟨i0, hi, hz0, hz1, hz2⟩ := info_parts infoR
  have hw : Region.wanted o (yielded ops a.tmps) = true := by simp [Region.wanted, hg]
  rw [if_pos hw]
  refine wp_append_own w s x 23 ho base 56 i0 (.agg #[.int .i64 0, .slice none 0 0]) 2 32 Tryd.underlying23 hi hz0 hz1 hz2 rfl (by decide) v n (cellsQ l) hs hown ad k c (cellsQ m) hx (by rw [cellsQ_len, hk]) hsrc (qv_one m) (by unfold maxLen; omega) (by omega) hbase ?_
  intro v' w' h1 h2 _
  rw [← cellsQ_app] at h1
  exact h v' w' h1 h2

end Go.Proofs.YtjmodcpeggafhaaDoor.UsefulLess
