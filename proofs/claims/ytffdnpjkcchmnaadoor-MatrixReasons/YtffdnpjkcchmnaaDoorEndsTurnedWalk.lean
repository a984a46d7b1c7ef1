/-
  The walk of EndsTurned: it answers true for every grammar, number, nonterminal and terminal, and writes nothing that was there.
-/
import Derived.Test.YtffdnpjkcchmnaaDoorEndsTurnMath
import Derived.Test.YtffdnpjkcchmnaaDoorEndsRef
import Derived.Test.YtffdnpjkcchmnaaDoorEndsAwake
import Derived.Test.YtffdnpjkcchmnaaDoorGramRComes
import Derived.Test.YtffdnpjkcchmnaaDoorGramKinds
import Derived.Test.YtffdnpjkcchmnaaDoorUsefulOpen
import Derived.Test.YtffdnpjkcchmnaaDoorGramLentG
import Derived.Deep.DeepCutAuto
import Derived.BigQuiet
namespace Go.Proofs.YtffdnpjkcchmnaaDoor.EndsTurnedW
open Go.RowKit Go.Proofs.YtffdnpjkcchmnaaDoor.GramMath Go.Proofs.YtffdnpjkcchmnaaDoor.GramRow Go.Proofs.YtffdnpjkcchmnaaDoor.GramCheck Go.Proofs.YtffdnpjkcchmnaaDoor.GramErrs Go.Proofs.YtffdnpjkcchmnaaDoor.GramAwake Go.Proofs.YtffdnpjkcchmnaaDoor.GramAboveFn Go.Proofs.YtffdnpjkcchmnaaDoor.GramApart Go.Proofs.YtffdnpjkcchmnaaDoor.GramLess Go.Proofs.YtffdnpjkcchmnaaDoor.EndsMath Go.Proofs.YtffdnpjkcchmnaaDoor.EndsFn Go.Proofs.YtffdnpjkcchmnaaDoor.EndsSearch Go.Proofs.YtffdnpjkcchmnaaDoor.EndsChain Go.Proofs.YtffdnpjkcchmnaaDoor.EndsAwake Go.Proofs.YtffdnpjkcchmnaaDoor.EndsConcat Go.Proofs.YtffdnpjkcchmnaaDoor.EndsTurn Go.Proofs.YtffdnpjkcchmnaaDoor.EndsWays
set_option linter.unusedVariables false

/-- An append of one rule to a row of rules of the call's own, as one step of a region that draws its order. -/
theorem stepT {ops : Array Oper} {o : Oper} {a : Act} {w : World} {K : Act → World → Prop} {Q' : Exit → Act → World → Prop} {E : Prop} (hg : o.guard = none) (s x : Operand)
    (ho : o.op = .call { callee := .builtin .append, args := #[s, x], argTypes := #[23, 23] }) (base : Nat) (v : Value) (n : Nat) (xs : List Value) (hs : a.eval s = v) (hown : w.ownsRow base 62 2 v n xs)
    (ad : Addr) (u1 u2 : Value) (hx : a.eval x = .slice (some ad) 1 1) (hsrc : ∀ j u, [u1, u2][j]? = some u → w.cell? (ad.add j) = some u) (h1c : ∀ u ∈ [u1, u2], u.oneCell' = true) (hsz : n ≤ 1000000) (hbase : base ≤ w.heap.size)
    (h : ∀ v' w', w'.ownsRow base 62 2 v' (n + 1) (xs ++ [u1, u2]) → w.grownBy w' v.ownBlock → K (a.put o.dst v') w') :
    if Region.wanted o (yielded ops a.tmps) = true then Oper.wp Tryd.prog o a w K Q' else E := by
  obtain ⟨i0, hi, hz0, hz1, hz2⟩ := info_parts GramLent.infoR
  have hw : Region.wanted o (yielded ops a.tmps) = true := by simp [Region.wanted, hg]
  rw [if_pos hw]
  refine wp_append_own w s x 23 ho base 62 i0 (.agg #[.int .i64 0, .slice none 0 0]) 2 32 Tryd.underlying23 hi hz0 hz1 hz2 rfl (by decide) v n xs hs hown ad 1 1 [u1, u2] hx rfl hsrc h1c (by unfold maxLen; omega) (by omega) hbase ?_
  intro v' w' h1 h2 _
  exact h v' w' h1 h2

/-- An append to a row of rules of the call's own, as one step of a region that draws its order; what is appended may be no row at all. -/
theorem stepQ {ops : Array Oper} {o : Oper} {a : Act} {w : World} {K : Act → World → Prop} {Q' : Exit → Act → World → Prop} {E : Prop} (hg : o.guard = none) (s x : Operand)
    (ho : o.op = .call { callee := .builtin .append, args := #[s, x], argTypes := #[23, 23] }) (base : Nat) (v : Value) (n : Nat) (l : List Q) (hn : n = l.length) (hs : a.eval s = v) (hown : w.ownsRow base 62 2 v n (cellsQ l))
    (ab : Option Addr) (k c : Nat) (m : List Q) (hk : k = m.length) (hx : a.eval x = .slice ab k c) (hnil : ab = none → k = 0 ∧ c = 0) (hsrc : ∀ ad, ab = some ad → ∀ j u, (cellsQ m)[j]? = some u → w.cell? (ad.add j) = some u) (hsz : n + k ≤ 1000000) (hbase : base ≤ w.heap.size)
    (h : ∀ v' w', w'.ownsRow base 62 2 v' (n + k) (cellsQ (l ++ m)) → w.grownBy w' v.ownBlock → K (a.put o.dst v') w') :
    if Region.wanted o (yielded ops a.tmps) = true then Oper.wp Tryd.prog o a w K Q' else E := by
  obtain ⟨i0, hi, hz0, hz1, hz2⟩ := info_parts GramLent.infoR
  have hw : Region.wanted o (yielded ops a.tmps) = true := by simp [Region.wanted, hg]
  rw [if_pos hw]
  cases ab with
  | none =>
    obtain ⟨rfl, rfl⟩ := hnil rfl
    obtain rfl : m = [] := List.eq_nil_of_length_eq_zero hk.symm
    have hrun := run_append_owned_none (P := Tryd.prog) (w := w) base 23 o.type 62 i0 2 Tryd.underlying23 hi v n _ hown
    unfold Oper.wp
    simp [execOp, ho, resolve, invoke, builtin, hs, hx, hrun, Result.andThen]
    exact h v w (by simpa using hown) ⟨rfl, rfl, rfl, Nat.le_refl _, fun _ _ _ => rfl⟩
  | some ad =>
    refine wp_append_own w s x 23 ho base 62 i0 (.agg #[.int .i64 0, .slice none 0 0]) 2 32 Tryd.underlying23 hi hz0 hz1 hz2 rfl (by decide) v n (cellsQ l) hs hown ad k c (cellsQ m) hx (by rw [cellsQ_len, hk]) (hsrc ad rfl) (qv_one m) (by unfold maxLen; omega) (by omega) hbase ?_
    intro v' w' h1 h2 _
    rw [← cellsQ_app] at h1
    exact h v' w' h1 h2

theorem own_some {w : World} {B : Nat} {e : TypeId} {s n : Nat} {v : Value} {xs : List Value} (h : w.ownsRow B e s v n xs) (hn : ¬ n = 0) : ∃ g c, v = .slice (some ⟨g, 0, none⟩) n c ∧ n ≤ c := by
  rcases h.2 with ⟨rfl, h0⟩ | ⟨g, cap, cur, rfl, _, _, hc, _⟩
  · exact absurd h0 hn
  · exact ⟨_, _, rfl, hc⟩

theorem two_pow_60 {n : Nat} (h : n ≤ 60) : 2 ^ n ≤ 1152921504606846976 := Nat.le_trans (Nat.pow_le_pow_right (by decide) h) (by decide)

theorem vrow_far {w : World} {b b' q n : Nat} {V : Nat → Nat} {v : Value} (h : VRow w b n V) (hne : b' ≠ b) : VRow (w.setCell ⟨b', q, none⟩ v) b n V := fun i hi =>
  ⟨(World.cell?_setCell_other (h := show (⟨b', q, none⟩ : Addr) ≠ ⟨b, i, none⟩ from fun h => hne (by cases h; rfl)) ..).trans (h i hi).1, by rw [World.frozen?_setCell]; exact (h i hi).2⟩

theorem setsAt_far {base : Nat} {w : World} {bb : Bool} {g : G} {b b' q : Nat} {V : Nat → Nat} {v : Value} (h : SetsAt base w bb g b V) (hne : b' ≠ b) : SetsAt base (w.setCell ⟨b', q, none⟩ v) bb g b V :=
  ⟨h.ge, Nat.lt_of_lt_of_le h.lt ((Below.refl b' w).setCell (Nat.le_refl _) _).size, vrow_far h.row hne, h.ends⟩

theorem rrow_take {w : World} {a : Option Addr} {rs : List R} (h : RRow w a rs) (m : Nat) : RRow w a (rs.take m) := fun i r hr => h i r (by
  rw [List.getElem?_take] at hr
  split at hr
  · exact hr
  · cases hr)

/-- A right side that lies there. -/
def IOk (B : Nat) (w : World) (x : Q) : Prop := w.ownsRow B 3 1 (.slice x.a x.r.right.length x.c) x.r.right.length (intsL x.r.right)

theorem IOk.row {B : Nat} {w : World} {x : Q} (h : IOk B w x) : IRow w x.a x.r.right := by
  obtain ⟨a, c, e, hr⟩ := EndsRef.own_row rfl h
  have : x.a = a := by simpa using congrArg (fun v => match v with | Value.slice q _ _ => q | _ => none) e
  rw [this]
  exact hr

/-- The grammar that is being turned about, rule by rule. -/
structure Tn (ta na : Option Addr) (tc nc : Nat) (g : G) (H i : Nat) (Wh wr : World) : Prop where
  ex : ∃ (lq : List Q) (v : Value), lq.map (·.r) = (g.rs.take i).map turn ∧ RowAt wr H 25 #[.slice ta g.ts.length tc, .slice na g.ns.length nc, .int .i64 g.ax, v] ∧ wr.ownsRow (H + 1) 62 2 v i (cellsQ lq) ∧ ∀ x ∈ lq, IOk (H + 1) wr x
  below : Below H Wh wr

theorem own_form {w : World} {B : Nat} {e : TypeId} {s n : Nat} {v : Value} {xs : List Value} (h : w.ownsRow B e s v n xs) : ∃ a c, v = .slice a n c ∧ (a = none → n = 0 ∧ c = 0) := by
  rcases h.2 with ⟨rfl, rfl⟩ | ⟨g, cap, cur, rfl, _⟩
  · exact ⟨none, 0, rfl, fun _ => ⟨rfl, rfl⟩⟩
  · exact ⟨_, _, rfl, fun h => by cases h⟩

theorem rows_of {w : World} {B : Nat} {v : Value} {lq : List Q} {n : Nat} (hn : n = lq.length) (h : w.ownsRow B 62 2 v n (cellsQ lq)) (hI : ∀ x ∈ lq, IRow w x.a x.r.right) : ∃ a c, v = .slice a n c ∧ RRow w a (lq.map (·.r)) ∧ n ≤ c := by
  subst hn
  rcases id h with ⟨_, ⟨rfl, h0⟩ | ⟨g, cap, cur, rfl, _, _, hc, _⟩⟩
  · obtain rfl : lq = [] := List.length_eq_zero_iff.1 h0
    exact ⟨none, 0, rfl, fun i x hx => by simp at hx, by simp⟩
  · exact ⟨_, _, rfl, rrow_of (qrow_own rfl h) hI, hc⟩

theorem Of_with (ta na ra : Option Addr) (tc nc rc : Nat) (g : G) (rs : List R) (n : Nat) (p : Nat → Addr) (w : World) (hn : n = rs.length) (hG : GRow w ta na ra (withR g rs)) (hg : okG (withR g rs)) (htc : g.ts.length ≤ tc) (hnc : g.ns.length ≤ nc) (hS : Sents w p) :
    Calls Tryd.prog 32 #[.agg #[.slice ta g.ts.length tc, .slice na g.ns.length nc, .int .i64 g.ax, .slice ra n rc]] w fun e w' => (∃ u v x, e = .returned (.tuple #[.agg #[u, v], x]) ∧ OfV w.heap.size (withR g rs) w' u v ∧ CkV w.heap.size p (checkG (withR g rs)) w' x) ∧ Below w.heap.size w w' := by
  subst hn
  exact Of_top ta na ra tc nc rc (withR g rs) p w hG hg htc hnc hS

theorem Chain_with (ta na ra : Option Addr) (tc nc rc : Nat) (g : G) (rs : List R) (m : Nat) (n t : Int) (b : Bool) (p : Nat → Addr) (w : World) (hm : m = rs.length) (hG : GRow w ta na ra (withR g rs)) (hg : okG (withR g rs)) (htc : g.ts.length ≤ tc) (hnc : g.ns.length ≤ nc) (hE : Errs w p) :
    Calls Tryd.prog 50 #[.agg #[.slice ta g.ts.length tc, .slice na g.ns.length nc, .int .i64 g.ax, .slice ra m rc], .int .i64 n, .int .i64 t, .bool b] w fun e w' => (∃ v x z o, e = .returned (.tuple #[v, x]) ∧ ChV w.heap.size w' v o ∧ CkV w.heap.size p z w' x ∧ ChainR (withR g rs) n t b z o) ∧ Below w.heap.size w w' := by
  subst hm
  exact Chain_top ta na ra tc nc rc (withR g rs) n t b p w hG hg htc hnc hE

/-- What Of answers of a grammar that may be, with other rules. -/
theorem of_good {base : Nat} {g : G} {rs : List R} {w : World} {u v : Value} (h : OfV base (withR g rs) w u v) (h0 : checkG (withR g rs) = (0, none)) : ∃ bl br Vl Vr, u = .slice (some ⟨bl, 0, none⟩) g.ns.length g.ns.length ∧ v = .slice (some ⟨br, 0, none⟩) g.ns.length g.ns.length ∧ SetsAt base w false (withR g rs) bl Vl ∧ SetsAt base w true (withR g rs) br Vr := by
  rcases h with ⟨_, bl, br, Vl, Vr, hu, hv, hl, hr, _⟩ | ⟨hno, _, _⟩
  · exact ⟨bl, br, Vl, Vr, hu, hv, hl, hr⟩
  · exact absurd (by rw [h0]) hno

theorem chv_row {base : Nat} {w : World} {v : Value} {o : Option (List Int)} (h : ChV base w v o) : ∃ a c, v = .slice a (o.getD []).length c ∧ IRow w a (o.getD []) := by
  match o, h with
  | none, h => exact ⟨none, 0, h, fun i x hx => by simp at hx⟩
  | some l, ⟨g, cap, h1, h2⟩ => exact ⟨_, _, h1, GramLent.lent_rowI h2 rfl⟩
theorem found_small {g : G} {n t : Int} {b : Bool} {z : Nat × Option Nat} {o : Option (List Int)} (h : ChainR g n t b z o) : (o.getD []).length ≤ 60 := by
  rcases h with ⟨_, _, rfl⟩ | ⟨_, _, _, rfl⟩ | ⟨h0, hin, hF, _⟩
  · simp
  · simp
  · cases o with
    | none => simp
    | some c =>
      have hg := good_of h0
      have := FoundE.len hg (by have := hin.1; have := hin.2.1; omega) hF
      have := hg.few
      simp
      omega
theorem chainR_z {g : G} {n t : Int} {b : Bool} {z : Nat × Option Nat} {o : Option (List Int)} (h : ChainR g n t b z o) : z.1 ≤ 15 := by
  rcases h with ⟨_, rfl, _⟩ | ⟨_, _, rfl, _⟩ | ⟨_, _, _, rfl⟩
  · exact UsefulTop.check_le g
  · decide
  · dsimp only
    split <;> decide
theorem eqI_self (l : List Int) : GramSame.eqI l l = true := by unfold GramSame.eqI; simp

end Go.Proofs.YtffdnpjkcchmnaaDoor.EndsTurnedW
