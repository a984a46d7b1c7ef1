/-
  The walk of EndsTurned: it answers true for every grammar, number, nonterminal and terminal, and writes nothing that was there.
-/
import Derived.Test.YtmepnjnpfmgokaaDoorEndsTurnMath
import Derived.Test.YtmepnjnpfmgokaaDoorEndsRef
import Derived.Test.YtmepnjnpfmgokaaDoorEndsAwake
import Derived.Test.YtmepnjnpfmgokaaDoorGramRComes
import Derived.Test.YtmepnjnpfmgokaaDoorGramRuleOf
import Derived.Test.YtmepnjnpfmgokaaDoorUsefulOpen
import Derived.Test.YtmepnjnpfmgokaaDoorGramLentG
import Derived.Deep.DeepCutAuto
import Derived.BigQuiet
namespace Go.Proofs.YtmepnjnpfmgokaaDoor.EndsTurnedW
open Go.RowKit Go.Proofs.YtmepnjnpfmgokaaDoor.GramMath Go.Proofs.YtmepnjnpfmgokaaDoor.GramRow Go.Proofs.YtmepnjnpfmgokaaDoor.GramCheck Go.Proofs.YtmepnjnpfmgokaaDoor.GramErrs Go.Proofs.YtmepnjnpfmgokaaDoor.GramAwake Go.Proofs.YtmepnjnpfmgokaaDoor.GramAboveFn Go.Proofs.YtmepnjnpfmgokaaDoor.GramApart Go.Proofs.YtmepnjnpfmgokaaDoor.GramLess Go.Proofs.YtmepnjnpfmgokaaDoor.EndsMath Go.Proofs.YtmepnjnpfmgokaaDoor.EndsFn Go.Proofs.YtmepnjnpfmgokaaDoor.EndsSearch Go.Proofs.YtmepnjnpfmgokaaDoor.EndsChain Go.Proofs.YtmepnjnpfmgokaaDoor.EndsAwake Go.Proofs.YtmepnjnpfmgokaaDoor.EndsConcat Go.Proofs.YtmepnjnpfmgokaaDoor.EndsTurn Go.Proofs.YtmepnjnpfmgokaaDoor.EndsWays
set_option linter.unusedVariables false

/-- An append of one rule to a row of rules of the call's own, as one step of a region that draws its order. -/
theorem stepT {ops : Array Oper} {o : Oper} {a : Act} {w : World} {K : Act → World → Prop} {Q' : Exit → Act → World → Prop} {E : Prop} (hg : o.guard = none) (s x : Operand)
    (ho : o.op = .call { callee := .builtin .append, args := #[s, x], argTypes := #[23, 23] }) (base : Nat) (v : Value) (n : Nat) (xs : List Value) (hs : a.eval s = v) (hown : w.ownsRow base 55 2 v n xs)
    (ad : Addr) (u1 u2 : Value) (hx : a.eval x = .slice (some ad) 1 1) (hsrc : ∀ j u, [u1, u2][j]? = some u → w.cell? (ad.add j) = some u) (h1c : ∀ u ∈ [u1, u2], u.oneCell' = true) (hsz : n ≤ 1000000) (hbase : base ≤ w.heap.size)
    (h : ∀ v' w', w'.ownsRow base 55 2 v' (n + 1) (xs ++ [u1, u2]) → w.grownBy w' v.ownBlock → K (a.put o.dst v') w') :
    if Region.wanted o (yielded ops a.tmps) = true then Oper.wp Tryd.prog o a w K Q' else E := by
  obtain ⟨i0, hi, hz0, hz1, hz2⟩ := info_parts GramLent.infoR
  have hw : Region.wanted o (yielded ops a.tmps) = true := by simp [Region.wanted, hg]
  rw [if_pos hw]
  refine wp_append_own w s x 23 ho base 55 i0 (.agg #[.int .i64 0, .slice none 0 0]) 2 32 Tryd.underlying23 hi hz0 hz1 hz2 rfl (by decide) v n xs hs hown ad 1 1 [u1, u2] hx rfl hsrc h1c (by unfold maxLen; omega) (by omega) hbase ?_
  intro v' w' h1 h2 _
  exact h v' w' h1 h2

/-- An append to a row of rules of the call's own, as one step of a region that draws its order; what is appended may be no row at all. -/
theorem stepQ {ops : Array Oper} {o : Oper} {a : Act} {w : World} {K : Act → World → Prop} {Q' : Exit → Act → World → Prop} {E : Prop} (hg : o.guard = none) (s x : Operand)
    (ho : o.op = .call { callee := .builtin .append, args := #[s, x], argTypes := #[23, 23] }) (base : Nat) (v : Value) (n : Nat) (l : List Q) (hn : n = l.length) (hs : a.eval s = v) (hown : w.ownsRow base 55 2 v n (cellsQ l))
    (ab : Option Addr) (k c : Nat) (m : List Q) (hk : k = m.length) (hx : a.eval x = .slice ab k c) (hnil : ab = none → k = 0 ∧ c = 0) (hsrc : ∀ ad, ab = some ad → ∀ j u, (cellsQ m)[j]? = some u → w.cell? (ad.add j) = some u) (hsz : n + k ≤ 1000000) (hbase : base ≤ w.heap.size)
    (h : ∀ v' w', w'.ownsRow base 55 2 v' (n + k) (cellsQ (l ++ m)) → w.grownBy w' v.ownBlock → K (a.put o.dst v') w') :
    if Region.wanted o (yielded ops a.tmps) = true then Oper.wp Tryd.prog o a w K Q' else E := by
  obtain ⟨i0, hi, hz0, hz1, hz2⟩ := info_parts GramLent.infoR
  have hw : Region.wanted o (yielded ops a.tmps) = true := by simp [Region.wanted, hg]
  rw [if_pos hw]
  cases ab with
  | none =>
    obtain ⟨rfl, rfl⟩ := hnil rfl
    obtain rfl : m = [] := List.eq_nil_of_length_eq_zero hk.symm
    have hrun := run_append_owned_none (P := Tryd.prog) (w := w) base 23 o.type 55 i0 2 Tryd.underlying23 hi v n _ hown
    unfold Oper.wp
    simp [execOp, ho, resolve, invoke, builtin, hs, hx, hrun, Result.andThen]
    exact h v w (by simpa using hown) ⟨rfl, rfl, rfl, Nat.le_refl _, fun _ _ _ => rfl⟩
  | some ad =>
    refine wp_append_own w s x 23 ho base 55 i0 (.agg #[.int .i64 0, .slice none 0 0]) 2 32 Tryd.underlying23 hi hz0 hz1 hz2 rfl (by decide) v n (cellsQ l) hs hown ad k c (cellsQ m) hx (by rw [cellsQ_len, hk]) (hsrc ad rfl) (qv_one m) (by unfold maxLen; omega) (by omega) hbase ?_
    intro v' w' h1 h2 _
    rw [← cellsQ_app] at h1
    exact h v' w' h1 h2

theorem own_some {w : World} {B : Nat} {e : TypeId} {s n : Nat} {v : Value} {xs : List Value} (h : w.ownsRow B e s v n xs) (hn : ¬ n = 0) : ∃ g c, v = .slice (some ⟨g, 0, none⟩) n c ∧ n ≤ c := by
  rcases h.2 with ⟨rfl, h0⟩ | ⟨g, cap, cur, rfl, _, _, hc, _⟩
  · exact absurd h0 hn
  · exact ⟨_, _, rfl, hc⟩

theorem two_pow_60 {n : Nat} (h : n ≤ 60) : 2 ^ n ≤ 1152921504606846976 := Nat.le_trans (Nat.pow_le_pow_right (by decide) h) (by decide)

theorem vrow_far {w : World} {b b' q n : Nat} {V : Nat → Nat} {v : Value} (h : VRow w b n V) (hne : b' ≠ b) : VRow (w.setCell ⟨b', q, none⟩ v) b n V := fun i hi =>
  ⟨(World.cell?_setCell_other (h := show (⟨b', q, none⟩ : Addr) ≠ ⟨b, i, none⟩ from fun h => hne (by cases h; rfl)) ..).trans (h i hi).1, by rw [World.frozen?_setCell]; exact (h i hi).2⟩

theorem setsAt_far {base : Nat} {w : World} {bb : Bool} {g : G} {b b' q : Nat} {V : Nat → Nat} {v : Value} (h : SetsAt base w bb g b V) (hne : b' ≠ b) : SetsAt base (w.setCell ⟨b', q, none⟩ v) bb g b V :=
  ⟨h.ge, Nat.lt_of_lt_of_le h.lt ((Below.refl b' w).setCell (Nat.le_refl _) _).size, vrow_far h.row hne, h.ends⟩

theorem rrow_take {w : World} {a : Option Addr} {rs : List R} (h : RRow w a rs) (m : Nat) : RRow w a (rs.take m) := fun i r hr => h i r (by
  rw [List.getElem?_take] at hr
  split at hr
  · exact hr
  · cases hr)

/-- A right side that lies there. -/
def IOk (B : Nat) (w : World) (x : Q) : Prop := w.ownsRow B 3 1 (.slice x.a x.r.right.length x.c) x.r.right.length (intsL x.r.right)

theorem IOk.row {B : Nat} {w : World} {x : Q} (h : IOk B w x) : IRow w x.a x.r.right := by
  obtain ⟨a, c, e, hr⟩ := EndsRef.own_row rfl h
  have : x.a = a := by simpa using congrArg (fun v => match v with | Value.slice q _ _ => q | _ => none) e
  rw [this]
  exact hr

/-- The grammar that is being turned about, rule by rule. -/
structure Tn (ta na : Option Addr) (tc nc : Nat) (g : G) (H i : Nat) (Wh wr : World) : Prop where
  ex : ∃ (lq : List Q) (v : Value), lq.map (·.r) = (g.rs.take i).map turn ∧ RowAt wr H 25 #[.slice ta g.ts.length tc, .slice na g.ns.length nc, .int .i64 g.ax, v] ∧ wr.ownsRow (H + 1) 55 2 v i (cellsQ lq) ∧ ∀ x ∈ lq, IOk (H + 1) wr x
  below : Below H Wh wr

theorem own_form {w : World} {B : Nat} {e : TypeId} {s n : Nat} {v : Value} {xs : List Value} (h : w.ownsRow B e s v n xs) : ∃ a c, v = .slice a n c ∧ (a = none → n = 0 ∧ c = 0) := by
  rcases h.2 with ⟨rfl, rfl⟩ | ⟨g, cap, cur, rfl, _⟩
  · exact ⟨none, 0, rfl, fun _ => ⟨rfl, rfl⟩⟩
  · exact ⟨_, _, rfl, fun h => by cases h⟩

theorem rows_of {w : World} {B : Nat} {v : Value} {lq : List Q} {n : Nat} (hn : n = lq.length) (h : w.ownsRow B 55 2 v n (cellsQ lq)) (hI : ∀ x ∈ lq, IRow w x.a x.r.right) : ∃ a c, v = .slice a n c ∧ RRow w a (lq.map (·.r)) ∧ n ≤ c := by
  subst hn
  rcases id h with ⟨_, ⟨rfl, h0⟩ | ⟨g, cap, cur, rfl, _, _, hc, _⟩⟩
  · obtain rfl : lq = [] := List.length_eq_zero_iff.1 h0
    exact ⟨none, 0, rfl, fun i x hx => by simp at hx, by simp⟩
  · exact ⟨_, _, rfl, rrow_of (qrow_own rfl h) hI, hc⟩

theorem Of_with (ta na ra : Option Addr) (tc nc rc : Nat) (g : G) (rs : List R) (n : Nat) (p : Nat → Addr) (w : World) (hn : n = rs.length) (hG : GRow w ta na ra (withR g rs)) (hg : okG (withR g rs)) (htc : g.ts.length ≤ tc) (hnc : g.ns.length ≤ nc) (hS : Sents w p) :
    Calls Tryd.prog 9 #[.agg #[.slice ta g.ts.length tc, .slice na g.ns.length nc, .int .i64 g.ax, .slice ra n rc]] w fun e w' => (∃ u v x, e = .returned (.tuple #[.agg #[u, v], x]) ∧ OfV w.heap.size (withR g rs) w' u v ∧ CkV w.heap.size p (checkG (withR g rs)) w' x) ∧ Below w.heap.size w w' := by
  subst hn
  exact Of_top ta na ra tc nc rc (withR g rs) p w hG hg htc hnc hS

theorem Chain_with (ta na ra : Option Addr) (tc nc rc : Nat) (g : G) (rs : List R) (m : Nat) (n t : Int) (b : Bool) (p : Nat → Addr) (w : World) (hm : m = rs.length) (hG : GRow w ta na ra (withR g rs)) (hg : okG (withR g rs)) (htc : g.ts.length ≤ tc) (hnc : g.ns.length ≤ nc) (hE : Errs w p) :
    Calls Tryd.prog 17 #[.agg #[.slice ta g.ts.length tc, .slice na g.ns.length nc, .int .i64 g.ax, .slice ra m rc], .int .i64 n, .int .i64 t, .bool b] w fun e w' => (∃ v x z o, e = .returned (.tuple #[v, x]) ∧ ChV w.heap.size w' v o ∧ CkV w.heap.size p z w' x ∧ ChainR (withR g rs) n t b z o) ∧ Below w.heap.size w w' := by
  subst hm
  exact Chain_top ta na ra tc nc rc (withR g rs) n t b p w hG hg htc hnc hE

/-- What Of answers of a grammar that may be, with other rules. -/
theorem of_good {base : Nat} {g : G} {rs : List R} {w : World} {u v : Value} (h : OfV base (withR g rs) w u v) (h0 : checkG (withR g rs) = (0, none)) : ∃ bl br Vl Vr, u = .slice (some ⟨bl, 0, none⟩) g.ns.length g.ns.length ∧ v = .slice (some ⟨br, 0, none⟩) g.ns.length g.ns.length ∧ SetsAt base w false (withR g rs) bl Vl ∧ SetsAt base w true (withR g rs) br Vr := by
  rcases h with ⟨_, bl, br, Vl, Vr, hu, hv, hl, hr, _⟩ | ⟨hno, _, _⟩
  · exact ⟨bl, br, Vl, Vr, hu, hv, hl, hr⟩
  · exact absurd (by rw [h0]) hno

theorem chv_row {base : Nat} {w : World} {v : Value} {o : Option (List Int)} (h : ChV base w v o) : ∃ a c, v = .slice a (o.getD []).length c ∧ IRow w a (o.getD []) := by
  match o, h with
  | none, h => exact ⟨none, 0, h, fun i x hx => by simp at hx⟩
  | some l, ⟨g, cap, h1, h2⟩ => exact ⟨_, _, h1, GramLent.lent_rowI h2 rfl⟩
theorem found_small {g : G} {n t : Int} {b : Bool} {z : Nat × Option Nat} {o : Option (List Int)} (h : ChainR g n t b z o) : (o.getD []).length ≤ 60 := by
  rcases h with ⟨_, _, rfl⟩ | ⟨_, _, _, rfl⟩ | ⟨h0, hin, hF, _⟩
  · simp
  · simp
  · cases o with
    | none => simp
    | some c =>
      have hg := good_of h0
      have := FoundE.len hg (by have := hin.1; have := hin.2.1; omega) hF
      have := hg.few
      simp
      omega
theorem chainR_z {g : G} {n t : Int} {b : Bool} {z : Nat × Option Nat} {o : Option (List Int)} (h : ChainR g n t b z o) : z.1 ≤ 15 := by
  rcases h with ⟨_, rfl, _⟩ | ⟨_, _, rfl, _⟩ | ⟨_, _, _, rfl⟩
  · exact UsefulTop.check_le g
  · decide
  · dsimp only
    split <;> decide
theorem eqI_self (l : List Int) : GramSame.eqI l l = true := by unfold GramSame.eqI; simp

set_option maxRecDepth 100000 in
set_option maxHeartbeats 16000000 in
theorem walk (ta na ra : Option Addr) (tc nc rc : Nat) (g : G) (at' n t : Int) (p : Nat → Addr) (w : World) (hG : GRow w ta na ra g) (hg : okG g) (htc : g.ts.length ≤ tc) (hnc : g.ns.length ≤ nc) (hrc : g.rs.length ≤ rc) (hE : Errs w p) :
    Calls Tryd.prog 6 #[.agg #[.slice ta g.ts.length tc, .slice na g.ns.length nc, .int .i64 g.ax, .slice ra g.rs.length rc], .int .i64 at', .int .i64 n, .int .i64 t] w fun e w' => e = .returned (.bool true) ∧ Below w.heap.size w w' := by
  have hneq := neq_nil
  have hneq0 : ∀ W : World, (binOp .neq 31 .nilIface .nilIface).run Tryd.prog W = .ok (.bool false) W := fun W => by kernel_rfl
  obtain ⟨i0, hi, hz0, hz1, hz2⟩ := info_parts GramLent.infoI
  have hB1 : Below w.heap.size w (w.alloc (.cells #[.slice ta g.ts.length tc, .slice na g.ns.length nc, .int .i64 g.ax, .slice ra g.rs.length rc] 25)) := (Below.refl _ _).alloc (Nat.le_refl _) _
  have hbx := UsefulTop.rowNew w #[.slice ta g.ts.length tc, .slice na g.ns.length nc, .int .i64 g.ax, .slice ra g.rs.length rc] 25
  have hof := Of_top ta na ra tc nc rc g p _ (hG.below hB1 (Nat.le_refl _)) hg htc hnc (hE.sents.below hB1 (Nat.le_refl _))
  go_enter Tryd.func6, Tryd.ntmps6
  go_wp2_with fail
  refine hof.mono ?_
  rintro e w1 ⟨⟨u, v, x, rfl, hO, hx⟩, hb⟩
  replace hB1 := hB1.trans (hb.mono hB1.size)
  replace hbx := hbx.below hb hbx.lt
  clear hof hb
  rcases hO with ⟨h0, bl, br, Vl, Vr, rfl, rfl, hl, hr, hlr⟩ | ⟨h0, rfl, rfl⟩
  · have hgood := good_of h0
    have hfew := hgood.few
    have h120 := hgood.rules
    obtain rfl := ck_nil hx h0
    have hb : Below w1.heap.size w1 (w1.alloc (.cells #[.slice (some ⟨bl, 0, none⟩) g.ns.length g.ns.length, .slice (some ⟨br, 0, none⟩) g.ns.length g.ns.length] 29)) := (Below.refl _ _).alloc (Nat.le_refl _) _
    have hex := UsefulTop.rowNew w1 #[.slice (some ⟨bl, 0, none⟩) g.ns.length g.ns.length, .slice (some ⟨br, 0, none⟩) g.ns.length g.ns.length] 29
    replace hB1 := hB1.trans (hb.mono hB1.size)
    replace hbx := hbx.below hb hbx.lt
    replace hl := hl.below hb (Nat.le_refl _)
    replace hr := hr.below hb (Nat.le_refl _)
    clear hb hx
    go_wp2_with fail
    refine (awake_any p _ (hE.sents.below hB1 (Nat.le_refl _))).mono ?_
    rintro e w3 ⟨rfl, hb⟩
    replace hB1 := hB1.trans (hb.mono hB1.size)
    replace hbx := hbx.below hb hbx.lt
    replace hex := hex.below hb hex.lt
    replace hl := hl.below hb (Nat.le_refl _)
    replace hr := hr.below hb (Nat.le_refl _)
    clear hb
    have hbl := hbx.lt
    have hel := hex.lt
    have b0 := hbx.cell (q := 0) rfl
    have b1' := hbx.cell (q := 1) rfl
    have b2 := hbx.cell (q := 2) rfl
    have b3 := hbx.cell (q := 3) rfl
    have hbh : Below w3.heap.size w3 (w3.alloc (.cells #[.slice ta g.ts.length tc, .slice na g.ns.length nc, .int .i64 g.ax, .slice none 0 0] 25)) := (Below.refl _ _).alloc (Nat.le_refl _) _
    have hT0 : Hid (Tn ta na tc nc g w3.heap.size 0 (w3.alloc (.cells #[.slice ta g.ts.length tc, .slice na g.ns.length nc, .int .i64 g.ax, .slice none 0 0] 25)) (w3.alloc (.cells #[.slice ta g.ts.length tc, .slice na g.ns.length nc, .int .i64 g.ax, .slice none 0 0] 25))) := ⟨⟨[], _, rfl, UsefulTop.rowNew _ _ _, World.ownsRow_nil _ _ _ _, fun x hx => by cases hx⟩, Below.refl _ _⟩
    have hzh : (w3.alloc (.cells #[.slice ta g.ts.length tc, .slice na g.ns.length nc, .int .i64 g.ax, .slice none 0 0] 25)).heap.size = w3.heap.size + 1 := by simp
    go_wp2
    clear b0 b1' b2 b3
    generalize w3.alloc (.cells #[.slice ta g.ts.length tc, .slice na g.ns.length nc, .int .i64 g.ax, .slice none 0 0] 25) = Wh at *
    go_loopw [12] (fun i wr => ∃ k : Nat, k ≤ g.rs.length ∧ i = .int .i64 k ∧ Hid (Tn ta na tc nc g w3.heap.size k Wh wr)) (fun i _ => g.rs.length - (intOf i).toNat)
    case atStart => exact ⟨0, by omega, rfl, hT0⟩
    case round =>
      clear hT0
      obtain ⟨i, hi', rfl, hTn⟩ := hrel
      obtain ⟨lq, v, hlq, hhx, hown, hIo⟩ := hTn.out.ex
      have hbW := hTn.out.below
      have hb3 := hbh.trans hbW
      have hbx' := hbx.below hb3 hbl
      have b3 := hbx'.cell (q := 3) rfl
      have hhl := hhx.lt
      have hll : lq.length = i := by
        have := congrArg List.length hlq
        simp at this
        omega
      by_cases hlt : i < g.rs.length
      · obtain ⟨r, hri⟩ : ∃ r, g.rs[i]? = some r := ⟨g.rs[i], List.getElem?_eq_getElem hlt⟩
        have hRk := (hG.2.2.below hB1 (Nat.le_refl _)).below hb3 (Nat.le_refl _)
        obtain ⟨b1, off, qa, qc, hra, d0, d1, hI⟩ := hRk i r hri
        subst hra
        have hlt2 : (i : Int) < (g.rs.length : Int) := by omega
        have h32 := (ruleK_ok (hgood.each r (List.mem_of_getElem? hri))).1
        have HR : Hid (g.rs[i]? = some r) := hri
        have hb1w : b1 < w.heap.size := by
          obtain ⟨b1', off', _, _, e1, e2, _⟩ := hG.2.2 i r hri
          simp only [Option.some.injEq, Addr.mk.injEq] at e1
          obtain ⟨rfl, rfl, _⟩ := e1
          exact cell_lt e2
        have hww : w.heap.size ≤ w3.heap.size := hB1.size
        clear hRk hri
        obtain ⟨wi, rfl⟩ : ∃ wi, wi = wr := ⟨_, rfl⟩
        go_wp2
        go_loopw [13, 14] (fun v k wr => ∃ q : Nat, q ≤ r.right.length ∧ k = .int .i64 ((r.right.length : Int) - 1 - q) ∧ wr.ownsRow wi.heap.size 3 1 v q (intsL (r.right.reverse.take q)) ∧ Below wi.heap.size wi wr) (fun _ k _ => (intOf k + 1).toNat)
        case atStart => exact ⟨0, by omega, by simp, World.ownsRow_nil _ _ _ _, Below.refl _ _⟩
        case round =>
          obtain ⟨q, hq, rfl, hownI, hB⟩ := hrel
          have hsz := hB.size
          have f3 := (hB.cell (cell_lt b3)).trans b3
          have e0 := (hB.cell (cell_lt d0)).trans d0
          have e1 := (hB.cell (cell_lt d1)).trans d1
          have hIk := hI.below hB (Nat.le_refl _)
          by_cases hlt' : q < r.right.length
          · obtain ⟨j, hj⟩ : ∃ j : Nat, r.right.length - 1 - q = j := ⟨_, rfl⟩
            have hj2 : (r.right.length : Int) - 1 - (q : Int) = (j : Int) := by omega
            obtain ⟨x, hx⟩ : ∃ x, r.right[j]? = some x := ⟨r.right[j]'(by omega), List.getElem?_eq_getElem _⟩
            obtain ⟨b', off', hqa, hc⟩ := hIk j x hx
            subst hqa
            have hj3 : (j : Int) < (r.right.length : Int) := by omega
            have htk : r.right.reverse.take (q + 1) = r.right.reverse.take q ++ [x] := by
              have hr' : r.right.reverse[q]? = some x := by rw [List.getElem?_reverse hlt', hj]; exact hx
              obtain ⟨h1, h2⟩ := List.getElem?_eq_some_iff.1 hr'
              rw [List.take_succ_eq_append_getElem h1, h2]
            have hBn : Below wr.heap.size wr (wr.alloc (.cells #[.int .i64 x] 3)) := (Below.refl _ _).alloc (Nat.le_refl _) _
            have hown1 := GramLent.own_below hownI hBn
            have HK : Hid (∀ (v2 : Value) (w2 : World), w2.ownsRow wi.heap.size 3 1 v2 (q + 1) (intsL (r.right.reverse.take q) ++ [.int .i64 x]) → w2.ownsRow wi.heap.size 3 1 v2 (q + 1) (intsL (r.right.reverse.take (q + 1)))) := fun v2 w2 h => by rw [htk]; simpa [intsL] using h
            rw [hj2]
            clear hIk hx htk hj hownI
            go_wp2_with (at_builtin; refine wpList_append_own _ rfl _ _ 43 rfl wi.heap.size 3 i0 (.int .i64 0) 1 8 Tryd.underlying43 hi hz0 hz1 hz2 rfl (by decide) _ _ _ rfl hown1 ⟨wr.heap.size, 0, none⟩ 1 1 [.int .i64 x] rfl rfl (cell_one_new _ _ _) (by simp [Value.oneCell']) (by unfold maxLen; omega) (by omega) (by simp; omega) ?_; intro v2 w2 hown2 hgrow2 _)
            have hown3 := HK.out _ _ hown2
            have hB2 := (hB.trans (hBn.mono hB.size)).grown hgrow2 (by simp; try omega) (fun j hj => (hown1.lt j hj).1)
            go_roundw
            case rel => exact ⟨q + 1, by omega, by go_num, hown3, hB2⟩
            case measure => simp [intOf]
          · obtain rfl : q = r.right.length := by omega
            have hj2 : (r.right.length : Int) - 1 - (r.right.length : Int) = -1 := by omega
            rw [hj2]
            have htk : r.right.reverse.take r.right.length = (turn r).right := by show _ = r.right.reverse; exact List.take_of_length_le (by simp)
            rw [htk] at hownI
            obtain ⟨a, c, rfl, hanil⟩ := own_form hownI
            have hw2 := hTn.out.below.trans (hB.mono (by omega))
            have hhx2 := hhx.below hB hhl
            have hown2 := GramLent.own_below hown hB
            have hc3 := hhx2.cell (q := 3) rfl
            have hfz := hhx2.frozen 3
            have hc3a : (wr.alloc (.cells #[.int .i64 r.left, .slice a r.right.length c] 55)).cell? ⟨w3.heap.size, 3, none⟩ = some v := Lib.cell?_alloc_some _ hc3
            have hd1 := drew_in wr
            have hS : ∀ w', Below wr.heap.size wr w' → w'.cell? ⟨w.heap.size, 3, none⟩ = some (.slice (some ⟨b1, off, none⟩) g.rs.length rc) ∧ w'.cell? ⟨b1, off + i * 2, none⟩ = some (.int .i64 r.left) := fun w' hb => ⟨(hb.cell (cell_lt f3)).trans f3, (hb.cell (cell_lt e0)).trans e0⟩
            have hA := hd1.alloc (Nat.le_refl wr.heap.size) (.cells #[.int .i64 r.left, .slice a r.right.length c] 55)
            have hownV := GramLent.own_below hown2 hA
            have hsrc : ∀ (j : Nat) u, [Value.int .i64 r.left, .slice a r.right.length c][j]? = some u → (wr.drew.alloc (.cells #[.int .i64 r.left, .slice a r.right.length c] 55)).cell? ((⟨wr.heap.size, 0, none⟩ : Addr).add j) = some u := World.news_of_block (heap_new wr.drew (.cells #[.int .i64 r.left, .slice a r.right.length c] 55))
            have hF : Hid (∀ g5 c5 (w5 : World), w5.ownsRow (w3.heap.size + 1) 55 2 (.slice (some ⟨g5, 0, none⟩) (i + 1) c5) (i + 1) (cellsQ lq ++ [.int .i64 r.left, .slice a r.right.length c]) → (wr.drew.alloc (.cells #[.int .i64 r.left, .slice a r.right.length c] 55)).grownBy w5 v.ownBlock →
                (w5.cell? ⟨w.heap.size, 3, none⟩ = some (.slice (some ⟨b1, off, none⟩) g.rs.length rc) ∧ w5.cell? ⟨b1, off + i * 2, none⟩ = some (.int .i64 r.left)) ∧ w5.cell? ⟨w3.heap.size, 3, none⟩ = some v ∧ w5.frozen? ⟨w3.heap.size, 3, none⟩ = false ∧
                ((w5.setCell ⟨w3.heap.size, 3, none⟩ (.slice (some ⟨g5, 0, none⟩) (i + 1) c5)).cell? ⟨w.heap.size, 3, none⟩ = some (.slice (some ⟨b1, off, none⟩) g.rs.length rc) ∧ (w5.setCell ⟨w3.heap.size, 3, none⟩ (.slice (some ⟨g5, 0, none⟩) (i + 1) c5)).cell? ⟨b1, off + i * 2, none⟩ = some (.int .i64 r.left)) ∧ Tn ta na tc nc g w3.heap.size (i + 1) Wh (w5.setCell ⟨w3.heap.size, 3, none⟩ (.slice (some ⟨g5, 0, none⟩) (i + 1) c5))) := fun g5 c5 w5 h1 h2 => by
              have hB5 : Below (w3.heap.size + 1) wr w5 := (hA.mono (show w3.heap.size + 1 ≤ wr.heap.size by omega)).grown h2 (by simp; omega) (fun j hj => (hownV.lt j hj).1)
              have z1 := (hB5.cell (p := ⟨w.heap.size, 3, none⟩) (show w.heap.size < w3.heap.size + 1 by omega)).trans f3
              have z2 := (hB5.cell (p := ⟨b1, off + i * 2, none⟩) (show b1 < w3.heap.size + 1 by omega)).trans e0
              have z3 := (hB5.cell (p := ⟨w3.heap.size, 3, none⟩) (show w3.heap.size < w3.heap.size + 1 by omega)).trans hc3
              have z4 := (hB5.frozen (p := ⟨w3.heap.size, 3, none⟩) (show w3.heap.size < w3.heap.size + 1 by omega)).trans hfz
              have hne1 : (⟨w3.heap.size, 3, none⟩ : Addr) ≠ ⟨w.heap.size, 3, none⟩ := fun e => by have := congrArg Addr.block e; simp at this; omega
              have hne2 : (⟨w3.heap.size, 3, none⟩ : Addr) ≠ ⟨b1, off + i * 2, none⟩ := fun e => by have := congrArg Addr.block e; simp at this; omega
              refine ⟨⟨z1, z2⟩, z3, z4, ⟨(World.cell?_setCell_other (h := hne1) ..).trans z1, (World.cell?_setCell_other (h := hne2) ..).trans z2⟩, ⟨lq ++ [⟨turn r, a, c⟩], .slice (some ⟨g5, 0, none⟩) (i + 1) c5, ?_, ?_, ?_, ?_⟩, (hw2.trans (hB5.mono (by omega))).setCell (Nat.le_refl _) _⟩
              · rw [List.map_append, hlq, EndsSearch.take_succ HR.out, List.map_append]
                rfl
              · have := (hhx2.below hB5 (by omega)).set 3 (.slice (some ⟨g5, 0, none⟩) (i + 1) c5)
                simpa using this
              · rw [cellsQ_app]
                have e : cellsQ [⟨turn r, a, c⟩] = [.int .i64 r.left, .slice a r.right.length c] := by simp [cellsQ, qv, turn]
                rw [e]
                exact GramRef.own_set h1 (by omega)
              · intro x hx
                rcases List.mem_append.1 hx with hx | hx
                · exact GramRef.own_set (own_grown (GramLent.own_below (GramLent.own_below (hIo x hx) hB) hA) hownV (by decide) h2) (by omega)
                · obtain rfl : x = _ := by simpa using hx
                  have h3 := own_base (base' := w3.heap.size + 1) (GramLent.own_below hownI hA) (by omega)
                  have h4 := GramRef.own_set (b := w3.heap.size) (o := 3) (u := .slice (some ⟨g5, 0, none⟩) (i + 1) c5) (own_grown h3 hownV (by decide) h2) (by omega)
                  have e : (turn r).right.length = r.right.length := by simp [turn]
                  unfold IOk
                  dsimp only
                  rw [e]
                  exact h4
            clear hIk e1
            go_wp2
            refine wp_region_noPanic ?_
            refine wp_region_held_drew (S := (fun w' => w'.cell? ⟨w.heap.size, 3, none⟩ = some (.slice (some ⟨b1, off, none⟩) g.rs.length rc) ∧ w'.cell? ⟨b1, off + i * 2, none⟩ = some (.int .i64 r.left))) (by kernel_rfl) (hS _ hd1) (fun hHeld => ?_)
            refine wpAnyH_take (i := 0) (v := .pointer (some ⟨w3.heap.size, 3, none⟩)) rfl (by kernel_rfl) (by kernel_rfl) (by kernel_rfl) (fun _ _ _ h => h) (Or.inl ⟨by rfl, fun w9 hSw => ?_⟩) hHeld ?_
            · obtain ⟨s3, sl⟩ := hSw
              go_simp
            simp only [List.getElem_toArray, List.getElem_cons_zero, Act.put, List.setIfInBounds_toArray, List.set_cons_zero, List.set_cons_succ]
            refine wpAnyH_take (i := 2) (v := .pointer (some ⟨w.heap.size, 3, none⟩)) rfl (by kernel_rfl) (by kernel_rfl) (by kernel_rfl) (fun _ _ _ h => h) (Or.inl ⟨by rfl, fun w9 hSw => ?_⟩) hHeld ?_
            · obtain ⟨s3, sl⟩ := hSw
              go_simp
            simp only [List.getElem_toArray, List.getElem_cons_zero, List.getElem_cons_succ, Act.put, List.setIfInBounds_toArray, List.set_cons_zero, List.set_cons_succ]
            refine wpAnyH_take (i := 3) (v := .slice (some ⟨b1, off, none⟩) g.rs.length rc) rfl (by kernel_rfl) (by kernel_rfl) (by kernel_rfl) (fun _ _ _ h => h) (Or.inl ⟨by rfl, fun w9 hSw => ?_⟩) hHeld ?_
            · obtain ⟨s3, sl⟩ := hSw
              go_simp
            simp only [List.getElem_toArray, List.getElem_cons_zero, List.getElem_cons_succ, Act.put, List.setIfInBounds_toArray, List.set_cons_zero, List.set_cons_succ]
            refine wpAnyH_take (i := 4) (v := .int .i64 (i : Int)) rfl (by kernel_rfl) (by kernel_rfl) (by kernel_rfl) (fun _ _ _ h => h) (Or.inl ⟨by rfl, fun w9 hSw => ?_⟩) hHeld ?_
            · obtain ⟨s3, sl⟩ := hSw
              go_simp
            simp only [List.getElem_toArray, List.getElem_cons_zero, List.getElem_cons_succ, Act.put, List.setIfInBounds_toArray, List.set_cons_zero, List.set_cons_succ]
            refine wpAnyH_take (i := 5) (v := .pointer (some ⟨b1, off + i * 2, none⟩)) rfl (by kernel_rfl) (by kernel_rfl) (by kernel_rfl) (fun _ _ _ h => h) (Or.inl ⟨by rfl, fun w9 hSw => ?_⟩) hHeld ?_
            · obtain ⟨s3, sl⟩ := hSw
              go_simp
            simp only [List.getElem_toArray, List.getElem_cons_zero, List.getElem_cons_succ, Act.put, List.setIfInBounds_toArray, List.set_cons_zero, List.set_cons_succ]
            refine wpAnyH_take (i := 6) (v := .pointer (some ⟨b1, off + i * 2, none⟩)) rfl (by kernel_rfl) (by kernel_rfl) (by kernel_rfl) (fun _ _ _ h => h) (Or.inl ⟨by rfl, fun w9 hSw => ?_⟩) hHeld ?_
            · obtain ⟨s3, sl⟩ := hSw
              go_simp
            simp only [List.getElem_toArray, List.getElem_cons_zero, List.getElem_cons_succ, Act.put, List.setIfInBounds_toArray, List.set_cons_zero, List.set_cons_succ]
            refine wpAnyH_take (i := 7) (v := .int .i64 r.left) rfl (by kernel_rfl) (by kernel_rfl) (by kernel_rfl) (fun _ _ _ h => h) (Or.inl ⟨by rfl, fun w9 hSw => ?_⟩) hHeld ?_
            · obtain ⟨s3, sl⟩ := hSw
              go_simp
            simp only [List.getElem_toArray, List.getElem_cons_zero, List.getElem_cons_succ, Act.put, List.setIfInBounds_toArray, List.set_cons_zero, List.set_cons_succ]
            refine wpAnyH_take (i := 8) (v := .slice a r.right.length c) rfl (by kernel_rfl) (by kernel_rfl) (by kernel_rfl) (fun _ _ _ h => h) (Or.inl ⟨by rfl, fun w9 hSw => ?_⟩) hHeld ?_
            · obtain ⟨s3, sl⟩ := hSw
              go_simp
            simp only [List.getElem_toArray, List.getElem_cons_zero, List.getElem_cons_succ, Act.put, List.setIfInBounds_toArray, List.set_cons_zero, List.set_cons_succ]
            refine wpAnyH_take (i := 9) (v := .agg #[.int .i64 r.left, .slice a r.right.length c]) rfl (by kernel_rfl) (by kernel_rfl) (by kernel_rfl) (fun _ _ _ h => h) (Or.inl ⟨by rfl, fun w9 hSw => ?_⟩) hHeld ?_
            · obtain ⟨s3, sl⟩ := hSw
              go_simp
            simp only [List.getElem_toArray, List.getElem_cons_zero, List.getElem_cons_succ, Act.put, List.setIfInBounds_toArray, List.set_cons_zero, List.set_cons_succ]
            refine wpAnyH_ready (rs := [1, 10]) (by kernel_rfl) (by simp) ?_
            refine AllReadyH.cons rfl (fun K hK => ?_) (AllReadyH.cons rfl (fun K hK => ?_) AllReadyH.nil)
            · go_simp
              refine hK.out _ _ (hS _ hd1) (fun hHeld1 => ?_)
              clear hK K
              refine wpAnyH_ready (rs := [10]) (by kernel_rfl) (by simp) ?_
              refine AllReadyH.cons rfl (fun K hK => ?_) AllReadyH.nil
              go_simp
              refine hK.out _ _ (hS _ hA) (fun hHeld2 => ?_)
              clear hK K
              refine wpAnyH_ready (rs := [11]) (by kernel_rfl) (by simp) ?_
              refine AllReadyH.cons rfl (fun K hK => ?_) AllReadyH.nil
              refine stepT rfl _ _ rfl (w3.heap.size + 1) v i (cellsQ lq) (by rfl) hownV ⟨wr.heap.size, 0, none⟩ (.int .i64 r.left) (.slice a r.right.length c) (by rfl) hsrc (by simp [Value.oneCell']) (by omega) (by simp; omega) ?_
              intro v5 w5 hown5 hgrow5
              obtain ⟨g5, c5, rfl⟩ := ownsRow_succ hown5
              obtain ⟨hS5, hc5, hf5, hfin⟩ := hF.out g5 c5 w5 hown5 hgrow5
              refine hK.out _ _ hS5 (fun hHeld3 => ?_)
              clear hK K
              simp only [List.getElem_toArray, List.getElem_cons_zero, List.getElem_cons_succ, Act.put, List.setIfInBounds_toArray, List.set_cons_zero, List.set_cons_succ]
              refine wpAnyH_take (i := 12) (v := .pointer (some ⟨w3.heap.size, 3, none⟩)) rfl (by kernel_rfl) (by kernel_rfl) (by kernel_rfl) (fun _ _ _ h => h) (Or.inl ⟨by rfl, fun w9 hSw => ?_⟩) hHeld3 ?_
              · obtain ⟨s3, sl⟩ := hSw
                go_simp
              simp only [List.getElem_toArray, List.getElem_cons_zero, List.getElem_cons_succ, Act.put, List.setIfInBounds_toArray, List.set_cons_zero, List.set_cons_succ]
              refine wpAnyH_ready (rs := [13]) (by kernel_rfl) (by simp) ?_
              refine AllReadyH.cons rfl (fun K hK => ?_) AllReadyH.nil
              go_simp
              refine hK.out _ _ hfin.1 (fun hHeld4 => ?_)
              clear hK K
              refine wpAnyH_done (by kernel_rfl) (NoPanic.normal ?_) _
              have hTn : Hid (_) := hfin.2
              clear hfin hF hS hownV hsrc
              go_wp2
              go_roundw
              case rel => exact ⟨i + 1, by omega, by go_num, hTn⟩
              case measure => simp [intOf]; omega
            · go_simp
              refine hK.out _ _ (hS _ hA) (fun hHeld1 => ?_)
              clear hK K
              refine wpAnyH_ready (rs := [1]) (by kernel_rfl) (by simp) ?_
              refine AllReadyH.cons rfl (fun K hK => ?_) AllReadyH.nil
              go_simp
              refine hK.out _ _ (hS _ hA) (fun hHeld2 => ?_)
              clear hK K
              refine wpAnyH_ready (rs := [11]) (by kernel_rfl) (by simp) ?_
              refine AllReadyH.cons rfl (fun K hK => ?_) AllReadyH.nil
              refine stepT rfl _ _ rfl (w3.heap.size + 1) v i (cellsQ lq) (by rfl) hownV ⟨wr.heap.size, 0, none⟩ (.int .i64 r.left) (.slice a r.right.length c) (by rfl) hsrc (by simp [Value.oneCell']) (by omega) (by simp; omega) ?_
              intro v5 w5 hown5 hgrow5
              obtain ⟨g5, c5, rfl⟩ := ownsRow_succ hown5
              obtain ⟨hS5, hc5, hf5, hfin⟩ := hF.out g5 c5 w5 hown5 hgrow5
              refine hK.out _ _ hS5 (fun hHeld3 => ?_)
              clear hK K
              simp only [List.getElem_toArray, List.getElem_cons_zero, List.getElem_cons_succ, Act.put, List.setIfInBounds_toArray, List.set_cons_zero, List.set_cons_succ]
              refine wpAnyH_take (i := 12) (v := .pointer (some ⟨w3.heap.size, 3, none⟩)) rfl (by kernel_rfl) (by kernel_rfl) (by kernel_rfl) (fun _ _ _ h => h) (Or.inl ⟨by rfl, fun w9 hSw => ?_⟩) hHeld3 ?_
              · obtain ⟨s3, sl⟩ := hSw
                go_simp
              simp only [List.getElem_toArray, List.getElem_cons_zero, List.getElem_cons_succ, Act.put, List.setIfInBounds_toArray, List.set_cons_zero, List.set_cons_succ]
              refine wpAnyH_ready (rs := [13]) (by kernel_rfl) (by simp) ?_
              refine AllReadyH.cons rfl (fun K hK => ?_) AllReadyH.nil
              go_simp
              refine hK.out _ _ hfin.1 (fun hHeld4 => ?_)
              clear hK K
              refine wpAnyH_done (by kernel_rfl) (NoPanic.normal ?_) _
              have hTn : Hid (_) := hfin.2
              clear hfin hF hS hownV hsrc
              go_wp2
              go_roundw
              case rel => exact ⟨i + 1, by omega, by go_num, hTn⟩
              case measure => simp [intOf]; omega
      · obtain rfl : i = g.rs.length := by omega
        have hnl : ¬ ((g.rs.length : Int) < (g.rs.length : Int)) := by omega
        rw [List.take_length] at hlq
        obtain ⟨va, vc, rfl, hRh, _⟩ := rows_of hll.symm hown (fun x hx => (hIo x hx).row)
        rw [hlq] at hRh
        have hGh : GRow wr ta na va (withR g (g.rs.map turn)) := ⟨(hG.1.below hB1 (Nat.le_refl _)).below hb3 (Nat.le_refl _), (hG.2.1.below hB1 (Nat.le_refl _)).below hb3 (Nat.le_refl _), hRh⟩
        have hokh : okG (withR g (g.rs.map turn)) := ok_turn hg
        have hckh : checkG (withR g (g.rs.map turn)) = (0, none) := check_turn hgood
        have hlenh : Hid (g.rs.length = (g.rs.map turn).length) := (by simp : g.rs.length = (g.rs.map turn).length)
        have hB := hB1.trans (hb3.mono hB1.size)
        have hex' := hex.below hb3 hel
        replace hl := hl.below hb3 (Nat.le_refl _)
        replace hr := hr.below hb3 (Nat.le_refl _)
        have HL : Hid (lq.length = g.rs.length) := hll
        clear hown hIo hlq hRh hTn hbW hb3 hbx hex hB1 hbh hll hi' hzh
        have hof := Of_with ta na va tc nc vc g (g.rs.map turn) g.rs.length p wr hlenh.out hGh hokh htc hnc (hE.sents.below hB (Nat.le_refl _))
        have c0 := hhx.cell (q := 0) rfl
        have c1 := hhx.cell (q := 1) rfl
        have c2 := hhx.cell (q := 2) rfl
        have c3 := hhx.cell (q := 3) rfl
        go_wp2_with fail
        refine hof.mono ?_
        rintro e w4 ⟨⟨u4, v4, x4, rfl, hO4, hx4⟩, hb⟩
        rw [hckh] at hx4
        obtain rfl : x4 = .nilIface := hx4
        obtain ⟨yl, yr, Yl, Yr, rfl, rfl, hyl, hyr⟩ := of_good hO4 hckh
        clear hof hO4 c0 c1 c2 c3 b3
        replace hB := hB.trans (hb.mono hB.size)
        replace hbx' := hbx'.below hb hbx'.lt
        replace hex' := hex'.below hb hex'.lt
        replace hhx := hhx.below hb hhx.lt
        replace hl := hl.below hb (Nat.le_refl _)
        replace hr := hr.below hb (Nat.le_refl _)
        replace hGh := hGh.below hb (Nat.le_refl _)
        clear hb
        have hb : Below w4.heap.size w4 (w4.alloc (.cells #[.slice (some ⟨yl, 0, none⟩) g.ns.length g.ns.length, .slice (some ⟨yr, 0, none⟩) g.ns.length g.ns.length] 29)) := (Below.refl _ _).alloc (Nat.le_refl _) _
        have hey := UsefulTop.rowNew w4 #[.slice (some ⟨yl, 0, none⟩) g.ns.length g.ns.length, .slice (some ⟨yr, 0, none⟩) g.ns.length g.ns.length] 29
        replace hB := hB.trans (hb.mono hB.size)
        replace hbx' := hbx'.below hb hbx'.lt
        replace hex' := hex'.below hb hex'.lt
        replace hhx := hhx.below hb hhx.lt
        replace hl := hl.below hb (Nat.le_refl _)
        replace hr := hr.below hb (Nat.le_refl _)
        replace hGh := hGh.below hb (Nat.le_refl _)
        replace hyl := hyl.below hb (Nat.le_refl _)
        replace hyr := hyr.below hb (Nat.le_refl _)
        clear hb
        have b0 := hbx'.cell (q := 0) rfl
        have b1 := hbx'.cell (q := 1) rfl
        have b2 := hbx'.cell (q := 2) rfl
        have b3 := hbx'.cell (q := 3) rfl
        have hch := Chain_top ta na ra tc nc rc g n t false p _ (hG.below hB (Nat.le_refl _)) hg htc hnc (hE.below hB (Nat.le_refl _))
        go_wp2_with fail
        refine hch.mono ?_
        rintro e w5 ⟨⟨lv, x5, z, o, rfl, hv5, hx5, hR5⟩, hb⟩
        clear hch b0 b1 b2 b3
        replace hB := hB.trans (hb.mono hB.size)
        replace hbx' := hbx'.below hb hbx'.lt
        replace hex' := hex'.below hb hex'.lt
        replace hhx := hhx.below hb hhx.lt
        replace hey := hey.below hb hey.lt
        replace hl := hl.below hb (Nat.le_refl _)
        replace hr := hr.below hb (Nat.le_refl _)
        replace hGh := hGh.below hb (Nat.le_refl _)
        replace hyl := hyl.below hb (Nat.le_refl _)
        replace hyr := hyr.below hb (Nat.le_refl _)
        clear hb
        have c0 := hhx.cell (q := 0) rfl
        have c1 := hhx.cell (q := 1) rfl
        have c2 := hhx.cell (q := 2) rfl
        have c3 := hhx.cell (q := 3) rfl
        have hch := Chain_with ta na va tc nc vc g (g.rs.map turn) g.rs.length n t true p w5 hlenh.out hGh hokh htc hnc (hE.below hB (Nat.le_refl _))
        obtain ⟨la, lc, rfl, hla⟩ := chv_row hv5
        go_wp2_with fail
        refine hch.mono ?_
        rintro e w6 ⟨⟨lv6, x6, z6, o6, rfl, hv6, hx6, hR6⟩, hb⟩
        obtain ⟨rfl, rfl⟩ := hR6.det (chainR_turn h0 hR5)
        obtain ⟨ka, kc, rfl, hka⟩ := chv_row hv6
        clear hch c0 c1 c2 c3 hv6 hv5
        replace hB := hB.trans (hb.mono hB.size)
        replace hbx' := hbx'.below hb hbx'.lt
        replace hex' := hex'.below hb hex'.lt
        replace hey := hey.below hb hey.lt
        replace hl := hl.below hb (Nat.le_refl _)
        replace hr := hr.below hb (Nat.le_refl _)
        replace hyl := hyl.below hb (Nat.le_refl _)
        replace hyr := hyr.below hb (Nat.le_refl _)
        replace hx5 := hx5.below hb (Nat.le_refl _)
        replace hla := hla.below hb (Nat.le_refl _)
        clear hb hGh hhx
        have hsm := found_small hR5
        have hz15 := chainR_z hR5
        have x0 := hex'.cell (q := 0) rfl
        have y1 := hey.cell (q := 1) rfl
        have hq := sets_same (some ⟨bl, 0, none⟩) (some ⟨yr, 0, none⟩) g.ns.length g.ns.length g.ns.length Vl w6 (vrow_row hl.row) (vrow_row (hyr.row.congr (fun i hi => (ends_turn (b := false) hl.ends hyr.ends hi).symm))) (by omega)
        go_wp2_with fail
        refine hq.mono ?_
        rintro e w7 ⟨rfl, hb⟩
        clear hq x0 y1
        replace hB := hB.trans (hb.mono hB.size)
        replace hbx' := hbx'.below hb hbx'.lt
        replace hex' := hex'.below hb hex'.lt
        replace hey := hey.below hb hey.lt
        replace hl := hl.below hb (Nat.le_refl _)
        replace hr := hr.below hb (Nat.le_refl _)
        replace hyl := hyl.below hb (Nat.le_refl _)
        replace hyr := hyr.below hb (Nat.le_refl _)
        replace hx5 := hx5.below hb (Nat.le_refl _)
        replace hx6 := hx6.below hb (Nat.le_refl _)
        replace hla := hla.below hb (Nat.le_refl _)
        replace hka := hka.below hb (Nat.le_refl _)
        clear hb
        have x1 := hex'.cell (q := 1) rfl
        have y0 := hey.cell (q := 0) rfl
        have hq := sets_same (some ⟨br, 0, none⟩) (some ⟨yl, 0, none⟩) g.ns.length g.ns.length g.ns.length Vr w7 (vrow_row hr.row) (vrow_row (hyl.row.congr (fun i hi => (ends_turn (b := true) hr.ends hyl.ends hi).symm))) (by omega)
        go_wp2_with fail
        refine hq.mono ?_
        rintro e w8 ⟨rfl, hb⟩
        clear hq x1 y0
        replace hB := hB.trans (hb.mono hB.size)
        replace hbx' := hbx'.below hb hbx'.lt
        replace hex' := hex'.below hb hex'.lt
        replace hl := hl.below hb (Nat.le_refl _)
        replace hr := hr.below hb (Nat.le_refl _)
        replace hx5 := hx5.below hb (Nat.le_refl _)
        replace hx6 := hx6.below hb (Nat.le_refl _)
        replace hla := hla.below hb (Nat.le_refl _)
        replace hka := hka.below hb (Nat.le_refl _)
        clear hb hey hyl hyr
        have hq := GramSame.ints_any la ka lc kc (o6.getD []) (o6.getD []) w8 hla hka (by omega) (by omega)
        rw [eqI_self] at hq
        go_wp2_with fail
        refine hq.mono ?_
        rintro e w9 ⟨rfl, q9, hw9⟩
        have hb : Below w8.heap.size w8 w9 := by rw [hw9]; exact drew_below w8 q9
        clear hq hla hka hw9
        replace hB := hB.trans (hb.mono hB.size)
        replace hbx' := hbx'.below hb hbx'.lt
        replace hex' := hex'.below hb hex'.lt
        replace hl := hl.below hb (Nat.le_refl _)
        replace hr := hr.below hb (Nat.le_refl _)
        replace hx5 := hx5.below hb (Nat.le_refl _)
        replace hx6 := hx6.below hb (Nat.le_refl _)
        clear hb
        have ez : ((z6.1 : Int) != (z6.1 : Int)) = false := by simp
        have hkk := kind_ck _ p z6 w9 x5 (hE.below hB (Nat.le_refl _)) hz15 hx5
        go_wp2_with fail
        refine hkk.mono ?_
        rintro e w10 ⟨rfl, hb⟩
        clear hkk hx5
        replace hB := hB.trans (hb.mono hB.size)
        replace hbx' := hbx'.below hb hbx'.lt
        replace hex' := hex'.below hb hex'.lt
        replace hl := hl.below hb (Nat.le_refl _)
        replace hr := hr.below hb (Nat.le_refl _)
        replace hx6 := hx6.below hb (Nat.le_refl _)
        clear hb
        have hkk := kind_ck _ p z6 w10 x6 (hE.below hB (Nat.le_refl _)) hz15 hx6
        go_wp2_with fail
        refine hkk.mono ?_
        rintro e w11 ⟨rfl, hb⟩
        clear hkk hx6
        replace hB := hB.trans (hb.mono hB.size)
        replace hbx' := hbx'.below hb hbx'.lt
        replace hex' := hex'.below hb hex'.lt
        replace hl := hl.below hb (Nat.le_refl _)
        replace hr := hr.below hb (Nat.le_refl _)
        clear hb hR5 hR6 hckh hokh hlenh
        have b3 := hbx'.cell (q := 3) rfl
        by_cases hn0 : g.rs.length = 0
        · have hn1 : ((g.rs.length : Int) == 0) = true := by rw [beq_iff_eq]; omega
          go_wp2
          go_ret
          exact ⟨rfl, hB⟩
        · have hn1 : ((g.rs.length : Int) == 0) = false := by rw [beq_eq_false_iff_ne]; omega
          obtain ⟨rad, rfl⟩ : ∃ x, ra = some x := by
            obtain ⟨r0, hr0⟩ : ∃ r, g.rs[0]? = some r := ⟨g.rs[0]'(by omega), List.getElem?_eq_getElem _⟩
            obtain ⟨b', off', _, _, e, _⟩ := hG.2.2 0 r0 hr0
            exact ⟨_, e⟩
          have b0 := hbx'.cell (q := 0) rfl
          have b1 := hbx'.cell (q := 1) rfl
          have b2 := hbx'.cell (q := 2) rfl
          have hmod1 := Int.tmod_lt_of_pos at' (show (0 : Int) < (g.rs.length : Int) by omega)
          have hmod2 : -(g.rs.length : Int) < at'.tmod (g.rs.length : Int) := Int.lt_tmod_of_pos at' (show (0 : Int) < (g.rs.length : Int) by omega)
          have hHl := hbx'.lt
          obtain ⟨l, hlr, hQ, hIl⟩ := rrow_list (hG.2.2.below hB (Nat.le_refl _))
          have hll : Hid (l.length = g.rs.length) := by show _ = _; rw [← hlr, List.length_map]
          have hrcl : l.length ≤ rc := by have := hll.out; omega
          go_upto_if 165 with fail
          go_cut [21] (fun s21 wx => ∃ k : Nat, k < g.rs.length ∧ s21 = .int .i64 k ∧ wx = w11)
          case first =>
            by_cases hneg : at'.tmod (g.rs.length : Int) < 0
            · go_wp2
              go_meet
              case rel => exact ⟨(at'.tmod (g.rs.length : Int) + (g.rs.length : Int)).toNat, by omega, by congr 1; omega, rfl⟩
            · go_wp2
              go_meet
              case rel => exact ⟨(at'.tmod (g.rs.length : Int)).toNat, by omega, by congr 1; omega, rfl⟩
          case rest =>
            obtain ⟨k, hkn, rfl, hwc⟩ := hcut
            obtain rfl := hwc.symm
            have hkc : (k : Int) ≤ (rc : Int) := by omega
            have hkl : (k : Int) ≤ (g.rs.length : Int) := by omega
            have hlk : Hid (k = (l.take k).length) := by show _ = _; have := hll.out; rw [List.length_take]; omega
            have hld : Hid (g.rs.length - k = (l.drop k).length) := by show _ = _; have := hll.out; rw [List.length_drop, this]
            clear hmod1 hmod2
            obtain ⟨ab, hab⟩ : ∃ ab, (if rc = k then some rad else some (rad.add (k * 2))) = ab := ⟨_, rfl⟩
            have habn : ab ≠ none := by rw [← hab]; split <;> simp
            have habc : Hid (∀ (W : World), QRow W (some rad) l → ∀ ad', ab = some ad' → ∀ (j : Nat) u, (cellsQ (l.drop k))[j]? = some u → W.cell? (ad'.add j) = some u) := fun W hW ad' had => qrow_cut hW hrcl ad' (hab.trans had)
            have hlenq : Hid (0 + (g.rs.length - k) + k = g.rs.length) := (by omega : 0 + (g.rs.length - k) + k = g.rs.length)
            go_wp2
            generalize hL : w11.alloc (.cells #[.slice ta g.ts.length tc, .slice na g.ns.length nc, .int .i64 g.ax, .slice (some rad) g.rs.length rc] 25) = W3
            have hb3 : Below w11.heap.size w11 W3 := by rw [← hL]; exact (Below.refl _ _).alloc (Nat.le_refl _) _
            have hs3h : Hid (W3.heap.size = w11.heap.size + 1) := by show _ = _; rw [← hL]; simp
            have hs3 : w11.heap.size < W3.heap.size := by have := hs3h.out; omega
            have hox : RowAt W3 w11.heap.size 25 #[.slice ta g.ts.length tc, .slice na g.ns.length nc, .int .i64 g.ax, .slice (some rad) g.rs.length rc] := by rw [← hL]; exact UsefulTop.rowNew _ _ _
            clear hL
            have d3 := hox.cell (q := 3) rfl
            have d4 := hox.frozen 3
            have e3 := (hb3.cell (p := ⟨w.heap.size, 3, none⟩) hHl).trans b3
            have hQ3 := hQ.below hb3 (Nat.le_refl _)
            have hown0 : (World.alloc W3.drew (.cells #[] 55)).ownsRow W3.heap.size 55 2 (.slice (some ⟨W3.heap.size, 0, none⟩) 0 0) 0 (cellsQ []) := World.ownsRow_lit W3.drew #[] 0 (Nat.le_refl _) (by unfold maxLen; omega) rfl
            have hB4 : Below W3.heap.size W3 (World.alloc W3.drew (.cells #[] 55)) := (show Below W3.heap.size W3 W3.drew from ⟨rfl, rfl, rfl, Nat.le_refl _, fun _ _ => rfl⟩).alloc (Nat.le_refl _) _
            have hBg : ∀ w4, (World.alloc W3.drew (.cells #[] 55)).grownBy w4 (Value.slice (some ⟨W3.heap.size, 0, none⟩) 0 0).ownBlock → Below W3.heap.size W3 w4 := fun w4 hg => hB4.grown hg (by simp) (fun k hk => by cases hk; exact Nat.le_refl _)
            go_region_held3 (fun w' => w'.cell? ⟨w.heap.size, 3, none⟩ = some (.slice (some rad) g.rs.length rc))
              (first | go_keep | (exact (hB5.cell (show w.heap.size < _ by omega)).trans e3) | (refine (World.cell?_setCell_far _ _ _ _ (show w11.heap.size ≠ w.heap.size by omega)).trans ?_; exact (hB5.cell (show w.heap.size < _ by omega)).trans e3))
              (first
                | (refine stepQ rfl _ _ rfl W3.heap.size _ 0 [] rfl rfl hown0 ab (g.rs.length - k) (rc - k) (l.drop k) hld.out (by rfl) (fun h => absurd h habn) (habc.out _ (hQ3.below hB4 (Nat.le_refl _))) (by omega) (by simp) ?_; intro v4 w4 hown4 hgrow4; have hB5 := hBg _ hgrow4)
                | (refine stepQ rfl _ _ rfl W3.heap.size _ (0 + (g.rs.length - k)) ([] ++ l.drop k) (by rw [Nat.zero_add, List.nil_append]; exact hld.out) rfl hown4 (some rad) k rc (l.take k) hlk.out (by rfl) (fun h => by cases h) (qrow_pre (hQ3.below hB5 (Nat.le_refl _)) k) (by omega) hB5.size ?_; intro v5 w5 hown5 hgrow5; have hB6 : Below W3.heap.size W3 w5 := hB5.grown hgrow5 hB5.size (fun k hk => (hown4.lt k hk).1); have hB5 := hB6; rw [hlenq.out] at hown5; obtain ⟨g5, c5, hv5, hc5⟩ := own_some hown5 hn0; subst hv5; have f4 := (hB6.frozen (p := ⟨w11.heap.size, 3, none⟩) hs3).trans d4; have f3 := (hB6.cell (p := ⟨w11.heap.size, 3, none⟩) hs3).trans d3))
            have hW3 : w11.heap.size + 1 = W3.heap.size := hs3h.out.symm
            have hbb : Below w11.heap.size w11 (w5.setCell ⟨w11.heap.size, 3, none⟩ (.slice (some ⟨g5, 0, none⟩) g.rs.length c5)) := (hb3.trans (hB6.mono (by omega))).setCell (Nat.le_refl _) _
            have hox6 : RowAt (w5.setCell ⟨w11.heap.size, 3, none⟩ (.slice (some ⟨g5, 0, none⟩) g.rs.length c5)) w11.heap.size 25 #[.slice ta g.ts.length tc, .slice na g.ns.length nc, .int .i64 g.ax, (.slice (some ⟨g5, 0, none⟩) g.rs.length c5)] := by
              have := (hox.below hB6 hs3).set 3 (.slice (some ⟨g5, 0, none⟩) g.rs.length c5)
              simpa using this
            rw [List.nil_append] at hown5
            have hown6 := GramRef.own_set (b := w11.heap.size) (o := 3) (u := (.slice (some ⟨g5, 0, none⟩) g.rs.length c5)) hown5 (by omega)
            clear hown4 hown5 hgrow4 hgrow5 hB5 hBg hown0 hB4 hQ3 e3 f3 f4 d3 d4 hox hB6 hb3 b0 b1 b2 b3 hlk hld habn habc hab hs3h hs3 hrcl
            generalize hW6 : w5.setCell ⟨w11.heap.size, 3, none⟩ (.slice (some ⟨g5, 0, none⟩) g.rs.length c5) = W6
            rw [hW6] at hbb hox6 hown6
            clear hW6
            have hrs : Hid ((l.drop k ++ l.take k).map (·.r) = g.rs.drop k ++ g.rs.take k) := by show _ = _; rw [List.map_append, List.map_drop, List.map_take, hlr]
            have hlen6 : Hid (g.rs.length = (l.drop k ++ l.take k).length) := by show _ = _; have := hll.out; rw [List.length_append, List.length_drop, List.length_take]; omega
            have hlen7 : Hid (g.rs.length = (g.rs.drop k ++ g.rs.take k).length) := by show _ = _; rw [List.length_append, List.length_drop, List.length_take]; omega
            have hIq : Hid (∀ x ∈ l.drop k ++ l.take k, IRow w11 x.a x.r.right) := fun x hx => hIl x (by rcases List.mem_append.1 hx with h | h; exact List.mem_of_mem_drop h; exact List.mem_of_mem_take h)
            have hmem : Hid (∀ r, r ∈ g.rs.drop k ++ g.rs.take k ↔ r ∈ g.rs) := fun r => by rw [List.mem_append, or_comm, ← List.mem_append, List.take_append_drop]
            have hRR : Hid (∀ W, Below w11.heap.size w11 W → W.ownsRow W3.heap.size 55 2 (.slice (some ⟨g5, 0, none⟩) g.rs.length c5) g.rs.length (cellsQ (l.drop k ++ l.take k)) → RRow W (some ⟨g5, 0, none⟩) (g.rs.drop k ++ g.rs.take k)) := fun W h1 h2 => by
              have := rrow_of (own_qrow hlen6.out h2) (fun x hx => (hIq.out x hx).below h1 (Nat.le_refl _))
              rwa [hrs.out] at this
            have hck6 : Hid (checkG (withR g (g.rs.drop k ++ g.rs.take k)) = (0, none)) := check_rules hgood (by rw [← hlen7.out]; exact h120) (fun r hr => hgood.each r ((hmem.out r).1 hr))
            have hok6 : okG (withR g (g.rs.drop k ++ g.rs.take k)) := ok_with hg (by rw [← hlen7.out]; exact hg.2.2.1) (fun r hr => hg.2.2.2.2.1 r ((hmem.out r).1 hr))
            have hB6 := hB.trans (hbb.mono hB.size)
            have hof := Of_with ta na (some ⟨g5, 0, none⟩) tc nc c5 g (g.rs.drop k ++ g.rs.take k) g.rs.length p W6 hlen7.out ⟨hG.1.below hB6 (Nat.le_refl _), hG.2.1.below hB6 (Nat.le_refl _), hRR.out _ hbb hown6⟩ hok6 htc hnc (hE.sents.below hB6 (Nat.le_refl _))
            have c0 := hox6.cell (q := 0) rfl
            have c1 := hox6.cell (q := 1) rfl
            have c2 := hox6.cell (q := 2) rfl
            have c3 := hox6.cell (q := 3) rfl
            clear hIl hQ hlr hll
            go_wp2_with fail
            refine hof.mono ?_
            rintro e w13 ⟨⟨u4, v4, x4, rfl, hO4, hx4⟩, hb⟩
            rw [hck6.out] at hx4
            obtain rfl : x4 = .nilIface := hx4
            obtain ⟨zl, zr, Zl, Zr, rfl, rfl, hzl, hzr⟩ := of_good hO4 hck6.out
            clear hof hO4 c0 c1 c2 c3 hB6
            have hwz : w11.heap.size < W6.heap.size := hox6.lt
            replace hbb := hbb.trans (hb.mono hbb.size)
            replace hox6 := hox6.below hb hox6.lt
            replace hown6 := GramLent.own_below hown6 hb
            clear hb
            have h13 : w11.heap.size < w13.heap.size := hox6.lt
            obtain ⟨m, hm⟩ : ∃ m, g.rs.length = m + 1 := ⟨g.rs.length - 1, by omega⟩
            have hm1 : (g.rs.length : Int) - 1 = (m : Int) := by omega
            have hm2 : (m : Int) ≤ (c5 : Int) := by omega
            have HM : Hid (g.rs.length = m + 1) := hm
            clear hm
            have c0 := hox6.cell (q := 0) rfl
            have c1 := hox6.cell (q := 1) rfl
            have c2 := hox6.cell (q := 2) rfl
            have c3 := hox6.cell (q := 3) rfl
            have c4 := hox6.frozen 3
            have hzlg := hzl.ge
            have hzrg := hzr.ge
            have hown7 := GramRef.own_set (b := w11.heap.size) (o := 3) (u := (.slice (some ⟨g5, 0, none⟩) m c5)) hown6 (by omega)
            have hzl7 := setsAt_far (b' := w11.heap.size) (q := 3) (v := (.slice (some ⟨g5, 0, none⟩) m c5)) hzl (by omega)
            have hzr7 := setsAt_far (b' := w11.heap.size) (q := 3) (v := (.slice (some ⟨g5, 0, none⟩) m c5)) hzr (by omega)
            replace hbb : Below w11.heap.size w11 (w13.setCell ⟨w11.heap.size, 3, none⟩ (.slice (some ⟨g5, 0, none⟩) m c5)) := hbb.setCell (Nat.le_refl _) _
            have hb : Below (w13.setCell ⟨w11.heap.size, 3, none⟩ (.slice (some ⟨g5, 0, none⟩) m c5)).heap.size (w13.setCell ⟨w11.heap.size, 3, none⟩ (.slice (some ⟨g5, 0, none⟩) m c5)) ((w13.setCell ⟨w11.heap.size, 3, none⟩ (.slice (some ⟨g5, 0, none⟩) m c5)).alloc (.cells #[.slice (some ⟨zl, 0, none⟩) g.ns.length g.ns.length, .slice (some ⟨zr, 0, none⟩) g.ns.length g.ns.length] 29)) := (Below.refl _ _).alloc (Nat.le_refl _) _
            have hez : RowAt ((w13.setCell ⟨w11.heap.size, 3, none⟩ (.slice (some ⟨g5, 0, none⟩) m c5)).alloc (.cells #[.slice (some ⟨zl, 0, none⟩) g.ns.length g.ns.length, .slice (some ⟨zr, 0, none⟩) g.ns.length g.ns.length] 29)) w13.heap.size 29 #[.slice (some ⟨zl, 0, none⟩) g.ns.length g.ns.length, .slice (some ⟨zr, 0, none⟩) g.ns.length g.ns.length] := by
              have h := UsefulTop.rowNew (w13.setCell ⟨w11.heap.size, 3, none⟩ (.slice (some ⟨g5, 0, none⟩) m c5)) #[.slice (some ⟨zl, 0, none⟩) g.ns.length g.ns.length, .slice (some ⟨zr, 0, none⟩) g.ns.length g.ns.length] 29
              have e : (w13.setCell ⟨w11.heap.size, 3, none⟩ (.slice (some ⟨g5, 0, none⟩) m c5)).heap.size = w13.heap.size := by simp
              rwa [e] at h
            replace hbb := hbb.trans (hb.mono hbb.size)
            replace hzl7 := hzl7.below hb (Nat.le_refl _)
            replace hzr7 := hzr7.below hb (Nat.le_refl _)
            replace hown7 := GramLent.own_below hown7 hb
            clear hb hzl hzr hown6 hox6
            have hlen8 : Hid (m = ((g.rs.drop k ++ g.rs.take k).take m).length) := by show _ = _; have := HM.out; rw [List.length_take, ← hlen7.out]; omega
            have hmem8 : Hid (∀ r ∈ (g.rs.drop k ++ g.rs.take k).take m, r ∈ g.rs) := fun r hr => (hmem.out r).1 (List.mem_of_mem_take hr)
            have hck8 : Hid (checkG (withR g ((g.rs.drop k ++ g.rs.take k).take m)) = (0, none)) := check_rules hgood (by rw [← hlen8.out]; have := HM.out; omega) (fun r hr => hgood.each r (hmem8.out r hr))
            have hok8 : okG (withR g ((g.rs.drop k ++ g.rs.take k).take m)) := ok_with hg (by rw [← hlen8.out]; have := HM.out; have := hg.2.2.1; omega) (fun r hr => hg.2.2.2.2.1 r (hmem8.out r hr))
            have hB6 := hB.trans (hbb.mono hB.size)
            have hof := Of_with ta na (some ⟨g5, 0, none⟩) tc nc c5 g ((g.rs.drop k ++ g.rs.take k).take m) m p _ hlen8.out ⟨hG.1.below hB6 (Nat.le_refl _), hG.2.1.below hB6 (Nat.le_refl _), rrow_take (hRR.out _ hbb hown7) m⟩ hok8 htc hnc (hE.sents.below hB6 (Nat.le_refl _))
            go_wp2_with fail
            refine hof.mono ?_
            clear hof
            generalize ((w13.setCell ⟨w11.heap.size, 3, none⟩ (.slice (some ⟨g5, 0, none⟩) m c5)).alloc (.cells #[.slice (some ⟨zl, 0, none⟩) g.ns.length g.ns.length, .slice (some ⟨zr, 0, none⟩) g.ns.length g.ns.length] 29)) = W7 at *
            rintro e w15 ⟨⟨u4, v4, x4, rfl, hO4, hx4⟩, hb⟩
            rw [hck8.out] at hx4
            obtain rfl : x4 = .nilIface := hx4
            obtain ⟨ul, ur, Ul, Ur, rfl, rfl, hul, hur⟩ := of_good hO4 hck8.out
            clear hO4 c0 c1 c2 c3 c4 hB6 hown7
            replace hbb := hbb.trans (hb.mono hbb.size)
            replace hez := hez.below hb hez.lt
            replace hzl7 := hzl7.below hb (Nat.le_refl _)
            replace hzr7 := hzr7.below hb (Nat.le_refl _)
            clear hb
            have hb : Below w15.heap.size w15 (w15.alloc (.cells #[.slice (some ⟨ul, 0, none⟩) g.ns.length g.ns.length, .slice (some ⟨ur, 0, none⟩) g.ns.length g.ns.length] 29)) := (Below.refl _ _).alloc (Nat.le_refl _) _
            have hew := UsefulTop.rowNew w15 #[.slice (some ⟨ul, 0, none⟩) g.ns.length g.ns.length, .slice (some ⟨ur, 0, none⟩) g.ns.length g.ns.length] 29
            replace hbb := hbb.trans (hb.mono hbb.size)
            replace hez := hez.below hb hez.lt
            replace hzl7 := hzl7.below hb (Nat.le_refl _)
            replace hzr7 := hzr7.below hb (Nat.le_refl _)
            replace hul := hul.below hb (Nat.le_refl _)
            replace hur := hur.below hb (Nat.le_refl _)
            clear hb
            have hexw := hex'.lt
            have x0 := (hex'.below hbb hexw).cell (q := 0) rfl
            have z0 := hez.cell (q := 0) rfl
            have hq := sets_same (some ⟨bl, 0, none⟩) (some ⟨zl, 0, none⟩) g.ns.length g.ns.length g.ns.length Vl _ (vrow_row (hl.below hbb (Nat.le_refl _)).row) (vrow_row (hzl7.row.congr (fun i hi => (ends_same (b := false) hmem.out hl.ends hzl7.ends hi).symm))) (by omega)
            go_wp2_with fail
            refine hq.mono ?_
            rintro e w17 ⟨rfl, hb⟩
            clear hq x0 z0
            replace hbb := hbb.trans (hb.mono hbb.size)
            replace hez := hez.below hb hez.lt
            replace hew := hew.below hb hew.lt
            replace hzl7 := hzl7.below hb (Nat.le_refl _)
            replace hzr7 := hzr7.below hb (Nat.le_refl _)
            replace hul := hul.below hb (Nat.le_refl _)
            replace hur := hur.below hb (Nat.le_refl _)
            clear hb
            have x1 := (hex'.below hbb hexw).cell (q := 1) rfl
            have z1 := hez.cell (q := 1) rfl
            have hq := sets_same (some ⟨br, 0, none⟩) (some ⟨zr, 0, none⟩) g.ns.length g.ns.length g.ns.length Vr _ (vrow_row (hr.below hbb (Nat.le_refl _)).row) (vrow_row (hzr7.row.congr (fun i hi => (ends_same (b := true) hmem.out hr.ends hzr7.ends hi).symm))) (by omega)
            go_wp2_with fail
            refine hq.mono ?_
            rintro e w18 ⟨rfl, hb⟩
            clear hq x1 z1
            replace hbb := hbb.trans (hb.mono hbb.size)
            replace hew := hew.below hb hew.lt
            replace hul := hul.below hb (Nat.le_refl _)
            replace hur := hur.below hb (Nat.le_refl _)
            clear hb hez hzl7 hzr7
            have x0 := (hex'.below hbb hexw).cell (q := 0) rfl
            have x1 := (hex'.below hbb hexw).cell (q := 1) rfl
            have y0 := hew.cell (q := 0) rfl
            have y1 := hew.cell (q := 1) rfl
            have enn : ((g.ns.length : Int) != (g.ns.length : Int)) = false := by simp
            have hll' := (hl.below hbb (Nat.le_refl _)).row
            have hrr' := (hr.below hbb (Nat.le_refl _)).row
            have hull := hul.row
            have hurr := hur.row
            have hEl : Hid (∀ i, i < g.ns.length → bits .andNot .u64 (Ul i : Int) (Vl i : Int) = 0) := fun i hi => andNot_zero (Nat.lt_of_lt_of_le (hul.ends i hi).1 (two_pow_60 (by show g.ts.length ≤ 60; omega))) (Nat.lt_of_lt_of_le (hl.ends i hi).1 (two_pow_60 (by omega))) (ends_less hmem8.out hl.ends hul.ends hi)
            have hEr : Hid (∀ i, i < g.ns.length → bits .andNot .u64 (Ur i : Int) (Vr i : Int) = 0) := fun i hi => andNot_zero (Nat.lt_of_lt_of_le (hur.ends i hi).1 (two_pow_60 (by show g.ts.length ≤ 60; omega))) (Nat.lt_of_lt_of_le (hr.ends i hi).1 (two_pow_60 (by omega))) (ends_less hmem8.out hr.ends hur.ends hi)
            have hnn : g.ns.length ≤ 60 := by omega
            have hBz := hB.trans (hbb.mono hB.size)
            clear hul hur hew hl hr hex' hbb hB
            go_wp2_with fail
            go_loopw [27] (fun i wr => ∃ k q : Nat, k ≤ g.ns.length ∧ i = .int .i64 k ∧ wr = w18.drewN q) (fun i _ => g.ns.length - (intOf i).toNat)
            case atStart => exact ⟨0, 0, by omega, rfl, rfl⟩
            case round =>
              obtain ⟨k, q, hk, rfl, rfl⟩ := hrel
              by_cases hlt : k < g.ns.length
              · have hlt2 : (k : Int) < (g.ns.length : Int) := by omega
                have d1 := (hll' k hlt).1
                have d2 := (hrr' k hlt).1
                have d3 := (hull k hlt).1
                have d4 := (hurr k hlt).1
                have a1 := hEl.out k hlt
                have a2 := hEr.out k hlt
                clear hll' hrr' hull hurr hEl hEr
                generalize Ul k = q1 at *
                generalize Ur k = q2 at *
                generalize Vl k = q3 at *
                generalize Vr k = q4 at *
                go_wp2
                go_quiet (fail)
                go_wp2
                go_roundw
                case rel => exact ⟨k + 1, _, by omega, by go_num, rfl⟩
                case measure => simp [intOf]; omega
              · go_wp2
                go_ret
                exact ⟨rfl, bdrew hBz _⟩
  · have hne : (checkG g).1 ≠ 0 := h0
    obtain ⟨tt, uu, rfl⟩ := ck_iface hx hne
    have hb : Below w1.heap.size w1 (w1.alloc (.cells #[.slice none 0 0, .slice none 0 0] 29)) := (Below.refl _ _).alloc (Nat.le_refl _) _
    have hex := UsefulTop.rowNew w1 #[.slice none 0 0, .slice none 0 0] 29
    replace hB1 := hB1.trans (hb.mono hB1.size)
    clear hb hx
    go_wp2_with fail
    refine (awake_any p _ (hE.sents.below hB1 (Nat.le_refl _))).mono ?_
    rintro e w3 ⟨rfl, hb⟩
    replace hB1 := hB1.trans (hb.mono hB1.size)
    replace hex := hex.below hb hex.lt
    have x0 := hex.cell (q := 0) rfl
    have x1 := hex.cell (q := 1) rfl
    clear hb
    go_wp2
    go_ret
    exact ⟨rfl, hB1⟩

end Go.Proofs.YtmepnjnpfmgokaaDoor.EndsTurnedW
