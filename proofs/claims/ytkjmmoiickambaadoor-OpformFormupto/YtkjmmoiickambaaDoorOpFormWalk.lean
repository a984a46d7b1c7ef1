/-
  The walk of OpformForm: it answers true for every grammar, and writes nothing that was there.
-/
import Derived.Test.YtkjmmoiickambaaDoorOpFormMath
import Derived.Test.YtkjmmoiickambaaDoorOpAwake
import Derived.Lib.QuietBelowIn
namespace Go.Proofs.YtkjmmoiickambaaDoor.OpForm
open Go.RowKit Go.Proofs.YtkjmmoiickambaaDoor.GramMath Go.Proofs.YtkjmmoiickambaaDoor.GramRow Go.Proofs.YtkjmmoiickambaaDoor.GramOne Go.Proofs.YtkjmmoiickambaaDoor.GramCheck Go.Proofs.YtkjmmoiickambaaDoor.GramApart Go.Proofs.YtkjmmoiickambaaDoor.GramLent Go.Proofs.YtkjmmoiickambaaDoor.GramErrs Go.Proofs.YtkjmmoiickambaaDoor.OpRow Go.Proofs.YtkjmmoiickambaaDoor.OpTerms Go.Proofs.YtkjmmoiickambaaDoor.OpSkel Go.Proofs.YtkjmmoiickambaaDoor.OpFault Go.Proofs.YtkjmmoiickambaaDoor.OpCheck
set_option linter.unusedVariables false
attribute [local go_sem] Oper.semAt_some

theorem rz1' (z : Nat × Option Nat) : ruleZ z = ruleZ z := rfl

/-- The activation of a function of 108 temporaries, told by one function. -/
def lit108 (u : Nat → Value) : Array Value := #[u 0, u 1, u 2, u 3, u 4, u 5, u 6, u 7, u 8, u 9, u 10, u 11, u 12, u 13, u 14, u 15, u 16, u 17, u 18, u 19, u 20, u 21, u 22, u 23, u 24, u 25, u 26, u 27, u 28, u 29, u 30, u 31, u 32, u 33, u 34, u 35, u 36, u 37, u 38, u 39, u 40, u 41, u 42, u 43, u 44, u 45, u 46, u 47, u 48, u 49, u 50, u 51, u 52, u 53, u 54, u 55, u 56, u 57, u 58, u 59, u 60, u 61, u 62, u 63, u 64, u 65, u 66, u 67, u 68, u 69, u 70, u 71, u 72, u 73, u 74, u 75, u 76, u 77, u 78, u 79, u 80, u 81, u 82, u 83, u 84, u 85, u 86, u 87, u 88, u 89, u 90, u 91, u 92, u 93, u 94, u 95, u 96, u 97, u 98, u 99, u 100, u 101, u 102, u 103, u 104, u 105, u 106, u 107]
theorem lit108_of (T : Array Value) (h : T.size = 108) : T = lit108 (fun j => T.getD j undef) := by
  have e : lit108 (fun j => T.getD j undef) = ((List.range 108).map (fun j => T.getD j undef)).toArray := rfl
  rw [e]
  apply Array.toList_inj.1
  apply List.ext_getElem?
  intro i
  rw [List.getElem?_map]
  by_cases hi : i < 108
  · rw [List.getElem?_range hi, List.getElem?_eq_getElem (by simp; omega)]
    simp [Array.getD, show i < T.size by omega]
  · rw [List.getElem?_eq_none (by simp; omega), List.getElem?_eq_none (by simp; omega)]
    rfl

/-- What holds at each rule. -/
def FormI (n B : Nat) (ptr : Value) (w4 : World) (a' : Act) (w' : World) : Prop :=
  ∃ (k : Nat) (Ds : List Nat) (u : Nat → Value), k ≤ n ∧ OpenAt w' B Ds ∧ Below w4.heap.size w4 w' ∧ u 1 = ptr ∧ u 6 = .int .i64 (k : Int) ∧ a' = { tmps := lit108 u, defers := marks Ds }
theorem FormI.mk {n B : Nat} {ptr : Value} {w4 w' : World} {T : Array Value} {d : List Deferred} (k : Nat) (Ds : List Nat) (hs : T.size = 108) (h1 : T.getD 1 undef = ptr) (h6 : T.getD 6 undef = .int .i64 (k : Int)) (hd : d = marks Ds) (hk : k ≤ n) (ho : OpenAt w' B Ds) (hb : Below w4.heap.size w4 w') : FormI n B ptr w4 { tmps := T, defers := d } w' :=
  ⟨k, Ds, fun j => T.getD j undef, hk, ho, hb, h1, h6, by rw [← lit108_of T hs, hd]⟩

set_option maxRecDepth 100000 in
set_option maxHeartbeats 8000000 in
theorem walk (ta na ra : Option Addr) (tc nc rc : Nat) (g : G) (p : Nat → Addr) (w : World) (hG : GRow w ta na ra g) (hg : okG g) (htc : g.ts.length ≤ tc) (hnc : g.ns.length ≤ nc) (hr8 : ∀ r ∈ g.rs, r.right.length * 8 ≤ 140737488351232) (hm : (fG g).length * 16 ≤ 140737488351232) (hE : Errs w p) (hT : ErrType w) :
    Calls Tryd.prog 6 #[.agg #[.slice ta g.ts.length tc, .slice na g.ns.length nc, .int .i64 g.ax, .slice ra g.rs.length rc]] w fun e w' => e = .returned (.bool true) ∧ Below w.heap.size w w' := by
  refine (callsIn_wide (n := 6)).1 ?_
  have hneq := neq_nil
  have heql := eql_nil
  have hB1 : Below w.heap.size w (w.alloc (.cells #[.slice ta g.ts.length tc, .slice na g.ns.length nc, .int .i64 g.ax, .slice ra g.rs.length rc] 25)) := (Below.refl _ _).alloc (Nat.le_refl _) _
  have hbx1 := rowNew w #[.slice ta g.ts.length tc, .slice na g.ns.length nc, .int .i64 g.ax, .slice ra g.rs.length rc] 25
  have hck := opcheck_any ta na ra tc nc rc g p _ (hG.below hB1 (Nat.le_refl _)) hg htc hnc (hE.below hB1 (Nat.le_refl _))
  refine callsIn_of_wp_marks Tryd.func6 rfl trivial ?_ rfl
  simp only [Tryd.ntmps6, List.size_toArray, List.length_cons, List.length_nil, Nat.reduceAdd, Nat.reduceSub, Array.replicate_succ, Array.replicate_zero, List.push_toArray, List.append_toArray, List.nil_append, List.cons_append]
  gi_wp2_with fail
  refine ⟨trivial, (callsIn_wide.2 hck).mono ?_⟩
  rintro e w1 ⟨⟨v1, rfl, hv1⟩, hb1⟩
  have hB2 := hB1.trans (hb1.mono hB1.size)
  have hbx2 := hbx1.below hb1 hbx1.lt
  clear hck hbx1 hB1 hb1
  have hgc := check_any ta na ra tc nc rc g p w1 (hG.below hB2 (Nat.le_refl _)) hg htc hnc (hE.below hB2 (Nat.le_refl _)).sents
  have a0 := hbx2.cell (q := 0) rfl
  have a1 := hbx2.cell (q := 1) rfl
  have a2 := hbx2.cell (q := 2) rfl
  have a3 := hbx2.cell (q := 3) rfl
  gi_wp2_with fail
  refine ⟨trivial, (callsIn_wide.2 hgc).mono ?_⟩
  rintro e w2 ⟨⟨v2, rfl, hv2⟩, hb2⟩
  have hB3 := hB2.trans (hb2.mono hB2.size)
  have hbx3 := hbx2.below hb2 hbx2.lt
  have hv1 := hv1.below hb2 (Nat.le_refl _)
  clear hgc hbx2 hB2 hb2 a0 a1 a2 a3
  have hfa := faults_any ta na ra tc nc rc g w2 (hG.2.2.below hB3 (Nat.le_refl _)) hr8 hg.2.2.1 hm
  have a0 := hbx3.cell (q := 0) rfl
  have a1 := hbx3.cell (q := 1) rfl
  have a2 := hbx3.cell (q := 2) rfl
  have a3 := hbx3.cell (q := 3) rfl
  gi_wp2_with fail
  refine ⟨trivial, (callsIn_wide.2 hfa).mono ?_⟩
  rintro e w3 ⟨⟨lv, rfl, ho3⟩, hb3⟩
  have hB4 := hB3.trans (hb3.mono hB3.size)
  have hbx4 := hbx3.below hb3 hbx3.lt
  have hv1 := hv1.below hb3 (Nat.le_refl _)
  have hv2 := hv2.below hb3 (Nat.le_refl _)
  have hE4 := hE.below hB4 (Nat.le_refl _)
  have hT4 := hT.below hB4 (Nat.le_refl _)
  have hs4 := hB4.size
  clear hfa hbx3 hB3 hb3 a0 a1 a2 a3
  have haw := opawake_any p w3 hE4 hT4
  by_cases hc : (checkG g).1 = 0
  · obtain rfl := ckv_z hv2 hc
    have hop : opG g = opRules (g.rs.drop 0) 0 := by unfold opG; rw [if_pos hc]; rfl
    rw [hop] at hv1
    clear hv2
    gi_wp2_with fail
    refine ⟨trivial, (callsIn_wide.2 haw).mono ?_⟩
    rintro e w4 ⟨rfl, hb4⟩
    have hB5 := hB4.trans (hb4.mono hs4)
    have hbx5 := hbx4.below hb4 hbx4.lt
    have hv1 := hv1.below hb4 (Nat.le_refl _)
    have ho5 := GramLent.own_below ho3 hb4
    clear haw hbx4 ho3
    rcases first_fault g.rs g.rs.length 0 (by omega) rfl with ⟨h1, h2, h3⟩ | ⟨i, x, rest, h1, h2⟩
    · rw [h1] at hv1
      obtain rfl : v1 = .nilIface := hv1
      have hl0 : ∃ la lc, lv = .slice la 0 lc := by
        have : fG g = [] := h2
        rw [this] at ho5
        obtain ⟨_, ⟨rfl, _⟩ | ⟨gg, cap, cur, rfl, _⟩⟩ := ho5
        · exact ⟨_, _, rfl⟩
        · exact ⟨_, _, rfl⟩
      obtain ⟨la, lc, rfl⟩ := hl0
      clear ho5 h1 h2 hop
      have h3' : Hid (∀ (j : Nat) (r : R), g.rs[j]? = some r → faults r.right = []) := fun j r hr => h3 j r (by omega) hr
      have hR5 := hG.2.2.below hB5 (Nat.le_refl _)
      have hg5 := hg.2.2.2.2.1
      have hgl := hg.2.2.1
      clear h3
      gi_wp2_with fail
      refine wpIn_loop (FormI g.rs.length w.heap.size (.pointer (some ⟨w.heap.size, 0, none⟩)) w4)
        (fun a' _ => g.rs.length - (intOf (a'.tmps.getD 6 undef)).toNat) (FormI.mk 0 [] rfl rfl rfl rfl (by omega) ⟨List.nodup_nil, fun D hD => (by cases hD)⟩ (Below.refl _ _)) ?_
      rintro a' wr ⟨k, Ds, u, hk, hOp, hBr, hu1, hu6, rfl⟩
      simp only [lit108, hu1, hu6]
      clear hu1 hu6
      have hbr := hbx5.below hBr hbx5.lt
      have c3 := hbr.cell (q := 3) rfl
      have hBw : Below w.heap.size w wr := hB5.trans (hBr.mono hB5.size)
      have hblt := hbr.lt
      by_cases hlt : k < g.rs.length
      · obtain ⟨r, hr⟩ : ∃ r, g.rs[k]? = some r := ⟨g.rs[k], List.getElem?_eq_getElem hlt⟩
        obtain ⟨b, off, qa, qc, rfl, d0, d1, hI⟩ := (hR5.below hBr (Nat.le_refl _)) k r hr
        have hlt2 : (k : Int) < (g.rs.length : Int) := by omega
        have hnf := h3'.out k r hr
        obtain ⟨f1, f2, f3⟩ := form_rule hnf
        have hq8 := hr8 r (List.mem_of_getElem? hr)
        have hok := hg5 r (List.mem_of_getElem? hr)
        have hBa : Below wr.heap.size wr (wr.alloc (.cells #[.int .i64 0] 3)) := (Below.refl _ _).alloc (Nat.le_refl _) _
        have hza : (wr.alloc (.cells #[.int .i64 0] 3)).heap.size = wr.heap.size + 1 := by simp
        have htm := terms_any qa qc r.right _ (hI.below hBa (Nat.le_refl _)) hq8
        have hbox := rowNew wr #[.int .i64 0] 3
        have hdl0 := cell_lt d0
        have hdl1 := cell_lt d1
        dsimp only at hdl0 hdl1
        clear hnf hr
        gi_wp2_with fail
        refine ⟨trivial, (callsIn_wide.2 htm).mono ?_⟩
        rintro e w5 ⟨⟨rfl, hT5, hz5⟩, hb5⟩
        rw [hza] at hT5 hz5 hb5
        have hbox5 := hbox.below hb5 (by omega)
        have hbr5 : Below wr.heap.size wr w5 := hBa.trans (hb5.mono (by omega))
        rw [hza]
        clear htm hbox hBa hb5
        gi_wp2_with fail
        refine' range_terms 6 (by omega) (wr.heap.size + 1 + 1) (wr.heap.size + 1) r.right (by omega) rfl hT5 rfl
          (fun j W => RowAt W wr.heap.size 3 #[.int .i64 (posTo r.right j : Int)] ∧ Below wr.heap.size wr W)
          (fun _ _ => False)
          (OwnFrom.and (fun s W W' row hs hg hr => RowAt.own hs hg (fun r e => (hr r e).2)) (ownFrom_below (Nat.le_refl _) (by omega)))
          (fun _ _ _ _ _ hs _ _ => hs)
          ⟨hbox5, hbr5⟩
          (fun j x W hx h0 h => by rw [posTo_out hx h0]; exact h)
          _ ?assign ?body ?done ?stop
        case assign =>
          intro l j x W K hK
          gi_wp2
          exact hK
        case stop =>
          rintro D c W _ h _
          exact h.elim
        case body =>
          rintro l j x W hx h0 hTW ⟨hbW, hBW⟩
          have hc := hbW.cell (q := 0) rfl
          have hf := hbW.frozen 0
          have hpl := posTo_le r.right j
          have hjl : j < r.right.length := (List.getElem?_eq_some_iff.1 hx).1
          have hb3 := hbW.set 0 (.int .i64 ((posTo r.right j : Int) + 1))
          have hT3 := hTW.set (b := wr.heap.size) (by omega) (by omega) 0 (.int .i64 ((posTo r.right j : Int) + 1))
          have hK3 : KeepsFrom w5.heap.size W (W.setCell ⟨wr.heap.size, 0, none⟩ (.int .i64 ((posTo r.right j : Int) + 1))) := (KeepsOthers.setCell _ _ _).from _
          have hB3 := hBW.setCell (p := ⟨wr.heap.size, 0, none⟩) (Nat.le_refl _) (.int .i64 ((posTo r.right j : Int) + 1))
          have e : Hid ((posTo r.right (j + 1) : Int) = (posTo r.right j : Int) + 1) := by show _ = _; rw [posTo_in hx h0]; rfl
          clear hbW hBW hTW hx
          gi_wp2
          refine ⟨hK3, hT3, ?_, hB3⟩
          rw [e.out]
          exact hb3
        rintro D W hD ⟨hbW, hBW⟩ hKD
        rw [posTo_all] at hbW
        have hple := pos_le r.right
        have hbrW := hBr.trans (hBW.mono hBr.size)
        have hrW : IRow W qa r.right := hI.below hBW (Nat.le_refl _)
        have hren := renaming_any qa qc r W hrW hok
        have c3 := (hBW.cell (p := ⟨w.heap.size, 3, none⟩) hblt).trans c3
        have d0 := (hBW.cell (p := ⟨b, off + k * 2, none⟩) hdl0).trans d0
        have d1 := (hBW.cell (p := ⟨b, off + k * 2 + 1, none⟩) hdl1).trans d1
        have hsW := hBW.size
        gi_wp2_with fail
        refine ⟨trivial, (callsIn_wide.2 hren).mono ?_⟩
        rintro e w6 ⟨rfl, hb6⟩
        have hbW6 := hbW.below hb6 hbW.lt
        have p0 := hbW6.cell (q := 0) rfl
        have c3 := (hb6.cell (p := ⟨w.heap.size, 3, none⟩) (Nat.lt_of_lt_of_le hblt hsW)).trans c3
        have d1 := (hb6.cell (p := ⟨b, off + k * 2 + 1, none⟩) (Nat.lt_of_lt_of_le hdl1 hsW)).trans d1
        have hBf := hbrW.trans (hb6.mono hbrW.size)
        have hOf : OpenAt w6 w.heap.size (D :: Ds) := by
          refine OpenAt.add (((hOp.below hBW (Nat.le_refl _))).below hb6 (Nat.le_refl _)) (by have := hBw.size; omega) ((hb6.block D (Array.getElem?_eq_some_iff.1 hKD).1).trans hKD) (fun hm => ?_)
          have h1 := (hOp.2 D hm).2
          have h2 := (Array.getElem?_eq_some_iff.1 h1).1
          omega
        clear hren hb6 hbW hbW6 d0 hrW hI hBW hbrW
        have hd1 : ((pos r.right : Int) == 0) = renB r := by
          cases hq : renB r with
          | true => rw [f1.2 hq]; rfl
          | false =>
            rw [beq_eq_false_iff_ne]
            intro h
            have : renB r = true := f1.1 (by omega)
            rw [hq] at this
            cases this
        have hd2 : decide ((pos r.right : Int) + 1 < (r.right.length : Int) - (pos r.right : Int)) = false := decide_eq_false (by omega)
        gi_wp2_with fail
        gi_quiet_th (fail)
        have p0' : (w6.drewN nq).cell? ⟨wr.heap.size, 0, none⟩ = some (.int .i64 (pos r.right : Int)) := p0
        have hO9 : OpenAt (w6.drewN nq) w.heap.size (D :: Ds) := hOf
        have hB9 : Below w4.heap.size w4 (w6.drewN nq) := bdrew hBf nq
        generalize w6.drewN nq = w9 at *
        clear p0 c3 d1 hOf hBf
        cases hq : renB r with
        | true =>
          rw [hq] at hd1
          gi_wp2
          exact ⟨FormI.mk (k + 1) (D :: Ds) rfl rfl (show Value.int .i64 ((k : Int) + 1) = _ by go_num) rfl (by omega) hO9 hB9, by show _ - (intOf (Value.int .i64 ((k : Int) + 1))).toNat < _ - (intOf (Value.int .i64 (k : Int))).toNat; simp [intOf]; omega⟩
        | false =>
          rw [hq] at hd1
          gi_wp2
          exact ⟨FormI.mk (k + 1) (D :: Ds) rfl rfl (show Value.int .i64 ((k : Int) + 1) = _ by go_num) rfl (by omega) hO9 hB9, by show _ - (intOf (Value.int .i64 ((k : Int) + 1))).toNat < _ - (intOf (Value.int .i64 (k : Int))).toNat; simp [intOf]; omega⟩
      · obtain rfl : k = g.rs.length := by omega
        have hnl : ¬ (g.rs.length : Int) < (g.rs.length : Int) := by omega
        gi_wp2_with fail
        exact leaves_marks Ds wr hOp (fun W' hW' => ⟨_, results_tmp rfl _ _ _, rfl, hBw.trans hW'⟩)
    · rw [h1] at hv1
      have e2 : fG g = ((i : Int), x) :: rest := h2
      rw [e2] at ho5
      obtain ⟨gl, cl, rfl⟩ := ownsRow_succ (k := rest.length) ho5
      have hcl := ho5.cellAt 0 (by simp)
      have hcl0 : w4.cell? ⟨gl, 0, none⟩ = some (.int .i64 (i : Int)) := hcl
      obtain ⟨t, u, rfl⟩ := ckv_nz hv1 (by simp)
      have hE5 := hE.below hB5 (Nat.le_refl _)
      have hT5 := hT.below hB5 (Nat.le_refl _)
      have hlz : (((((i : Int), x) :: rest).length : Int) == 0) = false := by rw [beq_eq_false_iff_ne, List.length_cons]; omega
      have hlp : (0 : Int) < ((((i : Int), x) :: rest).length : Int) := by rw [List.length_cons]; omega
      have kK : ∀ d os, CallsIn Fence.wide 5 Tryd.prog 13 #[.iface t u] (Go.Sort.grow (redrawn w4 d) os) fun e w'' => e = .returned (.int .i64 4) ∧ ∃ p : Regrown, w'' = Go.Sort.grow (redrawn w4 p.d) p.os := fun d os => CallsIn.regrown_of (callsIn_wide.2 (kind_ck _ p (4, some i) _ (.iface t u) (hE5.below (below_regrown w4 d os) (Nat.le_refl _)) (by show 4 ≤ 15; omega) (hv1.below (below_regrown w4 d os) (Nat.le_refl _))))
      have kR : ∀ d os, CallsIn Fence.wide 5 Tryd.prog 14 #[.iface t u] (Go.Sort.grow (redrawn w4 d) os) fun e w'' => e = .returned (.int .i64 (i : Int)) ∧ ∃ p : Regrown, w'' = Go.Sort.grow (redrawn w4 p.d) p.os := fun d os => CallsIn.regrown_of (callsIn_wide.2 (rule_ck _ p (4, some i) _ (.iface t u) (hT5.below (below_regrown w4 d os) (Nat.le_refl _)) (hv1.below (below_regrown w4 d os) (Nat.le_refl _))))
      have kc := cell_regrown hcl0
      clear hcl hcl0 ho5 hv1 hE5 hT5 h1 h2 e2 hop
      generalize (((i : Int), x) :: rest).length = nl at *
      gi_wp2_with fail
      refine wpIn_region_quiet_below rfl (by kernel_rfl) (by kernel_rfl) ?_
      repeat (
        refine wpQuietIn_step (by first | (go_simp; done) | (intro _ _ _ _; trivial)) (fun K hK => ?_)
        go_simp
        first
          | (refine hK _ ?_; clear hK K)
          | (apply Exists.intro
             refine ⟨fun _ => ?_, hK _ ?_⟩
             (first | exact ⟨trivial, kK _ _⟩ | exact ⟨trivial, kR _ _⟩ | exact kK _ _ | exact kR _ _)
             clear hK K))
      refine wpQuietIn_nil ?_
      intro _ hw'
      obtain ⟨⟨dq, osq⟩, hw''⟩ := hw'
      subst hw''
      gi_wp2
      exact ⟨_, results_tmp rfl _ _ _, rfl, hB5.trans ((below_regrown w4 dq osq).mono hB5.size)⟩
  · obtain ⟨t, u, rfl⟩ := ckv_nz hv2 hc
    have hop : opG g = checkG g := by unfold opG; rw [if_neg hc]
    rw [hop] at hv1
    obtain ⟨t1, u1, rfl⟩ := ckv_nz hv1 hc
    have hle := checkG_le g
    clear ho3
    gi_wp2_with fail
    refine ⟨trivial, ?_⟩
    gi_wp2_with fail
    refine ⟨trivial, (callsIn_wide.2 haw).mono ?_⟩
    rintro e w4 ⟨rfl, hb4⟩
    have hE5 := hE4.below hb4 (Nat.le_refl _)
    have hT5 := hT4.below hb4 (Nat.le_refl _)
    have hk1 := kind_ck _ p (checkG g) w4 (.iface t1 u1) hE5 hle (hv1.below hb4 (Nat.le_refl _))
    clear haw
    gi_wp2_with fail
    refine ⟨trivial, (callsIn_wide.2 hk1).mono ?_⟩
    rintro e w5 ⟨rfl, hb5⟩
    have hb45 := hb4.trans (hb5.mono hb4.size)
    have hk2 := kind_ck _ p (checkG g) w5 (.iface t u) (hE4.below hb45 (Nat.le_refl _)) hle (hv2.below hb45 (Nat.le_refl _))
    clear hk1
    gi_wp2_with fail
    refine ⟨trivial, (callsIn_wide.2 hk2).mono ?_⟩
    rintro e w6 ⟨rfl, hb6⟩
    have hb46 := hb45.trans (hb6.mono hb45.size)
    have hk3 := rule_ck _ p (checkG g) w6 (.iface t1 u1) (hT4.below hb46 (Nat.le_refl _)) (hv1.below hb46 (Nat.le_refl _))
    clear hk2
    gi_wp2_with fail
    refine ⟨trivial, (callsIn_wide.2 hk3).mono ?_⟩
    rintro e w7 ⟨rfl, hb7⟩
    have hb47 := hb46.trans (hb7.mono hb46.size)
    have hk4 := rule_ck _ p (checkG g) w7 (.iface t u) (hT4.below hb47 (Nat.le_refl _)) (hv2.below hb47 (Nat.le_refl _))
    clear hk3
    gi_wp2_with fail
    refine ⟨trivial, (callsIn_wide.2 hk4).mono ?_⟩
    rintro e w8 ⟨rfl, hb8⟩
    have hB9 := hB4.trans ((hb47.trans (hb8.mono hb47.size)).mono hs4)
    clear hk4
    gi_wp2
    exact ⟨_, results_tmp rfl _ _ _, rfl, hB9⟩

end Go.Proofs.YtkjmmoiickambaaDoor.OpForm
