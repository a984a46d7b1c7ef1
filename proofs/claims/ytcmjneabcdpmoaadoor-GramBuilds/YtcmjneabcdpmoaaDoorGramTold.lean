/-
  told: a Builder of the program and one of the document tell the same grammar, or the same fault.
-/
import Derived.Test.YtcmjneabcdpmoaaDoorGramOwnS
import Derived.Test.YtcmjneabcdpmoaaDoorSpecAll3
import Derived.Test.YtcmjneabcdpmoaaDoorSpecAllN
import Derived.Test.YtcmjneabcdpmoaaDoorGramKinds
import Derived.Test.YtcmjneabcdpmoaaDoorGramEq2
import Derived.Test.YtcmjneabcdpmoaaDoorGramErrs
namespace Go.Proofs.YtcmjneabcdpmoaaDoor.GramRoll
open Go.RowKit Go.Maps Go.WideMaps Go.Proofs.YtcmjneabcdpmoaaDoor.GramLess Go.Proofs.YtcmjneabcdpmoaaDoor.GramMath Go.Proofs.YtcmjneabcdpmoaaDoor.GramRow Go.Proofs.YtcmjneabcdpmoaaDoor.GramOne Go.Proofs.YtcmjneabcdpmoaaDoor.GramApart Go.Proofs.YtcmjneabcdpmoaaDoor.GramCopy Go.Proofs.YtcmjneabcdpmoaaDoor.GramName Go.Proofs.YtcmjneabcdpmoaaDoor.GramRef Go.Proofs.YtcmjneabcdpmoaaDoor.GramAll Go.Proofs.YtcmjneabcdpmoaaDoor.GramErrs
set_option linter.unusedVariables false
set_option linter.unusedSimpArgs false

/-- A grammar that Grammar answers: a copy of its own, or nothing. -/
def GA (good : Prop) (w : World) (B E : Nat) (ta na ra : Option Addr) (tc nc rc : Nat) (g : G) : Prop :=
  (good ∧ ∃ b1 b2 b3 bs, ta = some ⟨b1, 0, none⟩ ∧ na = some ⟨b2, 0, none⟩ ∧ ra = some ⟨b3, 0, none⟩ ∧ tc = g.ts.length ∧ nc = g.ns.length ∧ rc = g.rs.length ∧ CopyAt w B b1 b2 b3 bs g ∧ b2 < E ∧ ∀ x ∈ bs, x < E)
  ∨ (¬ good ∧ ta = none ∧ na = none ∧ ra = none ∧ tc = 0 ∧ nc = 0 ∧ rc = 0 ∧ g = emptyG)
theorem GA.below {good : Prop} {w w' : World} {B E : Nat} {ta na ra : Option Addr} {tc nc rc : Nat} {g : G} (h : GA good w B E ta na ra tc nc rc g) (hb : Below w.heap.size w w') : GA good w' B E ta na ra tc nc rc g := by
  rcases h with ⟨h0, b1, b2, b3, bs, h1, h2, h3, h4, h5, h6, h7, h8⟩ | h
  · exact .inl ⟨h0, b1, b2, b3, bs, h1, h2, h3, h4, h5, h6, h7.below hb (Nat.le_refl _), h8⟩
  · exact .inr h
theorem GA.up {good : Prop} {w : World} {B E E' : Nat} {ta na ra : Option Addr} {tc nc rc : Nat} {g : G} (h : GA good w B E ta na ra tc nc rc g) (hE : E ≤ E') : GA good w B E' ta na ra tc nc rc g := by
  rcases h with ⟨h0, b1, b2, b3, bs, h1, h2, h3, h4, h5, h6, h7, h8, h9⟩ | h
  · exact .inl ⟨h0, b1, b2, b3, bs, h1, h2, h3, h4, h5, h6, h7, Nat.lt_of_lt_of_le h8 hE, fun x hx => Nat.lt_of_lt_of_le (h9 x hx) hE⟩
  · exact .inr h
theorem empty_row (w : World) : GRow w none none none emptyG := ⟨fun i x hx => by simp [emptyG] at hx, fun i x hx => by simp [emptyG] at hx, fun i x hx => by simp [emptyG] at hx⟩
theorem GA.row {good : Prop} {w : World} {B E : Nat} {ta na ra : Option Addr} {tc nc rc : Nat} {g : G} (h : GA good w B E ta na ra tc nc rc g) : GRow w ta na ra g := by
  rcases h with ⟨h0, b1, b2, b3, bs, rfl, rfl, rfl, h4, h5, h6, h7, h8⟩ | ⟨_, rfl, rfl, rfl, _, _, _, rfl⟩
  · exact h7.row
  · exact empty_row w
/-- The grammar that is told. -/
def gT (og : Option G) : G := if (wantZ og).1 = 0 then og.getD emptyG else emptyG
theorem gra_ga {p : Nat → Addr} {B : Nat} {og : Option G} {e : Ending} {w : World} (h : GrA p B og e w) :
    ∃ (ta na ra : Option Addr) (tc nc rc : Nat) (v : Value), e = .returned (.tuple #[.agg #[.slice ta (gT og).ts.length tc, .slice na (gT og).ns.length nc, .int .i64 (gT og).ax, .slice ra (gT og).rs.length rc], v]) ∧ GA ((wantZ og).1 = 0) w B w.heap.size ta na ra tc nc rc (gT og) ∧ CkV B p (wantZ og) w v := by
  rcases h with ⟨h0, g, b1, b2, b3, bs, rfl, he, hc⟩ | ⟨h0, v, he, hv⟩
  · have e : gT (some g) = g := if_pos h0
    rw [e]
    refine ⟨_, _, _, _, _, _, _, he, .inl ⟨h0, b1, b2, b3, bs, rfl, rfl, rfl, rfl, rfl, rfl, hc, hc.ns.lt, hc.rs.hi⟩, ?_⟩
    match hq : wantZ (some g), h0 with
    | (0, _), _ => rfl
    | (k + 1, _), h0 => simp at h0
  · have e : gT og = emptyG := if_neg h0
    rw [e]
    exact ⟨none, none, none, 0, 0, 0, v, he, .inr ⟨h0, rfl, rfl, rfl, rfl, rfl, rfl, rfl⟩, hv⟩
theorem ru_z (z : Nat × Option Nat) (h : z.1 = 0 → z.2 = none) : ruI z.2 = ruleZ z := by
  match z, h with
  | (0, o), h => rw [show o = none from h rfl]; rfl
  | (k + 1, none), _ => rfl
  | (k + 1, some i), _ => rfl
theorem rgr_form {og : Option G} {e : Ending} {w : World} (h : RGr og e w) :
    ∃ (ta na ra : Option Addr) (tc nc rc : Nat), e = .returned (.tuple #[.agg #[.slice ta (gT og).ts.length tc, .slice na (gT og).ns.length nc, .int .i64 (gT og).ax, .slice ra (gT og).rs.length rc], .int .i64 ((wantZ og).1 : Int), .int .i64 (ruleZ (wantZ og))]) ∧ GRow w ta na ra (gT og) := by
  obtain ⟨g, ta, tc, na, nc, ra, rc, he, hG, h9⟩ := h
  have hr : ruI (wantZ og).2 = ruleZ (wantZ og) := ru_z _ (fun h0 => by
    cases og with
    | none => cases h0
    | some g9 =>
      have h1 : (checkG g9).1 = 0 := h0
      exact ck_zero (g := g9) (o := (checkG g9).2) (by rw [← h1]))
  have e : gT og = g := by
    rcases h9 with ⟨h0, rfl⟩ | ⟨h0, rfl⟩
    · exact if_pos h0
    · exact if_neg h0
  rw [e]
  rw [hr] at he
  exact ⟨ta, na, ra, tc, nc, rc, he, hG⟩
theorem grammars_two {good : Prop} {B M N L c : Nat} {ta na ra tb nb rb : Option Addr} {tc nc rc td nd rd : Nat} {g : G} (w : World) (h1 : GA good w B M ta na ra tc nc rc g) (h2 : GA good w M N tb nb rb td nd rd g)
    (hL : RowAt w L 35 #[.slice ta g.ts.length tc, .slice na g.ns.length nc, .int .i64 g.ax, .slice ra g.rs.length rc, .slice tb g.ts.length td, .slice nb g.ns.length nd, .int .i64 g.ax, .slice rb g.rs.length rd])
    (hBM : B ≤ M) (hMN : M ≤ N) (hN : N ≤ w.heap.size) (hs : good → g.ts.length ≤ 60 ∧ g.ns.length ≤ 60 ∧ g.rs.length ≤ 120) (hr : ∀ r ∈ g.rs, r.right.length ≤ 4194304) :
    Calls Tryd.prog 25 #[.slice (some ⟨L, 0, none⟩) 2 c] w fun e w' => e = .returned (.bool true) ∧ But (fun b => B ≤ b ∧ b < N) w w' := by
  have x0 := hL.cell (q := 0) rfl
  have x1 := hL.cell (q := 1) rfl
  have x3 := hL.cell (q := 3) rfl
  have x4 := hL.cell (q := 4) rfl
  have x5 := hL.cell (q := 5) rfl
  have x7 := hL.cell (q := 7) rfl
  rcases h1 with ⟨h0, b1, b2, b3, bs, rfl, rfl, rfl, rfl, rfl, rfl, hcp, hb, hbs⟩ | ⟨hn, rfl, rfl, rfl, rfl, rfl, rfl, rfl⟩
  · rcases h2 with ⟨_, d1, d2, d3, ds, rfl, rfl, rfl, rfl, rfl, rfl, hcp2, hd, hds⟩ | ⟨hn, _⟩
    · obtain ⟨s1, s2, s3⟩ := hs h0
      have hT : Two w B M L (fun i => match i with | 0 => b1 | _ => d1) (fun i => match i with | 0 => b2 | _ => d2) (fun i => match i with | 0 => b3 | _ => d3) (fun i => match i with | 0 => bs | _ => ds) g := by
        refine ⟨hcp, hcp2, hb, hbs, hBM, ?_⟩
        intro i hi
        match i, hi with
        | 0, _ => exact ⟨x0, x1, x3⟩
        | 1, _ => exact ⟨x4, x5, x7⟩
      exact (grammars_but B M L c N _ _ _ _ g w hT (by omega) (by omega) (by omega) hr hd hds hMN).mono fun e w' h => ⟨h.1, h.2.2⟩
    · exact absurd h0 hn
  · rcases h2 with ⟨h0, _⟩ | ⟨_, rfl, rfl, rfl, rfl, rfl, rfl, _⟩
    · exact absurd h0 hn
    · refine (grammars_nils L c w ?_).mono fun e w' h => ⟨h.1, But.of h.2⟩
      intro i hi
      match i, hi with
      | 0, _ => exact ⟨x0, x1, x3⟩
      | 1, _ => exact ⟨x4, x5, x7⟩
/-- Sizes within which all is reckoned. -/
def Sz (g : G) : Prop := okG g ∧ g.ts.length ≤ 2199023255552 ∧ g.ns.length ≤ 2199023255552 ∧ g.rs.length ≤ 2199023255552 ∧ ∀ r ∈ g.rs, r.right.length * 8 ≤ 140737488351232
theorem gT_fits {og : Option G} (h : ∀ g, og = some g → Sz g) : okG (gT og) ∧ (∀ r ∈ (gT og).rs, r.right.length ≤ 4194304) ∧ ((wantZ og).1 = 0 → (gT og).ts.length ≤ 60 ∧ (gT og).ns.length ≤ 60 ∧ (gT og).rs.length ≤ 120) := by
  have he : okG emptyG := ⟨by simp [emptyG], by simp [emptyG], by simp [emptyG], ⟨by simp [emptyG], by simp [emptyG]⟩, fun r hr => by simp [emptyG] at hr, fun r hr => by simp [emptyG] at hr, fun r hr => by simp [emptyG] at hr⟩
  by_cases h0 : (wantZ og).1 = 0
  · cases og with
    | none => cases h0
    | some g =>
      have e : gT (some g) = g := if_pos h0
      rw [e]
      obtain ⟨h1, h2, h3, h4, h5⟩ := h g rfl
      have hc : (checkG g).1 = 0 := h0
      refine ⟨h1, fun r hr => ?_, fun _ => ?_⟩
      · have := (ruleK_ok ((good_of hc).okRs.2 r hr)).1
        omega
      by_cases hq : 60 < g.ts.length + g.ns.length ∨ 120 < g.rs.length
      · unfold checkG at hc
        rw [if_pos hq] at hc
        cases hc
      · omega
  · have e : gT og = emptyG := if_neg h0
    rw [e]
    exact ⟨he, fun r hr => (by simp [emptyG] at hr), fun h9 => absurd h9 h0⟩
theorem check_le9 (g : G) : (checkG g).1 ≤ 15 := by
  unfold checkG
  split
  · decide
  · split
    · decide
    · split
      · decide
      · have : ∀ (l : List R) (i : Nat), (rulesK g.ts.length g.ns.length l i).1 ≤ 15 := by
          intro l
          induction l with
          | nil => intro i; exact Nat.zero_le _
          | cons r l ih =>
            intro i
            unfold rulesK
            split
            · exact ih _
            · rcases ruleK_cases g.ts.length g.ns.length r with h | h | h <;> rw [h] <;> simp
        exact this _ _
theorem want_le (og : Option G) : (wantZ og).1 ≤ 15 := by
  cases og with
  | none => decide
  | some g => exact check_le9 g
theorem PO.below {O : Nat → Prop} {w w' : World} {v : Value} {og : Option G} (h : PO w v og O) (hb : Below w.heap.size w w') : PO w' v og O := h.but (But.of (S := fun _ => False) hb) (fun k _ h => h)
theorem RO.below {O : Nat → Prop} {w w' : World} {v : Value} {og : Option G} (h : RO w v og O) (hb : Below w.heap.size w w') : RO w' v og O := h.but (But.of (S := fun _ => False) hb) (fun k _ h => h)

set_option maxRecDepth 100000 in
set_option maxHeartbeats 16000000 in
theorem told_any {w : World} {vP vR : Value} {og : Option G} {O O' : Nat → Prop} (p : Nat → Addr) (hP : PO w vP og O) (hR : RO w vR og O') (hE : Errs w p) (hT : ErrType w) (hsz : ∀ g, og = some g → Sz g) :
    Calls Tryd.prog 15 #[vP, vR] w fun e w' => e = .returned (.bool true) ∧ Below w.heap.size w w' := by
  obtain ⟨hok, hrr, hsm⟩ := gT_fits hsz
  have hle := want_le og
  have hpo : ∀ g, og = some g → okG g ∧ g.ts.length * 16 ≤ 140737488351232 ∧ g.ns.length * 16 ≤ 140737488351232 ∧ g.rs.length * 32 ≤ 140737488351232 ∧ ∀ r ∈ g.rs, r.right.length * 8 ≤ 140737488351232 := fun g hg => by
    obtain ⟨h1, h2, h3, h4, h5⟩ := hsz g hg
    exact ⟨h1, by omega, by omega, by omega, fun r hr => by have := h5 r hr; omega⟩
  have hro : ∀ g, og = some g → okG g := fun g hg => (hsz g hg).1
  have eqg := GramSame.eqG_refl (gT og)
  obtain ⟨g, hg⟩ : ∃ g, gT og = g := ⟨_, rfl⟩
  obtain ⟨kz, hkz⟩ : ∃ kz, ((wantZ og).1 : Int) = kz := ⟨_, rfl⟩
  obtain ⟨rz, hrz⟩ : ∃ rz, ruleZ (wantZ og) = rz := ⟨_, rfl⟩
  have HZ : Hid (gT og = g ∧ ((wantZ og).1 : Int) = kz ∧ ruleZ (wantZ og) = rz) := ⟨hg, hkz, hrz⟩
  rw [hg] at hok hrr hsm eqg
  clear hg hkz hrz
  have hB : Below w.heap.size w w := Below.refl _ _
  have hP0 := hP
  have hR0 := hR
  have hE0 := hE
  have hT0 := hT
  go_enter Tryd.func15, Tryd.ntmps15
  go_wp2_with fail
  refine (ro_grammar hR hro).mono ?_
  rintro e w1 ⟨hr, hb⟩
  replace hP := hP.below hb
  replace hR := hR.below hb
  replace hE := hE.below hb (Nat.le_refl _)
  replace hT := hT.below hb (Nat.le_refl _)
  replace hB := hB.trans (hb.mono hB.size)
  obtain ⟨tw, nw, rw0, tcw, ncw, rcw, he, GW⟩ := rgr_form hr
  rw [HZ.out.1, HZ.out.2.1, HZ.out.2.2] at he
  rw [HZ.out.1] at GW
  subst he
  clear hr hb
  obtain ⟨Y1, hY⟩ : ∃ Y1, Y1 = w1.alloc (.cells #[.slice tw g.ts.length tcw, .slice nw g.ns.length ncw, .int .i64 g.ax, .slice rw0 g.rs.length rcw] 35) := ⟨_, rfl⟩
  have HY1 : Hid (_) := hY
  have hb : Below w1.heap.size w1 Y1 := by rw [hY]; exact (Below.refl _ _).alloc (Nat.le_refl _) _
  have RB1 : RowAt Y1 w1.heap.size 35 #[.slice tw g.ts.length tcw, .slice nw g.ns.length ncw, .int .i64 g.ax, .slice rw0 g.rs.length rcw] := by rw [hY]; exact World.alloc_heap_new w1 _
  have hbs1 := hb.size
  replace hP := hP.below hb
  replace hR := hR.below hb
  replace hE := hE.below hb (Nat.le_refl _)
  replace hT := hT.below hb (Nat.le_refl _)
  replace GW := GW.below hb (Nat.le_refl _)
  replace hB := hB.trans (hb.mono hB.size)
  clear hb hY
  have hs0Y := hB.size
  have GW1 := GW
  have RB1y := RB1
  have hB1 := Below.refl Y1.heap.size Y1
  go_wp2_with (rw [← HY1.out])
  refine (po_grammar p hP hE.sents hpo).mono ?_
  rintro e w2 ⟨hr, hb⟩
  replace hP := hP.below hb
  replace hR := hR.below hb
  replace hE := hE.below hb (Nat.le_refl _)
  replace hT := hT.below hb (Nat.le_refl _)
  replace GW := GW.below hb (Nat.le_refl _)
  replace RB1 := RB1.below hb RB1.lt
  replace hB1 := hB1.trans (hb.mono hB1.size)
  replace hB := hB.trans (hb.mono hB.size)
  obtain ⟨ta, na, ra, tc, nc, rc, v1, he, G1, V1⟩ := gra_ga hr
  rw [HZ.out.1] at he G1
  subst he
  clear hr hb
  obtain ⟨Y2, hY⟩ : ∃ Y2, Y2 = w2.alloc (.cells #[.slice ta g.ts.length tc, .slice na g.ns.length nc, .int .i64 g.ax, .slice ra g.rs.length rc] 35) := ⟨_, rfl⟩
  have HY2 : Hid (_) := hY
  have hb : Below w2.heap.size w2 Y2 := by rw [hY]; exact (Below.refl _ _).alloc (Nat.le_refl _) _
  have RB2 : RowAt Y2 w2.heap.size 35 #[.slice ta g.ts.length tc, .slice na g.ns.length nc, .int .i64 g.ax, .slice ra g.rs.length rc] := by rw [hY]; exact World.alloc_heap_new w2 _
  have hbs2 := hb.size
  replace hP := hP.below hb
  replace hR := hR.below hb
  replace hE := hE.below hb (Nat.le_refl _)
  replace hT := hT.below hb (Nat.le_refl _)
  replace GW := GW.below hb (Nat.le_refl _)
  replace RB1 := RB1.below hb RB1.lt
  replace hB1 := hB1.trans (hb.mono hB1.size)
  replace G1 := G1.below hb
  replace V1 := V1.below hb (Nat.le_refl _)
  replace hB := hB.trans (hb.mono hB.size)
  clear hb hY
  replace G1 := G1.up hbs2
  have hsY2 := hB1.size
  have hB2 := Below.refl Y2.heap.size Y2
  go_wp2_with (rw [← HY2.out])
  refine (po_grammar p hP hE.sents hpo).mono ?_
  rintro e w3 ⟨hr, hb⟩
  replace hP := hP.below hb
  replace hR := hR.below hb
  replace hE := hE.below hb (Nat.le_refl _)
  replace hT := hT.below hb (Nat.le_refl _)
  replace GW := GW.below hb (Nat.le_refl _)
  replace RB1 := RB1.below hb RB1.lt
  replace hB1 := hB1.trans (hb.mono hB1.size)
  replace G1 := G1.below hb
  replace V1 := V1.below hb (Nat.le_refl _)
  replace RB2 := RB2.below hb RB2.lt
  replace hB2 := hB2.trans (hb.mono hB2.size)
  replace hB := hB.trans (hb.mono hB.size)
  obtain ⟨tb, nb, rb, td, nd, rd, v2, he, G2, V2⟩ := gra_ga hr
  rw [HZ.out.1] at he G2
  subst he
  clear hr hb
  obtain ⟨Y3, hY⟩ : ∃ Y3, Y3 = w3.alloc (.cells #[.slice tb g.ts.length td, .slice nb g.ns.length nd, .int .i64 g.ax, .slice rb g.rs.length rd] 35) := ⟨_, rfl⟩
  have HY3 : Hid (_) := hY
  have hb : Below w3.heap.size w3 Y3 := by rw [hY]; exact (Below.refl _ _).alloc (Nat.le_refl _) _
  have RB3 : RowAt Y3 w3.heap.size 35 #[.slice tb g.ts.length td, .slice nb g.ns.length nd, .int .i64 g.ax, .slice rb g.rs.length rd] := by rw [hY]; exact World.alloc_heap_new w3 _
  have hbs3 := hb.size
  replace hP := hP.below hb
  replace hR := hR.below hb
  replace hE := hE.below hb (Nat.le_refl _)
  replace hT := hT.below hb (Nat.le_refl _)
  replace GW := GW.below hb (Nat.le_refl _)
  replace RB1 := RB1.below hb RB1.lt
  replace hB1 := hB1.trans (hb.mono hB1.size)
  replace G1 := G1.below hb
  replace V1 := V1.below hb (Nat.le_refl _)
  replace RB2 := RB2.below hb RB2.lt
  replace hB2 := hB2.trans (hb.mono hB2.size)
  replace G2 := G2.below hb
  replace V2 := V2.below hb (Nat.le_refl _)
  replace hB := hB.trans (hb.mono hB.size)
  clear hb hY
  replace G2 := G2.up hbs3
  have hsY3 := hB2.size
  have hB3 := Below.refl Y3.heap.size Y3
  have hc := kind_ck _ p (wantZ og) _ _ hE hle V1
  try rw [HZ.out.2.1] at hc
  try rw [HZ.out.2.2] at hc
  try rw [eqg] at hc
  have c10 := RB1.cell (q := 0) rfl
  have c11 := RB1.cell (q := 1) rfl
  have c12 := RB1.cell (q := 2) rfl
  have c13 := RB1.cell (q := 3) rfl
  have c20 := RB2.cell (q := 0) rfl
  have c21 := RB2.cell (q := 1) rfl
  have c22 := RB2.cell (q := 2) rfl
  have c23 := RB2.cell (q := 3) rfl
  have c30 := RB3.cell (q := 0) rfl
  have c31 := RB3.cell (q := 1) rfl
  have c32 := RB3.cell (q := 2) rfl
  have c33 := RB3.cell (q := 3) rfl
  go_wp2_with (rw [← HY3.out])
  clear c10 c11 c12 c13 c20 c21 c22 c23 c30 c31 c32 c33
  refine hc.mono ?_
  rintro e w4 ⟨rfl, hb⟩
  clear hc
  replace hP := hP.below hb
  replace hR := hR.below hb
  replace hE := hE.below hb (Nat.le_refl _)
  replace hT := hT.below hb (Nat.le_refl _)
  replace GW := GW.below hb (Nat.le_refl _)
  replace RB1 := RB1.below hb RB1.lt
  replace hB1 := hB1.trans (hb.mono hB1.size)
  replace G1 := G1.below hb
  replace V1 := V1.below hb (Nat.le_refl _)
  replace RB2 := RB2.below hb RB2.lt
  replace hB2 := hB2.trans (hb.mono hB2.size)
  replace G2 := G2.below hb
  replace V2 := V2.below hb (Nat.le_refl _)
  replace RB3 := RB3.below hb RB3.lt
  replace hB3 := hB3.trans (hb.mono hB3.size)
  replace hB := hB.trans (hb.mono hB.size)
  clear hb
  have hc := rule_ck _ p (wantZ og) _ _ hT V1
  try rw [HZ.out.2.1] at hc
  try rw [HZ.out.2.2] at hc
  try rw [eqg] at hc
  have c10 := RB1.cell (q := 0) rfl
  have c11 := RB1.cell (q := 1) rfl
  have c12 := RB1.cell (q := 2) rfl
  have c13 := RB1.cell (q := 3) rfl
  have c20 := RB2.cell (q := 0) rfl
  have c21 := RB2.cell (q := 1) rfl
  have c22 := RB2.cell (q := 2) rfl
  have c23 := RB2.cell (q := 3) rfl
  have c30 := RB3.cell (q := 0) rfl
  have c31 := RB3.cell (q := 1) rfl
  have c32 := RB3.cell (q := 2) rfl
  have c33 := RB3.cell (q := 3) rfl
  go_wp2_with fail
  clear c10 c11 c12 c13 c20 c21 c22 c23 c30 c31 c32 c33
  refine hc.mono ?_
  rintro e w5 ⟨rfl, hb⟩
  clear hc
  replace hP := hP.below hb
  replace hR := hR.below hb
  replace hE := hE.below hb (Nat.le_refl _)
  replace hT := hT.below hb (Nat.le_refl _)
  replace GW := GW.below hb (Nat.le_refl _)
  replace RB1 := RB1.below hb RB1.lt
  replace hB1 := hB1.trans (hb.mono hB1.size)
  replace G1 := G1.below hb
  replace V1 := V1.below hb (Nat.le_refl _)
  replace RB2 := RB2.below hb RB2.lt
  replace hB2 := hB2.trans (hb.mono hB2.size)
  replace G2 := G2.below hb
  replace V2 := V2.below hb (Nat.le_refl _)
  replace RB3 := RB3.below hb RB3.lt
  replace hB3 := hB3.trans (hb.mono hB3.size)
  replace hB := hB.trans (hb.mono hB.size)
  clear hb
  have hc := kind_ck _ p (wantZ og) _ _ hE hle V2
  try rw [HZ.out.2.1] at hc
  try rw [HZ.out.2.2] at hc
  try rw [eqg] at hc
  have c10 := RB1.cell (q := 0) rfl
  have c11 := RB1.cell (q := 1) rfl
  have c12 := RB1.cell (q := 2) rfl
  have c13 := RB1.cell (q := 3) rfl
  have c20 := RB2.cell (q := 0) rfl
  have c21 := RB2.cell (q := 1) rfl
  have c22 := RB2.cell (q := 2) rfl
  have c23 := RB2.cell (q := 3) rfl
  have c30 := RB3.cell (q := 0) rfl
  have c31 := RB3.cell (q := 1) rfl
  have c32 := RB3.cell (q := 2) rfl
  have c33 := RB3.cell (q := 3) rfl
  go_wp2_with fail
  clear c10 c11 c12 c13 c20 c21 c22 c23 c30 c31 c32 c33
  refine hc.mono ?_
  rintro e w6 ⟨rfl, hb⟩
  clear hc
  replace hP := hP.below hb
  replace hR := hR.below hb
  replace hE := hE.below hb (Nat.le_refl _)
  replace hT := hT.below hb (Nat.le_refl _)
  replace GW := GW.below hb (Nat.le_refl _)
  replace RB1 := RB1.below hb RB1.lt
  replace hB1 := hB1.trans (hb.mono hB1.size)
  replace G1 := G1.below hb
  replace V1 := V1.below hb (Nat.le_refl _)
  replace RB2 := RB2.below hb RB2.lt
  replace hB2 := hB2.trans (hb.mono hB2.size)
  replace G2 := G2.below hb
  replace V2 := V2.below hb (Nat.le_refl _)
  replace RB3 := RB3.below hb RB3.lt
  replace hB3 := hB3.trans (hb.mono hB3.size)
  replace hB := hB.trans (hb.mono hB.size)
  clear hb
  have hc := GramSame.grammar_any ta na ra tw nw rw0 tc nc rc tcw ncw rcw g g _ G1.row GW hok hok
  try rw [HZ.out.2.1] at hc
  try rw [HZ.out.2.2] at hc
  try rw [eqg] at hc
  have c10 := RB1.cell (q := 0) rfl
  have c11 := RB1.cell (q := 1) rfl
  have c12 := RB1.cell (q := 2) rfl
  have c13 := RB1.cell (q := 3) rfl
  have c20 := RB2.cell (q := 0) rfl
  have c21 := RB2.cell (q := 1) rfl
  have c22 := RB2.cell (q := 2) rfl
  have c23 := RB2.cell (q := 3) rfl
  have c30 := RB3.cell (q := 0) rfl
  have c31 := RB3.cell (q := 1) rfl
  have c32 := RB3.cell (q := 2) rfl
  have c33 := RB3.cell (q := 3) rfl
  go_wp2_with fail
  clear c10 c11 c12 c13 c20 c21 c22 c23 c30 c31 c32 c33
  refine hc.mono ?_
  rintro e w7 ⟨rfl, hb⟩
  clear hc
  replace hP := hP.below hb
  replace hR := hR.below hb
  replace hE := hE.below hb (Nat.le_refl _)
  replace hT := hT.below hb (Nat.le_refl _)
  replace GW := GW.below hb (Nat.le_refl _)
  replace RB1 := RB1.below hb RB1.lt
  replace hB1 := hB1.trans (hb.mono hB1.size)
  replace G1 := G1.below hb
  replace V1 := V1.below hb (Nat.le_refl _)
  replace RB2 := RB2.below hb RB2.lt
  replace hB2 := hB2.trans (hb.mono hB2.size)
  replace G2 := G2.below hb
  replace V2 := V2.below hb (Nat.le_refl _)
  replace RB3 := RB3.below hb RB3.lt
  replace hB3 := hB3.trans (hb.mono hB3.size)
  replace hB := hB.trans (hb.mono hB.size)
  clear hb
  have hc := GramSame.grammar_any tb nb rb tw nw rw0 td nd rd tcw ncw rcw g g _ G2.row GW hok hok
  try rw [HZ.out.2.1] at hc
  try rw [HZ.out.2.2] at hc
  try rw [eqg] at hc
  have c10 := RB1.cell (q := 0) rfl
  have c11 := RB1.cell (q := 1) rfl
  have c12 := RB1.cell (q := 2) rfl
  have c13 := RB1.cell (q := 3) rfl
  have c20 := RB2.cell (q := 0) rfl
  have c21 := RB2.cell (q := 1) rfl
  have c22 := RB2.cell (q := 2) rfl
  have c23 := RB2.cell (q := 3) rfl
  have c30 := RB3.cell (q := 0) rfl
  have c31 := RB3.cell (q := 1) rfl
  have c32 := RB3.cell (q := 2) rfl
  have c33 := RB3.cell (q := 3) rfl
  go_wp2_with fail
  clear c10 c11 c12 c13 c20 c21 c22 c23 c30 c31 c32 c33
  refine hc.mono ?_
  rintro e w8 ⟨rfl, hb⟩
  clear hc
  replace hP := hP.below hb
  replace hR := hR.below hb
  replace hE := hE.below hb (Nat.le_refl _)
  replace hT := hT.below hb (Nat.le_refl _)
  replace GW := GW.below hb (Nat.le_refl _)
  replace RB1 := RB1.below hb RB1.lt
  replace hB1 := hB1.trans (hb.mono hB1.size)
  replace G1 := G1.below hb
  replace V1 := V1.below hb (Nat.le_refl _)
  replace RB2 := RB2.below hb RB2.lt
  replace hB2 := hB2.trans (hb.mono hB2.size)
  replace G2 := G2.below hb
  replace V2 := V2.below hb (Nat.le_refl _)
  replace RB3 := RB3.below hb RB3.lt
  replace hB3 := hB3.trans (hb.mono hB3.size)
  replace hB := hB.trans (hb.mono hB.size)
  clear hb
  clear V1 V2
  have hs1k := hB1.size
  have hs2k := hB2.size
  have hs3k := hB3.size
  have RB2o := RB2
  have RB3o := RB3
  obtain ⟨W1, hW1⟩ : ∃ W1, W1 = w8.alloc (.cells #[.slice ta g.ts.length tc, .slice na g.ns.length nc, .int .i64 g.ax, .slice ra g.rs.length rc, .slice tb g.ts.length td, .slice nb g.ns.length nd, .int .i64 g.ax, .slice rb g.rs.length rd] 35) := ⟨_, rfl⟩
  have HW1 : Hid (_) := hW1
  have hb : Below w8.heap.size w8 W1 := by rw [hW1]; exact (Below.refl _ _).alloc (Nat.le_refl _) _
  have rL : RowAt W1 w8.heap.size 35 #[.slice ta g.ts.length tc, .slice na g.ns.length nc, .int .i64 g.ax, .slice ra g.rs.length rc, .slice tb g.ts.length td, .slice nb g.ns.length nd, .int .i64 g.ax, .slice rb g.rs.length rd] := by rw [hW1]; exact World.alloc_heap_new w8 _
  have hs4k := hb.size
  replace hP := hP.below hb
  replace hR := hR.below hb
  replace hE := hE.below hb (Nat.le_refl _)
  replace hT := hT.below hb (Nat.le_refl _)
  replace GW := GW.below hb (Nat.le_refl _)
  replace RB1 := RB1.below hb RB1.lt
  replace hB1 := hB1.trans (hb.mono hB1.size)
  replace G1 := G1.below hb
  replace RB2 := RB2.below hb RB2.lt
  replace hB2 := hB2.trans (hb.mono hB2.size)
  replace G2 := G2.below hb
  replace RB3 := RB3.below hb RB3.lt
  replace hB3 := hB3.trans (hb.mono hB3.size)
  replace hB := hB.trans (hb.mono hB.size)
  clear hb hW1
  have hgr := grammars_two (c := 2) W1 G1 G2 rL (by omega) (by omega) (by omega) hsm hrr
  have c20 := RB2o.cell (q := 0) rfl
  have c21 := RB2o.cell (q := 1) rfl
  have c22 := RB2o.cell (q := 2) rfl
  have c23 := RB2o.cell (q := 3) rfl
  have c30 := RB3o.cell (q := 0) rfl
  have c31 := RB3o.cell (q := 1) rfl
  have c32 := RB3o.cell (q := 2) rfl
  have c33 := RB3o.cell (q := 3) rfl
  go_wp2_with (rw [← HW1.out])
  clear c20 c21 c22 c23 c30 c31 c32 c33 RB2o RB3o
  refine hgr.mono ?_
  rintro e W2 ⟨rfl, hu⟩
  have hsu := hu.size
  have hbk : Below Y1.heap.size W1 W2 := hu.below (by omega) (fun k hk => hk.1)
  have hY1 := hB.size
  have hBu := hB1.trans hbk
  have hBw : Below w.heap.size w W2 := hB.trans (hbk.mono (by omega))
  clear hgr hu rL G1 G2 hB2 hB3 RB2 RB3 hP hR hE hT GW hB
  clear RB1 hB1
  have GW2 := GW1.below hBu (Nat.le_refl _)
  have RB9 := RB1y.below hBu RB1y.lt
  clear GW1 RB1y hBu
  go_wp2_with fail
  refine (po_grammar p (hP0.below hBw) (hE0.below hBw (Nat.le_refl _)).sents hpo).mono ?_
  rintro e W3 ⟨hr, hb⟩
  obtain ⟨ti, ni, ri, ic, jc, kc, v3, he, G3, _⟩ := gra_ga hr
  rw [HZ.out.1] at he G3
  subst he
  replace GW2 := GW2.below hb (Nat.le_refl _)
  replace RB9 := RB9.below hb RB9.lt
  replace hBw := hBw.trans (hb.mono hBw.size)
  clear hr hb
  obtain ⟨W4, hW4⟩ : ∃ W4, W4 = W3.alloc (.cells #[.slice ti g.ts.length ic, .slice ni g.ns.length jc, .int .i64 g.ax, .slice ri g.rs.length kc] 35) := ⟨_, rfl⟩
  have HW4 : Hid (_) := hW4
  have hb : Below W3.heap.size W3 W4 := by rw [hW4]; exact (Below.refl _ _).alloc (Nat.le_refl _) _
  have RBi : RowAt W4 W3.heap.size 35 #[.slice ti g.ts.length ic, .slice ni g.ns.length jc, .int .i64 g.ax, .slice ri g.rs.length kc] := by rw [hW4]; exact World.alloc_heap_new W3 _
  replace GW2 := GW2.below hb (Nat.le_refl _)
  replace RB9 := RB9.below hb RB9.lt
  replace hBw := hBw.trans (hb.mono hBw.size)
  replace G3 := G3.below hb
  clear hb hW4
  have hc := GramSame.grammar_any ti ni ri tw nw rw0 ic jc kc tcw ncw rcw g g _ G3.row GW2 hok hok
  rw [eqg] at hc
  have c40 := RBi.cell (q := 0) rfl
  have c41 := RBi.cell (q := 1) rfl
  have c42 := RBi.cell (q := 2) rfl
  have c43 := RBi.cell (q := 3) rfl
  have c90 := RB9.cell (q := 0) rfl
  have c91 := RB9.cell (q := 1) rfl
  have c92 := RB9.cell (q := 2) rfl
  have c93 := RB9.cell (q := 3) rfl
  clear GW2 G3 RB9 RBi
  go_wp2_with (rw [← HW4.out])
  refine hc.mono ?_
  rintro e W5 ⟨rfl, hb⟩
  replace hBw := hBw.trans (hb.mono hBw.size)
  clear hc hb
  go_wp2
  go_ret
  exact ⟨rfl, hBw⟩

end Go.Proofs.YtcmjneabcdpmoaaDoor.GramRoll
