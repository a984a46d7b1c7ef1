/-
  The helper that looks whether two grammars share memory: it answers true for two copies of one grammar.
-/
import Derived.Test.YtcmjneabcdpmoaaDoorGramAll2
namespace Go.Proofs.YtcmjneabcdpmoaaDoor.GramAll
open Go.RowKit Go.Proofs.YtcmjneabcdpmoaaDoor.GramMath Go.Proofs.YtcmjneabcdpmoaaDoor.GramRow Go.Proofs.YtcmjneabcdpmoaaDoor.GramApart Go.Proofs.YtcmjneabcdpmoaaDoor.GramCopy
set_option linter.unusedVariables false

/-- Two copies of a grammar, one behind the other, and the list of them. -/
structure Two (w : World) (B M L : Nat) (b1 b2 b3 : Nat → Nat) (bs : Nat → List Nat) (g : G) : Prop where
  c0 : CopyAt w B (b1 0) (b2 0) (b3 0) (bs 0) g
  c1 : CopyAt w M (b1 1) (b2 1) (b3 1) (bs 1) g
  lt : b2 0 < M
  lts : ∀ x ∈ bs 0, x < M
  BM : B ≤ M
  cells : ∀ i, i < 2 → w.cell? ⟨L, i * 4, none⟩ = some (sl (b1 i) g.ts.length) ∧ w.cell? ⟨L, i * 4 + 1, none⟩ = some (sl (b2 i) g.ns.length) ∧ w.cell? ⟨L, i * 4 + 3, none⟩ = some (sl (b3 i) g.rs.length)

theorem sl_one (b n : Nat) : (sl b n).oneCell' = true := rfl

theorem own_but {S : Nat → Prop} {w w' : World} {base : Nat} {e : TypeId} {size n : Nat} {v : Value} {xs : List Value} (h : w.ownsRow base e size v n xs) (hb : But S w w') (hS : ∀ b, S b → b < base) : w'.ownsRow base e size v n xs := by
  obtain ⟨h1, h | ⟨g, cap, cur, hv, hbb, hr, rest⟩⟩ := h
  · exact ⟨h1, .inl h⟩
  · exact ⟨h1, .inr ⟨g, cap, cur, hv, hbb, (hb.block g (Array.getElem?_eq_some_iff.1 hr).1 (fun e => by have := hS g e; omega)).trans hr, rest⟩⟩

set_option maxRecDepth 100000 in
set_option maxHeartbeats 2000000 in
theorem grammars_any (B M L c : Nat) (b1 b2 b3 : Nat → Nat) (bs : Nat → List Nat) (g : G) (w : World) (h : Two w B M L b1 b2 b3 bs g) (z1 : g.ts.length ≤ 2097152) (z2 : g.ns.length ≤ 2097152) (z3 : g.rs.length ≤ 2097152) (z4 : ∀ r ∈ g.rs, r.right.length ≤ 4194304) :
    Calls Tryd.prog 25 #[.slice (some ⟨L, 0, none⟩) 2 c] w fun e w' => e = .returned (.bool true) ∧ Below B w w' := by
  obtain ⟨i1, hi1, hy1, hy2, hy3⟩ := info_parts infoRR
  obtain ⟨i2, hi2, hu1, hu2, hu3⟩ := info_parts infoII
  have hl : ∀ i, i < 2 → (bs i).length = g.rs.length := fun i hi => by
    match i, hi with
    | 0, _ => exact h.c0.rs.len
    | 1, _ => exact h.c1.rs.len
  have hrule : ∀ i, i < 2 → ∀ (j : Nat) (r : R), g.rs[j]? = some r → ∃ x, (bs i)[j]? = some x ∧ w.cell? ⟨b3 i, j * 2 + 1, none⟩ = some (sl x r.right.length) := fun i hi j r hr => by
    have hj := (List.getElem?_eq_some_iff.1 hr).1
    have hx : (bs i)[j]? = some ((bs i)[j]'(by rw [hl i hi]; exact hj)) := List.getElem?_eq_getElem _
    refine ⟨_, hx, ?_⟩
    match i, hi, hx with
    | 0, _, hx => exact (h.c0.rs.each j r _ hr hx).2.1
    | 1, _, hx => exact (h.c1.rs.each j r _ hr hx).2.1
  go_enter Tryd.func25, Tryd.ntmps25
  go_wp2
  go_loopw [3, 4, 5, 6] (fun nv rv sv i wr => ∃ k : Nat, k ≤ 2 ∧ i = .int .i64 k ∧ wr.ownsRow w.heap.size 25 1 nv (2 * k) ((namesL b1 b2 g).take (2 * k)) ∧ wr.ownsRow w.heap.size 29 1 rv k ((rulesL b3 g).take k) ∧ wr.ownsRow w.heap.size 39 1 sv (k * g.rs.length) ((sidesL bs g).take (k * g.rs.length)) ∧ Below w.heap.size w wr) (fun _ _ _ i _ => 2 - (intOf i).toNat)
  case atStart => exact ⟨0, by omega, rfl, World.ownsRow_nil _ _ _ _, World.ownsRow_nil _ _ _ _, by rw [Nat.zero_mul]; exact World.ownsRow_nil _ _ _ _, Below.refl _ _⟩
  case round =>
    obtain ⟨k, hk, rfl, hnv, hrv, hsv, hB⟩ := hrel
    have hs0 := hB.size
    by_cases hlt : k < 2
    · have hlt2 : (k : Int) < 2 := by omega
      obtain ⟨q0, q1, q3⟩ := h.cells k hlt
      have hLl := cell_lt q0
      dsimp only at hLl
      have e0 := (hB.cell (p := ⟨L, k * 4, none⟩) hLl).trans q0
      have e1 := (hB.cell (p := ⟨L, k * 4 + 1, none⟩) hLl).trans q1
      have hdZ : Below wr.heap.size wr wr.drew := ⟨rfl, rfl, rfl, Nat.le_refl wr.heap.size, fun _ _ => rfl⟩
      have hS : ∀ w', Below wr.heap.size wr w' → (w'.cell? ⟨L, k * 4, none⟩ = some (.slice (some ⟨b1 k, 0, none⟩) g.ts.length g.ts.length) ∧ w'.cell? ⟨L, k * 4 + 1, none⟩ = some (.slice (some ⟨b2 k, 0, none⟩) g.ns.length g.ns.length)) := fun w' hb => ⟨(hb.cell (p := ⟨L, k * 4, none⟩) (show L < _ by omega)).trans e0, (hb.cell (p := ⟨L, k * 4 + 1, none⟩) (show L < _ by omega)).trans e1⟩
      go_wp2_with fail
      refine wp_region_noPanic ?_
      refine wp_region_held_drew (S := (fun w' => w'.cell? ⟨L, k * 4, none⟩ = some (.slice (some ⟨b1 k, 0, none⟩) g.ts.length g.ts.length) ∧ w'.cell? ⟨L, k * 4 + 1, none⟩ = some (.slice (some ⟨b2 k, 0, none⟩) g.ns.length g.ns.length))) (by kernel_rfl) (hS _ hdZ) (fun hHeld => ?_)
      refine wpAnyH_take (i := 0) (v := u3) rfl (by kernel_rfl) (by kernel_rfl) (by kernel_rfl) (fun _ _ _ h => h) (Or.inl ⟨by rfl, fun w9 hSw => ?_⟩) hHeld ?_
      · obtain ⟨s0, s1⟩ := hSw
        go_simp
      simp only [List.getElem_toArray, List.getElem_cons_zero, Act.put, List.setIfInBounds_toArray, List.set_cons_zero, List.set_cons_succ]
      refine wpAnyH_take (i := 1) (v := .slice (some ⟨L, 0, none⟩) 2 c) rfl (by kernel_rfl) (by kernel_rfl) (by kernel_rfl) (fun _ _ _ h => h) (Or.inl ⟨by rfl, fun w9 hSw => ?_⟩) hHeld ?_
      · obtain ⟨s0, s1⟩ := hSw
        go_simp
      simp only [List.getElem_toArray, List.getElem_cons_zero, List.getElem_cons_succ, Act.put, List.setIfInBounds_toArray, List.set_cons_zero, List.set_cons_succ]
      refine wpAnyH_take (i := 2) (v := .int .i64 (k : Int)) rfl (by kernel_rfl) (by kernel_rfl) (by kernel_rfl) (fun _ _ _ h => h) (Or.inl ⟨by rfl, fun w9 hSw => ?_⟩) hHeld ?_
      · obtain ⟨s0, s1⟩ := hSw
        go_simp
      simp only [List.getElem_toArray, List.getElem_cons_zero, List.getElem_cons_succ, Act.put, List.setIfInBounds_toArray, List.set_cons_zero, List.set_cons_succ]
      refine wpAnyH_take (i := 3) (v := .pointer (some ⟨L, k * 4, none⟩)) rfl (by kernel_rfl) (by kernel_rfl) (by kernel_rfl) (fun _ _ _ h => h) (Or.inl ⟨by rfl, fun w9 hSw => ?_⟩) hHeld ?_
      · obtain ⟨s0, s1⟩ := hSw
        go_simp
      simp only [List.getElem_toArray, List.getElem_cons_zero, List.getElem_cons_succ, Act.put, List.setIfInBounds_toArray, List.set_cons_zero, List.set_cons_succ]
      refine wpAnyH_take (i := 4) (v := .pointer (some ⟨L, k * 4, none⟩)) rfl (by kernel_rfl) (by kernel_rfl) (by kernel_rfl) (fun _ _ _ h => h) (Or.inl ⟨by rfl, fun w9 hSw => ?_⟩) hHeld ?_
      · obtain ⟨s0, s1⟩ := hSw
        go_simp
      simp only [List.getElem_toArray, List.getElem_cons_zero, List.getElem_cons_succ, Act.put, List.setIfInBounds_toArray, List.set_cons_zero, List.set_cons_succ]
      refine wpAnyH_take (i := 5) (v := .slice (some ⟨b1 k, 0, none⟩) g.ts.length g.ts.length) rfl (by kernel_rfl) (by kernel_rfl) (by kernel_rfl) (fun _ _ _ h => h) (Or.inl ⟨by rfl, fun w9 hSw => ?_⟩) hHeld ?_
      · obtain ⟨s0, s1⟩ := hSw
        go_simp
      simp only [List.getElem_toArray, List.getElem_cons_zero, List.getElem_cons_succ, Act.put, List.setIfInBounds_toArray, List.set_cons_zero, List.set_cons_succ]
      refine wpAnyH_take (i := 6) (v := .slice (some ⟨L, 0, none⟩) 2 c) rfl (by kernel_rfl) (by kernel_rfl) (by kernel_rfl) (fun _ _ _ h => h) (Or.inl ⟨by rfl, fun w9 hSw => ?_⟩) hHeld ?_
      · obtain ⟨s0, s1⟩ := hSw
        go_simp
      simp only [List.getElem_toArray, List.getElem_cons_zero, List.getElem_cons_succ, Act.put, List.setIfInBounds_toArray, List.set_cons_zero, List.set_cons_succ]
      refine wpAnyH_take (i := 7) (v := .int .i64 (k : Int)) rfl (by kernel_rfl) (by kernel_rfl) (by kernel_rfl) (fun _ _ _ h => h) (Or.inl ⟨by rfl, fun w9 hSw => ?_⟩) hHeld ?_
      · obtain ⟨s0, s1⟩ := hSw
        go_simp
      simp only [List.getElem_toArray, List.getElem_cons_zero, List.getElem_cons_succ, Act.put, List.setIfInBounds_toArray, List.set_cons_zero, List.set_cons_succ]
      refine wpAnyH_take (i := 8) (v := .pointer (some ⟨L, k * 4, none⟩)) rfl (by kernel_rfl) (by kernel_rfl) (by kernel_rfl) (fun _ _ _ h => h) (Or.inl ⟨by rfl, fun w9 hSw => ?_⟩) hHeld ?_
      · obtain ⟨s0, s1⟩ := hSw
        go_simp
      simp only [List.getElem_toArray, List.getElem_cons_zero, List.getElem_cons_succ, Act.put, List.setIfInBounds_toArray, List.set_cons_zero, List.set_cons_succ]
      refine wpAnyH_take (i := 9) (v := .pointer (some ⟨L, k * 4 + 1, none⟩)) rfl (by kernel_rfl) (by kernel_rfl) (by kernel_rfl) (fun _ _ _ h => h) (Or.inl ⟨by rfl, fun w9 hSw => ?_⟩) hHeld ?_
      · obtain ⟨s0, s1⟩ := hSw
        go_simp
      simp only [List.getElem_toArray, List.getElem_cons_zero, List.getElem_cons_succ, Act.put, List.setIfInBounds_toArray, List.set_cons_zero, List.set_cons_succ]
      refine wpAnyH_take (i := 10) (v := .slice (some ⟨b2 k, 0, none⟩) g.ns.length g.ns.length) rfl (by kernel_rfl) (by kernel_rfl) (by kernel_rfl) (fun _ _ _ h => h) (Or.inl ⟨by rfl, fun w9 hSw => ?_⟩) hHeld ?_
      · obtain ⟨s0, s1⟩ := hSw
        go_simp
      simp only [List.getElem_toArray, List.getElem_cons_zero, List.getElem_cons_succ, Act.put, List.setIfInBounds_toArray, List.set_cons_zero, List.set_cons_succ]
      refine wpAnyH_ready (rs := [11]) (by kernel_rfl) (by simp) ?_
      refine AllReadyH.cons rfl (fun K hK => ?_) AllReadyH.nil
      go_simp
      have hba : Below wr.heap.size wr (World.alloc wr.drew (.cells #[.slice (some ⟨b1 k, 0, none⟩) g.ts.length g.ts.length, .slice (some ⟨b2 k, 0, none⟩) g.ns.length g.ns.length] 25)) := hdZ.trans ((Below.refl wr.heap.size wr.drew).alloc (Nat.le_refl _) _)
      refine hK.out _ _ (hS _ hba) (fun hHeld2 => ?_)
      clear hK K hHeld
      refine wpAnyH_ready (rs := [12]) (by kernel_rfl) (by simp) ?_
      refine AllReadyH.cons rfl (fun K hK => ?_) AllReadyH.nil
      have hnv1 : (World.alloc wr.drew (.cells #[.slice (some ⟨b1 k, 0, none⟩) g.ts.length g.ts.length, .slice (some ⟨b2 k, 0, none⟩) g.ns.length g.ns.length] 25)).ownsRow w.heap.size 25 1 u3 (2 * k) ((namesL b1 b2 g).take (2 * k)) := GramApart.own_below hnv hba
      have hrv1 : (World.alloc wr.drew (.cells #[.slice (some ⟨b1 k, 0, none⟩) g.ts.length g.ts.length, .slice (some ⟨b2 k, 0, none⟩) g.ns.length g.ns.length] 25)).ownsRow w.heap.size 29 1 u4 k ((rulesL b3 g).take k) := GramApart.own_below hrv hba
      have hsv1 : (World.alloc wr.drew (.cells #[.slice (some ⟨b1 k, 0, none⟩) g.ts.length g.ts.length, .slice (some ⟨b2 k, 0, none⟩) g.ns.length g.ns.length] 25)).ownsRow w.heap.size 39 1 u5 (k * g.rs.length) ((sidesL bs g).take (k * g.rs.length)) := GramApart.own_below hsv hba
      have hz1 : w.heap.size ≤ (World.alloc wr.drew (.cells #[.slice (some ⟨b1 k, 0, none⟩) g.ts.length g.ts.length, .slice (some ⟨b2 k, 0, none⟩) g.ns.length g.ns.length] 25)).heap.size := Nat.le_trans hs0 hba.size
      refine stepN rfl _ _ rfl w.heap.size u3 (2 * k) _ (by rfl) hnv1 ⟨wr.heap.size, 0, none⟩ (.slice (some ⟨b1 k, 0, none⟩) g.ts.length g.ts.length) (.slice (some ⟨b2 k, 0, none⟩) g.ns.length g.ns.length) (by rfl) (GramLent.cells_new wr.drew #[.slice (some ⟨b1 k, 0, none⟩) g.ts.length g.ts.length, .slice (some ⟨b2 k, 0, none⟩) g.ns.length g.ns.length] 25) (by simp [Value.oneCell']) (by omega) hz1 ?_
      intro v5 w5 hown5 hgrow5
      have hrv5 := own_grown hrv1 hnv1 (by decide) hgrow5
      have hsv5 := own_grown hsv1 hnv1 (by decide) hgrow5
      rw [show (namesL b1 b2 g).take (2 * k) ++ [.slice (some ⟨b1 k, 0, none⟩) g.ts.length g.ts.length, .slice (some ⟨b2 k, 0, none⟩) g.ns.length g.ns.length] = (namesL b1 b2 g).take (2 * (k + 1)) from names_step hlt] at hown5
      have hB5 : Below w.heap.size w w5 := (hB.trans (hba.mono hs0)).grown hgrow5 hz1 (fun j hj => (hnv1.lt j hj).1)
      have hL5 : ∀ o v, w.cell? ⟨L, o, none⟩ = some v → w5.cell? ⟨L, o, none⟩ = some v := fun o v hv => (hB5.cell (p := ⟨L, o, none⟩) hLl).trans hv
      refine hK.out _ _ ⟨hL5 _ _ q0, hL5 _ _ q1⟩ (fun hHeld3 => ?_)
      clear hK K hHeld2
      simp only [List.getElem_toArray, List.getElem_cons_zero, List.getElem_cons_succ, Act.put, List.setIfInBounds_toArray, List.set_cons_zero, List.set_cons_succ]
      refine wpAnyH_ready (rs := [13]) (by kernel_rfl) (by simp) ?_
      refine AllReadyH.cons rfl (fun K hK => ?_) AllReadyH.nil
      go_simp
      refine hK.out _ _ ⟨hL5 _ _ q0, hL5 _ _ q1⟩ (fun _ => ?_)
      clear hK K hHeld3
      refine wpAnyH_done (by kernel_rfl) (NoPanic.normal ?_) _
      clear hnv hrv hsv hnv1 hrv1 hsv1 hgrow5 hS hba hz1 hdZ e0 e1
      have e3 : w5.cell? ⟨L, k * 4 + 3, none⟩ = some (.slice (some ⟨b3 k, 0, none⟩) g.rs.length g.rs.length) := hL5 _ _ q3
      have hs5 := hB5.size
      have q4 : w.cell? ⟨L, k * 4 + 3, none⟩ = some (.slice (some ⟨b3 k, 0, none⟩) g.rs.length g.rs.length) := q3
      clear hL5 q0 q1 q3
      go_wp2_with (at_builtin; refine wpList_append_own _ rfl (.tmp 27) (.tmp 33) 81 rfl w.heap.size 29 i1 (.slice none 0 0) 1 24 Tryd.underlying81 hi1 hy1 hy2 hy3 rfl (by decide) _ _ _ rfl (hrv5.alloc _) ⟨_, 0, none⟩ 1 1 [.slice (some ⟨b3 k, 0, none⟩) g.rs.length g.rs.length] rfl rfl (cell_one_new _ _ _) (by simp [Value.oneCell']) (by unfold maxLen; omega) (by omega) (by simp; omega) ?_; intro v6 w6 hown6 hgrow6 _)
      have hnv6 := own_grown (hown5.alloc (.cells #[.slice (some ⟨b3 k, 0, none⟩) g.rs.length g.rs.length] 29)) (hrv5.alloc _) (by decide) hgrow6
      have hsv6 := own_grown (hsv5.alloc (.cells #[.slice (some ⟨b3 k, 0, none⟩) g.rs.length g.rs.length] 29)) (hrv5.alloc _) (by decide) hgrow6
      rw [show (rulesL b3 g).take k ++ [.slice (some ⟨b3 k, 0, none⟩) g.rs.length g.rs.length] = (rulesL b3 g).take (k + 1) from rules_step hlt] at hown6
      have hB6 : Below w.heap.size w w6 := (hB5.alloc hs5 _).grown hgrow6 (by simp; omega) (fun j hj => (hrv5.lt j hj).1)
      clear hown5 hrv5 hsv5 hgrow6 hB5 hs5 e3
      go_wp2
      go_loopw [5, 7] (fun sv j wr => ∃ m : Nat, m ≤ g.rs.length ∧ j = .int .i64 m ∧ wr.ownsRow w.heap.size 25 1 v5 (2 * (k + 1)) ((namesL b1 b2 g).take (2 * (k + 1))) ∧ wr.ownsRow w.heap.size 29 1 v6 (k + 1) ((rulesL b3 g).take (k + 1)) ∧ wr.ownsRow w.heap.size 39 1 sv (k * g.rs.length + m) ((sidesL bs g).take (k * g.rs.length + m)) ∧ Below w.heap.size w wr) (fun _ j _ => g.rs.length - (intOf j).toNat)
      case atStart => exact ⟨0, by omega, rfl, hnv6, hown6, hsv6, hB6⟩
      case round =>
        clear hnv6 hsv6 hown6 hB6 hB hs0
        obtain ⟨m, hm, rfl, hnv, hrv, hsv, hB⟩ := hrel
        have hs0 := hB.size
        have e3 := (hB.cell (p := ⟨L, k * 4 + 3, none⟩) hLl).trans q4
        have hkn : k * g.rs.length ≤ 2097152 := by
          have := Nat.mul_le_mul (show k ≤ 1 by omega) z3
          omega
        by_cases hml : m < g.rs.length
        · have hml2 : (m : Int) < (g.rs.length : Int) := by omega
          obtain ⟨r, hr⟩ : ∃ r, g.rs[m]? = some r := ⟨g.rs[m], List.getElem?_eq_getElem hml⟩
          obtain ⟨x, hx, hxc⟩ := hrule k hlt m r hr
          have hat := sides_at hl hlt hx hr
          have f1 : wr.cell? ⟨b3 k, m * 2 + 1, none⟩ = some (.slice (some ⟨x, 0, none⟩) r.right.length r.right.length) := (hB.cell (cell_lt hxc)).trans hxc
          have hstep : Hid ((sidesL bs g).take (k * g.rs.length + m) ++ [.slice (some ⟨x, 0, none⟩) r.right.length r.right.length] = (sidesL bs g).take (k * g.rs.length + (m + 1))) := take_snoc hat
          clear hxc hat
          generalize k * g.rs.length = kn at *
          go_wp2_with (at_builtin; refine wpList_append_own _ rfl (.tmp 45) (.tmp 55) 82 rfl w.heap.size 39 i2 (.slice none 0 0) 1 24 Tryd.underlying82 hi2 hu1 hu2 hu3 rfl (by decide) _ _ _ rfl (hsv.alloc _) ⟨_, 0, none⟩ 1 1 [.slice (some ⟨x, 0, none⟩) r.right.length r.right.length] rfl rfl (cell_one_new _ _ _) (by simp [Value.oneCell']) (by unfold maxLen; omega) (by omega) (by simp; omega) ?_; intro v7 w7 hown7 hgrow7 _)
          have hnv7 := own_grown (hnv.alloc (.cells #[.slice (some ⟨x, 0, none⟩) r.right.length r.right.length] 39)) (hsv.alloc _) (by decide) hgrow7
          have hrv7 := own_grown (hrv.alloc (.cells #[.slice (some ⟨x, 0, none⟩) r.right.length r.right.length] 39)) (hsv.alloc _) (by decide) hgrow7
          rw [hstep.out] at hown7
          have hB7 : Below w.heap.size w w7 := (hB.alloc hs0 _).grown hgrow7 (by simp; omega) (fun j hj => (hsv.lt j hj).1)
          clear hnv hrv hsv hgrow7 hB f1 e3 hstep
          go_roundw
          case rel => exact ⟨m + 1, by omega, by go_num, hnv7, hrv7, hown7, hB7⟩
          case measure => simp [intOf]; omega
        · obtain rfl : m = g.rs.length := by omega
          have hnl : ¬ (g.rs.length : Int) < (g.rs.length : Int) := by omega
          have hsv2 : wr.ownsRow w.heap.size 39 1 u5 ((k + 1) * g.rs.length) ((sidesL bs g).take ((k + 1) * g.rs.length)) := by
            rw [Nat.succ_mul]
            exact hsv
          clear hsv
          go_wp2
          go_roundw
          case rel => exact ⟨k + 1, by omega, by go_num, hnv, hrv, hsv2, hB⟩
          case measure => simp [intOf]; omega
    · obtain rfl : k = 2 := by omega
      rw [show (namesL b1 b2 g).take (2 * 2) = namesL b1 b2 g from rfl] at hnv
      rw [show (rulesL b3 g).take 2 = rulesL b3 g from rfl] at hrv
      have hsl : (sidesL bs g).length = 2 * g.rs.length := by
        unfold sidesL
        rw [List.length_append, sideV_len (hl 0 (by omega)), sideV_len (hl 1 (by omega))]
        omega
      rw [List.take_of_length_le (by rw [hsl]; exact Nat.le_refl _)] at hsv
      have k0 := h.c0.below hB (Nat.le_refl _)
      have k1 := h.c1.below hB (Nat.le_refl _)
      have o2 : b2 0 < b1 1 := Nat.lt_of_lt_of_le h.lt h.c1.l1
      have o4 : b2 1 < w.heap.size := h.c1.ns.lt
      have n0 := h.c0.ne
      have n1 := h.c1.ne
      have m0 := h.c0.l4
      have m1 := h.c1.l4
      have m2 := h.c1.l3
      have m3 := h.lt
      have p0 := h.c0.l3
      have hBM := h.BM
      have ht : ∀ i, i < 2 → RowAt wr (b1 i) 9 (strsA g.ts) := fun i hi => by
        match i, hi with
        | 0, _ => exact k0.ts
        | 1, _ => exact k1.ts
      have hm2 : ∀ i, i < 2 → RowAt wr (b2 i) 9 (strsA g.ns) := fun i hi => by
        match i, hi with
        | 0, _ => exact k0.ns
        | 1, _ => exact k1.ns
      have hri : ∀ i, i < 2 → ∀ (j : Nat) (r : R) (x : Nat), g.rs[j]? = some r → (bs i)[j]? = some x → RowAt wr x 3 (intsA r.right) := fun i hi j r x hr hx => by
        match i, hi, hx with
        | 0, _, hx => exact (k0.rs.each j r x hr hx).2.2
        | 1, _, hx => exact (k1.rs.each j r x hr hx).2.2
      have hlo0 := h.c0.rs.lo
      have hlo1 := h.c1.rs.lo
      have hlts := h.lts
      have hinc : (bs 0 ++ bs 1).Pairwise (· < ·) := by
        rw [List.pairwise_append]
        exact ⟨h.c0.rs.inc, h.c1.rs.inc, fun x hx y hy => by have e1 := hlts x hx; have e2 := hlo1 y hy; omega⟩
      have hH : ∀ x ∈ bs 0 ++ bs 1, x < w.heap.size := fun x hx => by
        rcases List.mem_append.1 hx with hx | hx
        · exact h.c0.rs.hi x hx
        · exact h.c1.rs.hi x hx
      have hBl : ∀ x ∈ bs 0 ++ bs 1, B ≤ x := fun x hx => by
        rcases List.mem_append.1 hx with hx | hx
        · have := hlo0 x hx; omega
        · have := hlo1 x hx; omega
      have hb3 : ∀ x ∈ bs 0 ++ bs 1, x ≠ b3 0 ∧ x ≠ b3 1 := fun x hx => by
        rcases List.mem_append.1 hx with hx | hx
        · have e1 := hlo0 x hx; have e2 := hlts x hx; omega
        · have e1 := hlo1 x hx; omega
      have room : ∀ i, i < 2 → ∀ q, q < g.rs.length * 2 → wr.frozen? ⟨b3 i, q, none⟩ = false ∧ ∃ v, wr.cell? ⟨b3 i, q, none⟩ = some v := fun i hi => by
        match i, hi with
        | 0, _ => exact k0.rs.room
        | 1, _ => exact k1.rs.room
      have l30 : b3 0 < wr.heap.size := k0.lt
      have l31 : b3 1 < wr.heap.size := k1.lt
      have l32 : b3 1 < w.heap.size := h.c1.lt
      have hBw : Below B w wr := hB.mono (by have := h.c0.lt; omega)
      have hs := hB.size
      clear h k0 k1 hrule
      go_wp2_with fail
      refine (strs_two w.heap.size b1 b2 g u3 wr hnv ht hm2 n0 o2 n1 o4 z1 z2).mono ?_
      rintro e w2 ⟨rfl, hb2⟩
      have hsv2 := own_but hsv hb2 (fun b hb => by omega)
      have hrv2 := own_but hrv hb2 (fun b hb => by omega)
      have hri2 : ∀ i, i < 2 → ∀ (j : Nat) (r : R) (x : Nat), g.rs[j]? = some r → (bs i)[j]? = some x → RowAt w2 x 3 (intsA r.right) := fun i hi j r x hr hx => by
        have hx0 := hri i hi j r x hr hx
        refine hx0.but hb2 ?_
        rintro (e | e | e | e)
        · exact hx0.ne (ht 0 (by omega)) (by decide) e
        · exact hx0.ne (hm2 0 (by omega)) (by decide) e
        · exact hx0.ne (ht 1 (by omega)) (by decide) e
        · exact hx0.ne (hm2 1 (by omega)) (by decide) e
      have hst := hb2.size
      go_wp2_with fail
      refine (ints_two w.heap.size bs g u5 w2 hsv2 hl hri2 hinc hH z3 z4).mono ?_
      rintro e w3 ⟨rfl, hb3'⟩
      have hrv3 := own_but hrv2 hb3' hH
      have room3 : ∀ i, i < 2 → ∀ q, q < g.rs.length * 2 → w3.frozen? ⟨b3 i, q, none⟩ = false ∧ ∃ v, w3.cell? ⟨b3 i, q, none⟩ = some v := fun i hi q hq => by
        obtain ⟨f1, v, f2⟩ := room i hi q hq
        have hlt : b3 i < wr.heap.size ∧ ¬ (b3 i = b1 0 ∨ b3 i = b2 0 ∨ b3 i = b1 1 ∨ b3 i = b2 1) ∧ ¬ b3 i ∈ bs 0 ++ bs 1 := by
          match i, hi with
          | 0, _ => exact ⟨l30, by omega, fun hx => (hb3 _ hx).1 rfl⟩
          | 1, _ => exact ⟨l31, by omega, fun hx => (hb3 _ hx).2 rfl⟩
        exact ⟨(hb3'.frozen (p := ⟨b3 i, q, none⟩) (by show b3 i < _; omega) hlt.2.2).trans ((hb2.frozen (p := ⟨b3 i, q, none⟩) hlt.1 hlt.2.1).trans f1), v, (hb3'.cell (p := ⟨b3 i, q, none⟩) (by show b3 i < _; omega) hlt.2.2).trans ((hb2.cell (p := ⟨b3 i, q, none⟩) hlt.1 hlt.2.1).trans f2)⟩
      go_wp2_with fail
      refine (rules_two w.heap.size b3 g u4 w3 hrv3 room3 (by omega) l32 z3).mono ?_
      rintro e w4 ⟨rfl, hb4⟩
      have j2 : But (fun b => B ≤ b) wr w2 := hb2.mono (fun b _ hb => by omega)
      have j3 : But (fun b => B ≤ b) w2 w3 := hb3'.mono (fun b _ hb => hBl b hb)
      have j4 : But (fun b => B ≤ b) w3 w4 := hb4.mono (fun b _ hb => by omega)
      have hfin : Below B wr w4 := ((j2.trans j3).trans j4).below (by omega) (fun _ hb => hb)
      have hend := hBw.trans hfin
      clear hb2 hb3' hb4 j2 j3 j4 room3 hrv3 hrv2 hsv2 hri2 hri room
      go_wp2
      go_ret
      exact ⟨rfl, hend⟩

end Go.Proofs.YtcmjneabcdpmoaaDoor.GramAll
