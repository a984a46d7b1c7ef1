/-
  The search for the first place of a relation.
-/
import Derived.Test.YtpdkjblmpgmcjaaDoorMatrixRelate
import Derived.Deep.RegionHeld3
namespace Go.Proofs.YtpdkjblmpgmcjaaDoor.MatrixKeep
open Go.RowKit Go.Proofs.YtpdkjblmpgmcjaaDoor.GramMath Go.Proofs.YtpdkjblmpgmcjaaDoor.GramRow Go.Proofs.YtpdkjblmpgmcjaaDoor.GramApart Go.Proofs.YtpdkjblmpgmcjaaDoor.MatrixMath Go.Proofs.YtpdkjblmpgmcjaaDoor.MatrixTell
set_option linter.unusedVariables false
set_option linter.unusedSimpArgs false

def hitF (x a b : Int) (f : Fnd) : Bool := f.rel == x && f.a == a && f.b == b
def firstF (x a b : Int) (L : List Fnd) : Option Fnd := L.find? (hitF x a b)
def srchC (x a b : Int) : Option Fnd → Array Value
  | none => #[.int .i64 a, .int .i64 b, .int .i64 x, .bool false, .int .i64 0, .int .i64 0, .int .i64 0]
  | some f => #[.int .i64 a, .int .i64 b, .int .i64 x, .bool true, .int .i64 f.p.rule, .int .i64 f.p.at_, .int .i64 f.p.non]
def KeepJ (x a b : Int) (pre : List Fnd) (cur : Array Value) : Prop := cur = srchC x a b (firstF x a b pre)

theorem first_some {x a b : Int} {pre : List Fnd} {f0 f : Fnd} (h : firstF x a b pre = some f0) : firstF x a b (pre ++ [f]) = some f0 := by
  unfold firstF at *
  rw [List.find?_append, h]
  rfl
theorem first_hit {x a b : Int} {pre : List Fnd} {f : Fnd} (h : firstF x a b pre = none) (hf : hitF x a b f = true) : firstF x a b (pre ++ [f]) = some f := by
  unfold firstF at *
  rw [List.find?_append, h]
  simp [hf]
theorem first_miss {x a b : Int} {pre : List Fnd} {f : Fnd} (h : firstF x a b pre = none) (hf : hitF x a b f = false) : firstF x a b (pre ++ [f]) = none := by
  unfold firstF at *
  rw [List.find?_append, h]
  simp [hf]

set_option maxRecDepth 100000 in
set_option maxHeartbeats 2000000 in
theorem keep_any (M : Nat) (x a b : Int) (pre : List Fnd) (f : Fnd) (cur : Array Value) (w : World) (hJ : KeepJ x a b pre cur) (hr : RowAt w M 76 cur) :
    Calls Tryd.prog 34 #[.pointer (some ⟨M, 0, none⟩), .int .i64 f.rel, .int .i64 f.a, .int .i64 f.b, .agg #[.int .i64 f.p.rule, .int .i64 f.p.at_, .int .i64 f.p.non]] w fun e w' => (∃ v, e = .returned v) ∧ (∃ cur', RowAt w' M 76 cur' ∧ KeepJ x a b (pre ++ [f]) cur') ∧ But (fun k => k = M) w w' := by
  unfold KeepJ at hJ
  have hb0 : Below w.heap.size w ((w.alloc (.cells #[.int .i64 f.p.rule, .int .i64 f.p.at_, .int .i64 f.p.non] 74))) := (Below.refl _ _).alloc (Nat.le_refl _) _
  have hB1 : But (fun k => k = M) w (w.alloc (.cells #[.int .i64 f.p.rule, .int .i64 f.p.at_, .int .i64 f.p.non] 74)) := But.of hb0
  have hrA := hr.below hb0 hr.lt
  have hMlt := hr.lt
  cases hf0 : firstF x a b pre with
  | some f0 =>
    rw [hf0] at hJ
    have E : Hid (KeepJ x a b (pre ++ [f]) cur) := by show _ = _; rw [first_some hf0]; exact hJ
    subst hJ
    unfold srchC at hrA E
    have c3 := hrA.cell (q := 3) rfl
    go_enter Tryd.func34, Tryd.ntmps34
    go_wp2
    go_end0
    exact ⟨⟨_, rfl⟩, ⟨_, hrA, E.out⟩, hB1⟩
  | none =>
    rw [hf0] at hJ
    subst hJ
    unfold srchC at hrA
    have c0 := hrA.cell (q := 0) rfl
    have c1 := hrA.cell (q := 1) rfl
    have c2 := hrA.cell (q := 2) rfl
    have c3 := hrA.cell (q := 3) rfl
    by_cases h1 : f.rel = x
    · by_cases h2 : f.a = a
      · by_cases h3 : f.b = b
        · have hhit : hitF x a b f = true := by unfold hitF; simp [h1, h2, h3]
          have f3 := hrA.frozen 3
          have f4 := hrA.frozen 4
          have f5 := hrA.frozen 5
          have f6 := hrA.frozen 6
          have c4 := hrA.cell (q := 4) rfl
          have c5 := hrA.cell (q := 5) rfl
          have c6 := hrA.cell (q := 6) rfl
          have hr2 := (((hrA.set 3 (.bool true)).set 4 (.int .i64 f.p.rule)).set 5 (.int .i64 f.p.at_)).set 6 (.int .i64 f.p.non)
          have E : Hid (KeepJ x a b (pre ++ [f]) #[.int .i64 a, .int .i64 b, .int .i64 x, .bool true, .int .i64 f.p.rule, .int .i64 f.p.at_, .int .i64 f.p.non]) := by show _ = _; rw [first_hit hf0 hhit]; rfl
          have hB2 := (((hB1.setCell (p := ⟨M, 3, none⟩) (show M = M from rfl) (.bool true)).setCell (p := ⟨M, 4, none⟩) (show M = M from rfl) (.int .i64 f.p.rule)).setCell (p := ⟨M, 5, none⟩) (show M = M from rfl) (.int .i64 f.p.at_)).setCell (p := ⟨M, 6, none⟩) (show M = M from rfl) (.int .i64 f.p.non)
          have e1 : (f.rel == x) = true := by simpa using h1
          have e2 : (f.a == a) = true := by simpa using h2
          have e3 : (f.b == b) = true := by simpa using h3
          have p0 : (w.alloc (.cells #[.int .i64 f.p.rule, .int .i64 f.p.at_, .int .i64 f.p.non] 74)).cell? ⟨w.heap.size, 0, none⟩ = some (.int .i64 f.p.rule) := by simp [go_sem]
          have p1 : (w.alloc (.cells #[.int .i64 f.p.rule, .int .i64 f.p.at_, .int .i64 f.p.non] 74)).cell? ⟨w.heap.size, 1, none⟩ = some (.int .i64 f.p.at_) := by simp [go_sem]
          have p2 : (w.alloc (.cells #[.int .i64 f.p.rule, .int .i64 f.p.at_, .int .i64 f.p.non] 74)).cell? ⟨w.heap.size, 2, none⟩ = some (.int .i64 f.p.non) := by simp [go_sem]
          clear h1 h2 h3 hhit hf0 hb0 hB1
          go_enter Tryd.func34, Tryd.ntmps34
          go_wp2
          generalize w.alloc (.cells #[.int .i64 f.p.rule, .int .i64 f.p.at_, .int .i64 f.p.non] 74) = W1 at *
          refine wp_region_noPanic ?_
          refine wp_region_held_drew (S := (fun w' => w'.cell? ⟨w.heap.size, 0, none⟩ = some (.int .i64 f.p.rule) ∧ w'.cell? ⟨w.heap.size, 1, none⟩ = some (.int .i64 f.p.at_) ∧ w'.cell? ⟨w.heap.size, 2, none⟩ = some (.int .i64 f.p.non))) (by kernel_rfl) ⟨p0, p1, p2⟩ (fun hHeld => ?_)
          refine wpAnyH_take (i := 0) (v := .pointer (some ⟨M, 0, none⟩)) rfl (by kernel_rfl) (by kernel_rfl) (by kernel_rfl) (fun _ _ _ h => h) (Or.inl ⟨by rfl, fun w9 hSw => ?_⟩) hHeld ?_
          · obtain ⟨s0, s1, s2⟩ := hSw
            go_simp
          simp only [List.getElem_toArray, List.getElem_cons_zero, List.getElem_cons_succ, Act.put, List.setIfInBounds_toArray, List.set_cons_zero, List.set_cons_succ]
          refine wpAnyH_take (i := 1) (v := .pointer (some ⟨M, 0, none⟩)) rfl (by kernel_rfl) (by kernel_rfl) (by kernel_rfl) (fun _ _ _ h => h) (Or.inl ⟨by rfl, fun w9 hSw => ?_⟩) hHeld ?_
          · obtain ⟨s0, s1, s2⟩ := hSw
            go_simp
          simp only [List.getElem_toArray, List.getElem_cons_zero, List.getElem_cons_succ, Act.put, List.setIfInBounds_toArray, List.set_cons_zero, List.set_cons_succ]
          refine wpAnyH_take (i := 2) (v := .agg #[.int .i64 f.p.rule, .int .i64 f.p.at_, .int .i64 f.p.non]) rfl (by kernel_rfl) (by kernel_rfl) (by kernel_rfl) (fun _ _ _ h => h) (Or.inl ⟨by rfl, fun w9 hSw => ?_⟩) hHeld ?_
          · obtain ⟨s0, s1, s2⟩ := hSw
            go_simp
          simp only [List.getElem_toArray, List.getElem_cons_zero, List.getElem_cons_succ, Act.put, List.setIfInBounds_toArray, List.set_cons_zero, List.set_cons_succ]
          refine wpAnyH_take (i := 3) (v := .pointer (some ⟨M, 0, none⟩)) rfl (by kernel_rfl) (by kernel_rfl) (by kernel_rfl) (fun _ _ _ h => h) (Or.inl ⟨by rfl, fun w9 hSw => ?_⟩) hHeld ?_
          · obtain ⟨s0, s1, s2⟩ := hSw
            go_simp
          simp only [List.getElem_toArray, List.getElem_cons_zero, List.getElem_cons_succ, Act.put, List.setIfInBounds_toArray, List.set_cons_zero, List.set_cons_succ]
          refine wpAnyH_take (i := 4) (v := .pointer (some ⟨M, 3, none⟩)) rfl (by kernel_rfl) (by kernel_rfl) (by kernel_rfl) (fun _ _ _ h => h) (Or.inl ⟨by rfl, fun w9 hSw => ?_⟩) hHeld ?_
          · obtain ⟨s0, s1, s2⟩ := hSw
            go_simp
          simp only [List.getElem_toArray, List.getElem_cons_zero, List.getElem_cons_succ, Act.put, List.setIfInBounds_toArray, List.set_cons_zero, List.set_cons_succ]
          refine wpAnyH_ready (rs := [5]) (by kernel_rfl) (by simp) ?_
          refine AllReadyH.cons rfl (fun K hK => ?_) AllReadyH.nil
          go_simp
          have hne : ∀ o q, (⟨M, q, none⟩ : Addr) ≠ ⟨w.heap.size, o, none⟩ := fun o q h => by have := congrArg Addr.block h; simp at this; omega
          refine hK.out _ _ ⟨(World.cell?_setCell_other _ _ _ _ (hne 0 3)).trans p0, (World.cell?_setCell_other _ _ _ _ (hne 1 3)).trans p1, (World.cell?_setCell_other _ _ _ _ (hne 2 3)).trans p2⟩ (fun hHeld => ?_)
          clear hK K
          refine wpAnyH_take (i := 6) (v := .pointer (some ⟨M, 0, none⟩)) rfl (by kernel_rfl) (by kernel_rfl) (by kernel_rfl) (fun _ _ _ h => h) (Or.inl ⟨by rfl, fun w9 hSw => ?_⟩) hHeld ?_
          · obtain ⟨s0, s1, s2⟩ := hSw
            go_simp
          simp only [List.getElem_toArray, List.getElem_cons_zero, List.getElem_cons_succ, Act.put, List.setIfInBounds_toArray, List.set_cons_zero, List.set_cons_succ]
          refine wpAnyH_take (i := 7) (v := .pointer (some ⟨M, 4, none⟩)) rfl (by kernel_rfl) (by kernel_rfl) (by kernel_rfl) (fun _ _ _ h => h) (Or.inl ⟨by rfl, fun w9 hSw => ?_⟩) hHeld ?_
          · obtain ⟨s0, s1, s2⟩ := hSw
            go_simp
          simp only [List.getElem_toArray, List.getElem_cons_zero, List.getElem_cons_succ, Act.put, List.setIfInBounds_toArray, List.set_cons_zero, List.set_cons_succ]
          refine wpAnyH_ready (rs := [8]) (by kernel_rfl) (by simp) ?_
          refine AllReadyH.cons rfl (fun K hK => ?_) AllReadyH.nil
          go_simp
          have hne2 : ∀ o v0 v1 v2 v3, ((((W1.setCell ⟨M, 3, none⟩ v0).setCell ⟨M, 4, none⟩ v1).setCell ⟨M, 5, none⟩ v2).setCell ⟨M, 6, none⟩ v3).cell? ⟨w.heap.size, o, none⟩ = W1.cell? ⟨w.heap.size, o, none⟩ := fun o v0 v1 v2 v3 => by
            rw [World.cell?_setCell_other _ _ _ _ (hne o 6), World.cell?_setCell_other _ _ _ _ (hne o 5), World.cell?_setCell_other _ _ _ _ (hne o 4), World.cell?_setCell_other _ _ _ _ (hne o 3)]
          refine hK.out _ _ ⟨(hne2 0 _ _ _ _).trans p0, (hne2 1 _ _ _ _).trans p1, (hne2 2 _ _ _ _).trans p2⟩ (fun _ => ?_)
          clear hK K
          refine wpAnyH_done (by kernel_rfl) (NoPanic.normal ?_) _
          go_wp2
          go_end0
          exact ⟨⟨_, rfl⟩, ⟨_, hr2, E.out⟩, ⟨hB2.os, hB2.tape, hB2.output, hB2.size, hB2.block⟩⟩
        · have E : Hid (KeepJ x a b (pre ++ [f]) #[.int .i64 a, .int .i64 b, .int .i64 x, .bool false, .int .i64 0, .int .i64 0, .int .i64 0]) := by show _ = _; rw [first_miss hf0 (by unfold hitF; simp [h3])]; rfl
          have e1 : (f.rel == x) = true := by simpa using h1
          have e2 : (f.a == a) = true := by simpa using h2
          have e3 : (f.b == b) = false := by simpa using h3
          clear h1 h2 h3 hf0
          go_enter Tryd.func34, Tryd.ntmps34
          go_wp2
          go_end0
          exact ⟨⟨_, rfl⟩, ⟨_, hrA, E.out⟩, hB1⟩
      · have E : Hid (KeepJ x a b (pre ++ [f]) #[.int .i64 a, .int .i64 b, .int .i64 x, .bool false, .int .i64 0, .int .i64 0, .int .i64 0]) := by show _ = _; rw [first_miss hf0 (by unfold hitF; simp [h2])]; rfl
        have e1 : (f.rel == x) = true := by simpa using h1
        have e2 : (f.a == a) = false := by simpa using h2
        clear h1 h2 hf0
        go_enter Tryd.func34, Tryd.ntmps34
        go_wp2
        go_end0
        exact ⟨⟨_, rfl⟩, ⟨_, hrA, E.out⟩, hB1⟩
    · have E : Hid (KeepJ x a b (pre ++ [f]) #[.int .i64 a, .int .i64 b, .int .i64 x, .bool false, .int .i64 0, .int .i64 0, .int .i64 0]) := by show _ = _; rw [first_miss hf0 (by unfold hitF; simp [h1])]; rfl
      have e1 : (f.rel == x) = false := by simpa using h1
      clear h1 hf0
      go_enter Tryd.func34, Tryd.ntmps34
      go_wp2
      go_end0
      exact ⟨⟨_, rfl⟩, ⟨_, hrA, E.out⟩, hB1⟩

theorem keep_teller (M t : Nat) (x a b : Int) : Teller 34 76 M t (KeepJ x a b) :=
  ⟨enters_of Tryd.func34 (by kernel_rfl) rfl, fun pre f cur W hf hJ hr => keep_any M x a b pre f cur W hJ hr⟩

end Go.Proofs.YtpdkjblmpgmcjaaDoor.MatrixKeep
