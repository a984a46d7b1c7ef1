/-
  Texts that stand together: EndsRIn.
-/
import Derived.Test.YtigepihinflkdaaGreatDoorBagEndsRefs
import Derived.Test.YtigepihinflkdaaGreatDoorBGramRefs
namespace Go.Proofs.YtigepihinflkdaaGreatDoor.EndsRef
open Go.RowKit Go.Proofs.YtigepihinflkdaaGreatDoor.GramMath Go.Proofs.YtigepihinflkdaaGreatDoor.GramRow Go.Proofs.YtigepihinflkdaaGreatDoor.EndsMath Go.Proofs.YtigepihinflkdaaGreatDoor.EndsFn Go.Proofs.YtigepihinflkdaaGreatDoor.EndsConcat Go.Proofs.YtigepihinflkdaaGreatDoor.GramRef
set_option linter.unusedVariables false

/-- What is known of those that were seen, of the list of them, and of how far it was gone through. -/
structure BfE (b : Bool) (g : G) (n t : Nat) (S : Nat → Bool) (T : List Nat) (i k : Nat) : Prop where
  nd : T.Nodup
  lt : ∀ x ∈ T, x < g.ns.length
  mem : ∀ x, x < g.ns.length → (S x = true ↔ x ∈ T)
  st : n ∈ T
  way : ∀ x ∈ T, Lft b g.rs x t → Lft b g.rs n t
  done : ∀ (j x : Nat), j < i → T[j]? = some x → ∀ r ∈ g.rs, r.left = (x : Int) → shO b r ≠ some t ∧ ∀ m, ldO b r = some m → m ∈ T
  cur : ∀ x : Nat, T[i]? = some x → ∀ (j : Nat) r, j < k → g.rs[j]? = some r → r.left = (x : Int) → shO b r ≠ some t ∧ ∀ m, ldO b r = some m → m ∈ T

theorem BfE.start {b : Bool} {g : G} {n t : Nat} (hn : n < g.ns.length) : BfE b g n t (updB (fun _ => false) n) [n] 0 0 :=
  ⟨by simp, fun x hx => by simp at hx; omega, fun x hx => by
    unfold updB
    by_cases e : x = n
    · simp [e]
    · simp [e], by simp, fun x hx h => by
    obtain rfl : x = n := by simpa using hx
    exact h, fun j x hj => absurd hj (by omega), fun x _ j r hj => absurd hj (by omega)⟩

theorem BfE.small {b : Bool} {g : G} {n t : Nat} {S : Nat → Bool} {T : List Nat} {i k : Nat} (h : BfE b g n t S T i k) : T.length ≤ g.ns.length := nodup_small h.nd h.lt

theorem BfE.stay {b : Bool} {g : G} {n t : Nat} {S : Nat → Bool} {T : List Nat} {i k x : Nat} {r : R} (h : BfE b g n t S T i k) (hx : T[i]? = some x) (hr : g.rs[k]? = some r) (hs : r.left = (x : Int) → shO b r ≠ some t ∧ ∀ m, ldO b r = some m → m ∈ T) : BfE b g n t S T i (k + 1) :=
  ⟨h.nd, h.lt, h.mem, h.st, h.way, h.done, fun y hy j r' hj hr' hl => by
    rw [hx] at hy
    obtain rfl := Option.some.inj hy
    by_cases e : j = k
    · subst e
      rw [hr] at hr'
      obtain rfl := Option.some.inj hr'
      exact hs hl
    · exact h.cur x hx j r' (by omega) hr' hl⟩

theorem BfE.add {b : Bool} {g : G} {n t : Nat} {S : Nat → Bool} {T : List Nat} {i k x m : Nat} {r : R} (h : BfE b g n t S T i k) (hx : T[i]? = some x) (hr : g.rs[k]? = some r) (hl : r.left = (x : Int)) (hs : shO b r ≠ some t) (hd : ldO b r = some m) (hm : m < g.ns.length) (hS : S m = false) : BfE b g n t (updB S m) (T ++ [m]) i (k + 1) := by
  have hnt : m ∉ T := fun e => by
    rw [(h.mem m hm).2 e] at hS
    cases hS
  have hiT := (List.getElem?_eq_some_iff.1 hx).1
  refine ⟨?_, fun y hy => ?_, fun y hy => ?_, List.mem_append_left _ h.st, fun y hy hL => ?_, fun j y hj hy r' hr' hl' => ?_, fun y hy j r' hj hr' hl' => ?_⟩
  · rw [List.nodup_append]
    refine ⟨h.nd, by simp, fun y hy z hz => ?_⟩
    obtain rfl : z = m := by simpa using hz
    rintro rfl
    exact hnt hy
  · rcases List.mem_append.1 hy with hy | hy
    · exact h.lt y hy
    · obtain rfl : y = m := by simpa using hy
      exact hm
  · by_cases e : y = m
    · subst e
      simp [updB_at]
    · rw [updB_ne _ e, h.mem y hy]
      simp [e]
  · rcases List.mem_append.1 hy with hy | hy
    · exact h.way y hy hL
    · obtain rfl : y = m := by simpa using hy
      have := Lft.leads (b := b) (List.mem_of_getElem? hr) hd hL
      rw [hl, Int.toNat_natCast] at this
      exact h.way x (List.mem_of_getElem? hx) this
  · rw [List.getElem?_append_left (by omega)] at hy
    obtain ⟨h1, h2⟩ := h.done j y hj hy r' hr' hl'
    exact ⟨h1, fun m' hm' => List.mem_append_left _ (h2 m' hm')⟩
  · rw [List.getElem?_append_left hiT, hx] at hy
    obtain rfl := Option.some.inj hy
    by_cases e : j = k
    · subst e
      rw [hr] at hr'
      obtain rfl := Option.some.inj hr'
      exact ⟨hs, fun m' hm' => by rw [hd] at hm'; cases hm'; simp⟩
    · obtain ⟨h1, h2⟩ := h.cur x hx j r' (by omega) hr' hl'
      exact ⟨h1, fun m' hm' => List.mem_append_left _ (h2 m' hm')⟩

theorem BfE.next {b : Bool} {g : G} {n t : Nat} {S : Nat → Bool} {T : List Nat} {i k : Nat} (h : BfE b g n t S T i k) (hk : g.rs.length ≤ k) : BfE b g n t S T (i + 1) 0 :=
  ⟨h.nd, h.lt, h.mem, h.st, h.way, fun j x hj hx r hr hl => by
    by_cases e : j = i
    · subst e
      obtain ⟨q, hq, rfl⟩ := List.getElem_of_mem hr
      exact h.cur x hx q _ (by omega) (List.getElem?_eq_getElem hq) hl
    · exact h.done j x (by omega) hx r hr hl, fun x _ j r hj => absurd hj (by omega)⟩

theorem BfE.no {b : Bool} {g : G} (hg : GoodG g) {n t : Nat} {S : Nat → Bool} {T : List Nat} {i k : Nat} (h : BfE b g n t S T i k) (hi : T.length ≤ i) : ¬ Lft b g.rs n t := by
  have key : ∀ {x u : Nat}, Lft b g.rs x u → u = t → x ∈ T → False := by
    intro x u hL
    induction hL with
    | shows hr hs =>
      rintro rfl hx
      obtain ⟨j, hj, he⟩ := List.getElem_of_mem hx
      have hl0 := (left_lt hg hr).1
      exact (h.done j _ (by omega) (by rw [List.getElem?_eq_getElem hj, he]) _ hr (by omega)).1 hs
    | leads hr hd _ ih =>
      rintro rfl hx
      obtain ⟨j, hj, he⟩ := List.getElem_of_mem hx
      have hl0 := (left_lt hg hr).1
      exact ih rfl ((h.done j _ (by omega) (by rw [List.getElem?_eq_getElem hj, he]) _ hr (by omega)).2 _ hd)
  exact fun hL => key hL rfl h.st

theorem BfE.yes {b : Bool} {g : G} {n t : Nat} {S : Nat → Bool} {T : List Nat} {i k x : Nat} {r : R} (h : BfE b g n t S T i k) (hx : T[i]? = some x) (hr : r ∈ g.rs) (hl : r.left = (x : Int)) (hs : shO b r = some t) : Lft b g.rs n t := by
  have := Lft.shows (b := b) hr hs
  rw [hl, Int.toNat_natCast] at this
  exact h.way x (List.mem_of_getElem? hx) this

open Classical in
noncomputable def lftB (b : Bool) (rs : List R) (n t : Nat) : Bool := decide (Lft b rs n t)
theorem lftB_iff {b : Bool} {rs : List R} {n t : Nat} : lftB b rs n t = true ↔ Lft b rs n t := by unfold lftB; simp
theorem lftB_no {b : Bool} {rs : List R} {n t : Nat} (h : ¬ Lft b rs n t) : lftB b rs n t = false := by rw [Bool.eq_false_iff, ne_eq, lftB_iff]; exact h

theorem ldZ_some {b : Bool} {r : R} {m : Nat} (h : ldO b r = some m) : ldZ b r = (m : Int) := by unfold ldZ; rw [h]
theorem ldZ_none {b : Bool} {r : R} (h : ldO b r = none) : ldZ b r = -1 := by unfold ldZ; rw [h]

set_option maxRecDepth 100000 in
set_option maxHeartbeats 4000000 in
theorem rin_any (bb : Bool) (ta na ra : Option Addr) (tc nc rc : Nat) (g : G) (a t : Nat) (w : World) (hR : RRow w ra g.rs) (ho : okG g) (hg : GoodG g) (ha : a < g.ns.length) :
    Calls Tryz.prog 93 #[.agg #[.slice ta g.ts.length tc, .slice na g.ns.length nc, .int .i64 g.ax, .slice ra g.rs.length rc], .int .i64 (a : Int), .int .i64 (t : Int), .bool bb] w fun e w' => e = .returned (.bool (lftB bb g.rs a t)) ∧ Below w.heap.size w w' := by
  obtain ⟨g1, g2, g3, _, g5, _⟩ := id ho
  have hfew := hg.few
  have n60 : g.ns.length ≤ 60 := by omega
  have hrules := hg.rules
  obtain ⟨i0, hi, hz0, hz1, hz2⟩ := info_parts GramLent.infoI
  have hB1 : Below w.heap.size w (w.alloc (.cells #[.slice ta g.ts.length tc, .slice na g.ns.length nc, .int .i64 g.ax, .slice ra g.rs.length rc] 25)) := (Below.refl _ _).alloc (Nat.le_refl _) _
  have b1 : (w.alloc (.cells #[.slice ta g.ts.length tc, .slice na g.ns.length nc, .int .i64 g.ax, .slice ra g.rs.length rc] 25)).cell? ⟨w.heap.size, 1, none⟩ = some (.slice na g.ns.length nc) := by simp [go_sem]
  have b3 : (w.alloc (.cells #[.slice ta g.ts.length tc, .slice na g.ns.length nc, .int .i64 g.ax, .slice ra g.rs.length rc] 25)).cell? ⟨w.heap.size, 3, none⟩ = some (.slice ra g.rs.length rc) := by simp [go_sem]
  have hz : (w.alloc (.cells #[.slice ta g.ts.length tc, .slice na g.ns.length nc, .int .i64 g.ax, .slice ra g.rs.length rc] 25)).heap.size = w.heap.size + 1 := by simp
  have hR1 := hR.below hB1 (Nat.le_refl _)
  have hmk := fun W => madeB_any g.ns.length n60 W
  have ha2 : (a : Int) < (g.ns.length : Int) := by omega
  have hzz : ((w.alloc (.cells #[.slice ta g.ts.length tc, .slice na g.ns.length nc, .int .i64 g.ax, .slice ra g.rs.length rc] 25)).alloc (.cells ((madeCells #[.bool false] g.ns.length).setIfInBounds a (.bool true)) 4)).heap.size = w.heap.size + 2 := by simp
  have hrow2 : BRow (((w.alloc (.cells #[.slice ta g.ts.length tc, .slice na g.ns.length nc, .int .i64 g.ax, .slice ra g.rs.length rc] 25)).alloc (.cells ((madeCells #[.bool false] g.ns.length).setIfInBounds a (.bool true)) 4)).alloc (.cells #[.int .i64 (a : Int)] 3)) (w.heap.size + 1) g.ns.length (updB (fun _ => false) a) := by
    have h1 := (madeS_row g.ns.length a (w.alloc (.cells #[.slice ta g.ts.length tc, .slice na g.ns.length nc, .int .i64 g.ax, .slice ra g.rs.length rc] 25))).below ((Below.refl (w.heap.size + 2) _).alloc (Nat.le_of_eq hzz.symm) (.cells #[.int .i64 (a : Int)] 3)) (by omega)
    rw [hz] at h1
    exact h1
  have hown2 : (((w.alloc (.cells #[.slice ta g.ts.length tc, .slice na g.ns.length nc, .int .i64 g.ax, .slice ra g.rs.length rc] 25)).alloc (.cells ((madeCells #[.bool false] g.ns.length).setIfInBounds a (.bool true)) 4)).alloc (.cells #[.int .i64 (a : Int)] 3)).ownsRow (w.heap.size + 2) 3 1 (.slice (some ⟨w.heap.size + 2, 0, none⟩) 1 1) 1 ([a].map numV) := by
    have h1 := own_one ((w.alloc (.cells #[.slice ta g.ts.length tc, .slice na g.ns.length nc, .int .i64 g.ax, .slice ra g.rs.length rc] 25)).alloc (.cells ((madeCells #[.bool false] g.ns.length).setIfInBounds a (.bool true)) 4)) (w.heap.size + 2) a (Nat.le_of_eq hzz.symm)
    rw [hzz] at h1
    exact h1
  have hB2 : Below (w.heap.size + 1) (w.alloc (.cells #[.slice ta g.ts.length tc, .slice na g.ns.length nc, .int .i64 g.ax, .slice ra g.rs.length rc] 25)) (((w.alloc (.cells #[.slice ta g.ts.length tc, .slice na g.ns.length nc, .int .i64 g.ax, .slice ra g.rs.length rc] 25)).alloc (.cells ((madeCells #[.bool false] g.ns.length).setIfInBounds a (.bool true)) 4)).alloc (.cells #[.int .i64 (a : Int)] 3)) := ((Below.refl _ _).alloc (by omega) _).alloc (by omega) _
  have hmc : (madeCells #[Value.bool false] g.ns.length)[a]? = some (.bool false) := by
    rw [← Array.getElem?_toList, toList_madeCells_one, List.getElem?_replicate, if_pos ha]
  have hzE : w.heap.size + 1 < (((w.alloc (.cells #[.slice ta g.ts.length tc, .slice na g.ns.length nc, .int .i64 g.ax, .slice ra g.rs.length rc] 25)).alloc (.cells ((madeCells #[.bool false] g.ns.length).setIfInBounds a (.bool true)) 4)).alloc (.cells #[.int .i64 (a : Int)] 3)).heap.size := by simp
  clear hzz
  go_enter Tryz.func93, Tryz.ntmps93
  go_wp2
  generalize (((w.alloc (.cells #[.slice ta g.ts.length tc, .slice na g.ns.length nc, .int .i64 g.ax, .slice ra g.rs.length rc] 25)).alloc (.cells ((madeCells #[.bool false] g.ns.length).setIfInBounds a (.bool true)) 4)).alloc (.cells #[.int .i64 (a : Int)] 3)) = W3 at *
  generalize (w.alloc (.cells #[.slice ta g.ts.length tc, .slice na g.ns.length nc, .int .i64 g.ax, .slice ra g.rs.length rc] 25)) = W1 at *
  clear hmk hmc
  go_loopw [10, 11] (fun td i wr => ∃ (k gT cT : Nat) (S : Nat → Bool) (T : List Nat), k ≤ T.length ∧ i = .int .i64 k ∧ td = .slice (some ⟨gT, 0, none⟩) T.length cT ∧ wr.ownsRow (w.heap.size + 2) 3 1 td T.length (T.map numV) ∧ BRow wr (w.heap.size + 1) g.ns.length S ∧ Hid (BfE bb g a t S T k 0) ∧ w.heap.size + 1 < wr.heap.size ∧ Below (w.heap.size + 1) W1 wr) (fun _ i _ => g.ns.length - (intOf i).toNat)
  case atStart => exact ⟨0, w.heap.size + 2, 1, _, [a], by simp, rfl, rfl, hown2, hrow2, BfE.start ha, hzE, hB2⟩
  case round =>
    clear hown2 hrow2 hB2 hzE
    obtain ⟨i, gT, cT, S, T, hiT, rfl, rfl, hown, hrow, hbf, hzr, hB⟩ := hrel
    have hsm := hbf.out.small
    have hszr := hB.size
    by_cases hlt : i < T.length
    · obtain ⟨x, hx⟩ : ∃ x, T[i]? = some x := ⟨T[i], List.getElem?_eq_getElem hlt⟩
      have hlt2 : (i : Int) < (T.length : Int) := by omega
      go_wp2
      go_loopw [10, 12] (fun td j wr => ∃ (k gT cT : Nat) (S : Nat → Bool) (T : List Nat), k ≤ g.rs.length ∧ i < T.length ∧ j = .int .i64 k ∧ td = .slice (some ⟨gT, 0, none⟩) T.length cT ∧ wr.ownsRow (w.heap.size + 2) 3 1 td T.length (T.map numV) ∧ BRow wr (w.heap.size + 1) g.ns.length S ∧ Hid (BfE bb g a t S T i k ∧ T[i]? = some x) ∧ w.heap.size + 1 < wr.heap.size ∧ Below (w.heap.size + 1) W1 wr) (fun _ j _ => g.rs.length - (intOf j).toNat)
      case atStart => exact ⟨0, gT, cT, S, T, by omega, hlt, rfl, rfl, hown, hrow, ⟨hbf.out, hx⟩, hzr, hB⟩
      case round =>
        clear hown hrow hbf hzr hB hiT hlt hlt2 hx hsm hszr
        obtain ⟨k, gT2, cT2, S2, T2, hk, hiT, rfl, rfl, hown, hrow, hQ, hzr, hB⟩ := hrel
        have hsm := hQ.out.1.small
        have hszr := hB.size
        have c3 := (hB.cell (p := ⟨w.heap.size, 3, none⟩) (by simp)).trans b3
        have hRk := hR1.below hB (by omega)
        by_cases hkl : k < g.rs.length
        · obtain ⟨r, hr⟩ : ∃ r, g.rs[k]? = some r := ⟨g.rs[k], List.getElem?_eq_getElem hkl⟩
          obtain ⟨b4, off, qa, qc, hra, d0, d1, hI⟩ := hRk k r hr
          subst hra
          have hkl2 : (k : Int) < (g.rs.length : Int) := by omega
          have hit2 : (i : Int) < (T2.length : Int) := by omega
          have hrm := List.mem_of_getElem? hr
          have hok := g5 r hrm
          have h32 := (ruleK_ok (hg.each r hrm)).1
          have dlt := cell_lt d0
          dsimp only at dlt
          have kx0 := own_get hown hQ.out.2
          have hstep : Hid (∀ w2, Below wr.heap.size wr w2 → w2.cell? ⟨w.heap.size, 3, none⟩ = some (.slice (some ⟨b4, off, none⟩) g.rs.length rc) ∧ w2.cell? ⟨b4, off + k * 2, none⟩ = some (.int .i64 r.left) ∧ w2.cell? ⟨b4, off + k * 2 + 1, none⟩ = some (.slice qa r.right.length qc) ∧ IRow w2 qa r.right ∧ w2.ownsRow (w.heap.size + 2) 3 1 (.slice (some ⟨gT2, 0, none⟩) T2.length cT2) T2.length (T2.map numV) ∧ BRow w2 (w.heap.size + 1) g.ns.length S2 ∧ w.heap.size + 1 < w2.heap.size ∧ Below (w.heap.size + 1) W1 w2) := fun w2 hb2 => ⟨(hb2.cell (p := ⟨w.heap.size, 3, none⟩) (show w.heap.size < _ by omega)).trans c3, (hb2.cell dlt).trans d0, (hb2.cell (cell_lt d1)).trans d1, hI.below hb2 (Nat.le_refl _), GramApart.own_below hown hb2, hrow.below hb2 hzr, by have := hb2.size; omega, hB.trans (hb2.mono (by omega))⟩
          clear hI hRk hown hrow hB
          by_cases hl : r.left = (x : Int)
          · have hlH : Hid (r.left = (x : Int)) := hl
            have hne : ((x : Int) != (x : Int)) = false := by simp
            rw [hl] at d0
            clear hl
            go_wp2
            go_quiet (fail)
            have hq := drew_below (B := wr.heap.size) wr nq
            obtain ⟨m3, m0, m1, mI, hown, hrow, hz3, hB3⟩ := hstep.out _ hq
            rw [hlH.out] at m0
            have hsz' : (wr.drewN nq).heap.size = wr.heap.size := rfl
            have hsh := rshows_any bb qa qc r t (wr.drewN nq) mI h32
            rw [hlH.out] at hsh
            have hstep1 : Hid (_) := hstep
            clear hstep d0 d1 c3 kx0
            generalize wr.drewN nq = V1 at *
            go_wp2_with fail
            refine hsh.mono ?_
            rintro e w2 ⟨rfl, hb2⟩
            have hB2 := hq.trans (hb2.mono (by omega))
            cases hsq : shQ bb r t with
            | true =>
              have E : Hid (true = lftB bb g.rs a t) := (lftB_iff.2 (hQ.out.1.yes hQ.out.2 hrm hlH.out (shQ_iff.1 hsq))).symm
              obtain ⟨_, _, _, _, _, _, _, hBe⟩ := hstep1.out w2 hB2
              clear hQ hstep1 hown hrow hsq
              go_wp2
              try rw [Exit.noGoto_ret]
              go_ret
              exact ⟨ret_bool E.out, hB1.trans (hBe.mono (by omega))⟩
            | false =>
              have hns : shO bb r ≠ some t := fun h => by rw [shQ_iff.2 h] at hsq; cases hsq
              obtain ⟨n3, n0, n1, nI, hown2, hrow2, hz4, hB4⟩ := hstep1.out w2 hB2
              rw [hlH.out] at n0
              have hld := rleads_any bb qa qc r w2 nI h32 hok
              rw [hlH.out] at hld
              clear hown hrow hsq m3 m0 m1 mI hB3 hsh hz3
              go_wp2_with fail
              refine hld.mono ?_
              rintro e w3 ⟨rfl, hb3⟩
              have hB5 := hB2.trans (hb3.mono hB2.size)
              obtain ⟨o3, o0, o1, oI, hown3, hrow3, hz5, hB6⟩ := hstep1.out w3 hB5
              clear hown2 hrow2 n3 n0 n1 nI hB4 hld hz4 o0 o1 oI
              rcases hd : ldO bb r with _ | m
              · rw [ldZ_none hd]
                have hQ2 : Hid (_) := (⟨hQ.out.1.stay hQ.out.2 hr (fun _ => ⟨hns, fun m hm => by rw [hd] at hm; cases hm⟩), hQ.out.2⟩ : BfE bb g a t S2 T2 i (k + 1) ∧ T2[i]? = some x)
                clear hQ hr hd hstep1 hns
                go_wp2
                go_roundw
                case rel => exact ⟨k + 1, gT2, cT2, S2, T2, by omega, hiT, by go_num, rfl, hown3, hrow3, hQ2, hz5, hB6⟩
                case measure => simp [intOf]; omega
              · have hmn := ld_lt hg hrm hd
                have hmn2 : (m : Int) < (g.ns.length : Int) := by omega
                rw [ldZ_some hd]
                have ks := (hrow3 m hmn).1
                have kf := (hrow3 m hmn).2
                cases hSm : S2 m with
                | true =>
                  rw [hSm] at ks
                  have hQ2 : Hid (_) := (⟨hQ.out.1.stay hQ.out.2 hr (fun _ => ⟨hns, fun m' hm' => by rw [hd] at hm'; cases hm'; exact (hQ.out.1.mem m hmn).1 hSm⟩), hQ.out.2⟩ : BfE bb g a t S2 T2 i (k + 1) ∧ T2[i]? = some x)
                  clear hQ hr hd hstep1 hns hSm
                  go_wp2
                  go_roundw
                  case rel => exact ⟨k + 1, gT2, cT2, S2, T2, by omega, hiT, by go_num, rfl, hown3, hrow3, hQ2, hz5, hB6⟩
                  case measure => simp [intOf]; omega
                | false =>
                  rw [hSm] at ks
                  have hQ2 : Hid (_) := (⟨hQ.out.1.add hQ.out.2 hr hlH.out hns hd hmn hSm, by rw [List.getElem?_append_left hiT]; exact hQ.out.2⟩ : BfE bb g a t (updB S2 m) (T2 ++ [m]) i (k + 1) ∧ (T2 ++ [m])[i]? = some x)
                  clear hQ hr hd hstep1 hns hSm
                  have hown9 : (w3.setCell ⟨w.heap.size + 1, m, none⟩ (.bool true)).ownsRow (w.heap.size + 2) 3 1 (.slice (some ⟨gT2, 0, none⟩) T2.length cT2) T2.length (T2.map numV) := own_set hown3 (by omega)
                  have hrow9 : BRow (w3.setCell ⟨w.heap.size + 1, m, none⟩ (.bool true)) (w.heap.size + 1) g.ns.length (updB S2 m) := BRow.set hrow3 hmn
                  have hB9 : Below (w.heap.size + 1) W1 (w3.setCell ⟨w.heap.size + 1, m, none⟩ (.bool true)) := hB6.setCell (Nat.le_refl _) _
                  have hz9 : w.heap.size + 1 < (w3.setCell ⟨w.heap.size + 1, m, none⟩ (.bool true)).heap.size := by simpa using hz5
                  have hc9 : ∀ (j : Nat) u, [Value.int .i64 (m : Int)][j]? = some u → ((w3.setCell ⟨w.heap.size + 1, m, none⟩ (.bool true)).alloc (.cells #[.int .i64 (m : Int)] 3)).cell? ((⟨w3.heap.size, 0, none⟩ : Addr).add j) = some u := fun j u hj => by
                    have h := cell_one_new (w3.setCell ⟨w.heap.size + 1, m, none⟩ (.bool true)) (.int .i64 (m : Int)) 3 j u hj
                    have e : (w3.setCell ⟨w.heap.size + 1, m, none⟩ (.bool true)).heap.size = w3.heap.size := by simp
                    rw [e] at h
                    exact h
                  clear hown3 hrow3
                  go_wp2_with (at_builtin; refine wpList_append_own _ rfl _ _ 36 rfl (w.heap.size + 2) 3 i0 (.int .i64 0) 1 8 Tryz.underlying36 hi hz0 hz1 hz2 rfl (by decide) _ _ _ rfl (hown9.alloc _) ⟨w3.heap.size, 0, none⟩ 1 1 [.int .i64 (m : Int)] rfl rfl hc9 (by simp [Value.oneCell']) (by unfold maxLen; omega) (by omega) (by simp; omega) ?_; intro v2 w4 hown2 hgrow2 _)
                  obtain ⟨g4, c4, rfl⟩ := ownsRow_succ hown2
                  have O2 : w4.ownsRow (w.heap.size + 2) 3 1 (.slice (some ⟨g4, 0, none⟩) (T2.length + 1) c4) (T2 ++ [m]).length ((T2 ++ [m]).map numV) := by
                    rw [List.length_append, List.map_append]
                    exact hown2
                  have B5 := ((Below.refl (w.heap.size + 2) (w3.setCell ⟨w.heap.size + 1, m, none⟩ (.bool true))).alloc (show w.heap.size + 2 ≤ _ from hz9) _).grown hgrow2 (by simp; omega) (fun j hj => (hown9.lt j hj).1)
                  have R2 := hrow9.below B5 (by omega)
                  have B2 := hB9.trans (B5.mono (by omega))
                  have Z2 := B5.size
                  clear hown2 hgrow2 hown9 hrow9 hB9 B5 hc9
                  go_roundw
                  case rel => exact ⟨k + 1, g4, c4, updB S2 m, T2 ++ [m], by omega, by simp; omega, by go_num, by simp, O2, R2, hQ2, by omega, B2⟩
                  case measure => simp [intOf]; omega
          · have hne : (r.left != (x : Int)) = true := by simpa using hl
            have hQ2 : Hid (_) := (⟨hQ.out.1.stay hQ.out.2 hr (fun h => absurd h hl), hQ.out.2⟩ : BfE bb g a t S2 T2 i (k + 1) ∧ T2[i]? = some x)
            clear hQ hr hl
            go_wp2
            go_quiet (fail)
            obtain ⟨_, _, _, _, hown, hrow, hz3, hB3⟩ := hstep.out _ (drew_below (B := wr.heap.size) wr nq)
            clear hstep
            go_wp2
            go_roundw
            case rel => exact ⟨k + 1, gT2, cT2, S2, T2, by omega, hiT, by go_num, rfl, hown, hrow, hQ2, hz3, hB3⟩
            case measure => simp [intOf]; omega
        · have hQ2 : Hid (BfE bb g a t S2 T2 (i + 1) 0) := hQ.out.1.next (by omega)
          have hnl : ¬ (k : Int) < (g.rs.length : Int) := by omega
          clear hQ hRk
          go_wp2
          go_roundw
          case rel => exact ⟨i + 1, gT2, cT2, S2, T2, by omega, by go_num, rfl, hown, hrow, hQ2, hzr, hB⟩
          case measure => simp [intOf]; omega
    · have E : Hid (false = lftB bb g.rs a t) := (lftB_no (hbf.out.no hg (by omega))).symm
      have hnl : ¬ (i : Int) < (T.length : Int) := by omega
      clear hbf
      go_wp2
      go_ret
      exact ⟨ret_bool E.out, hB1.trans (hB.mono (by omega))⟩

end Go.Proofs.YtigepihinflkdaaGreatDoor.EndsRef
