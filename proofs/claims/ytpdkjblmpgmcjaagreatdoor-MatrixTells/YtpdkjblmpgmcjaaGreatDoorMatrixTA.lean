/-
  Two lists of bytes that were handed out: ApartBytes of them; bytes compared.
-/
import Derived.Test.YtpdkjblmpgmcjaaGreatDoorMatrixTM
import Derived.OwnWalk
namespace Go.Proofs.YtpdkjblmpgmcjaaGreatDoor.MatrixRT
open Go.RowKit Go.Proofs.YtpdkjblmpgmcjaaGreatDoor.GramMath Go.Proofs.YtpdkjblmpgmcjaaGreatDoor.GramRow Go.Proofs.YtpdkjblmpgmcjaaGreatDoor.SetsAlg Go.Proofs.YtpdkjblmpgmcjaaGreatDoor.MatrixMath Go.Proofs.YtpdkjblmpgmcjaaGreatDoor.MatrixPut Go.Proofs.YtpdkjblmpgmcjaaGreatDoor.GramApart Go.Proofs.YtpdkjblmpgmcjaaGreatDoor.MatrixClash Go.Proofs.YtpdkjblmpgmcjaaGreatDoor.GramLent
set_option linter.unusedVariables false
set_option linter.unusedSimpArgs false

def mkB (j q : Nat) : Int := IntKind.u8.wrap (37 * (j : Int) + (q : Int))
def moB (j q : Nat) : Int := IntKind.u8.wrap (11 * (j : Int) + (q : Int))
def mkL (j n : Nat) : List Value := (List.range n).map (fun q => Value.int .u8 (mkB j q))
def moL (j n : Nat) : List Value := (List.range n).map (fun q => Value.int .u8 (moB j q))
theorem mkL_len (j n : Nat) : (mkL j n).length = n := by simp [mkL]
theorem moL_len (j n : Nat) : (moL j n).length = n := by simp [moL]
theorem moL_succ (j n : Nat) : moL j (n + 1) = moL j n ++ [.int .u8 (moB j n)] := by simp [moL, List.range_succ]

/-- The two rows, as far as they are marked. -/
def MB (g : Nat → Nat) (N : Nat) (w : World) (i k : Nat) : Prop := ∀ j, j < 2 → ∃ cur, RowAt w (g j) 5 cur ∧ cur.size = N ∧ ∀ q, q < N → (j < i ∨ (j = i ∧ q < k)) → cur[q]? = some (.int .u8 (mkB j q))

theorem MB.store {g : Nat → Nat} {N : Nat} {w : World} {i k : Nat} (h : MB g N w i k) (hi : i < 2) (hk : k < N) (hd : ∀ a b, a < 2 → b < 2 → a ≠ b → g a ≠ g b) : MB g N (w.setCell ⟨g i, k, none⟩ (.int .u8 (mkB i k))) i (k + 1) := fun j hj => by
  obtain ⟨cur, h1, h2, h3⟩ := h j hj
  by_cases e : j = i
  · subst e
    refine ⟨_, h1.set k _, by simpa using h2, fun q hq hm => ?_⟩
    rw [Array.getElem?_setIfInBounds]
    by_cases e2 : k = q
    · subst e2
      simp [h2, hq]
    · rw [if_neg e2]
      exact h3 q hq (by omega)
  · exact ⟨cur, h1.other (hd j i hj hi e) k _, h2, fun q hq hm => h3 q hq (by omega)⟩
theorem MB.next {g : Nat → Nat} {N : Nat} {w : World} {i : Nat} (h : MB g N w i N) : MB g N w (i + 1) 0 := fun j hj => by
  obtain ⟨cur, h1, h2, h3⟩ := h j hj
  exact ⟨cur, h1, h2, fun q hq hm => h3 q hq (by omega)⟩
theorem MB.below {g : Nat → Nat} {N : Nat} {w w' : World} {i k : Nat} (h : MB g N w i k) {B : Nat} (hb : Below B w w') (hB : w.heap.size ≤ B) : MB g N w' i k := fun j hj => by
  obtain ⟨cur, h1, h2, h3⟩ := h j hj
  exact ⟨cur, h1.below hb (Nat.lt_of_lt_of_le h1.lt hB), h2, h3⟩

theorem infoB53 : (Tryz.prog.info? 49).map (fun i => (i.zero, i.size, i.bytes)) = some (some (.slice none 0 0), 1, 24) := by kernel_rfl

theorem own_on {w w' : World} {base base2 e e2 n n2 s2 : Nat} {v v2 : Value} {xs xs2 : List Value} (h : w.ownsRow base e 1 v n xs) (hu : w.ownsRow base2 e2 s2 v2 n2 xs2) (hne : e ≠ e2) (hg : w.grownBy w' v2.ownBlock) : w'.ownsRow base e 1 v n xs := by
  obtain ⟨h1, h | ⟨g, cap, cur, hv, hbb, hr, rest⟩⟩ := h
  · exact ⟨h1, .inl h⟩
  · refine ⟨h1, .inr ⟨g, cap, cur, hv, hbb, ?_, rest⟩⟩
    have hrow : RowAt w g e cur := hr
    exact hrow.grown hg (hrow.not_own hne hu)

/-- What more holds: the lists that were gone on with. -/
def More (N : Nat) (w : World) (v : Value) (k base : Nat) (Ls : List Value) : Prop := w.ownsRow base 49 1 v k Ls ∧ ∀ j x, Ls[j]? = some x → ∃ h c, x = .slice (some ⟨h, 0, none⟩) (N + 70) c ∧ w.ownsRow base 5 1 x (N + 70) (mkL j N ++ moL j 70)

set_option maxRecDepth 100000 in
set_option maxHeartbeats 8000000 in
theorem apartB (B A cA : Nat) (g : Nat → Nat) (N : Nat) (w : World) (hN : N ≤ 1000) (hA : RowAt w A 49 #[.slice (some ⟨g 0, 0, none⟩) N N, .slice (some ⟨g 1, 0, none⟩) N N]) (hM : MB g N w 0 0)
    (hd : ∀ a b, a < 2 → b < 2 → a ≠ b → g a ≠ g b) (hB : ∀ j, j < 2 → B ≤ g j) (hBw : B ≤ w.heap.size) :
    Calls Tryz.prog 19 #[.slice (some ⟨A, 0, none⟩) 2 cA] w fun e w' => e = .returned (.bool true) ∧ Below B w w' := by
  obtain ⟨i0, hi, hz0, hz1, hz2⟩ := info_parts infoB8
  obtain ⟨i1, hi1, hz3, hz4, hz5⟩ := info_parts infoB53
  have HAc : Hid (∀ W, RowAt W A 49 #[.slice (some ⟨g 0, 0, none⟩) N N, .slice (some ⟨g 1, 0, none⟩) N N] → ∀ j, j < 2 → W.cell? ⟨A, j, none⟩ = some (.slice (some ⟨g j, 0, none⟩) N N)) := fun W h j hj => by
    obtain rfl | rfl : j = 0 ∨ j = 1 := by omega
    · exact h.cell rfl
    · exact h.cell rfl
  have HAg : Hid (∀ W i k, RowAt W A 49 #[.slice (some ⟨g 0, 0, none⟩) N N, .slice (some ⟨g 1, 0, none⟩) N N] → MB g N W i k → ∀ j, j < 2 → A ≠ g j) := fun W i k h hm j hj => by
    obtain ⟨cur, h1, _⟩ := hm j hj
    exact h.ne h1 (by decide)
  have hmk : ∀ j q : Nat, IntKind.u8.wrap (37 * (j : Int) + (q : Int)) = mkB j q := fun _ _ => rfl
  have hmo : ∀ j q : Nat, IntKind.u8.wrap (11 * (j : Int) + (q : Int)) = moB j q := fun _ _ => rfl
  go_enter Tryz.func19, Tryz.ntmps19
  go_wp2
  go_loopw [3] (fun i wr => ∃ k : Nat, k ≤ 2 ∧ i = .int .i64 k ∧ MB g N wr k 0 ∧ RowAt wr A 49 #[.slice (some ⟨g 0, 0, none⟩) N N, .slice (some ⟨g 1, 0, none⟩) N N] ∧ Below B w wr) (fun i _ => 2 - (intOf i).toNat)
  case atStart => exact ⟨0, by omega, rfl, hM, hA, Below.refl _ _⟩
  case round =>
    clear hM hA
    obtain ⟨i, hi2, rfl, hM, hA, hBr⟩ := hrel
    by_cases hlt : i < 2
    · have hlt2 : (i : Int) < 2 := by omega
      have cA1 := HAc.out wr hA i hlt
      go_wp2
      go_loopw [4] (fun q wr => ∃ k : Nat, k ≤ N ∧ q = .int .i64 k ∧ MB g N wr i k ∧ RowAt wr A 49 #[.slice (some ⟨g 0, 0, none⟩) N N, .slice (some ⟨g 1, 0, none⟩) N N] ∧ Below B w wr) (fun q _ => N - (intOf q).toNat)
      case atStart => exact ⟨0, by omega, rfl, hM, hA, hBr⟩
      case round =>
        clear hM hA hBr cA1
        obtain ⟨k, hk, rfl, hM, hA, hBr⟩ := hrel
        have cA1 := HAc.out wr hA i hlt
        by_cases hkl : k < N
        · have hkl2 : (k : Int) < (N : Int) := by omega
          obtain ⟨cur, h1, h2, _⟩ := hM i hlt
          obtain ⟨u, hu⟩ : ∃ u, cur[k]? = some u := ⟨cur[k]'(by omega), Array.getElem?_eq_getElem (by omega)⟩
          have c1 := h1.cell hu
          have f1 := h1.frozen k
          have S1 := hM.store hlt hkl hd
          have S2 := hA.other (HAg.out wr _ _ hA hM i hlt) k (.int .u8 (mkB i k))
          have S3 := hBr.setCell (p := ⟨g i, k, none⟩) (hB i hlt) (.int .u8 (mkB i k))
          have ew := hmk i k
          have b1 : 37 * (i : Int) + (k : Int) ≤ 2000 := by omega
          have b2 : 0 ≤ 37 * (i : Int) + (k : Int) := by omega
          clear hM hA hBr h1 h2 hu
          go_wp2
          go_roundw
          case rel => exact ⟨k + 1, by omega, by go_num, S1, S2, S3⟩
          case measure => simp [intOf]; omega
        · obtain rfl : N = k := by omega
          have hkl2 : ¬ (N : Int) < (N : Int) := by omega
          have S1 := hM.next
          go_wp2
          go_roundw
          case rel => exact ⟨i + 1, by omega, by go_num, S1, hA, hBr⟩
          case measure => simp [intOf]; omega
    · obtain rfl : i = 2 := by omega
      have hlt2 : ¬ ((2 : Nat) : Int) < 2 := by omega
      obtain ⟨w1, hw1⟩ : ∃ w1, w1 = wr := ⟨_, rfl⟩
      rw [← hw1] at hM hA hBr ⊢
      clear hw1
      have hB1 : B ≤ w1.heap.size := Nat.le_trans hBw hBr.size
      go_wp2
      go_loopw [5, 6] (fun mv q ws => ∃ (k : Nat) (Ls : List Value), k ≤ 2 ∧ q = .int .i64 k ∧ Ls.length = k ∧ Hid (More N ws mv k w1.heap.size Ls) ∧ Below w1.heap.size w1 ws) (fun _ q _ => 2 - (intOf q).toNat)
      case atStart => exact ⟨0, [], by omega, rfl, rfl, ⟨World.ownsRow_nil _ _ _ _, fun j x hx => by cases hx⟩, Below.refl _ _⟩
      case round =>
        obtain ⟨ws, hws⟩ : ∃ ws, ws = wr := ⟨_, rfl⟩
        obtain ⟨k, Ls, hk2, rfl, hLs, hMo, hC⟩ := hrel
        rw [← hws] at hMo hC ⊢
        clear hws
        have hAs := hA.below hC hA.lt
        have hMs := hM.below hC (Nat.le_refl _)
        have hss := hC.size
        by_cases hki : k < 2
        · have hki2 : (k : Int) < 2 := by omega
          have cA1 := HAc.out ws hAs k hki
          go_wp2
          go_loopw [7, 8] (fun l q wt => ∃ p : Nat, p ≤ 70 ∧ q = .int .i64 p ∧ ((p = 0 ∧ l = .slice (some ⟨g k, 0, none⟩) N N) ∨ (0 < p ∧ wt.ownsRow ws.heap.size 5 1 l (N + p) (mkL k N ++ moL k p))) ∧ Below ws.heap.size ws wt) (fun _ q _ => 70 - (intOf q).toNat)
          case atStart => exact ⟨0, by omega, rfl, .inl ⟨rfl, rfl⟩, Below.refl _ _⟩
          case round =>
            obtain ⟨p, hp, rfl, hI, hD⟩ := hrel
            have hts := hD.size
            by_cases hp70 : p < 70
            · have hp72 : (p : Int) < 70 := by omega
              have ew := hmo k p
              have b1 : 11 * (k : Int) + (p : Int) ≤ 2000 := by omega
              have b2 : 0 ≤ 11 * (k : Int) + (p : Int) := by omega
              rcases hI with ⟨hp0, rfl⟩ | ⟨hp0, hown⟩
              · have HP : Hid (p = 0) := hp0
                obtain ⟨cur, h1, h2, h3⟩ := hMs.below hD (Nat.le_refl _) k hki
                have hcells : Hid (∀ j u, (mkL k N)[j]? = some u → wr.cell? ⟨g k, j, none⟩ = some u) := fun j u hj => by
                  have hjl : j < N := by have := (List.getElem?_eq_some_iff.1 hj).1; rwa [mkL_len] at this
                  rw [h1.cell (h3 j hjl (.inl hki))]
                  rw [← hj]
                  simp [mkL, hjl]
                have hgk := h1.lt
                clear h1 h2 h3 hp0
                go_wp2_with (at_builtin; refine wpList_append_grows _ rfl (.tmp 53) (.tmp 59) 49 rfl 5 i0 (.int .u8 0) 1 1 Tryz.underlying49 hi hz0 hz1 hz2 rfl (by decide) (some ⟨g k, 0, none⟩) N N (mkL k N) rfl (fun h => by cases h) (by rw [mkL_len, Nat.mul_one]) (fun b hb j u hj => by cases hb; rw [Addr.add_lit, Nat.zero_add]; rw [World.cell?_of_block (Below.heap_alloc _ _ _ hgk)]; exact hcells.out j u hj) ⟨_, 0, none⟩ 1 1 [.int .u8 (moB k p)] rfl rfl (cell_one_new _ _ _) (by simp [Value.oneCell']) (by omega) (by unfold maxLen; omega) (by omega) ?_; intro v2 w2 hown2 hgrow2)
                have hn2 : w2.ownsRow ws.heap.size 5 1 v2 (N + (p + 1)) (mkL k N ++ moL k (p + 1)) := by
                  rw [moL_succ, show moL k p = [] from by rw [HP.out]; rfl, List.nil_append, show N + (p + 1) = N + 1 from by rw [HP.out]]
                  exact own_low hown2 (by simp; omega)
                have hD2 := (hD.alloc hts (.cells #[.int .u8 (moB k p)] 5)).grown hgrow2 (by simp; omega) (fun j hj => by cases hj)
                clear hown2 hgrow2
                go_roundw
                case rel => exact ⟨p + 1, by omega, by go_num, .inr ⟨by omega, hn2⟩, hD2⟩
                case measure => simp [intOf]; omega
              · go_wp2_with (at_builtin; refine wpList_append_own _ rfl (.tmp 53) (.tmp 59) 49 rfl ws.heap.size 5 i0 (.int .u8 0) 1 1 Tryz.underlying49 hi hz0 hz1 hz2 rfl (by decide) _ _ _ rfl (hown.alloc _) ⟨wr.heap.size, 0, none⟩ 1 1 [.int .u8 (moB k p)] rfl rfl (cells_new wr #[.int .u8 (moB k p)] 5) (by simp [Value.oneCell']) (by unfold maxLen; omega) (by omega) (by simp; omega) ?_; intro v2 w2 hown2 hgrow2 _)
                have hn2 : w2.ownsRow ws.heap.size 5 1 v2 (N + (p + 1)) (mkL k N ++ moL k (p + 1)) := by
                  rw [moL_succ, ← List.append_assoc]
                  exact hown2
                have hD2 := (hD.alloc hts (.cells #[.int .u8 (moB k p)] 5)).grown hgrow2 (by simp; omega) (fun j hj => by have := (hown.lt j hj).1; omega)
                clear hown2 hgrow2 hown
                go_roundw
                case rel => exact ⟨p + 1, by omega, by go_num, .inr ⟨by omega, hn2⟩, hD2⟩
                case measure => simp [intOf]; omega
            · obtain rfl : p = 70 := by omega
              have hp72 : ¬ ((70 : Nat) : Int) < 70 := by omega
              obtain hown : wr.ownsRow ws.heap.size 5 1 u7 (N + 70) (mkL k N ++ moL k 70) := by
                rcases hI with ⟨h, _⟩ | ⟨_, h⟩
                · cases h
                · exact h
              obtain ⟨hh, cc, rfl⟩ := ownsRow_succ (k := N + 69) hown
              obtain ⟨hm1, hm2⟩ := hMo.out
              have hmt : wr.ownsRow w1.heap.size 49 1 u5 k Ls := GramApart.own_below hm1 (hD.mono (Nat.le_refl _))
              have HM2 : Hid (∀ j x, Ls[j]? = some x → ∃ h c, x = .slice (some ⟨h, 0, none⟩) (N + 70) c ∧ wr.ownsRow w1.heap.size 5 1 x (N + 70) (mkL j N ++ moL j 70)) := fun j x hj => by
                obtain ⟨h, c, e1, e2⟩ := hm2 j x hj
                exact ⟨h, c, e1, GramApart.own_below e2 (hD.mono (Nat.le_refl _))⟩
              have hCt := hC.trans (hD.mono hC.size)
              have hct := hCt.size
              clear hI hm1 hm2 hMo
              go_wp2_with (at_builtin; refine wpList_append_own _ rfl (.tmp 61) (.tmp 63) 53 rfl w1.heap.size 49 i1 (.slice none 0 0) 1 24 Tryz.underlying53 hi1 hz3 hz4 hz5 rfl (by decide) _ _ _ rfl (hmt.alloc _) ⟨wr.heap.size, 0, none⟩ 1 1 [.slice (some ⟨hh, 0, none⟩) (N + 70) cc] rfl rfl (cells_new wr #[.slice (some ⟨hh, 0, none⟩) (N + 70) cc] 49) (by simp [Value.oneCell']) (by unfold maxLen; omega) (by omega) (by simp; omega) ?_; intro v3 w3 hown3 hgrow3 _)
              have hb0 : Below wr.heap.size wr (wr.alloc (.cells #[.slice (some ⟨hh, 0, none⟩) (N + 70) cc] 49)) := (Below.refl _ _).alloc (Nat.le_refl _) _
              have hmt2 := GramApart.own_below hmt hb0
              have hMn : Hid (More N w3 v3 (k + 1) w1.heap.size (Ls ++ [.slice (some ⟨hh, 0, none⟩) (N + 70) cc])) := by
                refine ⟨hown3, fun j x hj => ?_⟩
                by_cases hjl : j < Ls.length
                · rw [List.getElem?_append_left hjl] at hj
                  obtain ⟨h, c, e1, e2⟩ := HM2.out j x hj
                  exact ⟨h, c, e1, own_on (GramApart.own_below e2 hb0) hmt2 (by decide) hgrow3⟩
                · have hlt2 := (List.getElem?_eq_some_iff.1 hj).1
                  rw [List.length_append] at hlt2
                  simp at hlt2
                  obtain rfl : j = Ls.length := by omega
                  rw [List.getElem?_append_right (Nat.le_refl _), Nat.sub_self] at hj
                  obtain rfl : Value.slice (some ⟨hh, 0, none⟩) (N + 70) cc = x := by simpa using hj
                  rw [hLs]
                  exact ⟨hh, cc, rfl, own_on (GramApart.own_below (own_low hown hss) hb0) hmt2 (by decide) hgrow3⟩
              have hCn := (hCt.alloc hct (.cells #[.slice (some ⟨hh, 0, none⟩) (N + 70) cc] 49)).grown hgrow3 (by simp; omega) (fun j hj => by have := (hmt.lt j hj).1; omega)
              clear hown3 hgrow3 hmt hmt2 hown
              go_wp2
              go_roundw
              case rel => exact ⟨k + 1, _, by omega, by go_num, by rw [List.length_append, hLs]; rfl, hMn, hCn⟩
              case measure => simp [intOf]; omega
        · obtain rfl : k = 2 := by omega
          have hki2 : ¬ ((2 : Nat) : Int) < 2 := by omega
          obtain ⟨hm1, hm2⟩ := hMo.out
          obtain ⟨Mb, cM, rfl⟩ := ownsRow_succ (k := 1) hm1
          have BF := hBr.trans (hC.mono hB1)
          have HL : Hid (∀ j, j < 2 → ∃ h c, ws.cell? ⟨Mb, j, none⟩ = some (.slice (some ⟨h, 0, none⟩) (N + 70) c) ∧ (∀ q, q < N → ws.cell? ⟨h, q, none⟩ = some (.int .u8 (mkB j q))) ∧ ∀ q, q < 70 → ws.cell? ⟨h, N + q, none⟩ = some (.int .u8 (moB j q))) := fun j hj => by
            obtain ⟨x, hx⟩ : ∃ x, Ls[j]? = some x := ⟨Ls[j]'(by omega), List.getElem?_eq_getElem (by omega)⟩
            obtain ⟨h, c, rfl, e2⟩ := hm2 j x hx
            refine ⟨h, c, (hm1.cellAt j (by omega)).trans hx, fun q hq => ?_, fun q hq => ?_⟩
            · rw [e2.cellAt q (by omega), List.getElem?_append_left (by rw [mkL_len]; exact hq)]
              simp [mkL, hq]
            · rw [e2.cellAt (N + q) (by omega), List.getElem?_append_right (by rw [mkL_len]; omega), mkL_len, Nat.add_sub_cancel_left]
              simp [moL, hq]
          clear hMo hm1 hm2 hC
          go_wp2
          go_loop [9] (fun q => ∃ j : Nat, j ≤ 2 ∧ q = .int .i64 j) (fun q => 2 - (intOf q).toNat)
          case atStart => exact ⟨0, by omega, rfl⟩
          case round =>
            obtain ⟨j, hj, rfl⟩ := hrel
            by_cases hjk : j < 2
            · have hjk2 : (j : Int) < 2 := by omega
              have cA1 := HAc.out ws hAs j hjk
              obtain ⟨h, c, cM1, hq1, hq2⟩ := HL.out j hjk
              obtain ⟨cur, r1, r2, r3⟩ := hMs j hjk
              have HR1 : Hid (∀ q, q < N → ws.cell? ⟨g j, q, none⟩ = some (.int .u8 (mkB j q))) := fun q hq => r1.cell (r3 q hq (.inl hjk))
              have HQ1 : Hid (_) := hq1
              have HQ2 : Hid (_) := hq2
              clear hq1 hq2 r1 r2 r3
              go_wp2
              go_loop [11] (fun q => ∃ p : Nat, p ≤ N ∧ q = .int .i64 p) (fun q => N - (intOf q).toNat)
              case atStart => exact ⟨0, by omega, rfl⟩
              case round =>
                obtain ⟨p, hp, rfl⟩ := hrel
                by_cases hpn : p < N
                · have hpn2 : (p : Int) < (N : Int) := by omega
                  have c1 := HR1.out p hpn
                  have c2 := HQ1.out p hpn
                  have ew := hmk j p
                  have b1 : 37 * (j : Int) + (p : Int) ≤ 2000 := by omega
                  have b2 : 0 ≤ 37 * (j : Int) + (p : Int) := by omega
                  have en : (mkB j p != mkB j p) = false := by simp
                  have hpn4 : (p : Int) < (N : Int) + 70 := by omega
                  go_wp2
                  go_round
                  case rel => exact ⟨p + 1, by omega, by go_num⟩
                  case measure => simp [intOf]; omega
                · have hpn2 : ¬ (p : Int) < (N : Int) := by omega
                  go_wp2
                  go_loop [12] (fun q => ∃ p : Nat, p ≤ 70 ∧ q = .int .i64 p) (fun q => 70 - (intOf q).toNat)
                  case atStart => exact ⟨0, by omega, rfl⟩
                  case round =>
                    obtain ⟨p2, hp2, rfl⟩ := hrel
                    by_cases hp3 : p2 < 70
                    · have hp4 : (p2 : Int) < 70 := by omega
                      have c2 := HQ2.out p2 hp3
                      have ew := hmo j p2
                      have b1 : 11 * (j : Int) + (p2 : Int) ≤ 2000 := by omega
                      have b2 : 0 ≤ 11 * (j : Int) + (p2 : Int) := by omega
                      have en : (moB j p2 != moB j p2) = false := by simp
                      have hp5 : (N : Int) + (p2 : Int) < (N : Int) + 70 := by omega
                      go_wp2
                      go_round
                      case rel => exact ⟨p2 + 1, by omega, by go_num⟩
                      case measure => simp [intOf]; omega
                    · have hp4 : ¬ (p2 : Int) < 70 := by omega
                      go_wp2
                      go_round
                      case rel => exact ⟨j + 1, by omega, by go_num⟩
                      case measure => simp [intOf]; omega
            · have hjk2 : ¬ (j : Int) < 2 := by omega
              go_wp2
              go_ret
              exact ⟨rfl, BF⟩

end Go.Proofs.YtpdkjblmpgmcjaaGreatDoor.MatrixRT
