/-
  The document's Pack: the same bytes.
-/
import Derived.Test.YtpdkjblmpgmcjaaGreatDoorMatrixRTC
import Derived.Laws.OwnMore
namespace Go.Proofs.YtpdkjblmpgmcjaaGreatDoor.MatrixRT
open Go.RowKit Go.Proofs.YtpdkjblmpgmcjaaGreatDoor.GramMath Go.Proofs.YtpdkjblmpgmcjaaGreatDoor.GramRow Go.Proofs.YtpdkjblmpgmcjaaGreatDoor.SetsAlg Go.Proofs.YtpdkjblmpgmcjaaGreatDoor.MatrixMath Go.Proofs.YtpdkjblmpgmcjaaGreatDoor.MatrixPut Go.Proofs.YtpdkjblmpgmcjaaGreatDoor.GramApart Go.Proofs.YtpdkjblmpgmcjaaGreatDoor.MatrixClash Go.Proofs.YtpdkjblmpgmcjaaGreatDoor.GramLent
set_option linter.unusedVariables false
set_option linter.unusedSimpArgs false

def bytesV (f : Nat → Nat) (n k : Nat) : List Value := (List.range n).map (fun j => Value.int .u8 (pkN f k j : Int))

theorem bytesV_get {f : Nat → Nat} {n k j : Nat} (h : j < n) : (bytesV f n k)[j]? = some (.int .u8 (pkN f k j : Int)) := by
  unfold bytesV
  simp [h]
theorem bytesV_set {f : Nat → Nat} {n k : Nat} (h : k / 4 < n) : (bytesV f n k).set (k / 4) (.int .u8 ((pkN f k (k / 4) + f k * 4 ^ (k % 4) : Nat) : Int)) = bytesV f n (k + 1) := by
  unfold bytesV
  refine List.ext_getElem? (fun i => ?_)
  rw [List.getElem?_set]
  by_cases hi : k / 4 = i
  · subst hi
    rw [if_pos rfl]
    simp [h, pkN]
  · rw [if_neg hi]
    by_cases h2 : i < n
    · simp [h2, pkN, hi]
    · simp [h2]
theorem bytesV_more {f : Nat → Nat} (hf : ∀ k, f k ≤ 3) {n k : Nat} (h : k ≤ 4 * n) : bytesV f (n + 1) k = bytesV f n k ++ [.int .u8 0] := by
  unfold bytesV
  rw [List.range_succ, List.map_append]
  have := (pkN_low f hf k n).1 h
  simp [this]

theorem shlR : ∀ i : Nat, i < 4 → ∀ c : Nat, c < 4 → IntKind.u8.wrap (IntKind.i64.wrap ((c : Int) * 2 ^ ((2 * (i : Int)).toNat))) = ((c * 4 ^ i : Nat) : Int) := by decide +kernel
theorem shlR2 : ∀ i : Nat, i < 4 → ∀ c : Nat, c < 4 → IntKind.i64.wrap ((c : Int) * 2 ^ ((2 * (i : Int)).toNat)) = ((c * 4 ^ i : Nat) : Int) := by decide +kernel
theorem u8R : ∀ i : Nat, i < 4 → ∀ c : Nat, c < 4 → IntKind.u8.wrap ((c * 4 ^ i : Nat) : Int) = ((c * 4 ^ i : Nat) : Int) := by decide +kernel
theorem addR : ∀ i : Nat, i < 4 → ∀ a : Nat, a < 64 → ∀ c : Nat, c < 4 → a < 4 ^ i → IntKind.u8.wrap ((a : Int) + ((c * 4 ^ i : Nat) : Int)) = ((a + c * 4 ^ i : Nat) : Int) := by decide +kernel

set_option maxRecDepth 100000 in
set_option maxHeartbeats 8000000 in
theorem rpack_s (ro : Option Addr) (t : Nat) (F : Nat → Nat → Nat) (S : Nat → Nat → Int) (w : World) (hr : RMatV w ro t F) (ht : t ≤ 60) (hF : ∀ i j, F i j < 8) (hE : Alike t F S) :
    Calls Tryz.prog 18 #[.pointer ro] w fun e w' =>
      (∃ v, e = .returned v ∧ w'.ownsRow w.heap.size 5 1 v ((t * t + 3) / 4) (bytesV (atK t S) ((t * t + 3) / 4) (t * t))) ∧ Below w.heap.size w w' := by
  obtain ⟨i0, hi, hz0, hz1, hz2⟩ := info_parts infoB8
  have hp0 : ∀ W : World, (binOp .eql 33 (.pointer none) (.pointer none)).run Tryz.prog W = .ok (.bool true) W := fun W => by kernel_rfl
  have hp1 : ∀ (W : World) (A : Addr), (binOp .eql 33 (.pointer (some A)) (.pointer none)).run Tryz.prog W = .ok (.bool false) W := fun W A => by kernel_rfl
  rcases id hr with ⟨rfl, rfl⟩ | ⟨R, rfl, hr1⟩
  · go_enter Tryz.func18, Tryz.ntmps18
    go_wp2
    go_ret
    exact ⟨⟨_, rfl, World.ownsRow_nil _ _ _ _⟩, Below.refl _ _⟩
  have HC : Hid (∀ W, Below w.heap.size w W → W.cell? ⟨R, 0, none⟩ = some (.int .i64 (t : Int))) := fun W hb => (hb.cell (p := ⟨R, 0, none⟩) (cell_lt hr1.c0)).trans hr1.c0
  have HH : Hid (∀ (a b : Int) W, Below w.heap.size w W → Calls Tryz.prog 40 #[.pointer (some ⟨R, 0, none⟩), .int .i64 a, .int .i64 b] W fun e w' => e = .returned (.int .i64 (atI (t : Int) S a b)) ∧ w' = W) := fun a b W hb => rat_s _ t F S a b W (hr.below hb (Nat.le_refl _)) ht hF hE
  clear hr hr1 hF hE
  have htt : t * t ≤ 3600 := Nat.mul_le_mul ht ht
  have HTT : Hid (_) := htt
  clear htt
  go_enter Tryz.func18, Tryz.ntmps18
  go_wp2
  go_loopw [3, 4, 5] (fun v q i wr => ∃ a k : Nat, a ≤ t ∧ k = a * t ∧ q = .int .i64 k ∧ i = .int .i64 a ∧ wr.ownsRow w.heap.size 5 1 v ((k + 3) / 4) (bytesV (atK t S) ((k + 3) / 4) k) ∧ Below w.heap.size w wr) (fun _ _ i _ => t - (intOf i).toNat)
  case atStart => exact ⟨0, 0, by omega, by omega, rfl, rfl, World.ownsRow_nil _ _ _ _, Below.refl _ _⟩
  case round =>
    obtain ⟨a, k0, ha, hk0, rfl, rfl, hrow, hB⟩ := hrel
    have c0 := HC.out wr hB
    by_cases hal : a < t
    · have hal2 : (a : Int) < (t : Int) := by omega
      have HAl : Hid (a < t) := hal
      have HK0 : Hid (k0 = a * t) := hk0
      clear hal hk0
      go_wp2
      go_loopw [3, 4, 6] (fun v q i wr => ∃ b k : Nat, b ≤ t ∧ Hid (k = a * t + b) ∧ q = .int .i64 k ∧ i = .int .i64 b ∧ wr.ownsRow w.heap.size 5 1 v ((k + 3) / 4) (bytesV (atK t S) ((k + 3) / 4) k) ∧ Below w.heap.size w wr) (fun _ _ i _ => t - (intOf i).toNat)
      case atStart => exact ⟨0, k0, by omega, by rw [HK0.out]; rfl, rfl, rfl, hrow, hB⟩
      case round =>
        clear hrow hB c0
        obtain ⟨b, k, hb, hk, rfl, rfl, hrow, hB⟩ := hrel
        have c0 := HC.out wr hB
        by_cases hbl : b < t
        · have hbl2 : (b : Int) < (t : Int) := by omega
          have hkl : k + 1 ≤ 3600 := by
            have h1 := HAl.out
            have h2 : a * t + t ≤ t * t := by
              have := Nat.mul_le_mul_right t (show a + 1 ≤ t from h1)
              rwa [Nat.succ_mul] at this
            have := HTT.out
            have := hk.out
            omega
          have hka : k / t = a := by
            rw [hk.out, Nat.mul_comm, Nat.mul_add_div (by omega), Nat.div_eq_of_lt hbl, Nat.add_zero]
          have hkb : k % t = b := by
            rw [hk.out, Nat.mul_comm, Nat.mul_add_mod, Nat.mod_eq_of_lt hbl]
          obtain ⟨c, hcd⟩ : ∃ c, c = atK t S k := ⟨_, rfl⟩
          have hc4 : c < 4 := by have := atK_le t S k; omega
          have hat : Hid (∀ W, Below w.heap.size w W → Calls Tryz.prog 40 #[.pointer (some ⟨R, 0, none⟩), .int .i64 (a : Int), .int .i64 (b : Int)] W fun e w' => e = .returned (.int .i64 (c : Int)) ∧ w' = W) := fun W h => by
            have h2 := HH.out a b W h
            have h3 := atK_int t S k
            rw [hka, hkb] at h3
            rwa [h3, ← hcd] at h2
          have HBl : Hid (b < t) := hbl
          obtain ⟨j, hj⟩ : ∃ j, j = k / 4 := ⟨_, rfl⟩
          obtain ⟨i, hi4e⟩ : ∃ i, i = k % 4 := ⟨_, rfl⟩
          have hi4 : i < 4 := by omega
          have hsw := hB.size
          have HFin : Hid (∀ (W : World) (g9 n9 c9 : Nat), n9 = (k + 1 + 3) / 4 → W.ownsRow w.heap.size 5 1 (.slice (some ⟨g9, 0, none⟩) n9 c9) n9 (bytesV (atK t S) n9 k) → Below w.heap.size w W →
              W.cell? ⟨g9, j, none⟩ = some (.int .u8 (pkN (atK t S) k j : Int)) ∧ W.frozen? ⟨g9, j, none⟩ = false ∧ j < n9 ∧
              (W.setCell ⟨g9, j, none⟩ (.int .u8 ((pkN (atK t S) k j + c * 4 ^ i : Nat) : Int))).ownsRow w.heap.size 5 1 (.slice (some ⟨g9, 0, none⟩) n9 c9) n9 (bytesV (atK t S) n9 (k + 1)) ∧ Below w.heap.size w (W.setCell ⟨g9, j, none⟩ (.int .u8 ((pkN (atK t S) k j + c * 4 ^ i : Nat) : Int)))) := fun W g9 n9 c9 hn h1 h2 => by
            have hjn : j < n9 := by omega
            have hlo := (h1.lt g9 rfl).1
            refine ⟨(h1.cellAt j (by omega)).trans (bytesV_get hjn), h1.frozenAt j, hjn, ?_, h2.setCell (p := ⟨g9, j, none⟩) hlo _⟩
            have h3 := h1.stored j (.int .u8 ((pkN (atK t S) k j + c * 4 ^ i : Nat) : Int))
            rw [hj, hi4e, hcd, bytesV_set (by rw [← hj]; exact hjn)] at h3
            rw [hj, hi4e, hcd]
            exact h3.1
          obtain ⟨old, hod⟩ : ∃ x, x = pkN (atK t S) k j := ⟨_, rfl⟩
          rw [← hod] at HFin
          have hol : old < 4 ^ i := by
            have h2 := (pkN_low (atK t S) (atK_le t S) k j).2 (by omega) (by omega)
            rw [hod]
            rwa [show k - 4 * j = i from by omega] at h2
          have hol2 : old < 64 := Nat.lt_of_lt_of_le hol (by
            have : 4 ^ i ≤ 4 ^ 3 := Nat.pow_le_pow_right (by decide) (by omega)
            omega)
          have r1 := shlR i hi4 c hc4
          have r2 := shlR2 i hi4 c hc4
          have r3 := u8R i hi4 c hc4
          have r4 := addR i hi4 old hol2 c hc4 hol
          obtain ⟨P, hP⟩ : ∃ P : Nat, P = c * 4 ^ i := ⟨_, rfl⟩
          obtain ⟨Q, hQ⟩ : ∃ Q : Nat, Q = old + P := ⟨_, rfl⟩
          rw [← hP] at r1 r2 r3 r4 HFin
          rw [← hQ] at r4 HFin
          clear hP hQ
          have hj1 : (k : Int) / 4 = (j : Int) := by omega
          have hi1 : (k : Int) % 4 = (i : Int) := by omega
          have hjl : j < 1000 := by omega
          have hmod : (k : Int).tmod 4 = (i : Int) := by rw [hi4e]; rfl
          clear hka hkb hbl hcd hod hol hol2
          have HJ : Hid (j = k / 4) := hj
          have HI : Hid (i = k % 4) := hi4e
          clear hj hi4e
          by_cases hi0 : i = 0
          · have hni : ((i : Int) == 0) = true := by rw [hi0]; rfl
            have HZ : Hid (i = 0) := hi0
            clear hi0
            have hn : (k + 1 + 3) / 4 = (k + 3) / 4 + 1 := by have := HI.out; have := HZ.out; omega
            have hmore := bytesV_more (f := atK t S) (atK_le t S) (n := (k + 3) / 4) (k := k) (by have := HI.out; have := HZ.out; omega)
            rw [← hn] at hmore
            have hlen9 : (k + 3) / 4 ≤ 1000 := by omega
            have HMo : Hid (_) := hmore
            have HNn : Hid (_) := hn
            clear hmore hn
            obtain ⟨n0, hn0⟩ : ∃ n0, n0 = (k + 3) / 4 := ⟨_, rfl⟩
            have HN0 : Hid (_) := hn0
            rw [← hn0] at hrow hlen9
            clear hn0
            go_wp2_with (at_builtin; refine wpList_append_own _ rfl _ _ 49 rfl w.heap.size 5 i0 (.int .u8 0) 1 1 Tryz.underlying49 hi hz0 hz1 hz2 rfl (by decide) _ _ _ rfl (hrow.alloc _) ⟨wr.heap.size, 0, none⟩ 1 1 [.int .u8 0] rfl rfl (cells_new wr #[.int .u8 0] 5) (by simp [Value.oneCell']) (by unfold maxLen; omega) (by omega) (by simp; omega) ?_; intro v' W9 hown' hgrow _; obtain ⟨g9, c9, rfl⟩ := ownsRow_succ hown'; have hB9 := (hB.alloc hsw (.cells #[.int .u8 0] 5)).grown hgrow (by simp; omega) (fun j hj => by have := (hrow.lt j hj).1; omega); have hown9 : W9.ownsRow w.heap.size 5 1 (.slice (some ⟨g9, 0, none⟩) ((k + 1 + 3) / 4) c9) ((k + 1 + 3) / 4) (bytesV (atK t S) ((k + 1 + 3) / 4) k) := (by rw [HMo.out, HNn.out, ← HN0.out]; exact hown'); clear hown' hgrow)
            rw [show n0 + 1 = (k + 1 + 3) / 4 from by rw [HN0.out, HNn.out]]
            obtain ⟨hc, hf, hjn, e1, e2⟩ := HFin.out W9.drew g9 ((k + 1 + 3) / 4) c9 rfl hown9 (hB9.trans ((drew_below W9 1).mono hB9.size))
            have hBd : Below w.heap.size w W9.drew := hB9.trans ((drew_below W9 1).mono hB9.size)
            have hjn2 : (j : Int) < (((k + 1 + 3) / 4 : Nat) : Int) := by omega
            obtain ⟨n9, hn9⟩ : ∃ n9, n9 = (k + 1 + 3) / 4 := ⟨_, rfl⟩
            have HN9 : Hid (_) := hn9
            rw [← hn9] at hjn2 hjn e1 ⊢
            clear hn9
            have hjn3 : ¬ (n9 : Int) ≤ (j : Int) := by omega
            clear hown9 hB9
            refine wp_region_noPanic ?_
            refine wp_region_held_drew (S := (fun _ => True)) (by kernel_rfl) trivial (fun hHeld => ?_)
            generalize W9.drew = d at *
            refine wpAnyH_take (i := 0) (v := .slice (some ⟨g9, 0, none⟩) n9 c9) rfl (by kernel_rfl) (by kernel_rfl) (by kernel_rfl) (fun _ _ _ h => h) (Or.inl ⟨by rfl, fun w0 hSw => ?_⟩) trivial ?_
            · go_simp
            simp only [List.getElem_toArray, List.getElem_cons_zero, List.getElem_cons_succ, Act.put, List.setIfInBounds_toArray, List.set_cons_zero, List.set_cons_succ]
            refine wpAnyH_take (i := 1) (v := .int .i64 (k : Int)) rfl (by kernel_rfl) (by kernel_rfl) (by kernel_rfl) (fun _ _ _ h => h) (Or.inl ⟨by rfl, fun w0 hSw => ?_⟩) trivial ?_
            · go_simp
            simp only [List.getElem_toArray, List.getElem_cons_zero, List.getElem_cons_succ, Act.put, List.setIfInBounds_toArray, List.set_cons_zero, List.set_cons_succ]
            refine wpAnyH_take (i := 2) (v := .int .i64 (j : Int)) rfl (by kernel_rfl) (by kernel_rfl) (by kernel_rfl) (fun _ _ _ h => h) (Or.inl ⟨by rfl, fun w0 hSw => ?_⟩) trivial ?_
            · go_simp; rw [IntKind.wrap_i64]; omega
            simp only [List.getElem_toArray, List.getElem_cons_zero, List.getElem_cons_succ, Act.put, List.setIfInBounds_toArray, List.set_cons_zero, List.set_cons_succ]
            refine wpAnyH_take (i := 3) (v := .slice (some ⟨g9, 0, none⟩) n9 c9) rfl (by kernel_rfl) (by kernel_rfl) (by kernel_rfl) (fun _ _ _ h => h) (Or.inl ⟨by rfl, fun w0 hSw => ?_⟩) trivial ?_
            · go_simp
            simp only [List.getElem_toArray, List.getElem_cons_zero, List.getElem_cons_succ, Act.put, List.setIfInBounds_toArray, List.set_cons_zero, List.set_cons_succ]
            refine wpAnyH_take (i := 4) (v := .int .i64 (k : Int)) rfl (by kernel_rfl) (by kernel_rfl) (by kernel_rfl) (fun _ _ _ h => h) (Or.inl ⟨by rfl, fun w0 hSw => ?_⟩) trivial ?_
            · go_simp
            simp only [List.getElem_toArray, List.getElem_cons_zero, List.getElem_cons_succ, Act.put, List.setIfInBounds_toArray, List.set_cons_zero, List.set_cons_succ]
            refine wpAnyH_take (i := 5) (v := .int .i64 (j : Int)) rfl (by kernel_rfl) (by kernel_rfl) (by kernel_rfl) (fun _ _ _ h => h) (Or.inl ⟨by rfl, fun w0 hSw => ?_⟩) trivial ?_
            · go_simp; rw [IntKind.wrap_i64]; omega
            simp only [List.getElem_toArray, List.getElem_cons_zero, List.getElem_cons_succ, Act.put, List.setIfInBounds_toArray, List.set_cons_zero, List.set_cons_succ]
            refine wpAnyH_take (i := 6) (v := .pointer (some ⟨g9, j, none⟩)) rfl (by kernel_rfl) (by kernel_rfl) (by kernel_rfl) (fun _ _ _ h => h) (Or.inl ⟨by rfl, fun w0 hSw => ?_⟩) trivial ?_
            · go_simp
            simp only [List.getElem_toArray, List.getElem_cons_zero, List.getElem_cons_succ, Act.put, List.setIfInBounds_toArray, List.set_cons_zero, List.set_cons_succ]
            refine wpAnyH_take (i := 8) (v := .pointer (some ⟨R, 0, none⟩)) rfl (by kernel_rfl) (by kernel_rfl) (by kernel_rfl) (fun _ _ _ h => h) (Or.inl ⟨by rfl, fun w0 hSw => ?_⟩) trivial ?_
            · go_simp
            simp only [List.getElem_toArray, List.getElem_cons_zero, List.getElem_cons_succ, Act.put, List.setIfInBounds_toArray, List.set_cons_zero, List.set_cons_succ]
            refine wpAnyH_take (i := 9) (v := .int .i64 (a : Int)) rfl (by kernel_rfl) (by kernel_rfl) (by kernel_rfl) (fun _ _ _ h => h) (Or.inl ⟨by rfl, fun w0 hSw => ?_⟩) trivial ?_
            · go_simp
            simp only [List.getElem_toArray, List.getElem_cons_zero, List.getElem_cons_succ, Act.put, List.setIfInBounds_toArray, List.set_cons_zero, List.set_cons_succ]
            refine wpAnyH_take (i := 10) (v := .int .i64 (b : Int)) rfl (by kernel_rfl) (by kernel_rfl) (by kernel_rfl) (fun _ _ _ h => h) (Or.inl ⟨by rfl, fun w0 hSw => ?_⟩) trivial ?_
            · go_simp
            simp only [List.getElem_toArray, List.getElem_cons_zero, List.getElem_cons_succ, Act.put, List.setIfInBounds_toArray, List.set_cons_zero, List.set_cons_succ]
            refine wpAnyH_take (i := 12) (v := .int .i64 (k : Int)) rfl (by kernel_rfl) (by kernel_rfl) (by kernel_rfl) (fun _ _ _ h => h) (Or.inl ⟨by rfl, fun w0 hSw => ?_⟩) trivial ?_
            · go_simp
            simp only [List.getElem_toArray, List.getElem_cons_zero, List.getElem_cons_succ, Act.put, List.setIfInBounds_toArray, List.set_cons_zero, List.set_cons_succ]
            refine wpAnyH_take (i := 13) (v := .int .i64 (i : Int)) rfl (by kernel_rfl) (by kernel_rfl) (by kernel_rfl) (fun _ _ _ h => h) (Or.inl ⟨by rfl, fun w0 hSw => ?_⟩) trivial ?_
            · go_simp
            simp only [List.getElem_toArray, List.getElem_cons_zero, List.getElem_cons_succ, Act.put, List.setIfInBounds_toArray, List.set_cons_zero, List.set_cons_succ]
            refine wpAnyH_take (i := 14) (v := .int .i64 (2 * (i : Int))) rfl (by kernel_rfl) (by kernel_rfl) (by kernel_rfl) (fun _ _ _ h => h) (Or.inl ⟨by rfl, fun w0 hSw => ?_⟩) trivial ?_
            · go_simp; rw [IntKind.wrap_i64]; omega
            simp only [List.getElem_toArray, List.getElem_cons_zero, List.getElem_cons_succ, Act.put, List.setIfInBounds_toArray, List.set_cons_zero, List.set_cons_succ]
            refine wpAnyH_take (i := 15) (v := .int .u64 (2 * (i : Int))) rfl (by kernel_rfl) (by kernel_rfl) (by kernel_rfl) (fun _ _ _ h => h) (Or.inl ⟨by rfl, fun w0 hSw => ?_⟩) trivial ?_
            · go_simp; rw [IntKind.wrap_u64]; omega
            simp only [List.getElem_toArray, List.getElem_cons_zero, List.getElem_cons_succ, Act.put, List.setIfInBounds_toArray, List.set_cons_zero, List.set_cons_succ]
            refine wpAnyH_ready (rs := [7, 11]) (by kernel_rfl) (by simp) ?_
            refine AllReadyH.cons rfl (fun K hK => ?_) (AllReadyH.cons rfl (fun K hK => ?_) AllReadyH.nil)
            · skip
              go_simp
              refine hK.out _ _ trivial (fun _ => ?_)
              clear hK K
              refine wpAnyH_ready (rs := [11]) (by kernel_rfl) (by simp) ?_
              refine AllReadyH.cons rfl (fun K hK => ?_) AllReadyH.nil
              go_simp
              refine (hat.out d hBd).mono ?_
              rintro e w8 ⟨rfl, hy⟩
              obtain rfl := hy.symm
              refine hK.out _ _ trivial (fun _ => ?_)
              clear hK K
              refine wpAnyH_take (i := 16) (v := .int .i64 (P : Int)) rfl (by kernel_rfl) (by kernel_rfl) (by kernel_rfl) (fun _ _ _ h => h) (Or.inl ⟨by rfl, fun w0 hSw => ?_⟩) trivial ?_
              · go_simp
              simp only [List.getElem_toArray, List.getElem_cons_zero, List.getElem_cons_succ, Act.put, List.setIfInBounds_toArray, List.set_cons_zero, List.set_cons_succ]
              refine wpAnyH_take (i := 17) (v := .int .u8 (P : Int)) rfl (by kernel_rfl) (by kernel_rfl) (by kernel_rfl) (fun _ _ _ h => h) (Or.inl ⟨by rfl, fun w0 hSw => ?_⟩) trivial ?_
              · go_simp
              simp only [List.getElem_toArray, List.getElem_cons_zero, List.getElem_cons_succ, Act.put, List.setIfInBounds_toArray, List.set_cons_zero, List.set_cons_succ]
              refine wpAnyH_take (i := 18) (v := .int .u8 (Q : Int)) rfl (by kernel_rfl) (by kernel_rfl) (by kernel_rfl) (fun _ _ _ h => h) (Or.inl ⟨by rfl, fun w0 hSw => ?_⟩) trivial ?_
              · go_simp
              simp only [List.getElem_toArray, List.getElem_cons_zero, List.getElem_cons_succ, Act.put, List.setIfInBounds_toArray, List.set_cons_zero, List.set_cons_succ]
              refine wpAnyH_ready (rs := [19]) (by kernel_rfl) (by simp) ?_
              refine AllReadyH.cons rfl (fun K hK => ?_) AllReadyH.nil
              go_simp
              refine hK.out _ _ trivial (fun _ => ?_)
              clear hK K
              refine wpAnyH_ready (rs := [20]) (by kernel_rfl) (by simp) ?_
              refine AllReadyH.cons rfl (fun K hK => ?_) AllReadyH.nil
              go_simp
              refine hK.out _ _ trivial (fun _ => ?_)
              clear hK K
              refine wpAnyH_done (by kernel_rfl) (NoPanic.normal ?_) _
              have hb2 := HBl.out
              go_wp2
              go_roundw
              case rel => exact ⟨b + 1, k + 1, by omega, by rw [hk.out]; rfl, by go_num, by go_num, by rw [HN9.out] at e1 ⊢; exact e1, e2⟩
              case measure => simp [intOf]; omega
            · skip
              go_simp
              refine (hat.out d hBd).mono ?_
              rintro e w8 ⟨rfl, hy⟩
              obtain rfl := hy.symm
              refine hK.out _ _ trivial (fun _ => ?_)
              clear hK K
              refine wpAnyH_take (i := 16) (v := .int .i64 (P : Int)) rfl (by kernel_rfl) (by kernel_rfl) (by kernel_rfl) (fun _ _ _ h => h) (Or.inl ⟨by rfl, fun w0 hSw => ?_⟩) trivial ?_
              · go_simp
              simp only [List.getElem_toArray, List.getElem_cons_zero, List.getElem_cons_succ, Act.put, List.setIfInBounds_toArray, List.set_cons_zero, List.set_cons_succ]
              refine wpAnyH_take (i := 17) (v := .int .u8 (P : Int)) rfl (by kernel_rfl) (by kernel_rfl) (by kernel_rfl) (fun _ _ _ h => h) (Or.inl ⟨by rfl, fun w0 hSw => ?_⟩) trivial ?_
              · go_simp
              simp only [List.getElem_toArray, List.getElem_cons_zero, List.getElem_cons_succ, Act.put, List.setIfInBounds_toArray, List.set_cons_zero, List.set_cons_succ]
              refine wpAnyH_ready (rs := [7]) (by kernel_rfl) (by simp) ?_
              refine AllReadyH.cons rfl (fun K hK => ?_) AllReadyH.nil
              go_simp
              refine hK.out _ _ trivial (fun _ => ?_)
              clear hK K
              refine wpAnyH_take (i := 18) (v := .int .u8 (Q : Int)) rfl (by kernel_rfl) (by kernel_rfl) (by kernel_rfl) (fun _ _ _ h => h) (Or.inl ⟨by rfl, fun w0 hSw => ?_⟩) trivial ?_
              · go_simp
              simp only [List.getElem_toArray, List.getElem_cons_zero, List.getElem_cons_succ, Act.put, List.setIfInBounds_toArray, List.set_cons_zero, List.set_cons_succ]
              refine wpAnyH_ready (rs := [19]) (by kernel_rfl) (by simp) ?_
              refine AllReadyH.cons rfl (fun K hK => ?_) AllReadyH.nil
              go_simp
              refine hK.out _ _ trivial (fun _ => ?_)
              clear hK K
              refine wpAnyH_ready (rs := [20]) (by kernel_rfl) (by simp) ?_
              refine AllReadyH.cons rfl (fun K hK => ?_) AllReadyH.nil
              go_simp
              refine hK.out _ _ trivial (fun _ => ?_)
              clear hK K
              refine wpAnyH_done (by kernel_rfl) (NoPanic.normal ?_) _
              have hb2 := HBl.out
              go_wp2
              go_roundw
              case rel => exact ⟨b + 1, k + 1, by omega, by rw [hk.out]; rfl, by go_num, by go_num, by rw [HN9.out] at e1 ⊢; exact e1, e2⟩
              case measure => simp [intOf]; omega
          · skip
            have hn : (k + 1 + 3) / 4 = (k + 3) / 4 := by have := HI.out; omega
            rw [← hn] at hrow
            have hni : ((i : Int) == 0) = false := by simp; omega
            obtain ⟨_, ⟨_, h0⟩ | ⟨g9, c9, cur, rfl, _⟩⟩ := id hrow
            · have := HI.out; omega
            have hown9 := hrow
            have hB9 := hB
            clear hrow hB hn
            obtain ⟨W9, hW9⟩ : ∃ W9, W9 = wr := ⟨_, rfl⟩
            rw [← hW9] at hown9 hB9 c0 ⊢
            clear hW9
            go_wp2_with fail
            obtain ⟨hc, hf, hjn, e1, e2⟩ := HFin.out W9.drew g9 ((k + 1 + 3) / 4) c9 rfl hown9 (hB9.trans ((drew_below W9 1).mono hB9.size))
            have hBd : Below w.heap.size w W9.drew := hB9.trans ((drew_below W9 1).mono hB9.size)
            have hjn2 : (j : Int) < (((k + 1 + 3) / 4 : Nat) : Int) := by omega
            obtain ⟨n9, hn9⟩ : ∃ n9, n9 = (k + 1 + 3) / 4 := ⟨_, rfl⟩
            have HN9 : Hid (_) := hn9
            rw [← hn9] at hjn2 hjn e1 ⊢
            clear hn9
            have hjn3 : ¬ (n9 : Int) ≤ (j : Int) := by omega
            clear hown9 hB9
            refine wp_region_noPanic ?_
            refine wp_region_held_drew (S := (fun _ => True)) (by kernel_rfl) trivial (fun hHeld => ?_)
            generalize W9.drew = d at *
            refine wpAnyH_take (i := 0) (v := .slice (some ⟨g9, 0, none⟩) n9 c9) rfl (by kernel_rfl) (by kernel_rfl) (by kernel_rfl) (fun _ _ _ h => h) (Or.inl ⟨by rfl, fun w0 hSw => ?_⟩) trivial ?_
            · go_simp
            simp only [List.getElem_toArray, List.getElem_cons_zero, List.getElem_cons_succ, Act.put, List.setIfInBounds_toArray, List.set_cons_zero, List.set_cons_succ]
            refine wpAnyH_take (i := 1) (v := .int .i64 (k : Int)) rfl (by kernel_rfl) (by kernel_rfl) (by kernel_rfl) (fun _ _ _ h => h) (Or.inl ⟨by rfl, fun w0 hSw => ?_⟩) trivial ?_
            · go_simp
            simp only [List.getElem_toArray, List.getElem_cons_zero, List.getElem_cons_succ, Act.put, List.setIfInBounds_toArray, List.set_cons_zero, List.set_cons_succ]
            refine wpAnyH_take (i := 2) (v := .int .i64 (j : Int)) rfl (by kernel_rfl) (by kernel_rfl) (by kernel_rfl) (fun _ _ _ h => h) (Or.inl ⟨by rfl, fun w0 hSw => ?_⟩) trivial ?_
            · go_simp; rw [IntKind.wrap_i64]; omega
            simp only [List.getElem_toArray, List.getElem_cons_zero, List.getElem_cons_succ, Act.put, List.setIfInBounds_toArray, List.set_cons_zero, List.set_cons_succ]
            refine wpAnyH_take (i := 3) (v := .slice (some ⟨g9, 0, none⟩) n9 c9) rfl (by kernel_rfl) (by kernel_rfl) (by kernel_rfl) (fun _ _ _ h => h) (Or.inl ⟨by rfl, fun w0 hSw => ?_⟩) trivial ?_
            · go_simp
            simp only [List.getElem_toArray, List.getElem_cons_zero, List.getElem_cons_succ, Act.put, List.setIfInBounds_toArray, List.set_cons_zero, List.set_cons_succ]
            refine wpAnyH_take (i := 4) (v := .int .i64 (k : Int)) rfl (by kernel_rfl) (by kernel_rfl) (by kernel_rfl) (fun _ _ _ h => h) (Or.inl ⟨by rfl, fun w0 hSw => ?_⟩) trivial ?_
            · go_simp
            simp only [List.getElem_toArray, List.getElem_cons_zero, List.getElem_cons_succ, Act.put, List.setIfInBounds_toArray, List.set_cons_zero, List.set_cons_succ]
            refine wpAnyH_take (i := 5) (v := .int .i64 (j : Int)) rfl (by kernel_rfl) (by kernel_rfl) (by kernel_rfl) (fun _ _ _ h => h) (Or.inl ⟨by rfl, fun w0 hSw => ?_⟩) trivial ?_
            · go_simp; rw [IntKind.wrap_i64]; omega
            simp only [List.getElem_toArray, List.getElem_cons_zero, List.getElem_cons_succ, Act.put, List.setIfInBounds_toArray, List.set_cons_zero, List.set_cons_succ]
            refine wpAnyH_take (i := 6) (v := .pointer (some ⟨g9, j, none⟩)) rfl (by kernel_rfl) (by kernel_rfl) (by kernel_rfl) (fun _ _ _ h => h) (Or.inl ⟨by rfl, fun w0 hSw => ?_⟩) trivial ?_
            · go_simp
            simp only [List.getElem_toArray, List.getElem_cons_zero, List.getElem_cons_succ, Act.put, List.setIfInBounds_toArray, List.set_cons_zero, List.set_cons_succ]
            refine wpAnyH_take (i := 8) (v := .pointer (some ⟨R, 0, none⟩)) rfl (by kernel_rfl) (by kernel_rfl) (by kernel_rfl) (fun _ _ _ h => h) (Or.inl ⟨by rfl, fun w0 hSw => ?_⟩) trivial ?_
            · go_simp
            simp only [List.getElem_toArray, List.getElem_cons_zero, List.getElem_cons_succ, Act.put, List.setIfInBounds_toArray, List.set_cons_zero, List.set_cons_succ]
            refine wpAnyH_take (i := 9) (v := .int .i64 (a : Int)) rfl (by kernel_rfl) (by kernel_rfl) (by kernel_rfl) (fun _ _ _ h => h) (Or.inl ⟨by rfl, fun w0 hSw => ?_⟩) trivial ?_
            · go_simp
            simp only [List.getElem_toArray, List.getElem_cons_zero, List.getElem_cons_succ, Act.put, List.setIfInBounds_toArray, List.set_cons_zero, List.set_cons_succ]
            refine wpAnyH_take (i := 10) (v := .int .i64 (b : Int)) rfl (by kernel_rfl) (by kernel_rfl) (by kernel_rfl) (fun _ _ _ h => h) (Or.inl ⟨by rfl, fun w0 hSw => ?_⟩) trivial ?_
            · go_simp
            simp only [List.getElem_toArray, List.getElem_cons_zero, List.getElem_cons_succ, Act.put, List.setIfInBounds_toArray, List.set_cons_zero, List.set_cons_succ]
            refine wpAnyH_take (i := 12) (v := .int .i64 (k : Int)) rfl (by kernel_rfl) (by kernel_rfl) (by kernel_rfl) (fun _ _ _ h => h) (Or.inl ⟨by rfl, fun w0 hSw => ?_⟩) trivial ?_
            · go_simp
            simp only [List.getElem_toArray, List.getElem_cons_zero, List.getElem_cons_succ, Act.put, List.setIfInBounds_toArray, List.set_cons_zero, List.set_cons_succ]
            refine wpAnyH_take (i := 13) (v := .int .i64 (i : Int)) rfl (by kernel_rfl) (by kernel_rfl) (by kernel_rfl) (fun _ _ _ h => h) (Or.inl ⟨by rfl, fun w0 hSw => ?_⟩) trivial ?_
            · go_simp
            simp only [List.getElem_toArray, List.getElem_cons_zero, List.getElem_cons_succ, Act.put, List.setIfInBounds_toArray, List.set_cons_zero, List.set_cons_succ]
            refine wpAnyH_take (i := 14) (v := .int .i64 (2 * (i : Int))) rfl (by kernel_rfl) (by kernel_rfl) (by kernel_rfl) (fun _ _ _ h => h) (Or.inl ⟨by rfl, fun w0 hSw => ?_⟩) trivial ?_
            · go_simp; rw [IntKind.wrap_i64]; omega
            simp only [List.getElem_toArray, List.getElem_cons_zero, List.getElem_cons_succ, Act.put, List.setIfInBounds_toArray, List.set_cons_zero, List.set_cons_succ]
            refine wpAnyH_take (i := 15) (v := .int .u64 (2 * (i : Int))) rfl (by kernel_rfl) (by kernel_rfl) (by kernel_rfl) (fun _ _ _ h => h) (Or.inl ⟨by rfl, fun w0 hSw => ?_⟩) trivial ?_
            · go_simp; rw [IntKind.wrap_u64]; omega
            simp only [List.getElem_toArray, List.getElem_cons_zero, List.getElem_cons_succ, Act.put, List.setIfInBounds_toArray, List.set_cons_zero, List.set_cons_succ]
            refine wpAnyH_ready (rs := [7, 11]) (by kernel_rfl) (by simp) ?_
            refine AllReadyH.cons rfl (fun K hK => ?_) (AllReadyH.cons rfl (fun K hK => ?_) AllReadyH.nil)
            · skip
              go_simp
              refine hK.out _ _ trivial (fun _ => ?_)
              clear hK K
              refine wpAnyH_ready (rs := [11]) (by kernel_rfl) (by simp) ?_
              refine AllReadyH.cons rfl (fun K hK => ?_) AllReadyH.nil
              go_simp
              refine (hat.out d hBd).mono ?_
              rintro e w8 ⟨rfl, hy⟩
              obtain rfl := hy.symm
              refine hK.out _ _ trivial (fun _ => ?_)
              clear hK K
              refine wpAnyH_take (i := 16) (v := .int .i64 (P : Int)) rfl (by kernel_rfl) (by kernel_rfl) (by kernel_rfl) (fun _ _ _ h => h) (Or.inl ⟨by rfl, fun w0 hSw => ?_⟩) trivial ?_
              · go_simp
              simp only [List.getElem_toArray, List.getElem_cons_zero, List.getElem_cons_succ, Act.put, List.setIfInBounds_toArray, List.set_cons_zero, List.set_cons_succ]
              refine wpAnyH_take (i := 17) (v := .int .u8 (P : Int)) rfl (by kernel_rfl) (by kernel_rfl) (by kernel_rfl) (fun _ _ _ h => h) (Or.inl ⟨by rfl, fun w0 hSw => ?_⟩) trivial ?_
              · go_simp
              simp only [List.getElem_toArray, List.getElem_cons_zero, List.getElem_cons_succ, Act.put, List.setIfInBounds_toArray, List.set_cons_zero, List.set_cons_succ]
              refine wpAnyH_take (i := 18) (v := .int .u8 (Q : Int)) rfl (by kernel_rfl) (by kernel_rfl) (by kernel_rfl) (fun _ _ _ h => h) (Or.inl ⟨by rfl, fun w0 hSw => ?_⟩) trivial ?_
              · go_simp
              simp only [List.getElem_toArray, List.getElem_cons_zero, List.getElem_cons_succ, Act.put, List.setIfInBounds_toArray, List.set_cons_zero, List.set_cons_succ]
              refine wpAnyH_ready (rs := [19]) (by kernel_rfl) (by simp) ?_
              refine AllReadyH.cons rfl (fun K hK => ?_) AllReadyH.nil
              go_simp
              refine hK.out _ _ trivial (fun _ => ?_)
              clear hK K
              refine wpAnyH_ready (rs := [20]) (by kernel_rfl) (by simp) ?_
              refine AllReadyH.cons rfl (fun K hK => ?_) AllReadyH.nil
              go_simp
              refine hK.out _ _ trivial (fun _ => ?_)
              clear hK K
              refine wpAnyH_done (by kernel_rfl) (NoPanic.normal ?_) _
              have hb2 := HBl.out
              go_wp2
              go_roundw
              case rel => exact ⟨b + 1, k + 1, by omega, by rw [hk.out]; rfl, by go_num, by go_num, by rw [HN9.out] at e1 ⊢; exact e1, e2⟩
              case measure => simp [intOf]; omega
            · skip
              go_simp
              refine (hat.out d hBd).mono ?_
              rintro e w8 ⟨rfl, hy⟩
              obtain rfl := hy.symm
              refine hK.out _ _ trivial (fun _ => ?_)
              clear hK K
              refine wpAnyH_take (i := 16) (v := .int .i64 (P : Int)) rfl (by kernel_rfl) (by kernel_rfl) (by kernel_rfl) (fun _ _ _ h => h) (Or.inl ⟨by rfl, fun w0 hSw => ?_⟩) trivial ?_
              · go_simp
              simp only [List.getElem_toArray, List.getElem_cons_zero, List.getElem_cons_succ, Act.put, List.setIfInBounds_toArray, List.set_cons_zero, List.set_cons_succ]
              refine wpAnyH_take (i := 17) (v := .int .u8 (P : Int)) rfl (by kernel_rfl) (by kernel_rfl) (by kernel_rfl) (fun _ _ _ h => h) (Or.inl ⟨by rfl, fun w0 hSw => ?_⟩) trivial ?_
              · go_simp
              simp only [List.getElem_toArray, List.getElem_cons_zero, List.getElem_cons_succ, Act.put, List.setIfInBounds_toArray, List.set_cons_zero, List.set_cons_succ]
              refine wpAnyH_ready (rs := [7]) (by kernel_rfl) (by simp) ?_
              refine AllReadyH.cons rfl (fun K hK => ?_) AllReadyH.nil
              go_simp
              refine hK.out _ _ trivial (fun _ => ?_)
              clear hK K
              refine wpAnyH_take (i := 18) (v := .int .u8 (Q : Int)) rfl (by kernel_rfl) (by kernel_rfl) (by kernel_rfl) (fun _ _ _ h => h) (Or.inl ⟨by rfl, fun w0 hSw => ?_⟩) trivial ?_
              · go_simp
              simp only [List.getElem_toArray, List.getElem_cons_zero, List.getElem_cons_succ, Act.put, List.setIfInBounds_toArray, List.set_cons_zero, List.set_cons_succ]
              refine wpAnyH_ready (rs := [19]) (by kernel_rfl) (by simp) ?_
              refine AllReadyH.cons rfl (fun K hK => ?_) AllReadyH.nil
              go_simp
              refine hK.out _ _ trivial (fun _ => ?_)
              clear hK K
              refine wpAnyH_ready (rs := [20]) (by kernel_rfl) (by simp) ?_
              refine AllReadyH.cons rfl (fun K hK => ?_) AllReadyH.nil
              go_simp
              refine hK.out _ _ trivial (fun _ => ?_)
              clear hK K
              refine wpAnyH_done (by kernel_rfl) (NoPanic.normal ?_) _
              have hb2 := HBl.out
              go_wp2
              go_roundw
              case rel => exact ⟨b + 1, k + 1, by omega, by rw [hk.out]; rfl, by go_num, by go_num, by rw [HN9.out] at e1 ⊢; exact e1, e2⟩
              case measure => simp [intOf]; omega
        · have hbl2 : ¬ (b : Int) < (t : Int) := by omega
          have hk2 : k = (a + 1) * t := by
            obtain rfl : b = t := by omega
            rw [Nat.succ_mul]
            exact hk.out
          have ha2 := HAl.out
          have HK2 : Hid (_) := hk2
          clear hk2
          go_wp2
          go_roundw
          case rel => exact ⟨a + 1, k, by omega, HK2.out, rfl, by go_num, hrow, hB⟩
          case measure => simp [intOf]; omega
    · have hal2 : ¬ (a : Int) < (t : Int) := by omega
      obtain rfl : t = a := by omega
      subst hk0
      go_wp2
      go_ret
      exact ⟨⟨_, rfl, hrow⟩, hB⟩

end Go.Proofs.YtpdkjblmpgmcjaaGreatDoor.MatrixRT
