/-
  How long shortest rows are, by the program.
-/
import Derived.Test.YtjmodcpeggafhaaDoorUsefulDMath
import Derived.Test.YtjmodcpeggafhaaDoorUsefulTop
import Derived.Test.YtjmodcpeggafhaaDoorOpRow
import Derived.Test.YtjmodcpeggafhaaDoorGramBut
namespace Go.Proofs.YtjmodcpeggafhaaDoor.UsefulShort
open Go.RowKit Go.Proofs.YtjmodcpeggafhaaDoor.GramMath Go.Proofs.YtjmodcpeggafhaaDoor.GramRow Go.Proofs.YtjmodcpeggafhaaDoor.SetsMath Go.Proofs.YtjmodcpeggafhaaDoor.UsefulMath Go.Proofs.YtjmodcpeggafhaaDoor.UsefulFn Go.Proofs.YtjmodcpeggafhaaDoor.UsefulTop Go.Proofs.YtjmodcpeggafhaaDoor.OpRow Go.Proofs.YtjmodcpeggafhaaDoor.GramApart
set_option linter.unusedVariables false

theorem sum_step {ls l : List Int} {k : Nat} {x : Int} (h : l[k]? = some x) : sumL ls (l.take (k + 1)) = sumL ls (l.take k) + (if x < 0 then ls.getD (-1 - x).toNat 0 else 1) := by
  rw [List.take_add_one, h, sumL_app]
  simp [sumL]

/-- Lengths within their bounds. -/
def LenIn (ls : List Int) : Prop := ∀ k, k < ls.length → -1 ≤ ls.getD k 0 ∧ ls.getD k 0 ≤ 65537
theorem LenOk.inn {rs : List R} {n : Nat} {ls : List Int} (h : LenOk rs n ls) : LenIn ls := fun k hk => by
  have h2 := h.2 k (by rw [← h.1]; exact hk)
  by_cases hp : Prod rs k
  · have := h2.2 hp; omega
  · have := h2.1 hp; omega
theorem sum_in {ls : List Int} (h : LenIn ls) : ∀ {l : List Int}, (∀ x ∈ l, -1 - x < ls.length) → -(l.length : Int) ≤ sumL ls l ∧ sumL ls l ≤ 65537 * l.length
  | [], _ => by simp [sumL]
  | x :: l, h1 => by
    have ih := sum_in h (l := l) (fun y hy => h1 y (by simp [hy]))
    simp only [sumL, List.length_cons]
    by_cases h0 : x < 0
    · rw [if_pos h0]
      have hx := h1 x (by simp)
      have h3 := h (-1 - x).toNat (by omega)
      omega
    · rw [if_neg h0]
      omega

set_option maxRecDepth 100000 in
set_option maxHeartbeats 1000000 in
theorem length_any (ra la : Option Addr) (rc lc : Nat) (r : R) (ls : List Int) (w : World) (hI : IRow w ra r.right) (hL : IRow w la ls) (ho : okR r) (h32 : r.right.length ≤ 32) (hs : ∀ x ∈ r.right, -1 - x < ls.length) (hn : ls.length ≤ 60) (hin : LenIn ls) :
    Calls Tryd.prog 82 #[.agg #[.int .i64 r.left, .slice ra r.right.length rc], .slice la ls.length lc] w fun e w' => e = .returned (.int .i64 (sumL ls r.right)) ∧ Below w.heap.size w w' := by
  obtain ⟨_, o2, o3⟩ := ho
  have hB : Below w.heap.size w (w.alloc (.cells #[.int .i64 r.left, .slice ra r.right.length rc] 56)) := (Below.refl _ _).alloc (Nat.le_refl _) _
  have hI1 := hI.below hB (Nat.le_refl _)
  have hL1 := hL.below hB (Nat.le_refl _)
  clear hI hL
  go_enter Tryd.func82, Tryd.ntmps82
  go_wp2
  generalize w.alloc (.cells #[.int .i64 r.left, .slice ra r.right.length rc] 56) = W at *
  go_loop [5, 11] (fun f i => ∃ k : Nat, k ≤ r.right.length ∧ i = .int .i64 k ∧ f = .int .i64 (sumL ls (r.right.take k))) (fun _ i => r.right.length - (intOf i).toNat)
  case atStart => exact ⟨0, by omega, rfl, rfl⟩
  case round =>
    obtain ⟨k, hk, rfl, rfl⟩ := hrel
    have hsb := sum_in hin (l := r.right.take k) (fun x hx => hs x (List.mem_of_mem_take hx))
    rw [List.length_take, Nat.min_eq_left hk] at hsb
    by_cases hlt : k < r.right.length
    · obtain ⟨x, hx⟩ : ∃ x, r.right[k]? = some x := ⟨r.right[k], List.getElem?_eq_getElem hlt⟩
      obtain ⟨b, off, rfl, hc⟩ := hI1 k x hx
      have hlt2 : (k : Int) < (r.right.length : Int) := by omega
      have hxm := List.mem_of_getElem? hx
      have hx64 := o2 x hxm
      have hxn := hs x hxm
      have E1 := sum_step (ls := ls) hx
      by_cases h0 : x < 0
      · obtain ⟨m, hm⟩ : ∃ m : Nat, -1 - x = (m : Int) := ⟨(-1 - x).toNat, by omega⟩
        have hml : m < ls.length := by omega
        have hml2 : (m : Int) < (ls.length : Int) := by omega
        obtain ⟨y, hy⟩ : ∃ y, ls[m]? = some y := ⟨ls[m], List.getElem?_eq_getElem hml⟩
        obtain ⟨b2, off2, rfl, hc2⟩ := hL1 m y hy
        have hyd : ls.getD m 0 = y := by rw [List.getD_eq_getElem?_getD, hy]; rfl
        have hyb := hin m hml
        rw [hyd] at hyb
        rw [if_pos h0, show (-1 - x).toNat = m by omega, hyd] at E1
        have E : Hid (sumL ls (r.right.take k) + y = sumL ls (r.right.take (k + 1))) := E1.symm
        have hd : decide (x < 0) = true := by simpa using h0
        have hun := fun W => unonterm_any x W hx64
        rw [hm] at hun
        clear hI1 hL1 hx E1 hyd hy hxm hs
        go_wp2_with (go_at_call 93; refine (hun _).mono ?_; rintro e w' ⟨rfl, rfl⟩)
        go_round
        case rel => exact ⟨k + 1, by omega, by go_num, by rw [← E.out]⟩
        case measure => simp [intOf]; omega
      · rw [if_neg h0] at E1
        have E : Hid (sumL ls (r.right.take k) + 1 = sumL ls (r.right.take (k + 1))) := E1.symm
        have hd : decide (x < 0) = false := by simpa using h0
        clear hI1 hL1 hx E1 hxm hs
        go_wp2
        go_round
        case rel => exact ⟨k + 1, by omega, by go_num, by rw [← E.out]⟩
        case measure => simp [intOf]; omega
    · have E : Hid (sumL ls (r.right.take k) = sumL ls r.right) := by rw [show k = r.right.length by omega, List.take_length]; rfl
      clear hI1 hL1 hs
      go_wp2
      go_ret
      exact ⟨ret_num E.out, hB⟩

theorem IRow.but {S : Nat → Prop} {w w' : World} {a : Option Addr} {zs : List Int} (h : IRow w a zs) (hb : But S w w') (hs : zs ≠ [] → ∀ b off, a = some ⟨b, off, none⟩ → ¬ S b) : IRow w' a zs := fun i x hx => by
  obtain ⟨b, off, ha, hc⟩ := h i x hx
  exact ⟨b, off, ha, by rw [hb.cell (p := ⟨b, off + i, none⟩) (cell_lt hc) (hs (fun e => by rw [e] at hx; simp at hx) b off ha)]; exact hc⟩

/-- Rules of which no part lies in a given block. -/
def RFar (w : World) (ra : Option Addr) (rs : List R) (d : Nat) : Prop :=
  ∀ i r, rs[i]? = some r → ∃ b off qa qc, ra = some ⟨b, off, none⟩ ∧ b ≠ d ∧ w.cell? ⟨b, off + i * 2, none⟩ = some (.int .i64 r.left) ∧ w.cell? ⟨b, off + i * 2 + 1, none⟩ = some (.slice qa r.right.length qc) ∧ IRow w qa r.right ∧ (r.right ≠ [] → ∀ b' off', qa = some ⟨b', off', none⟩ → b' ≠ d)

theorem RFar.but {w w' : World} {ra : Option Addr} {rs : List R} {d : Nat} (h : RFar w ra rs d) (hb : But (fun k => k = d) w w') : RFar w' ra rs d := fun i r hr => by
  obtain ⟨b, off, qa, qc, ha, hd, h1, h2, h3, h4⟩ := h i r hr
  exact ⟨b, off, qa, qc, ha, hd, by rw [hb.cell (p := ⟨b, off + i * 2, none⟩) (cell_lt h1) hd]; exact h1, by rw [hb.cell (p := ⟨b, off + i * 2 + 1, none⟩) (cell_lt h2) hd]; exact h2, IRow.but h3 hb h4, h4⟩

set_option maxRecDepth 100000 in
set_option maxHeartbeats 1000000 in
theorem shorten_any (ra : Option Addr) (rc d lc : Nat) {t n : Nat} (rs0 rs : List R) (ls : List Int) (w : World) (hRow : RowAt w d 3 (intsA ls)) (hR : RFar w ra rs d) (hoR : ∀ r ∈ rs, okR r) (h120 : rs.length ≤ 120) (ho : OkRs t n rs0)
    (hsub : ∀ r ∈ rs, r ∈ rs0 ∧ ∀ x ∈ r.right, x < 0 → Prod rs0 (-1 - x)) (hls : LenOk rs0 n ls) :
    Calls Tryd.prog 51 #[.slice (some ⟨d, 0, none⟩) n lc, .slice ra rs.length rc] w fun e w' => (∃ sh ls', e = .returned (.bool sh) ∧ RowAt w' d 3 (intsA ls') ∧ LenOk rs0 n ls' ∧ (sh = true → totL ls' < totL ls) ∧ (sh = false → ls' = ls ∧ ∀ r ∈ rs, ls.getD r.left.toNat 0 ≤ sumL ls r.right)) ∧ But (fun k => k = d) w w' := by
  have n60 := ho.1
  have hd := hRow.lt
  go_enter Tryd.func51, Tryd.ntmps51
  go_wp2
  go_loopw [5, 11] (fun s i wr => ∃ (k : Nat) (sh : Bool) (ls' : List Int), k ≤ rs.length ∧ s = .bool sh ∧ i = .int .i64 k ∧ RowAt wr d 3 (intsA ls') ∧ LenOk rs0 n ls' ∧ Hid ((sh = true → totL ls' < totL ls) ∧ (sh = false → ls' = ls ∧ ∀ r ∈ rs.take k, ls.getD r.left.toNat 0 ≤ sumL ls r.right)) ∧ But (fun k => k = d) w wr) (fun _ i _ => rs.length - (intOf i).toNat)
  case atStart => exact ⟨0, false, ls, by omega, rfl, rfl, hRow, hls, ⟨(fun h => by cases h), fun _ => ⟨rfl, fun r hr => by simp at hr⟩⟩, But.refl _ _⟩
  case round =>
    obtain ⟨k, sh, ls', hk, rfl, rfl, hrow, hok, hJ, hB⟩ := hrel
    have hRk := hR.but hB
    have hlen : ls'.length = n := hok.1
    by_cases hlt : k < rs.length
    · obtain ⟨r, hr⟩ : ∃ r, rs[k]? = some r := ⟨rs[k], List.getElem?_eq_getElem hlt⟩
      obtain ⟨b, off, qa, qc, hra, hbd, d0, d1, hI, hqd⟩ := hRk k r hr
      subst hra
      have hlt2 : (k : Int) < (rs.length : Int) := by omega
      have hrm := List.mem_of_getElem? hr
      have hokr := hoR r hrm
      obtain ⟨hr0, hpr⟩ := hsub r hrm
      obtain ⟨h32, _⟩ := ruleK_ok (ho.2 r hr0)
      have hleft := ho.left hr0
      obtain ⟨l, hl⟩ : ∃ l : Nat, r.left = (l : Int) := ⟨r.left.toNat, by omega⟩
      have hln : l < n := by omega
      have hln2 : (l : Int) < (n : Int) := by omega
      have hlt' : r.left.toNat = l := by omega
      rw [hl] at d0
      have hBn : Below wr.heap.size wr (wr.alloc (.cells #[.int .i64 (l : Int), .slice qa r.right.length qc] 56)) := (Below.refl _ _).alloc (Nat.le_refl _) _
      have hrow1 := hrow.below hBn hrow.lt
      have hlen2 := length_any qa (some ⟨d, 0, none⟩) qc lc r ls' _ (hI.below hBn (Nat.le_refl _)) (intsA_row hrow1) hokr h32 (fun x hx => by rw [hlen]; exact (ho.sym hr0 hx).1) (by omega) (LenOk.inn hok)
      rw [hlen, hl] at hlen2
      have hsb := sum_bounds ho hok (fun x hx => (ho.sym hr0 hx).1) hpr
      have e0 : (wr.alloc (.cells #[.int .i64 (l : Int), .slice qa r.right.length qc] 56)).cell? ⟨wr.heap.size, 0, none⟩ = some (.int .i64 (l : Int)) := by simp
      have hzn : wr.heap.size < (wr.alloc (.cells #[.int .i64 (l : Int), .slice qa r.right.length qc] 56)).heap.size := by simp
      have hBo := hB.on hBn
      obtain ⟨y, hy⟩ : ∃ y, ls'[l]? = some y := ⟨ls'[l], List.getElem?_eq_getElem (by omega)⟩
      have hyd : ls'.getD l 0 = y := by rw [List.getD_eq_getElem?_getD, hy]; rfl
      have HR : Hid (rs[k]? = some r ∧ r.left.toNat = l) := ⟨hr, hlt'⟩
      have hyb := LenOk.inn hok l (by omega)
      rw [hyd] at hyb
      clear hr hlt' hleft hRk hI hqd hl
      go_wp2_with fail
      refine hlen2.mono ?_
      rintro e w2 ⟨rfl, hb2⟩
      have hrow2 := hrow1.below hb2 hrow1.lt
      have hB2 := hBo.on hb2
      have f0 := (hb2.cell (p := ⟨wr.heap.size, 0, none⟩) hzn).trans e0
      have q0 := hrow2.cell (intsA_get hy)
      have z0 := hrow2.frozen l
      by_cases hless : sumL ls' r.right < y
      · have hrow3 := hrow2.set l (.int .i64 (sumL ls' r.right))
        rw [intsA_set] at hrow3
        have hB3 : But (fun k => k = d) w (w2.setCell ⟨d, l, none⟩ (.int .i64 (sumL ls' r.right))) := hB2.setCell (p := ⟨d, l, none⟩) rfl _
        have hok3 : LenOk rs0 n (ls'.set l (sumL ls' r.right)) := by
          have := hok.lower ho hr0 hpr (by rw [HR.out.2, hyd]; exact hless)
          rwa [HR.out.2] at this
        have htot : Hid (totL (ls'.set l (sumL ls' r.right)) < totL ls') := totL_set _ _ _ (by omega) (by rw [hyd]; omega)
        have hJ2 : Hid ((true = true → totL (ls'.set l (sumL ls' r.right)) < totL ls) ∧ (true = false → ls'.set l (sumL ls' r.right) = ls ∧ ∀ r ∈ rs.take (k + 1), ls.getD r.left.toNat 0 ≤ sumL ls r.right)) := by
          refine ⟨fun _ => ?_, fun h => by cases h⟩
          have h1 := htot.out
          cases hsh : sh with
          | true => have := hJ.out.1 hsh; omega
          | false => have := (hJ.out.2 hsh).1; rw [this] at h1 ⊢; exact h1
        have hdl : decide (sumL ls' r.right < y) = true := by simpa using hless
        clear hJ hlen2 hrow hrow1 hrow2 hok HR hyd hy hBn hBo hB hb2 hpr hokr htot
        generalize sumL ls' r.right = z at *
        go_wp2
        go_roundw
        case rel => exact ⟨k + 1, true, _, by omega, rfl, by go_num, hrow3, hok3, ⟨fun _ => hJ2.out.1 trivial, fun h => by cases h⟩, hB3⟩
        case measure => simp [intOf]; omega
      · have hJ2 : Hid ((sh = true → totL ls' < totL ls) ∧ (sh = false → ls' = ls ∧ ∀ r ∈ rs.take (k + 1), ls.getD r.left.toNat 0 ≤ sumL ls r.right)) := by
          refine ⟨hJ.out.1, fun h => ?_⟩
          obtain ⟨h1, h2⟩ := hJ.out.2 h
          refine ⟨h1, fun r' hr' => ?_⟩
          rw [List.take_add_one, HR.out.1] at hr'
          rcases List.mem_append.1 hr' with hr' | hr'
          · exact h2 r' hr'
          · obtain rfl : r' = r := by simpa using hr'
            rw [HR.out.2, ← h1, hyd]
            omega
        have hdl : decide (sumL ls' r.right < y) = false := by simpa using hless
        clear hJ hlen2 hrow hrow1 HR hyd hy hBn hBo hB hb2 hpr hokr
        generalize sumL ls' r.right = z at *
        go_wp2
        go_roundw
        case rel => exact ⟨k + 1, sh, ls', by omega, rfl, by go_num, hrow2, hok, hJ2, hB2⟩
        case measure => simp [intOf]; omega
    · have hJ2 : Hid ((sh = true → totL ls' < totL ls) ∧ (sh = false → ls' = ls ∧ ∀ r ∈ rs, ls.getD r.left.toNat 0 ≤ sumL ls r.right)) := by
        have := hJ.out
        rwa [show k = rs.length by omega, List.take_length] at this
      clear hJ hRk
      go_wp2
      go_ret
      exact ⟨⟨sh, ls', rfl, hrow, hok, hJ2.out⟩, hB⟩

end Go.Proofs.YtjmodcpeggafhaaDoor.UsefulShort
