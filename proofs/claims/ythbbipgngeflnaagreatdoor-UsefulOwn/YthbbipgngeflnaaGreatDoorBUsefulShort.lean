/-
  Texts that stand together: UsefulShort.
-/
import Derived.Test.YthbbipgngeflnaaGreatDoorBUsefulDMath
import Derived.Test.YthbbipgngeflnaaGreatDoorBUsefulTop
import Derived.Test.YthbbipgngeflnaaGreatDoorBagOpRow
namespace Go.Proofs.YthbbipgngeflnaaGreatDoor.UsefulShort
open Go.RowKit Go.Proofs.YthbbipgngeflnaaGreatDoor.GramMath Go.Proofs.YthbbipgngeflnaaGreatDoor.GramRow Go.Proofs.YthbbipgngeflnaaGreatDoor.SetsMath Go.Proofs.YthbbipgngeflnaaGreatDoor.UsefulMath Go.Proofs.YthbbipgngeflnaaGreatDoor.UsefulFn Go.Proofs.YthbbipgngeflnaaGreatDoor.UsefulTop Go.Proofs.YthbbipgngeflnaaGreatDoor.OpRow Go.Proofs.YthbbipgngeflnaaGreatDoor.GramApart
set_option linter.unusedVariables false

theorem sum_step {ls l : List Int} {k : Nat} {x : Int} (h : l[k]? = some x) : sumL ls (l.take (k + 1)) = sumL ls (l.take k) + (if x < 0 then ls.getD (-1 - x).toNat 0 else 1) := by
  rw [List.take_add_one, h, sumL_app]
  simp [sumL]

/-- Lengths within their bounds. -/
def LenIn (ls : List Int) : Prop := ∀ k, k < ls.length → -1 ≤ ls.getD k 0 ∧ ls.getD k 0 ≤ 65537
theorem LenOk.inn {rs : List R} {n : Nat} {ls : List Int} (h : LenOk rs n ls) : LenIn ls := fun k hk => by
  have h2 := h.2 k (by rw [← h.1]; exact hk)
  by_cases hp : Prod rs k
  · have := h2.2 hp; omega
  · have := h2.1 hp; omega
theorem sum_in {ls : List Int} (h : LenIn ls) : ∀ {l : List Int}, (∀ x ∈ l, -1 - x < ls.length) → -(l.length : Int) ≤ sumL ls l ∧ sumL ls l ≤ 65537 * l.length
  | [], _ => by simp [sumL]
  | x :: l, h1 => by
    have ih := sum_in h (l := l) (fun y hy => h1 y (by simp [hy]))
    simp only [sumL, List.length_cons]
    by_cases h0 : x < 0
    · rw [if_pos h0]
      have hx := h1 x (by simp)
      have h3 := h (-1 - x).toNat (by omega)
      omega
    · rw [if_neg h0]
      omega

set_option maxRecDepth 100000 in
set_option maxHeartbeats 1000000 in
theorem length_any (ra la : Option Addr) (rc lc : Nat) (r : R) (ls : List Int) (w : World) (hI : IRow w ra r.right) (hL : IRow w la ls) (ho : okR r) (h32 : r.right.length ≤ 32) (hs : ∀ x ∈ r.right, -1 - x < ls.length) (hn : ls.length ≤ 60) (hin : LenIn ls) :
    Calls Tryz.prog 48 #[.agg #[.int .i64 r.left, .slice ra r.right.length rc], .slice la ls.length lc] w fun e w' => e = .returned (.int .i64 (sumL ls r.right)) ∧ Below w.heap.size w w' := by
  obtain ⟨_, o2, o3⟩ := ho
  have hB : Below w.heap.size w (w.alloc (.cells #[.int .i64 r.left, .slice ra r.right.length rc] 38)) := (Below.refl _ _).alloc (Nat.le_refl _) _
  have hI1 := hI.below hB (Nat.le_refl _)
  have hL1 := hL.below hB (Nat.le_refl _)
  clear hI hL
  go_enter Tryz.func48, Tryz.ntmps48
  go_wp2
  generalize w.alloc (.cells #[.int .i64 r.left, .slice ra r.right.length rc] 38) = W at *
  go_loop [5, 11] (fun f i => ∃ k : Nat, k ≤ r.right.length ∧ i = .int .i64 k ∧ f = .int .i64 (sumL ls (r.right.take k))) (fun _ i => r.right.length - (intOf i).toNat)
  case atStart => exact ⟨0, by omega, rfl, rfl⟩
  case round =>
    obtain ⟨k, hk, rfl, rfl⟩ := hrel
    have hsb := sum_in hin (l := r.right.take k) (fun x hx => hs x (List.mem_of_mem_take hx))
    rw [List.length_take, Nat.min_eq_left hk] at hsb
    by_cases hlt : k < r.right.length
    · obtain ⟨x, hx⟩ : ∃ x, r.right[k]? = some x := ⟨r.right[k], List.getElem?_eq_getElem hlt⟩
      obtain ⟨b, off, rfl, hc⟩ := hI1 k x hx
      have hlt2 : (k : Int) < (r.right.length : Int) := by omega
      have hxm := List.mem_of_getElem? hx
      have hx64 := o2 x hxm
      have hxn := hs x hxm
      have E1 := sum_step (ls := ls) hx
      by_cases h0 : x < 0
      · obtain ⟨m, hm⟩ : ∃ m : Nat, -1 - x = (m : Int) := ⟨(-1 - x).toNat, by omega⟩
        have hml : m < ls.length := by omega
        have hml2 : (m : Int) < (ls.length : Int) := by omega
        obtain ⟨y, hy⟩ : ∃ y, ls[m]? = some y := ⟨ls[m], List.getElem?_eq_getElem hml⟩
        obtain ⟨b2, off2, rfl, hc2⟩ := hL1 m y hy
        have hyd : ls.getD m 0 = y := by rw [List.getD_eq_getElem?_getD, hy]; rfl
        have hyb := hin m hml
        rw [hyd] at hyb
        rw [if_pos h0, show (-1 - x).toNat = m by omega, hyd] at E1
        have E : Hid (sumL ls (r.right.take k) + y = sumL ls (r.right.take (k + 1))) := E1.symm
        have hd : decide (x < 0) = true := by simpa using h0
        have hun := fun W => unonterm_any x W hx64
        rw [hm] at hun
        clear hI1 hL1 hx E1 hyd hy hxm hs
        go_wp2_with (go_at_call 73; refine (hun _).mono ?_; rintro e w' ⟨rfl, rfl⟩)
        go_round
        case rel => exact ⟨k + 1, by omega, by go_num, by rw [← E.out]⟩
        case measure => simp [intOf]; omega
      · rw [if_neg h0] at E1
        have E : Hid (sumL ls (r.right.take k) + 1 = sumL ls (r.right.take (k + 1))) := E1.symm
        have hd : decide (x < 0) = false := by simpa using h0
        clear hI1 hL1 hx E1 hxm hs
        go_wp2
        go_round
        case rel => exact ⟨k + 1, by omega, by go_num, by rw [← E.out]⟩
        case measure => simp [intOf]; omega
    · have E : Hid (sumL ls (r.right.take k) = sumL ls r.right) := by rw [show k = r.right.length by omega, List.take_length]; rfl
      clear hI1 hL1 hs
      go_wp2
      go_ret
      exact ⟨ret_num E.out, hB⟩

theorem IRow.but {S : Nat → Prop} {w w' : World} {a : Option Addr} {zs : List Int} (h : IRow w a zs) (hb : But S w w') (hs : zs ≠ [] → ∀ b off, a = some ⟨b, off, none⟩ → ¬ S b) : IRow w' a zs := fun i x hx => by
  obtain ⟨b, off, ha, hc⟩ := h i x hx
  exact ⟨b, off, ha, by rw [hb.cell (p := ⟨b, off + i, none⟩) (cell_lt hc) (hs (fun e => by rw [e] at hx; simp at hx) b off ha)]; exact hc⟩

/-- Rules of which no part lies in a given block. -/
def RFar (w : World) (ra : Option Addr) (rs : List R) (d : Nat) : Prop :=
  ∀ i r, rs[i]? = some r → ∃ b off qa qc, ra = some ⟨b, off, none⟩ ∧ b ≠ d ∧ w.cell? ⟨b, off + i * 2, none⟩ = some (.int .i64 r.left) ∧ w.cell? ⟨b, off + i * 2 + 1, none⟩ = some (.slice qa r.right.length qc) ∧ IRow w qa r.right ∧ (r.right ≠ [] → ∀ b' off', qa = some ⟨b', off', none⟩ → b' ≠ d)

theorem RFar.but {w w' : World} {ra : Option Addr} {rs : List R} {d : Nat} (h : RFar w ra rs d) (hb : But (fun k => k = d) w w') : RFar w' ra rs d := fun i r hr => by
  obtain ⟨b, off, qa, qc, ha, hd, h1, h2, h3, h4⟩ := h i r hr
  exact ⟨b, off, qa, qc, ha, hd, by rw [hb.cell (p := ⟨b, off + i * 2, none⟩) (cell_lt h1) hd]; exact h1, by rw [hb.cell (p := ⟨b, off + i * 2 + 1, none⟩) (cell_lt h2) hd]; exact h2, IRow.but h3 hb h4, h4⟩

set_option maxRecDepth 100000 in
set_option maxHeartbeats 1000000 in
theorem shorten_any (ra : Option Addr) (rc d lc : Nat) {t n : Nat} (rs0 rs : List R) (ls : List Int) (w : World) (hRow : RowAt w d 3 (intsA ls)) (hR : RFar w ra rs d) (hoR : ∀ r ∈ rs, okR r) (h120 : rs.length ≤ 120) (ho : OkRs t n rs0)
    (hsub : ∀ r ∈ rs, r ∈ rs0 ∧ ∀ x ∈ r.right, x < 0 → Prod rs0 (-1 - x)) (hls : LenOk rs0 n ls) :
    Calls Tryz.prog 22 #[.slice (some ⟨d, 0, none⟩) n lc, .slice ra rs.length rc] w fun e w' => (∃ sh ls', e = .returned (.bool sh) ∧ RowAt w' d 3 (intsA ls') ∧ LenOk rs0 n ls' ∧ (sh = true → totL ls' < totL ls) ∧ (sh = false → ls' = ls ∧ ∀ r ∈ rs, ls.getD r.left.toNat 0 ≤ sumL ls r.right)) ∧ But (fun k => k = d) w w' := by
  have n60 := ho.1
  have hd := hRow.lt
  go_enter Tryz.func22, Tryz.ntmps22
  go_wp2
  go_loopw [5, 11] (fun s i wr => ∃ (k : Nat) (sh : Bool) (ls' : List Int), k ≤ rs.length ∧ s = .bool sh ∧ i = .int .i64 k ∧ RowAt wr d 3 (intsA ls') ∧ LenOk rs0 n ls' ∧ Hid ((sh = true → totL ls' < totL ls) ∧ (sh = false → ls' = ls ∧ ∀ r ∈ rs.take k, ls.getD r.left.toNat 0 ≤ sumL ls r.right)) ∧ But (fun k => k = d) w wr) (fun _ i _ => rs.length - (intOf i).toNat)
  case atStart => exact ⟨0, false, ls, by omega, rfl, rfl, hRow, hls, ⟨(fun h => by cases h), fun _ => ⟨rfl, fun r hr => by simp at hr⟩⟩, But.refl _ _⟩
  case round =>
    obtain ⟨k, sh, ls', hk, rfl, rfl, hrow, hok, hJ, hB⟩ := hrel
    have hRk := hR.but hB
    have hlen : ls'.length = n := hok.1
    by_cases hlt : k < rs.length
    · obtain ⟨r, hr⟩ : ∃ r, rs[k]? = some r := ⟨rs[k], List.getElem?_eq_getElem hlt⟩
      obtain ⟨b, off, qa, qc, hra, hbd, d0, d1, hI, hqd⟩ := hRk k r hr
      subst hra
      have hlt2 : (k : Int) < (rs.length : Int) := by omega
      have hrm := List.mem_of_getElem? hr
      have hokr := hoR r hrm
      obtain ⟨hr0, hpr⟩ := hsub r hrm
      obtain ⟨h32, _⟩ := ruleK_ok (ho.2 r hr0)
      have hleft := ho.left hr0
      obtain ⟨l, hl⟩ : ∃ l : Nat, r.left = (l : Int) := ⟨r.left.toNat, by omega⟩
      have hln : l < n := by omega
      have hln2 : (l : Int) < (n : Int) := by omega
      have hlt' : r.left.toNat = l := by omega
      rw [hl] at d0
      have hBn : Below wr.heap.size wr (wr.alloc (.cells #[.int .i64 (l : Int), .slice qa r.right.length qc] 38)) := (Below.refl _ _).alloc (Nat.le_refl _) _
      have hrow1 := hrow.below hBn hrow.lt
      have hlen2 := length_any qa (some ⟨d, 0, none⟩) qc lc r ls' _ (hI.below hBn (Nat.le_refl _)) (intsA_row hrow1) hokr h32 (fun x hx => by rw [hlen]; exact (ho.sym hr0 hx).1) (by omega) (LenOk.inn hok)
      rw [hlen, hl] at hlen2
      have hsb := sum_bounds ho hok (fun x hx => (ho.sym hr0 hx).1) hpr
      have e0 : (wr.alloc (.cells #[.int .i64 (l : Int), .slice qa r.right.length qc] 38)).cell? ⟨wr.heap.size, 0, none⟩ = some (.int .i64 (l : Int)) := by simp
      have hzn : wr.heap.size < (wr.alloc (.cells #[.int .i64 (l : Int), .slice qa r.right.length qc] 38)).heap.size := by simp
      have hBo := hB.on hBn
      obtain ⟨y, hy⟩ : ∃ y, ls'[l]? = some y := ⟨ls'[l], List.getElem?_eq_getElem (by omega)⟩
      have hyd : ls'.getD l 0 = y := by rw [List.getD_eq_getElem?_getD, hy]; rfl
      have HR : Hid (rs[k]? = some r ∧ r.left.toNat = l) := ⟨hr, hlt'⟩
      have hyb := LenOk.inn hok l (by omega)
      rw [hyd] at hyb
      clear hr hlt' hleft hRk hI hqd hl
      go_wp2_with fail
      refine hlen2.mono ?_
      rintro e w2 ⟨rfl, hb2⟩
      have hrow2 := hrow1.below hb2 hrow1.lt
      have hB2 := hBo.on hb2
      have f0 := (hb2.cell (p := ⟨wr.heap.size, 0, none⟩) hzn).trans e0
      have q0 := hrow2.cell (intsA_get hy)
      have z0 := hrow2.frozen l
      by_cases hless : sumL ls' r.right < y
      · have hrow3 := hrow2.set l (.int .i64 (sumL ls' r.right))
        rw [intsA_set] at hrow3
        have hB3 : But (fun k => k = d) w (w2.setCell ⟨d, l, none⟩ (.int .i64 (sumL ls' r.right))) := hB2.setCell (p := ⟨d, l, none⟩) rfl _
        have hok3 : LenOk rs0 n (ls'.set l (sumL ls' r.right)) := by
          have := hok.lower ho hr0 hpr (by rw [HR.out.2, hyd]; exact hless)
          rwa [HR.out.2] at this
        have htot : Hid (totL (ls'.set l (sumL ls' r.right)) < totL ls') := totL_set _ _ _ (by omega) (by rw [hyd]; omega)
        have hJ2 : Hid ((true = true → totL (ls'.set l (sumL ls' r.right)) < totL ls) ∧ (true = false → ls'.set l (sumL ls' r.right) = ls ∧ ∀ r ∈ rs.take (k + 1), ls.getD r.left.toNat 0 ≤ sumL ls r.right)) := by
          refine ⟨fun _ => ?_, fun h => by cases h⟩
          have h1 := htot.out
          cases hsh : sh with
          | true => have := hJ.out.1 hsh; omega
          | false => have := (hJ.out.2 hsh).1; rw [this] at h1 ⊢; exact h1
        have hdl : decide (sumL ls' r.right < y) = true := by simpa using hless
        clear hJ hlen2 hrow hrow1 hrow2 hok HR hyd hy hBn hBo hB hb2 hpr hokr htot
        generalize sumL ls' r.right = z at *
        go_wp2
        go_roundw
        case rel => exact ⟨k + 1, true, _, by omega, rfl, by go_num, hrow3, hok3, ⟨fun _ => hJ2.out.1 trivial, fun h => by cases h⟩, hB3⟩
        case measure => simp [intOf]; omega
      · have hJ2 : Hid ((sh = true → totL ls' < totL ls) ∧ (sh = false → ls' = ls ∧ ∀ r ∈ rs.take (k + 1), ls.getD r.left.toNat 0 ≤ sumL ls r.right)) := by
          refine ⟨hJ.out.1, fun h => ?_⟩
          obtain ⟨h1, h2⟩ := hJ.out.2 h
          refine ⟨h1, fun r' hr' => ?_⟩
          rw [List.take_add_one, HR.out.1] at hr'
          rcases List.mem_append.1 hr' with hr' | hr'
          · exact h2 r' hr'
          · obtain rfl : r' = r := by simpa using hr'
            rw [HR.out.2, ← h1, hyd]
            omega
        have hdl : decide (sumL ls' r.right < y) = false := by simpa using hless
        clear hJ hlen2 hrow hrow1 HR hyd hy hBn hBo hB hb2 hpr hokr
        generalize sumL ls' r.right = z at *
        go_wp2
        go_roundw
        case rel => exact ⟨k + 1, sh, ls', by omega, rfl, by go_num, hrow2, hok, hJ2, hB2⟩
        case measure => simp [intOf]; omega
    · have hJ2 : Hid ((sh = true → totL ls' < totL ls) ∧ (sh = false → ls' = ls ∧ ∀ r ∈ rs, ls.getD r.left.toNat 0 ≤ sumL ls r.right)) := by
        have := hJ.out
        rwa [show k = rs.length by omega, List.take_length] at this
      clear hJ hRk
      go_wp2
      go_ret
      exact ⟨⟨sh, ls', rfl, hrow, hok, hJ2.out⟩, hB⟩

end Go.Proofs.YthbbipgngeflnaaGreatDoor.UsefulShort

namespace Go.Proofs.YthbbipgngeflnaaGreatDoor.UsefulShort
open Go.RowKit Go.Proofs.YthbbipgngeflnaaGreatDoor.GramMath Go.Proofs.YthbbipgngeflnaaGreatDoor.GramRow Go.Proofs.YthbbipgngeflnaaGreatDoor.SetsMath Go.Proofs.YthbbipgngeflnaaGreatDoor.UsefulMath Go.Proofs.YthbbipgngeflnaaGreatDoor.UsefulFn Go.Proofs.YthbbipgngeflnaaGreatDoor.UsefulTop Go.Proofs.YthbbipgngeflnaaGreatDoor.OpRow Go.Proofs.YthbbipgngeflnaaGreatDoor.GramApart Go.Proofs.YthbbipgngeflnaaGreatDoor.GramCheck Go.Proofs.YthbbipgngeflnaaGreatDoor.GramLess
set_option linter.unusedVariables false

/-- The sum of the numbers in a block. -/
def totW (w : World) (d : Nat) : Nat :=
  match w.heap[d]? with
  | some (.cells cur _ _) => (cur.toList.map (fun v => (intOf v).toNat)).sum
  | _ => 0
theorem totW_row {w : World} {d : Nat} {t : TypeId} {ls : List Int} (h : RowAt w d t (intsA ls)) : totW w d = totL ls := by
  unfold totW totL
  rw [show w.heap[d]? = some (.cells (intsA ls) t (0, 0)) from h]
  simp [intsA, intOf, Function.comp_def]

open Classical in
/-- The lengths that Shortest begins with. -/
noncomputable def begL (rs : List R) (k : Nat) : Int := if Prod rs k then 65537 else -1
theorem begL_ok {rs : List R} {n : Nat} {ls : List Int} (hl : ls.length = n) (h : ∀ k, k < n → ls.getD k 0 = begL rs k) : LenOk rs n ls :=
  ⟨hl, fun k hk => by
    rw [h k hk]
    unfold begL
    refine ⟨fun hp => if_neg hp, fun hp => ?_⟩
    rw [if_pos hp]
    exact ⟨by omega, by omega, .inl rfl⟩⟩

theorem rfar_of {w0 w : World} {a : Option Addr} {lq : List Q} {d : Nat} (hQ : QRow w a lq) (ha : ∀ b off, a = some ⟨b, off, none⟩ → b ≠ d) (hI : ∀ x ∈ lq, IRow w0 x.a x.r.right) (hB : Below w0.heap.size w0 w) (hd : w0.heap.size ≤ d) : RFar w a (lq.map (·.r)) d := fun i r hr => by
  rw [List.getElem?_map] at hr
  cases hx : lq[i]? with
  | none => rw [hx] at hr; cases hr
  | some x =>
    rw [hx] at hr
    obtain rfl : x.r = r := by simpa using hr
    obtain ⟨b, off, he, h1, h2⟩ := hQ i x hx
    have hI0 := hI x (List.mem_of_getElem? hx)
    refine ⟨b, off, x.a, x.c, he, ha b off he, h1, h2, hI0.below hB (Nat.le_refl _), fun hne b' off' he' => ?_⟩
    obtain ⟨y, hy⟩ : ∃ y, x.r.right[0]? = some y := by
      cases hh : x.r.right with
      | nil => exact absurd hh hne
      | cons y l => exact ⟨y, by simp⟩
    obtain ⟨b2, off2, he2, hc⟩ := hI0 0 y hy
    rw [he'] at he2
    obtain ⟨rfl, rfl⟩ : b' = b2 ∧ off' = off2 := by simpa using he2
    have := cell_lt hc
    simp at this
    omega

/-- What Shortest answers. -/
def ShortV (w0 w' : World) (p : Nat → Addr) (g : G) (e : Ending) : Prop :=
  ∃ v, CkV w0.heap.size p (checkG g) w' v ∧ (((checkG g).1 ≠ 0 ∧ e = .returned (.tuple #[.slice none 0 0, v])) ∨ ((checkG g).1 = 0 ∧ ∃ d ls, e = .returned (.tuple #[.slice (some ⟨d, 0, none⟩) g.ns.length g.ns.length, v]) ∧ w0.heap.size ≤ d ∧ RowAt w' d 3 (intsA ls) ∧ Short g.rs g.ns.length ls))

set_option maxRecDepth 100000 in
set_option maxHeartbeats 2000000 in
theorem shortest_top (ta na ra : Option Addr) (tc nc rc : Nat) (g : G) (p : Nat → Addr) (w : World) (hG : GRow w ta na ra g) (hg : okG g) (htc : g.ts.length ≤ tc) (hnc : g.ns.length ≤ nc) (hnil : ra = none → g.rs.length = 0 ∧ rc = 0) (hS : Sents w p) :
    Calls Tryz.prog 6 #[.agg #[.slice ta g.ts.length tc, .slice na g.ns.length nc, .int .i64 g.ax, .slice ra g.rs.length rc]] w fun e w' => ShortV w w' p g e ∧ Below w.heap.size w w' := by
  have hneq := neq_nil
  have hB1 : Below w.heap.size w (w.alloc (.cells #[.slice ta g.ts.length tc, .slice na g.ns.length nc, .int .i64 g.ax, .slice ra g.rs.length rc] 25)) := (Below.refl _ _).alloc (Nat.le_refl _) _
  have b1 : (w.alloc (.cells #[.slice ta g.ts.length tc, .slice na g.ns.length nc, .int .i64 g.ax, .slice ra g.rs.length rc] 25)).cell? ⟨w.heap.size, 1, none⟩ = some (.slice na g.ns.length nc) := by simp [go_sem]
  have b3 : (w.alloc (.cells #[.slice ta g.ts.length tc, .slice na g.ns.length nc, .int .i64 g.ax, .slice ra g.rs.length rc] 25)).cell? ⟨w.heap.size, 3, none⟩ = some (.slice ra g.rs.length rc) := by simp [go_sem]
  have hz : (w.alloc (.cells #[.slice ta g.ts.length tc, .slice na g.ns.length nc, .int .i64 g.ax, .slice ra g.rs.length rc] 25)).heap.size = w.heap.size + 1 := by simp
  have hck := check_any ta na ra tc nc rc g p _ (hG.below hB1 (Nat.le_refl _)) hg htc hnc (hS.below hB1 (Nat.le_refl _))
  go_enter Tryz.func6, Tryz.ntmps6
  go_wp2_with fail
  generalize w.alloc (.cells #[.slice ta g.ts.length tc, .slice na g.ns.length nc, .int .i64 g.ax, .slice ra g.rs.length rc] 25) = W1 at *
  refine hck.mono ?_
  rintro e w1 ⟨⟨v, rfl, hv⟩, hb1⟩
  have hB2 := hB1.trans (hb1.mono (by omega))
  have c1 := (hb1.cell (p := ⟨w.heap.size, 1, none⟩) (by rw [hz]; simp)).trans b1
  have c3 := (hb1.cell (p := ⟨w.heap.size, 3, none⟩) (by rw [hz]; simp)).trans b3
  have hWz : w.heap.size < w1.heap.size := by have := hb1.size; omega
  clear hck b1 b3
  by_cases h0 : (checkG g).1 = 0
  · have hgood := good_of h0
    have ho := hgood.okRs
    have n60 := ho.1
    have h120 := hgood.rules
    obtain rfl := ck_nil hv h0
    have hp := productive_any ra rc g.rs w1 (hG.2.2.below hB2 (Nat.le_refl _)) hg.2.2.2.2.1 hg.2.2.1
    have HV : Hid ((checkG g).1 = 0 ∧ ∀ W, CkV w.heap.size p (checkG g) W .nilIface) := ⟨h0, fun W => ck_of_nil h0⟩
    have hmk := fun W => madeI_any g.ns.length (by omega) W
    clear hv h0
    go_wp2_with fail
    refine hp.mono ?_
    rintro e w2 ⟨⟨S, rfl, hSg⟩, hb2⟩
    obtain rfl := prod_grown hgood hSg
    have hB3 := hB2.trans (hb2.mono hB2.size)
    have d1 := (hb2.cell (p := ⟨w.heap.size, 1, none⟩) hWz).trans c1
    have d3 := (hb2.cell (p := ⟨w.heap.size, 3, none⟩) hWz).trans c3
    have hrow0 := made_row w2 g.ns.length 3
    have hBm : Below w2.heap.size w2 (w2.alloc (.cells (madeCells #[.int .i64 0] g.ns.length) 3)) := (Below.refl _ _).alloc (Nat.le_refl _) _
    have hzm : (w2.alloc (.cells (madeCells #[.int .i64 0] g.ns.length) 3)).heap.size = w2.heap.size + 1 := by simp
    have hWz2 : w.heap.size < w2.heap.size := by have := hb2.size; omega
    clear hp c1 c3 hSg
    go_wp2
    go_loopw [23] (fun i wr => ∃ (k : Nat) (ls : List Int), k ≤ g.ns.length ∧ i = .int .i64 k ∧ RowAt wr w2.heap.size 3 (intsA ls) ∧ ls.length = g.ns.length ∧ Hid (∀ j, j < k → ls.getD j 0 = begL g.rs j) ∧ Below w2.heap.size w2 wr) (fun i _ => g.ns.length - (intOf i).toNat)
    case atStart => exact ⟨0, _, by omega, rfl, hrow0, by simp, (fun j hj => absurd hj (by omega)), hBm⟩
    case round =>
      clear hrow0 hBm hzm hmk
      obtain ⟨k, ls, hk, rfl, hrow, hlen, hbeg, hB⟩ := hrel
      by_cases hlt : k < g.ns.length
      · have hlt2 : (k : Int) < (g.ns.length : Int) := by omega
        obtain ⟨y, hy⟩ : ∃ y, ls[k]? = some y := ⟨ls[k], List.getElem?_eq_getElem (by omega)⟩
        have q0 := hrow.cell (intsA_get hy)
        have f0 := hrow.frozen k
        have hrow1 := hrow.set k (.int .i64 (-1))
        rw [intsA_set] at hrow1
        have hB4 : Below w2.heap.size w2 (wr.setCell ⟨w2.heap.size, k, none⟩ (.int .i64 (-1))) := hB.setCell (p := ⟨w2.heap.size, k, none⟩) (Nat.le_refl _) _
        have hh := SetsOne.has_any (prodI g) (k : Int) (wr.setCell ⟨w2.heap.size, k, none⟩ (.int .i64 (-1))) (prodI_isSet g)
        have hpk : hasB (prodI g) (k : Int) = true ↔ Prod g.rs k := hasB_prodI hgood k
        have q1 : (wr.setCell ⟨w2.heap.size, k, none⟩ (.int .i64 (-1))).cell? ⟨w2.heap.size, k, none⟩ = some (.int .i64 (-1)) := World.cell?_setCell_same (h := q0) ..
        have f1 : (wr.setCell ⟨w2.heap.size, k, none⟩ (.int .i64 (-1))).frozen? ⟨w2.heap.size, k, none⟩ = false := by rw [World.frozen?_setCell]; exact f0
        cases hb : hasB (prodI g) (k : Int) with
        | true =>
          rw [hb] at hh
          have hrow2 := hrow1.set k (.int .i64 65537)
          rw [intsA_set] at hrow2
          have hB5 : Below w2.heap.size w2 ((wr.setCell ⟨w2.heap.size, k, none⟩ (.int .i64 (-1))).setCell ⟨w2.heap.size, k, none⟩ (.int .i64 65537)) := hB4.setCell (p := ⟨w2.heap.size, k, none⟩) (Nat.le_refl _) _
          have hbeg2 : Hid (∀ j, j < k + 1 → ((ls.set k (-1)).set k 65537).getD j 0 = begL g.rs j) := fun j hj => by
            rw [getD_set _ _ _ _ (by simp; omega), getD_set _ _ _ _ (by omega)]
            by_cases e : k = j
            · subst e
              rw [if_pos rfl, begL, if_pos (hpk.1 hb)]
            · rw [if_neg e, if_neg e]
              exact hbeg.out j (by omega)
          have hl2 : ((ls.set k (-1)).set k 65537).length = g.ns.length := by simp; exact hlen
          clear hbeg hrow hrow1 hpk hb hB
          go_wp2_with fail
          refine hh.mono ?_
          rintro e w4 ⟨rfl, hw4⟩
          obtain rfl := hw4.symm
          clear q0 f0
          generalize wr.setCell ⟨w2.heap.size, k, none⟩ (.int .i64 (-1)) = Wx at *
          go_wp2
          go_roundw
          case rel => exact ⟨k + 1, _, by omega, by go_num, hrow2, hl2, hbeg2, hB5⟩
          case measure => simp [intOf]; omega
        | false =>
          rw [hb] at hh
          have hbeg2 : Hid (∀ j, j < k + 1 → (ls.set k (-1)).getD j 0 = begL g.rs j) := fun j hj => by
            rw [getD_set _ _ _ _ (by omega)]
            by_cases e : k = j
            · subst e
              rw [if_pos rfl, begL, if_neg (fun h => by rw [hpk.2 h] at hb; cases hb)]
            · rw [if_neg e]
              exact hbeg.out j (by omega)
          have hl2 : (ls.set k (-1)).length = g.ns.length := by simp; exact hlen
          clear hbeg hrow hpk hb hB
          go_wp2_with fail
          refine hh.mono ?_
          rintro e w4 ⟨rfl, hw4⟩
          obtain rfl := hw4.symm
          go_wp2
          go_roundw
          case rel => exact ⟨k + 1, _, by omega, by go_num, hrow1, hl2, hbeg2, hB4⟩
          case measure => simp [intOf]; omega
      · have hok0 : LenOk g.rs g.ns.length ls := begL_ok hlen (fun j hj => hbeg.out j (by omega))
        obtain ⟨lq, hlq, hQ, hI⟩ := rrow_list hG.2.2
        have hll : lq.length = g.rs.length := by rw [← hlq, List.length_map]
        have hB5 := hB3.trans (hB.mono hB3.size)
        have hwq := within_q (prodI g) ra rc lq wr (prodI_isSet g) (hQ.below hB5 (Nat.le_refl _)) (fun x hx => (hI x hx).below hB5 (Nat.le_refl _)) (by rw [hll]; exact hnil) (fun x hx => hg.2.2.2.2.1 x.r (by rw [← hlq]; exact List.mem_map.2 ⟨x, hx, rfl⟩)) (by omega)
        rw [hll] at hwq
        have e3 := (hB.cell (p := ⟨w.heap.size, 3, none⟩) hWz2).trans d3
        clear hbeg d1 d3
        go_wp2_with fail
        refine hwq.mono ?_
        rintro e w4 ⟨⟨a4, c4, rfl, hQ4, hn4, hf4⟩, hb4⟩
        have hrow4 := hrow.below hb4 hrow.lt
        have hB6 := hB5.trans (hb4.mono hB5.size)
        have hd2 : w2.heap.size < wr.heap.size := hrow.lt
        have hfar : RFar w4 a4 ((lq.filter (fun x => rin (prodI g) x.r)).map (·.r)) w2.heap.size := rfar_of hQ4 (fun b off h => by have := hf4 b off h; omega) (fun x hx => hI x (List.mem_filter.1 hx).1) hB6 (by omega)
        have hsub : ∀ r ∈ (lq.filter (fun x => rin (prodI g) x.r)).map (·.r), r ∈ g.rs ∧ ∀ x ∈ r.right, x < 0 → Prod g.rs (-1 - x) := fun r hr => by
          obtain ⟨x, hx, rfl⟩ := List.mem_map.1 hr
          obtain ⟨hx1, hx2⟩ := List.mem_filter.1 hx
          have hxr : x.r ∈ g.rs := by rw [← hlq]; exact List.mem_map.2 ⟨x, hx1, rfl⟩
          exact ⟨hxr, fun y hy h0 => (hasB_prodI hgood _).1 (((rin_iff ho hxr (prodI_isSet g)).1 hx2).2 y hy h0)⟩
        have hback : Hid (∀ r ∈ g.rs, (∀ x ∈ r.right, x < 0 → Prod g.rs (-1 - x)) → r ∈ (lq.filter (fun x => rin (prodI g) x.r)).map (·.r)) := fun r hr hp => by
          rw [← hlq] at hr
          obtain ⟨x, hx, rfl⟩ := List.mem_map.1 hr
          have hxr : x.r ∈ g.rs := by rw [← hlq]; exact List.mem_map.2 ⟨x, hx, rfl⟩
          exact List.mem_map.2 ⟨x, List.mem_filter.2 ⟨hx, (rin_iff ho hxr (prodI_isSet g)).2 ⟨(hasB_prodI hgood _).2 (.mk x.r hxr hp), fun y hy h0 => (hasB_prodI hgood _).2 (hp y hy h0)⟩⟩, rfl⟩
        have hoR : ∀ r ∈ (lq.filter (fun x => rin (prodI g) x.r)).map (·.r), okR r := fun r hr => hg.2.2.2.2.1 r (hsub r hr).1
        have hl4 : ((lq.filter (fun x => rin (prodI g) x.r)).map (·.r)).length ≤ 120 := by
          rw [List.length_map]
          have := List.length_filter_le (fun x : Q => rin (prodI g) x.r) lq
          omega
        have hl5 : (lq.filter (fun x => rin (prodI g) x.r)).length = ((lq.filter (fun x => rin (prodI g) x.r)).map (·.r)).length := by simp
        rw [hl5]
        clear hwq hrow hB hQ4 hn4 hf4 hQ hI hlq hlen hG hb4
        generalize ((lq.filter (fun x => rin (prodI g) x.r)).map (·.r)) = rs4 at *
        go_wp2
        go_loopw [] (fun wr => ∃ ls, RowAt wr w2.heap.size 3 (intsA ls) ∧ LenOk g.rs g.ns.length ls ∧ But (fun k => k = w2.heap.size) w4 wr) (fun wr => totW wr w2.heap.size)
        case atStart => exact ⟨ls, hrow4, hok0, But.refl _ _⟩
        case round =>
          clear hrow4 hok0
          obtain ⟨ls2, hrow, hok, hBt⟩ := hrel
          have hsh := shorten_any a4 c4 w2.heap.size g.ns.length g.rs rs4 ls2 wr hrow (hfar.but hBt) hoR hl4 ho hsub hok
          have hs3 : Hid (totW wr w2.heap.size = totL ls2) := totW_row hrow
          go_wp2_with fail
          refine hsh.mono ?_
          rintro e w5 ⟨⟨sh, ls3, rfl, hrow5, hok5, hs1, hs2⟩, hb5⟩
          have hBt5 := hBt.trans hb5
          cases sh with
          | true =>
            have hs4 : Hid (totW w5 w2.heap.size = totL ls3) := totW_row hrow5
            have hs5 : Hid (totL ls3 < totL ls2) := hs1 rfl
            clear hs1 hs2 hsh
            go_wp2
            go_roundw
            case rel => exact ⟨ls3, hrow5, hok5, hBt5⟩
            case measure => rw [hs3.out, hs4.out]; exact hs5.out
          | false =>
            obtain ⟨rfl, hend⟩ := hs2 rfl
            have hE : Short g.rs g.ns.length ls3 := LenEnd.short ho hok5 (fun r hr hp => hend r (hback.out r hr hp))
            have hB7 := hB6.trans (hBt5.below (B := w.heap.size) (by have := hB6.size; omega) (fun k hk => by omega))
            clear hs1 hs2 hsh hend hok
            go_wp2
            go_ret2
            exact ⟨⟨_, HV.out.2 _, .inr ⟨HV.out.1, _, ls3, rfl, by omega, hrow5, hE⟩⟩, hB7⟩
  · obtain ⟨t, u, rfl⟩ := ck_iface hv h0
    have hv2 : Hid (_) := hv.mono (base' := w.heap.size) (by omega)
    have H0 : Hid ((checkG g).1 ≠ 0) := h0
    clear h0 hv
    go_wp2
    go_ret2
    exact ⟨⟨_, hv2.out, .inl ⟨H0.out, rfl⟩⟩, hB2⟩

end Go.Proofs.YthbbipgngeflnaaGreatDoor.UsefulShort
