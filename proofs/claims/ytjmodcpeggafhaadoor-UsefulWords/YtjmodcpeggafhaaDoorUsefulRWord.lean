/-
  The document's own Shortest and Word: the mathematics and the walks.
-/
import Derived.Test.YtjmodcpeggafhaaDoorUsefulDMath
import Derived.Test.YtjmodcpeggafhaaDoorUsefulShort
import Derived.Test.YtjmodcpeggafhaaDoorGramRCheck
import Derived.Test.YtjmodcpeggafhaaDoorUsefulWordTop
namespace Go.Proofs.YtjmodcpeggafhaaDoor.UsefulMath
open Go.Proofs.YtjmodcpeggafhaaDoor.GramMath Go.Proofs.YtjmodcpeggafhaaDoor.SetsMath
set_option linter.unusedVariables false

/-- One symbol more; less than none: not known. -/
def stepC (ls : List Int) (s x : Int) : Int :=
  if s < 0 then s else if (if x < 0 then ls.getD (-1 - x).toNat 0 else 1) < 0 then -1 else min (s + (if x < 0 then ls.getD (-1 - x).toNat 0 else 1)) 65537
def foldC (ls : List Int) (s : Int) (l : List Int) : Int := l.foldl (stepC ls) s
def sumC (ls l : List Int) : Int := foldC ls 0 l

theorem foldC_neg (ls : List Int) {s : Int} (h : s < 0) : ∀ l, foldC ls s l = s
  | [] => rfl
  | x :: l => by
    show foldC ls (stepC ls s x) l = s
    rw [show stepC ls s x = s from if_pos h]
    exact foldC_neg ls h l

theorem foldC_take (ls : List Int) {l : List Int} {k : Nat} {x : Int} (h : l[k]? = some x) : foldC ls 0 (l.take (k + 1)) = stepC ls (foldC ls 0 (l.take k)) x := by
  rw [List.take_add_one, h]
  simp [foldC]

theorem foldC_end (ls : List Int) {l : List Int} {k : Nat} (h : foldC ls 0 (l.take k) < 0) : foldC ls 0 (l.take k) = sumC ls l := by
  have e : sumC ls l = foldC ls (foldC ls 0 (l.take k)) (l.drop k) := by
    unfold sumC foldC
    rw [← List.foldl_append, List.take_append_drop]
  rw [e, foldC_neg ls h]

/-- What is known while the rounds go on. -/
def RefL (rs : List R) (n : Nat) (ls : List Int) : Prop :=
  ls.length = n ∧ ∀ k, k < n → ls.getD k 0 = -1 ∨ (0 ≤ ls.getD k 0 ∧ ls.getD k 0 ≤ 65537 ∧ Prod rs k ∧ (ls.getD k 0 = 65537 ∨ ∃ v, D rs [-1 - (k : Int)] v ∧ (v.length : Int) = ls.getD k 0))

def Known (ls l : List Int) : Prop := ∀ x ∈ l, x < 0 → 0 ≤ ls.getD (-1 - x).toNat 0

theorem foldC_known {ls : List Int} : ∀ {l : List Int} {s : Int}, 0 ≤ s → s ≤ 65537 → Known ls l → foldC ls s l = min (s + sumL ls l) 65537
  | [], s, h0, h1, _ => by simp [foldC, sumL]; omega
  | x :: l, s, h0, h1, hk => by
    have hx : 0 ≤ (if x < 0 then ls.getD (-1 - x).toNat 0 else 1) := by
      split
      · exact hk x (by simp) (by assumption)
      · omega
    show foldC ls (stepC ls s x) l = _
    have e : stepC ls s x = min (s + (if x < 0 then ls.getD (-1 - x).toNat 0 else 1)) 65537 := by
      unfold stepC
      rw [if_neg (by omega), if_neg (by omega)]
    have hs : 0 ≤ sumL ls l := by
      have : ∀ l, Known ls l → 0 ≤ sumL ls l := by
        intro l
        induction l with
        | nil => intro _; simp [sumL]
        | cons y l ih =>
          intro h
          have := ih (fun z hz => h z (by simp [hz]))
          simp only [sumL]
          split
          · have := h y (by simp) (by assumption)
            omega
          · omega
      exact this l (fun y hy => hk y (by simp [hy]))
    rw [e, foldC_known (by omega) (by omega) (fun y hy => hk y (by simp [hy]))]
    simp only [sumL]
    omega

theorem foldC_pos {ls : List Int} : ∀ {l : List Int} {s : Int}, 0 ≤ foldC ls s l → Known ls l ∧ 0 ≤ s
  | [], s, h => ⟨fun x hx => (by cases hx), h⟩
  | x :: l, s, h => by
    obtain ⟨h1, h2⟩ := foldC_pos (l := l) (s := stepC ls s x) h
    have hs : 0 ≤ s := by
      apply Classical.byContradiction
      intro hc
      have : stepC ls s x = s := if_pos (by omega)
      omega
    refine ⟨fun y hy h0 => ?_, hs⟩
    rcases List.mem_cons.1 hy with rfl | hy
    · apply Classical.byContradiction
      intro hc
      have : stepC ls s y = -1 := by
        unfold stepC
        rw [if_neg (by omega), if_pos (by rw [if_pos h0]; omega)]
      omega
    · exact h1 y hy h0

theorem sumC_known {ls l : List Int} (h : Known ls l) : sumC ls l = min (sumL ls l) 65537 := by
  unfold sumC
  rw [foldC_known (Int.le_refl 0) (by omega) h, Int.zero_add]

theorem stepC_le (ls : List Int) {s : Int} (h : s ≤ 65537) (x : Int) : stepC ls s x ≤ 65537 := by
  unfold stepC
  split
  · exact h
  · split
    · omega
    · omega
theorem foldC_le (ls : List Int) : ∀ {l : List Int} {s : Int}, s ≤ 65537 → foldC ls s l ≤ 65537
  | [], s, h => h
  | x :: l, s, h => foldC_le ls (l := l) (stepC_le ls h x)
theorem foldC_ge (ls : List Int) : ∀ {l : List Int} {s : Int}, -1 ≤ s → -1 ≤ foldC ls s l
  | [], s, h => h
  | x :: l, s, h => foldC_ge ls (l := l) (by
    unfold stepC
    split
    · exact h
    · split
      · omega
      · omega)

theorem RefL.prods {t n : Nat} {rs : List R} (ho : OkRs t n rs) {ls : List Int} (h : RefL rs n ls) {l : List Int} (hl : ∀ x ∈ l, -1 - x < n) (hk : Known ls l) : ∀ x ∈ l, x < 0 → Prod rs (-1 - x) := fun x hx h0 => by
  have h1 := hl x hx
  have h2 := hk x hx h0
  have e : (((-1 - x).toNat : Nat) : Int) = -1 - x := Int.toNat_of_nonneg (by omega)
  rcases h.2 (-1 - x).toNat (by omega) with h3 | ⟨_, _, h3, _⟩
  · omega
  · rw [e] at h3; exact h3

theorem RefL.row {t n : Nat} {rs : List R} (ho : OkRs t n rs) {ls : List Int} (h : RefL rs n ls) : ∀ {l : List Int}, (∀ x ∈ l, -1 - x < n) → Known ls l → sumL ls l < 65537 → 0 ≤ sumL ls l ∧ ∃ u, D rs l u ∧ (u.length : Int) = sumL ls l
  | [], _, _, _ => ⟨by simp [sumL], [], .nil, rfl⟩
  | x :: l, h1, h2, h3 => by
    simp only [sumL] at h3 ⊢
    have hpos : 0 ≤ sumL ls l := by
      have : ∀ l, Known ls l → 0 ≤ sumL ls l := by
        intro l
        induction l with
        | nil => intro _; simp [sumL]
        | cons y l ih =>
          intro h
          have := ih (fun z hz => h z (by simp [hz]))
          simp only [sumL]
          split
          · have := h y (by simp) (by assumption)
            omega
          · omega
      exact this l (fun y hy => h2 y (by simp [hy]))
    by_cases h0 : x < 0
    · rw [if_pos h0] at h3 ⊢
      have hx := h1 x (by simp)
      have hk2 := h2 x (by simp) h0
      have hk : (((-1 - x).toNat : Nat) : Int) = -1 - x := Int.toNat_of_nonneg (by omega)
      obtain ⟨_, v, hv, hvl⟩ := RefL.row ho h (l := l) (fun y hy => h1 y (by simp [hy])) (fun y hy => h2 y (by simp [hy])) (by omega)
      rcases h.2 (-1 - x).toNat (by omega) with h6 | ⟨_, _, _, h6 | ⟨u, hu, hul⟩⟩
      · omega
      · omega
      · rw [hk, show -1 - (-1 - x) = x by omega] at hu
        exact ⟨by omega, u ++ v, D.app hu hv, by rw [List.length_append]; omega⟩
    · rw [if_neg h0] at h3 ⊢
      obtain ⟨_, v, hv, hvl⟩ := RefL.row ho h (l := l) (fun y hy => h1 y (by simp [hy])) (fun y hy => h2 y (by simp [hy])) (by omega)
      exact ⟨by omega, x :: v, .term (by omega) hv, by rw [List.length_cons]; omega⟩

theorem RefL.lower {t n : Nat} {rs : List R} (ho : OkRs t n rs) {ls : List Int} (h : RefL rs n ls) {r : R} (hr : r ∈ rs) (hs : 0 ≤ sumC ls r.right) : RefL rs n (ls.set r.left.toNat (sumC ls r.right)) := by
  have hl := ho.left hr
  have hk := (foldC_pos hs).1
  have hy : ∀ x ∈ r.right, -1 - x < n := fun x hx => (ho.sym hr hx).1
  have hp : Prod rs r.left := .mk r hr (h.prods ho hy hk)
  have e : ((r.left.toNat : Nat) : Int) = r.left := Int.toNat_of_nonneg hl.1
  have hle : sumC ls r.right ≤ 65537 := foldC_le ls (by omega)
  refine ⟨by rw [List.length_set]; exact h.1, fun k hkn => ?_⟩
  rw [getD_set _ _ _ _ (by rw [h.1]; omega)]
  by_cases ek : r.left.toNat = k
  · subst ek
    rw [if_pos rfl]
    refine .inr ⟨hs, hle, by rw [e]; exact hp, ?_⟩
    by_cases hb : sumC ls r.right = 65537
    · exact .inl hb
    · rw [sumC_known hk] at hb hle ⊢
      obtain ⟨_, u, hu, hul⟩ := h.row ho hy hk (by omega)
      exact .inr ⟨u, by rw [e]; exact D.one hr hu, by omega⟩
  · rw [if_neg ek]
    exact h.2 k hkn

/-- No rule lowers or tells a length. -/
def RefDone (rs : List R) (ls : List Int) (k : Nat) : Prop := ∀ j r, j < k → rs[j]? = some r → 0 ≤ sumC ls r.right → 0 ≤ ls.getD r.left.toNat 0 ∧ ls.getD r.left.toNat 0 ≤ sumC ls r.right

theorem RefL.short {t n : Nat} {rs : List R} (ho : OkRs t n rs) {ls : List Int} (h : RefL rs n ls) (he : RefDone rs ls rs.length) : Short rs n ls := by
  have he2 : ∀ r ∈ rs, 0 ≤ sumC ls r.right → 0 ≤ ls.getD r.left.toNat 0 ∧ ls.getD r.left.toNat 0 ≤ sumC ls r.right := fun r hr => by
    obtain ⟨j, hj, hjr⟩ := List.mem_iff_getElem.1 hr
    exact he j r hj (by rw [List.getElem?_eq_getElem hj, hjr])
  have key : ∀ k : Int, Prod rs k → 0 ≤ ls.getD k.toNat 0 := by
    intro k hk
    induction hk with
    | mk r hr _ ih =>
      have hkn : Known ls r.right := fun x hx h0 => ih x hx h0
      have h1 : 0 ≤ sumC ls r.right := by
        unfold sumC
        rw [foldC_known (Int.le_refl 0) (by omega) hkn]
        have : ∀ l, Known ls l → 0 ≤ sumL ls l := by
          intro l
          induction l with
          | nil => intro _; simp [sumL]
          | cons y l ih =>
            intro h
            have := ih (fun z hz => h z (by simp [hz]))
            simp only [sumL]
            split
            · have := h y (by simp) (by assumption)
              omega
            · omega
        have := this r.right hkn
        omega
      exact (he2 r hr h1).1
  have hok : LenOk rs n ls := ⟨h.1, fun k hk => by
    rcases h.2 k hk with h1 | ⟨h1, h2, h3, h4⟩
    · exact ⟨fun _ => h1, fun hp => by have := key k hp; rw [Int.toNat_natCast] at this; omega⟩
    · exact ⟨fun hn => absurd h3 hn, fun _ => ⟨h1, h2, h4⟩⟩⟩
  refine LenEnd.short ho hok (fun r hr hp => ?_)
  have hkn : Known ls r.right := fun x hx h0 => key _ (hp x hx h0)
  have e := sumC_known hkn
  have hb := sum_bounds ho hok (l := r.right) (fun x hx => (ho.sym hr hx).1) hp
  have := (he2 r hr (by rw [e]; omega)).2
  omega

/-- The sum of lengths, one that is not known counting for more than the greatest. -/
def upI (x : Int) : Int := if x < 0 then 65538 else x
def tot2 (ls : List Int) : Nat := totL (ls.map upI)
theorem tot2_set {ls : List Int} {i : Nat} {x : Int} (hi : i < ls.length) (hx0 : 0 ≤ x) (hx1 : x ≤ 65537) (h : ls.getD i 0 < 0 ∨ x < ls.getD i 0) : tot2 (ls.set i x) < tot2 ls := by
  unfold tot2
  rw [List.map_set]
  refine totL_set _ _ _ (by simpa using hi) ?_
  have e : (ls.map upI).getD i 0 = upI (ls.getD i 0) := by
    rw [List.getD_eq_getElem?_getD, List.getD_eq_getElem?_getD, List.getElem?_map, List.getElem?_eq_getElem hi]
    rfl
  rw [e]
  unfold upI
  rw [if_neg (by omega)]
  split <;> omega

end Go.Proofs.YtjmodcpeggafhaaDoor.UsefulMath

namespace Go.Proofs.YtjmodcpeggafhaaDoor.UsefulRShort
open Go.RowKit Go.Proofs.YtjmodcpeggafhaaDoor.GramMath Go.Proofs.YtjmodcpeggafhaaDoor.GramRow Go.Proofs.YtjmodcpeggafhaaDoor.SetsMath Go.Proofs.YtjmodcpeggafhaaDoor.UsefulMath Go.Proofs.YtjmodcpeggafhaaDoor.UsefulFn Go.Proofs.YtjmodcpeggafhaaDoor.UsefulTop Go.Proofs.YtjmodcpeggafhaaDoor.UsefulShort Go.Proofs.YtjmodcpeggafhaaDoor.OpRow Go.Proofs.YtjmodcpeggafhaaDoor.GramApart Go.Proofs.YtjmodcpeggafhaaDoor.GramRef
set_option linter.unusedVariables false

def tot2W (w : World) (d : Nat) : Nat :=
  match w.heap[d]? with
  | some (.cells cur _ _) => (cur.toList.map (fun v => (upI (intOf v)).toNat)).sum
  | _ => 0
theorem tot2W_row {w : World} {d : Nat} {t : TypeId} {ls : List Int} (h : RowAt w d t (intsA ls)) : tot2W w d = tot2 ls := by
  unfold tot2W tot2 totL
  rw [show w.heap[d]? = some (.cells (intsA ls) t (0, 0)) from h]
  simp [intsA, intOf, Function.comp_def]
def moreW (m : Value) (w : World) (d : Nat) : Nat :=
  match m with
  | .bool true => tot2W w d + 1
  | _ => 0

/-- What the document's Shortest answers. -/
def RShortV (w0 w' : World) (g : G) (e : Ending) : Prop :=
  ((checkG g).1 ≠ 0 ∧ e = .returned (.tuple #[.slice none 0 0, .int .i64 ((checkG g).1 : Int)])) ∨ ((checkG g).1 = 0 ∧ ∃ d ls, e = .returned (.tuple #[.slice (some ⟨d, 0, none⟩) g.ns.length g.ns.length, .int .i64 0]) ∧ w0.heap.size ≤ d ∧ RowAt w' d 3 (intsA ls) ∧ Short g.rs g.ns.length ls)

theorem begin_ok (rs : List R) {n : Nat} {ls : List Int} (hl : ls.length = n) (h : ∀ j, j < n → ls.getD j 0 = -1) : RefL rs n ls := ⟨hl, fun k hk => .inl (h k hk)⟩

/-- The rules up to one are done, or a length was lowered. -/
structure InS (rs : List R) (n : Nat) (ls0 ls : List Int) (b : Bool) (k : Nat) : Prop where
  ok : RefL rs n ls
  no : b = false → ls = ls0 ∧ RefDone rs ls k
  yes : b = true → tot2 ls < tot2 ls0

theorem InS.start {rs : List R} {n : Nat} {ls : List Int} (h : RefL rs n ls) : InS rs n ls ls false 0 := ⟨h, fun _ => ⟨rfl, fun j r hj => absurd hj (by omega)⟩, fun h => by cases h⟩
theorem InS.skip {rs : List R} {n : Nat} {ls0 ls : List Int} {b : Bool} {k : Nat} (h : InS rs n ls0 ls b k) {r : R} (hr : rs[k]? = some r) (hs : 0 ≤ sumC ls r.right → 0 ≤ ls.getD r.left.toNat 0 ∧ ls.getD r.left.toNat 0 ≤ sumC ls r.right) : InS rs n ls0 ls b (k + 1) :=
  ⟨h.ok, fun hb => ⟨(h.no hb).1, fun j q hj hq h0 => by
    by_cases e : j = k
    · subst e
      rw [hr] at hq
      cases hq
      exact hs h0
    · exact (h.no hb).2 j q (by omega) hq h0⟩, h.yes⟩
theorem InS.lower {t n : Nat} {rs : List R} (ho : OkRs t n rs) {ls0 ls : List Int} {b : Bool} {k : Nat} (h : InS rs n ls0 ls b k) {r : R} (hr : rs[k]? = some r) (h0 : 0 ≤ sumC ls r.right) (hlt : ls.getD r.left.toNat 0 < 0 ∨ sumC ls r.right < ls.getD r.left.toNat 0) : InS rs n ls0 (ls.set r.left.toNat (sumC ls r.right)) true (k + 1) := by
  have hm := List.mem_of_getElem? hr
  have hl := ho.left hm
  have ht := tot2_set (ls := ls) (i := r.left.toNat) (x := sumC ls r.right) (by rw [h.ok.1]; omega) h0 (foldC_le ls (by omega)) hlt
  refine ⟨h.ok.lower ho hm h0, fun h => (by cases h), fun _ => ?_⟩
  cases b with
  | true => have := h.yes rfl; omega
  | false => rw [(h.no rfl).1] at ht ⊢; exact ht

set_option maxRecDepth 100000 in
set_option maxHeartbeats 4000000 in
theorem rshortest_any (ta na ra : Option Addr) (tc nc rc : Nat) (g : G) (w : World) (hG : GRow w ta na ra g) (hg : okG g) :
    Calls Tryd.prog 20 #[.agg #[.slice ta g.ts.length tc, .slice na g.ns.length nc, .int .i64 g.ax, .slice ra g.rs.length rc]] w fun e w' => RShortV w w' g e ∧ Below w.heap.size w w' := by
  have hB1 : Below w.heap.size w (w.alloc (.cells #[.slice ta g.ts.length tc, .slice na g.ns.length nc, .int .i64 g.ax, .slice ra g.rs.length rc] 25)) := (Below.refl _ _).alloc (Nat.le_refl _) _
  have b0 : (w.alloc (.cells #[.slice ta g.ts.length tc, .slice na g.ns.length nc, .int .i64 g.ax, .slice ra g.rs.length rc] 25)).cell? ⟨w.heap.size, 0, none⟩ = some (.slice ta g.ts.length tc) := by simp [go_sem]
  have b1 : (w.alloc (.cells #[.slice ta g.ts.length tc, .slice na g.ns.length nc, .int .i64 g.ax, .slice ra g.rs.length rc] 25)).cell? ⟨w.heap.size, 1, none⟩ = some (.slice na g.ns.length nc) := by simp [go_sem]
  have b2 : (w.alloc (.cells #[.slice ta g.ts.length tc, .slice na g.ns.length nc, .int .i64 g.ax, .slice ra g.rs.length rc] 25)).cell? ⟨w.heap.size, 2, none⟩ = some (.int .i64 g.ax) := by simp [go_sem]
  have b3 : (w.alloc (.cells #[.slice ta g.ts.length tc, .slice na g.ns.length nc, .int .i64 g.ax, .slice ra g.rs.length rc] 25)).cell? ⟨w.heap.size, 3, none⟩ = some (.slice ra g.rs.length rc) := by simp [go_sem]
  have hz : (w.alloc (.cells #[.slice ta g.ts.length tc, .slice na g.ns.length nc, .int .i64 g.ax, .slice ra g.rs.length rc] 25)).heap.size = w.heap.size + 1 := by simp
  have hck := rcheck_any ta na ra tc nc rc g _ (hG.below hB1 (Nat.le_refl _)) hg
  go_enter Tryd.func20, Tryd.ntmps20
  go_wp2_with fail
  generalize w.alloc (.cells #[.slice ta g.ts.length tc, .slice na g.ns.length nc, .int .i64 g.ax, .slice ra g.rs.length rc] 25) = W1 at *
  refine hck.mono ?_
  rintro e w1 ⟨rfl, hb1⟩
  have hB2 := hB1.trans (hb1.mono (by omega))
  have c1 := (hb1.cell (p := ⟨w.heap.size, 1, none⟩) (by rw [hz]; simp)).trans b1
  have c3 := (hb1.cell (p := ⟨w.heap.size, 3, none⟩) (by rw [hz]; simp)).trans b3
  have hWz : w.heap.size < w1.heap.size := by have := hb1.size; omega
  clear hck b0 b1 b2 b3 hB1 hb1
  by_cases h0 : (checkG g).1 = 0
  · have hgood := good_of h0
    have ho := hgood.okRs
    have n60 := ho.1
    have h120 := hgood.rules
    have HV : Hid ((checkG g).1 = 0) := h0
    have hmk := fun W => madeI_any g.ns.length (by omega) W
    have hrow0 := made_row w1 g.ns.length 3
    have hBm : Below w1.heap.size w1 (w1.alloc (.cells (madeCells #[.int .i64 0] g.ns.length) 3)) := (Below.refl _ _).alloc (Nat.le_refl _) _
    have hRw := hG.2.2.below hB2 (Nat.le_refl _)
    rw [h0]
    clear h0
    go_wp2
    go_loopw [7] (fun i wr => ∃ (k : Nat) (ls : List Int), k ≤ g.ns.length ∧ i = .int .i64 k ∧ RowAt wr w1.heap.size 3 (intsA ls) ∧ ls.length = g.ns.length ∧ Hid (∀ j, j < k → ls.getD j 0 = -1) ∧ Below w1.heap.size w1 wr) (fun i _ => g.ns.length - (intOf i).toNat)
    case atStart => exact ⟨0, _, by omega, rfl, hrow0, by simp, (fun j hj => absurd hj (by omega)), hBm⟩
    case round =>
      clear hrow0 hBm hmk
      obtain ⟨k, ls, hk, rfl, hrow, hlen, hbeg, hB⟩ := hrel
      by_cases hlt : k < g.ns.length
      · have hlt2 : (k : Int) < (g.ns.length : Int) := by omega
        obtain ⟨y, hy⟩ : ∃ y, ls[k]? = some y := ⟨ls[k], List.getElem?_eq_getElem (by omega)⟩
        have q0 := hrow.cell (intsA_get hy)
        have f0 := hrow.frozen k
        have hrow1 := hrow.set k (.int .i64 (-1))
        rw [intsA_set] at hrow1
        have hB4 : Below w1.heap.size w1 (wr.setCell ⟨w1.heap.size, k, none⟩ (.int .i64 (-1))) := hB.setCell (p := ⟨w1.heap.size, k, none⟩) (Nat.le_refl _) _
        have hbeg2 : Hid (∀ j, j < k + 1 → (ls.set k (-1)).getD j 0 = -1) := fun j hj => by
          rw [getD_set _ _ _ _ (by omega)]
          by_cases e : k = j
          · rw [if_pos e]
          · rw [if_neg e]
            exact hbeg.out j (by omega)
        have hl2 : (ls.set k (-1)).length = g.ns.length := by simp; exact hlen
        clear hbeg hrow hB hy
        go_wp2
        go_roundw
        case rel => exact ⟨k + 1, _, by omega, by go_num, hrow1, hl2, hbeg2, hB4⟩
        case measure => simp [intOf]; omega
      · obtain rfl : k = g.ns.length := by omega
        have hok0 : Hid (RefL g.rs g.ns.length ls) := begin_ok g.rs hlen hbeg.out
        clear hbeg hlen
        go_wp2
        go_loopw [8] (fun m wr => ∃ (b : Bool) (ls : List Int), m = .bool b ∧ RowAt wr w1.heap.size 3 (intsA ls) ∧ Hid (RefL g.rs g.ns.length ls ∧ (b = false → RefDone g.rs ls g.rs.length)) ∧ Below w1.heap.size w1 wr) (fun m wr => moreW m wr w1.heap.size)
        case atStart => exact ⟨true, ls, rfl, hrow, ⟨hok0.out, fun h => by cases h⟩, hB⟩
        case round =>
          clear hrow hok0 hB
          obtain ⟨b, ls0, rfl, hrow, hok, hB⟩ := hrel
          cases b with
          | false =>
            have hE : Hid (Short g.rs g.ns.length ls0) := hok.out.1.short ho (hok.out.2 rfl)
            clear hok
            go_wp2
            go_ret2
            exact ⟨.inr ⟨HV.out, _, ls0, rfl, by omega, hrow, hE.out⟩, hB2.trans (hB.mono hB2.size)⟩
          | true =>
            have hm0 : Hid (tot2W wr w1.heap.size = tot2 ls0) := tot2W_row hrow
            have hIn0 : Hid (InS g.rs g.ns.length ls0 ls0 false 0) := InS.start hok.out.1
            clear hok
            go_wp2
            go_loopw [8, 9] (fun m i wx => ∃ (b : Bool) (k : Nat) (ls : List Int), m = .bool b ∧ k ≤ g.rs.length ∧ i = .int .i64 k ∧ RowAt wx w1.heap.size 3 (intsA ls) ∧ Hid (InS g.rs g.ns.length ls0 ls b k) ∧ Below w1.heap.size w1 wx) (fun _ i _ => g.rs.length - (intOf i).toNat)
            case atStart => exact ⟨false, 0, ls0, rfl, by omega, rfl, hrow, hIn0, hB⟩
            case round =>
              clear hrow hIn0 hB
              obtain ⟨b, k, ls, rfl, hk, rfl, hrow, hIn, hB⟩ := hrel
              have d3 := (hB.cell (p := ⟨w.heap.size, 3, none⟩) hWz).trans c3
              have hRk := hRw.below hB (Nat.le_refl _)
              by_cases hkl : k < g.rs.length
              · obtain ⟨r, hr⟩ : ∃ r, g.rs[k]? = some r := ⟨g.rs[k], List.getElem?_eq_getElem hkl⟩
                obtain ⟨b4, off, qa, qc, hra, e0, e1, hI⟩ := hRk k r hr
                subst hra
                have hkl2 : (k : Int) < (g.rs.length : Int) := by omega
                have hrm := List.mem_of_getElem? hr
                have hokr := hg.2.2.2.2.1 r hrm
                have hleft := ho.left hrm
                have hrl := hokr.2.2
                obtain ⟨l, hl⟩ : ∃ l : Nat, r.left = (l : Int) := ⟨r.left.toNat, by omega⟩
                have hln : l < g.ns.length := by omega
                have hln2 : (l : Int) < (g.ns.length : Int) := by omega
                have hlt' : r.left.toNat = l := by omega
                rw [hl] at e0
                have HN : Hid (ls.length = g.ns.length) := hIn.out.ok.1
                have hBn : Below wr.heap.size wr (wr.alloc (.cells #[.int .i64 (l : Int), .slice qa r.right.length qc] 56)) := (Below.refl _ _).alloc (Nat.le_refl _) _
                have hrow3 := hrow.alloc (.cells #[.int .i64 (l : Int), .slice qa r.right.length qc] 56)
                have hI3 := hI.below hBn (Nat.le_refl _)
                have hB3 := hB.trans (hBn.mono hB.size)
                have q0 : (wr.alloc (.cells #[.int .i64 (l : Int), .slice qa r.right.length qc] 56)).cell? ⟨wr.heap.size, 0, none⟩ = some (.int .i64 (l : Int)) := by simp
                have q1 : (wr.alloc (.cells #[.int .i64 (l : Int), .slice qa r.right.length qc] 56)).cell? ⟨wr.heap.size, 1, none⟩ = some (.slice qa r.right.length qc) := by simp
                have HR : Hid (g.rs[k]? = some r) := hr
                have HL : Hid (r.left = (l : Int) ∧ r.left.toNat = l) := ⟨hl, hlt'⟩
                have hsym : ∀ x ∈ r.right, -1 - x < g.ns.length := fun x hx => (ho.sym hrm hx).1
                obtain ⟨y, hy⟩ : ∃ y, ls[l]? = some y := ⟨ls[l]'(by have := HN.out; omega), List.getElem?_eq_getElem _⟩
                have HY : Hid (ls.getD l 0 = y) := by show _ = _; rw [List.getD_eq_getElem?_getD, hy]; rfl
                have hcy := hrow3.cell (intsA_get hy)
                have hfy := hrow3.frozen l
                clear hr hl hlt' hI hRk hrow hB hleft hy
                go_wp2
                generalize hW4 : wr.alloc (.cells #[.int .i64 (l : Int), .slice qa r.right.length qc] 56) = W4 at *
                clear hW4 hBn
                generalize hbx : wr.heap.size = bx at *
                go_loopw [11, 12] (fun s i wx => ∃ m : Nat, m ≤ r.right.length ∧ s = .int .i64 (foldC ls 0 (r.right.take m)) ∧ i = .int .i64 m ∧ wx = W4) (fun _ i _ => r.right.length - (intOf i).toNat)
                case atStart => exact ⟨0, by omega, rfl, rfl, rfl⟩
                case round =>
                  obtain ⟨m, hm, rfl, rfl, hwr⟩ := hrel
                  subst hwr
                  have HS : Hid (-1 ≤ foldC ls 0 (r.right.take m) ∧ foldC ls 0 (r.right.take m) ≤ 65537) := ⟨foldC_ge ls (by omega), foldC_le ls (by omega)⟩
                  have HE : Hid (m = r.right.length ∨ foldC ls 0 (r.right.take m) < 0 → foldC ls 0 (r.right.take m) = sumC ls r.right) := fun h => by
                    rcases h with rfl | h
                    · rw [List.take_length]; rfl
                    · exact foldC_end ls h
                  have HF : Hid (∀ x, r.right[m]? = some x → foldC ls 0 (r.right.take (m + 1)) = stepC ls (foldC ls 0 (r.right.take m)) x) := fun x hx => foldC_take ls hx
                  generalize foldC ls 0 (r.right.take m) = s at *
                  have hsb := HS.out
                  by_cases hml : m < r.right.length
                  · have hml2 : (m : Int) < (r.right.length : Int) := by omega
                    by_cases hs0 : s < 0
                    · have hIn2 : Hid (InS g.rs g.ns.length ls0 ls b (k + 1)) := hIn.out.skip HR.out (fun h => by have := HE.out (.inr hs0); omega)
                      have hs1 : ¬ 0 ≤ s := by omega
                      clear hIn
                      go_wp2
                      go_roundw
                      case rel => exact ⟨b, k + 1, ls, rfl, by omega, by go_num, hrow3, hIn2, hB3⟩
                      case measure => simp [intOf]; omega
                    · have hs1 : 0 ≤ s := by omega
                      obtain ⟨x, hx⟩ : ∃ x, r.right[m]? = some x := ⟨r.right[m], List.getElem?_eq_getElem hml⟩
                      obtain ⟨b5, off5, rfl, hc5⟩ := hI3 m x hx
                      have hxm := List.mem_of_getElem? hx
                      obtain ⟨x1, x2⟩ := hokr.2.1 x hxm
                      have hsy := hsym x hxm
                      have HF2 : Hid (_) := HF.out x hx
                      clear hx hxm HF
                      by_cases h0 : x < 0
                      · obtain ⟨v, hv⟩ : ∃ v : Nat, -1 - x = (v : Int) := ⟨(-1 - x).toNat, by omega⟩
                        have hvn : v < g.ns.length := by omega
                        have hvn2 : (v : Int) < (g.ns.length : Int) := by omega
                        have hvt : (-1 - x).toNat = v := by omega
                        obtain ⟨z, hz2⟩ : ∃ z, ls[v]? = some z := ⟨ls[v]'(by have := HN.out; omega), List.getElem?_eq_getElem _⟩
                        have hzd : ls.getD v 0 = z := by rw [List.getD_eq_getElem?_getD, hz2]; rfl
                        have hcz := hrow3.cell (intsA_get hz2)
                        have hzb : -1 ≤ z ∧ z ≤ 65537 := by
                          rcases hIn.out.ok.2 v hvn with h | ⟨h1, h2, _⟩ <;> omega
                        have hd : decide (x < 0) = true := by simpa using h0
                        by_cases hz0 : z < 0
                        · have hst : Hid (foldC ls 0 (r.right.take (m + 1)) = -1) := by
                            show _ = _
                            rw [HF2.out]
                            unfold stepC
                            rw [if_neg (by omega), if_pos h0, hvt, hzd, if_pos hz0]
                          clear HF2 hzd hz2 hvt hsy
                          go_wp2
                          go_roundw
                          case rel => exact ⟨m + 1, by omega, by rw [hst.out], by go_num, trivial⟩
                          case measure => simp [intOf]; omega
                        · have hst : Hid (foldC ls 0 (r.right.take (m + 1)) = min (s + z) 65537) := by
                            show _ = _
                            rw [HF2.out]
                            unfold stepC
                            rw [if_neg (by omega), if_pos h0, hvt, hzd, if_neg hz0]
                          clear HF2 hzd hz2 hvt hsy
                          go_wp2
                          go_roundw
                          case rel => exact ⟨m + 1, by omega, by rw [hst.out], by go_num, trivial⟩
                          case measure => simp [intOf]; omega
                      · have hd : decide (x < 0) = false := by simpa using h0
                        have hst : Hid (foldC ls 0 (r.right.take (m + 1)) = min (s + 1) 65537) := by
                          show _ = _
                          rw [HF2.out]
                          unfold stepC
                          rw [if_neg (by omega), if_neg h0, if_neg (by omega)]
                        clear HF2 hsy
                        go_wp2
                        go_roundw
                        case rel => exact ⟨m + 1, by omega, by rw [hst.out], by go_num, trivial⟩
                        case measure => simp [intOf]; omega
                  · have hml2 : ¬ (m : Int) < (r.right.length : Int) := by omega
                    have he : Hid (s = sumC ls r.right) := HE.out (.inl (by omega))
                    clear HF HE
                    by_cases hs0 : s < 0
                    · have hIn2 : Hid (InS g.rs g.ns.length ls0 ls b (k + 1)) := hIn.out.skip HR.out (fun h => by have := he.out; omega)
                      have hs1 : ¬ 0 ≤ s := by omega
                      clear hIn
                      go_wp2
                      go_roundw
                      case rel => exact ⟨b, k + 1, ls, rfl, by omega, by go_num, hrow3, hIn2, hB3⟩
                      case measure => simp [intOf]; omega
                    · have hs1 : 0 ≤ s := by omega
                      by_cases hc : y < 0 ∨ s < y
                      · have hIn2 : Hid (InS g.rs g.ns.length ls0 (ls.set l s) true (k + 1)) := by
                          have h := hIn.out.lower ho HR.out (by rw [← he.out]; exact hs1) (by rw [HL.out.2, HY.out, ← he.out]; exact hc)
                          rw [HL.out.2, ← he.out] at h
                          exact h
                        have hrow5 := hrow3.set l (.int .i64 s)
                        rw [intsA_set] at hrow5
                        have hB5 := hB3.setCell (p := ⟨w1.heap.size, l, none⟩) (Nat.le_refl _) (.int .i64 s)
                        clear hIn
                        by_cases hy0 : y < 0
                        · go_wp2
                          go_roundw
                          case rel => exact ⟨true, k + 1, _, rfl, by omega, by go_num, hrow5, hIn2, hB5⟩
                          case measure => simp [intOf]; omega
                        · have hsy2 : s < y := hc.resolve_left hy0
                          go_wp2
                          go_roundw
                          case rel => exact ⟨true, k + 1, _, rfl, by omega, by go_num, hrow5, hIn2, hB5⟩
                          case measure => simp [intOf]; omega
                      · have hy0 : ¬ y < 0 := fun h => hc (.inl h)
                        have hsy2 : ¬ s < y := fun h => hc (.inr h)
                        have hIn2 : Hid (InS g.rs g.ns.length ls0 ls b (k + 1)) := hIn.out.skip HR.out (fun h => by rw [HL.out.2, HY.out, ← he.out]; omega)
                        clear hIn
                        go_wp2
                        go_roundw
                        case rel => exact ⟨b, k + 1, ls, rfl, by omega, by go_num, hrow3, hIn2, hB3⟩
                        case measure => simp [intOf]; omega
              · obtain rfl : k = g.rs.length := by omega
                have hkl2 : ¬ (g.rs.length : Int) < (g.rs.length : Int) := by omega
                have hm1 : Hid (tot2W wr w1.heap.size = tot2 ls) := tot2W_row hrow
                clear hRk
                go_wp2
                go_roundw
                case rel => exact ⟨b, ls, rfl, hrow, ⟨hIn.out.ok, fun h => (hIn.out.no h).2⟩, hB⟩
                case measure =>
                  cases b with
                  | false => exact Nat.succ_pos _
                  | true =>
                    have := hIn.out.yes rfl
                    show tot2W _ _ + 1 < tot2W _ _ + 1
                    rw [hm0.out, hm1.out]
                    omega
  · have H0 : Hid ((checkG g).1 ≠ 0) := h0
    have h1 : ((((checkG g).1 : Nat) : Int) == 0) = false := by simpa using h0
    clear h0
    go_wp2
    go_ret2
    exact ⟨.inl ⟨H0.out, rfl⟩, hB2⟩

end Go.Proofs.YtjmodcpeggafhaaDoor.UsefulRShort

namespace Go.Proofs.YtjmodcpeggafhaaDoor.UsefulRWord
open Go.RowKit Go.Proofs.YtjmodcpeggafhaaDoor.GramMath Go.Proofs.YtjmodcpeggafhaaDoor.GramRow Go.Proofs.YtjmodcpeggafhaaDoor.SetsMath Go.Proofs.YtjmodcpeggafhaaDoor.UsefulMath Go.Proofs.YtjmodcpeggafhaaDoor.UsefulWord Go.Proofs.YtjmodcpeggafhaaDoor.OpRow Go.Proofs.YtjmodcpeggafhaaDoor.GramApart
set_option linter.unusedVariables false

def stepW (f : Nat → Option (List Int)) (o : Option (List Int)) (x : Int) : Option (List Int) :=
  match o with
  | none => none
  | some p => if x < 0 then (match f (-1 - x).toNat with
    | none => none
    | some q => if 65536 < p.length + q.length then none else some (p ++ q)) else some (p ++ [x])
def foldW (f : Nat → Option (List Int)) (o : Option (List Int)) (l : List Int) : Option (List Int) := l.foldl (stepW f) o
def rowW (f : Nat → Option (List Int)) (l : List Int) : Option (List Int) := foldW f (some []) l

theorem foldW_none (f : Nat → Option (List Int)) : ∀ l, foldW f none l = none
  | [] => rfl
  | x :: l => foldW_none f l
theorem foldW_take (f : Nat → Option (List Int)) {l : List Int} {k : Nat} {x : Int} (h : l[k]? = some x) : rowW f (l.take (k + 1)) = stepW f (rowW f (l.take k)) x := by
  rw [List.take_add_one, h]
  simp [rowW, foldW]
theorem foldW_end (f : Nat → Option (List Int)) {l : List Int} {k : Nat} (h : rowW f (l.take k) = none) : rowW f l = none := by
  have e : rowW f l = foldW f (rowW f (l.take k)) (l.drop k) := by
    unfold rowW foldW
    rw [← List.foldl_append, List.take_append_drop]
  rw [e, h, foldW_none]

theorem foldW_len {f : Nat → Option (List Int)} : ∀ {l p v : List Int} {j : Nat}, p.length ≤ 65536 + j → foldW f (some p) l = some v → v.length ≤ 65536 + j + l.length
  | [], p, v, j, hp, h => by
    obtain rfl : p = v := Option.some.inj h
    simpa using hp
  | x :: l, p, v, j, hp, h => by
    have h' : foldW f (stepW f (some p) x) l = some v := h
    by_cases h0 : x < 0
    · cases hq : f (-1 - x).toNat with
      | none =>
        rw [show stepW f (some p) x = none by simp [stepW, h0, hq], foldW_none] at h'
        cases h'
      | some q =>
        by_cases hl : 65536 < p.length + q.length
        · rw [show stepW f (some p) x = none by simp [stepW, h0, hq, hl], foldW_none] at h'
          cases h'
        · rw [show stepW f (some p) x = some (p ++ q) by simp [stepW, h0, hq, hl]] at h'
          have := foldW_len (j := j) (by rw [List.length_append]; omega) h'
          rw [List.length_cons]
          omega
    · rw [show stepW f (some p) x = some (p ++ [x]) by simp [stepW, h0]] at h'
      have := foldW_len (j := j + 1) (by rw [List.length_append, List.length_singleton]; omega) h'
      rw [List.length_cons]
      omega
theorem rowW_len {f : Nat → Option (List Int)} {l v : List Int} (h : rowW f l = some v) : v.length ≤ 65536 + l.length := by
  have := foldW_len (j := 0) (by simp) h
  omega

/-- What is known while the rounds go on. -/
def RefW (rs : List R) (n : Nat) (f : Nat → Option (List Int)) : Prop := ∀ k, k < n → ∀ v, f k = some v → D rs [-1 - (k : Int)] v ∧ v.length ≤ 65568

theorem foldW_D {n : Nat} {rs : List R} {f : Nat → Option (List Int)} (hf : RefW rs n f) : ∀ {l p v : List Int}, (∀ x ∈ l, -1 - x < n) → foldW f (some p) l = some v → ∃ q, v = p ++ q ∧ D rs l q
  | [], p, v, _, h => by
    obtain rfl : p = v := Option.some.inj h
    exact ⟨[], by simp, .nil⟩
  | x :: l, p, v, hs, h => by
    have h' : foldW f (stepW f (some p) x) l = some v := h
    by_cases h0 : x < 0
    · cases hq : f (-1 - x).toNat with
      | none =>
        rw [show stepW f (some p) x = none by simp [stepW, h0, hq], foldW_none] at h'
        cases h'
      | some q =>
        by_cases hl : 65536 < p.length + q.length
        · rw [show stepW f (some p) x = none by simp [stepW, h0, hq, hl], foldW_none] at h'
          cases h'
        · rw [show stepW f (some p) x = some (p ++ q) by simp [stepW, h0, hq, hl]] at h'
          obtain ⟨u, hu, hd⟩ := foldW_D hf (fun y hy => hs y (by simp [hy])) h'
          have hx := hs x (by simp)
          have h1 := (hf (-1 - x).toNat (by omega) q hq).1
          rw [Int.toNat_of_nonneg (by omega), show -1 - (-1 - x) = x by omega] at h1
          exact ⟨q ++ u, by rw [hu, List.append_assoc], D.app h1 hd⟩
    · rw [show stepW f (some p) x = some (p ++ [x]) by simp [stepW, h0]] at h'
      obtain ⟨u, hu, hd⟩ := foldW_D hf (fun y hy => hs y (by simp [hy])) h'
      exact ⟨x :: u, by rw [hu, List.append_assoc]; rfl, .term (by omega) hd⟩

/-- No rule tells a row or makes a lesser one. -/
def WDone (rs : List R) (f : Nat → Option (List Int)) (k : Nat) : Prop := ∀ j r v, j < k → rs[j]? = some r → rowW f r.right = some v → ∃ u, f r.left.toNat = some u ∧ rk u ≤ rk v

theorem done_low {t n : Nat} {rs : List R} (ho : OkRs t n rs) (ht : t ≤ 60) {f : Nat → Option (List Int)} (hf : RefW rs n f) (hd : WDone rs f rs.length) {l u : List Int} (h : D rs l u) : (∀ x ∈ l, x < t) → ∀ p : List Int, p.length + u.length ≤ 65536 → ∃ v, foldW f (some p) l = some (p ++ v) ∧ rk v ≤ rk u ∧ Tok v ∧ Tok u := by
  induction h with
  | nil => intro _ p _; exact ⟨[], by simp [foldW], Nat.le_refl _, (fun x hx => by cases hx), (fun x hx => by cases hx)⟩
  | @term x l u hx hd' ih =>
    intro hs p hp
    obtain ⟨v, h1, h2, h3, h4⟩ := ih (fun y hy => hs y (by simp [hy])) (p ++ [x]) (by rw [List.length_append, List.length_singleton]; rw [List.length_cons] at hp; omega)
    have hx1 := hs x (by simp)
    have hT : Tok [x] := fun y hy => by
      obtain rfl : y = x := (by simpa using hy)
      omega
    refine ⟨x :: v, ?_, ?_, Tok.app hT h3, Tok.app hT h4⟩
    · show foldW f (stepW f (some p) x) l = _
      rw [show stepW f (some p) x = some (p ++ [x]) by simp [stepW, show ¬ x < 0 by omega], h1, List.append_assoc]
      rfl
    · exact rk_app_mono (u := [x]) (u' := [x]) h3 h4 (Nat.le_refl _) h2
  | @rule l u1 u2 r hr hu1 hu2 ih1 ih2 =>
    intro hs p hp
    rw [List.length_append] at hp
    obtain ⟨v1, a1, a2, a3, a4⟩ := ih1 (fun y hy => (ho.sym hr hy).2) [] (by simp; omega)
    obtain ⟨j, hj, hjr⟩ := List.mem_iff_getElem.1 hr
    obtain ⟨q, hq, hqr⟩ := hd j r v1 hj (by rw [List.getElem?_eq_getElem hj, hjr]) (by simpa [rowW] using a1)
    have hl := ho.left hr
    have hqd := (hf r.left.toNat (by omega) q hq).1
    have hqT : Tok q := fun x hx => by
      have := hqd.toks ho (fun y hy => by
        obtain rfl : y = _ := (by simpa using hy)
        omega) x hx
      omega
    have hqu : rk q ≤ rk u1 := Nat.le_trans hqr a2
    have hql := rk_le_len hqT a4 hqu
    obtain ⟨v2, b1, b2, b3, b4⟩ := ih2 (fun y hy => hs y (by simp [hy])) (p ++ q) (by rw [List.length_append]; omega)
    refine ⟨q ++ v2, ?_, rk_app_mono b3 b4 hqu b2, Tok.app hqT b3, Tok.app a4 b4⟩
    show foldW f (stepW f (some p) (-1 - r.left)) l = _
    have e : (-1 - (-1 - r.left)).toNat = r.left.toNat := by congr 1; omega
    rw [show stepW f (some p) (-1 - r.left) = some (p ++ q) by simp only [stepW]; rw [if_pos (by omega), e, hq]; simp only []; rw [if_neg (by omega)], b1, List.append_assoc]

theorem done_word {t n : Nat} {rs : List R} (ho : OkRs t n rs) (ht : t ≤ 60) {f : Nat → Option (List Int)} (hf : RefW rs n f) (hd : WDone rs f rs.length) {k : Nat} (hk : k < n) {u0 : List Int} (h0 : D rs [-1 - (k : Int)] u0) (hl : u0.length ≤ 65536) : ∃ v, f k = some v ∧ IsWord rs k v ∧ v.length ≤ 65536 := by
  have hone : ∀ x ∈ [-1 - (k : Int)], x < t := fun x hx => by
    obtain rfl : x = _ := (by simpa using hx)
    omega
  have key : ∀ u, D rs [-1 - (k : Int)] u → u.length ≤ 65536 → ∃ v, f k = some v ∧ rk v ≤ rk u ∧ Tok v ∧ Tok u := fun u hu hul => by
    obtain ⟨v, h1, h2, h3, h4⟩ := done_low ho ht hf hd hu hone [] (by simp; omega)
    have h1' : stepW f (some []) (-1 - (k : Int)) = some v := by simpa [foldW] using h1
    have e : (-1 - (-1 - (k : Int))).toNat = k := by omega
    simp only [stepW] at h1'
    rw [if_pos (by omega), e] at h1'
    cases hq : f k with
    | none => rw [hq] at h1'; cases h1'
    | some q =>
      rw [hq] at h1'
      simp only [] at h1'
      split at h1'
      · cases h1'
      · obtain rfl : q = v := by simpa using h1'
        exact ⟨q, rfl, h2, h3, h4⟩
  obtain ⟨v, hv, hr, hT, hT0⟩ := key u0 h0 hl
  have hvl := rk_le_len hT hT0 hr
  refine ⟨v, hv, ⟨(hf k hk v hv).1, fun u hu => ?_⟩, by omega⟩
  by_cases hul : u.length ≤ 65536
  · obtain ⟨v', hv', hr', _⟩ := key u hu hul
    rw [hv] at hv'
    cases hv'
    exact hr'
  · have hTu : Tok u := Dij.toks ho (by omega) (k := (k : Int)) (by omega) hu
    exact Nat.le_of_lt (rk_len hT hTu (by omega))

/-- A measure: each row's rank, one that is not known counting for more than any. -/
def big : Nat := 64 * geo 65568 + 1
def rkO : Option (List Int) → Nat
  | none => big
  | some l => rk l
def mW (f : Nat → Option (List Int)) : Nat → Nat
  | 0 => 0
  | n + 1 => mW f n + rkO (f n)
def updO (f : Nat → Option (List Int)) (k : Nat) (v : List Int) : Nat → Option (List Int) := fun i => if i = k then some v else f i
theorem updO_at (f : Nat → Option (List Int)) (k : Nat) (v : List Int) : updO f k v k = some v := if_pos rfl
theorem updO_ne (f : Nat → Option (List Int)) {k i : Nat} (v : List Int) (h : i ≠ k) : updO f k v i = f i := if_neg h
theorem mW_congr {f h : Nat → Option (List Int)} : ∀ {n : Nat}, (∀ k, k < n → f k = h k) → mW f n = mW h n
  | 0, _ => rfl
  | n + 1, e => by
    show mW f n + rkO (f n) = mW h n + rkO (h n)
    rw [mW_congr (fun k hk => e k (by omega)), e n (by omega)]
theorem mW_upd {f : Nat → Option (List Int)} {k : Nat} {v : List Int} (h : rk v < rkO (f k)) : ∀ {n : Nat}, k < n → mW (updO f k v) n < mW f n
  | 0, hk => absurd hk (by omega)
  | n + 1, hk => by
    show mW (updO f k v) n + rkO (updO f k v n) < mW f n + rkO (f n)
    by_cases e : k = n
    · subst e
      rw [updO_at, mW_congr (h := f) (fun i hi => updO_ne f v (by omega))]
      exact Nat.add_lt_add_left h _
    · have := mW_upd (n := n) h (by omega)
      rw [updO_ne f v (fun e' => e e'.symm)]
      omega

theorem rk_big {v : List Int} (hT : Tok v) (hl : v.length ≤ 65568) : rk v < big := by
  have h1 := (rk_bounds hT).2
  have h2 := geo_mono hl
  unfold big
  generalize geo 65568 = G at *
  omega

structure InW (rs : List R) (n : Nat) (f0 f : Nat → Option (List Int)) (b : Bool) (k : Nat) : Prop where
  ok : RefW rs n f
  no : b = false → f = f0 ∧ WDone rs f k
  yes : b = true → mW f n < mW f0 n
theorem InW.start {rs : List R} {n : Nat} {f : Nat → Option (List Int)} (h : RefW rs n f) : InW rs n f f false 0 := ⟨h, fun _ => ⟨rfl, fun j r v hj => absurd hj (by omega)⟩, fun h => by cases h⟩
theorem InW.skip {rs : List R} {n : Nat} {f0 f : Nat → Option (List Int)} {b : Bool} {k : Nat} (h : InW rs n f0 f b k) {r : R} (hr : rs[k]? = some r) (hs : ∀ v, rowW f r.right = some v → ∃ u, f r.left.toNat = some u ∧ rk u ≤ rk v) : InW rs n f0 f b (k + 1) :=
  ⟨h.ok, fun hb => ⟨(h.no hb).1, fun j q v hj hq hv => by
    by_cases e : j = k
    · subst e
      rw [hr] at hq
      cases hq
      exact hs v hv
    · exact (h.no hb).2 j q v (by omega) hq hv⟩, h.yes⟩
theorem InW.lower {t n : Nat} {rs : List R} (ho : OkRs t n rs) (ht : t ≤ 60) (h32 : ∀ r ∈ rs, r.right.length ≤ 32) {f0 f : Nat → Option (List Int)} {b : Bool} {k : Nat} (h : InW rs n f0 f b k) {r : R} (hr : rs[k]? = some r) {v : List Int} (hv : rowW f r.right = some v) (hlt : ∀ u, f r.left.toNat = some u → rk v < rk u) : InW rs n f0 (updO f r.left.toNat v) true (k + 1) := by
  have hm := List.mem_of_getElem? hr
  have hl := ho.left hm
  obtain ⟨q, hq, hd⟩ := foldW_D h.ok (fun x hx => (ho.sym hm hx).1) hv
  obtain rfl : v = q := by simpa using hq
  have hd1 := D.one hm hd
  have hlen := rowW_len hv
  have h3 := h32 r hm
  have hT : Tok v := Dij.toks ho (by omega) (k := r.left) hl.1 hd1
  have hlt2 : rk v < rkO (f r.left.toNat) := by
    cases hu : f r.left.toNat with
    | none => exact rk_big hT (by omega)
    | some u => exact hlt u hu
  have hmw := mW_upd hlt2 (n := n) (by omega)
  refine ⟨fun j hj u hu => ?_, fun h => (by cases h), fun _ => ?_⟩
  · by_cases e : j = r.left.toNat
    · subst e
      rw [updO_at] at hu
      obtain rfl := Option.some.inj hu
      rw [Int.toNat_of_nonneg hl.1]
      exact ⟨hd1, by omega⟩
    · rw [updO_ne f v e] at hu
      exact h.ok j hj u hu
  · cases b with
    | true => have := h.yes rfl; omega
    | false => rw [(h.no rfl).1] at hmw ⊢; exact hmw

/-- Lists in a list of lists; no list: not known. -/
def RowsO (w : World) (d n : Nat) (f : Nat → Option (List Int)) : Prop :=
  ∃ cur, RowAt w d 42 cur ∧ cur.size = n ∧ ∀ k, k < n → (f k = none ∧ cur[k]? = some (.slice none 0 0)) ∨ ∃ row a c, f k = some row ∧ cur[k]? = some (.slice (some a) row.length c) ∧ IRow w (some a) row
theorem RowsO.lt {w : World} {d n : Nat} {f : Nat → Option (List Int)} (h : RowsO w d n f) : d < w.heap.size := by
  obtain ⟨cur, hr, _⟩ := h
  exact hr.lt
theorem RowsO.below {w w' : World} {d n B : Nat} {f : Nat → Option (List Int)} (h : RowsO w d n f) (hb : Below B w w') (hB : w.heap.size ≤ B) : RowsO w' d n f := by
  obtain ⟨cur, hr, hs, hk⟩ := h
  refine ⟨cur, hr.below hb (Nat.lt_of_lt_of_le hr.lt hB), hs, fun k hkn => ?_⟩
  rcases hk k hkn with h1 | ⟨row, a, c, h1, h2, h3⟩
  · exact .inl h1
  · exact .inr ⟨row, a, c, h1, h2, h3.below hb hB⟩
theorem RowsO.cell {w : World} {d n : Nat} {f : Nat → Option (List Int)} (h : RowsO w d n f) {k : Nat} (hk : k < n) : w.frozen? ⟨d, k, none⟩ = false ∧ ((f k = none ∧ w.cell? ⟨d, k, none⟩ = some (.slice none 0 0)) ∨ ∃ row a c, f k = some row ∧ w.cell? ⟨d, k, none⟩ = some (.slice (some a) row.length c) ∧ IRow w (some a) row) := by
  obtain ⟨cur, hr, hs, hh⟩ := h
  refine ⟨hr.frozen k, ?_⟩
  rcases hh k hk with ⟨h1, h2⟩ | ⟨row, a, c, h1, h2, h3⟩
  · exact .inl ⟨h1, hr.cell h2⟩
  · exact .inr ⟨row, a, c, h1, hr.cell h2, h3⟩
theorem RowsO.noInt {w : World} {d n : Nat} {f : Nat → Option (List Int)} (h : RowsO w d n f) : ∀ q x, w.cell? ⟨d, q, none⟩ ≠ some (.int .i64 x) := fun q x e => by
  obtain ⟨cur, hr, hs, hk⟩ := h
  rw [rowat_cell hr] at e
  have hq := (Array.getElem?_eq_some_iff.1 e).1
  rcases hk q (by omega) with ⟨_, h1⟩ | ⟨_, _, _, _, h1, _⟩ <;> (rw [h1] at e; cases e)
theorem RowsO.set {w : World} {d n : Nat} {f : Nat → Option (List Int)} (h : RowsO w d n f) {k : Nat} (hk : k < n) {a : Addr} {c : Nat} {row : List Int} (hi : IRow w (some a) row) : RowsO (w.setCell ⟨d, k, none⟩ (.slice (some a) row.length c)) d n (updO f k row) := by
  have hno := h.noInt
  obtain ⟨cur, hr, hs, hh⟩ := h
  refine ⟨_, hr.set k _, by simpa using hs, fun j hj => ?_⟩
  rw [Array.getElem?_setIfInBounds]
  by_cases e : k = j
  · subst e
    rw [if_pos rfl, if_pos (by omega), updO_at]
    exact .inr ⟨row, a, c, rfl, rfl, irow_far hi hno⟩
  · rw [if_neg e, updO_ne _ _ (fun h => e h.symm)]
    rcases hh j hj with h1 | ⟨row', a', c', h1, h2, h3⟩
    · exact .inl h1
    · exact .inr ⟨row', a', c', h1, h2, irow_far h3 hno⟩
theorem rowsO_new (w : World) (n : Nat) : RowsO (w.alloc (.cells (madeCells #[.slice none 0 0] n) 42)) w.heap.size n (fun _ => none) := by
  refine ⟨_, heap_new _ _, ?_, fun k hk => .inl ⟨rfl, ?_⟩⟩
  · rw [← Array.length_toList, toList_madeCells_one, List.length_replicate]
  · rw [← Array.getElem?_toList, toList_madeCells_one, List.getElem?_replicate, if_pos hk]

/-- The measure, read off the world. -/
def rowOf (w : World) : Option Value → Option (List Int)
  | some (.slice (some a) m _) => some ((List.range m).map (fun i => match w.cell? (a.add i) with
    | some v => intOf v
    | none => 0))
  | _ => none
def mWW (w : World) (d n : Nat) : Nat := mW (fun k => rowOf w (w.cell? ⟨d, k, none⟩)) n
theorem rowOf_row {w : World} {a : Addr} {c : Nat} {row : List Int} (h : IRow w (some a) row) : rowOf w (some (.slice (some a) row.length c)) = some row := by
  show some _ = some row
  congr 1
  apply List.ext_getElem?
  intro i
  rw [List.getElem?_map]
  by_cases hi : i < row.length
  · rw [List.getElem?_range hi]
    obtain ⟨b, off, ha, hc⟩ := h i row[i] (List.getElem?_eq_getElem hi)
    obtain rfl := Option.some.inj ha
    rw [List.getElem?_eq_getElem hi]
    show some (match w.cell? ((⟨b, off, none⟩ : Addr).add i) with
      | some v => intOf v
      | none => 0) = _
    rw [Addr.add_lit, hc]
    rfl
  · rw [List.getElem?_eq_none (by simpa using hi), List.getElem?_eq_none (by omega)]
    rfl
theorem mWW_rows {w : World} {d n : Nat} {f : Nat → Option (List Int)} (h : RowsO w d n f) : mWW w d n = mW f n := mW_congr fun k hk => by
  rcases (h.cell hk).2 with ⟨h1, h2⟩ | ⟨row, a, c, h1, h2, h3⟩
  · rw [h1, h2]; rfl
  · rw [h1, h2, rowOf_row h3]
def moreW (m : Value) (w : World) (d n : Nat) : Nat :=
  match m with
  | .bool true => mWW w d n + 1
  | _ => 0

set_option maxRecDepth 100000 in
set_option maxHeartbeats 1000000 in
theorem rahead_any (a b : Option Addr) (ca cb : Nat) (zs ys : List Int) (w : World) (ha : IRow w a zs) (hb : IRow w b ys) (h1 : zs.length ≤ 1125899906842624) (h2 : ys.length ≤ 1125899906842624) :
    Calls Tryd.prog 54 #[.slice a zs.length ca, .slice b ys.length cb] w fun e w' => e = .returned (.bool (aheadB zs ys)) ∧ Below w.heap.size w w' := by
  by_cases hl : zs.length = ys.length
  · have hE : Hid (aheadB zs ys = decide (cmpL zs ys < 0)) := if_pos hl
    have hlI : (zs.length : Int) = (ys.length : Int) := by omega
    rw [hl]
    rw [hl] at h1
    have HL : Hid (zs.length = ys.length) := hl
    clear hl
    go_enter Tryd.func54, Tryd.ntmps54
    go_wp2
    go_loopw [5] (fun i wr => ∃ k q : Nat, k ≤ ys.length ∧ i = .int .i64 k ∧ wr = w.drewN q ∧ Hid (cmpL (zs.drop k) (ys.drop k) = cmpL zs ys)) (fun i _ => ys.length - (intOf i).toNat)
    case atStart => exact ⟨0, 0, by omega, rfl, rfl, rfl⟩
    case round =>
      obtain ⟨k, q, hk, rfl, rfl, hc⟩ := hrel
      by_cases hlt : k < ys.length
      · obtain ⟨x, hx⟩ : ∃ x, zs[k]? = some x := ⟨zs[k]'(by rw [HL.out]; exact hlt), List.getElem?_eq_getElem _⟩
        obtain ⟨y, hy⟩ : ∃ y, ys[k]? = some y := ⟨ys[k], List.getElem?_eq_getElem hlt⟩
        obtain ⟨b1, off1, rfl, hc1⟩ := ha k x hx
        obtain ⟨b2, off2, rfl, hc2⟩ := hb k y hy
        have hst := cmpL_drop hx hy
        rw [hc.out] at hst
        have HST : Hid (_) := hst
        clear hx hy hst hc
        have hlt2 : (k : Int) < (ys.length : Int) := by omega
        by_cases e : x = y
        · have hc3 : Hid (cmpL (zs.drop (k + 1)) (ys.drop (k + 1)) = cmpL zs ys) := by
            have := HST.out
            rw [e, show sgn y y = 0 by simp [sgn], if_pos rfl] at this
            exact this.symm
          have e2 : (x != y) = false := by simpa using e
          clear HST
          go_wp2
          go_quiet (fail)
          go_wp2
          go_roundw
          case rel => exact ⟨k + 1, _, by omega, by go_num, rfl, hc3⟩
          case measure => simp [intOf]; omega
        · have e2 : (x != y) = true := by simpa using e
          have hr : Hid (decide (x < y) = aheadB zs ys) := by
            show _ = _
            rw [hE.out, HST.out]
            have hs : sgn x y ≠ 0 := by unfold sgn; split <;> (try split) <;> omega
            rw [if_neg hs]
            unfold sgn
            by_cases h3 : x < y
            · simp [h3]
            · rw [if_neg h3, if_pos (by omega)]
              simp [h3]
          clear HST hE
          go_wp2
          go_quiet (fail)
          go_wp2
          go_quiet (fail)
          go_wp2
          go_ret
          exact ⟨by rw [← hr.out]; rfl, by first | exact bdrew (bdrew (bdrew (Below.refl _ _) _) _) _ | exact bdrew (Below.refl _ _) _⟩
      · have hr : Hid (false = aheadB zs ys) := by
          show _ = _
          rw [hE.out, ← hc.out, List.drop_eq_nil_of_le (by rw [HL.out]; omega), List.drop_eq_nil_of_le (by omega)]
          rfl
        have hlt2 : ¬ (k : Int) < (ys.length : Int) := by omega
        clear hc hE
        go_wp2
        go_ret
        exact ⟨by rw [← hr.out]; rfl, by first | exact bdrew (bdrew (bdrew (Below.refl _ _) _) _) _ | exact bdrew (Below.refl _ _) _⟩
  · have hE : Hid (decide ((zs.length : Int) < (ys.length : Int)) = aheadB zs ys) := by
      show _ = _
      unfold aheadB
      rw [if_neg hl]
      simp
    have hl2 : ((zs.length : Int) != (ys.length : Int)) = true := by simp; omega
    clear hl
    go_enter Tryd.func54, Tryd.ntmps54
    go_wp2
    go_ret
    exact ⟨by rw [← hE.out]; simp, Below.refl _ _⟩

end Go.Proofs.YtjmodcpeggafhaaDoor.UsefulRWord

namespace Go.Proofs.YtjmodcpeggafhaaDoor.UsefulRWord
open Go.RowKit Go.Proofs.YtjmodcpeggafhaaDoor.GramMath Go.Proofs.YtjmodcpeggafhaaDoor.GramRow Go.Proofs.YtjmodcpeggafhaaDoor.SetsMath Go.Proofs.YtjmodcpeggafhaaDoor.UsefulMath Go.Proofs.YtjmodcpeggafhaaDoor.UsefulFn Go.Proofs.YtjmodcpeggafhaaDoor.UsefulTop Go.Proofs.YtjmodcpeggafhaaDoor.UsefulShort Go.Proofs.YtjmodcpeggafhaaDoor.UsefulRShort Go.Proofs.YtjmodcpeggafhaaDoor.UsefulWord Go.Proofs.YtjmodcpeggafhaaDoor.OpRow Go.Proofs.YtjmodcpeggafhaaDoor.GramApart
set_option linter.unusedVariables false

/-- What the document's Word answers. -/
def RWordV (w0 w' : World) (g : G) (k : Int) (e : Ending) : Prop :=
  ((wordZ g k).1 ≠ 0 ∧ e = .returned (.tuple #[.slice none 0 0, .int .i64 ((wordZ g k).1 : Int)])) ∨ ((wordZ g k).1 = 0 ∧ ∃ a c row, e = .returned (.tuple #[.slice (some a) row.length c, .int .i64 0]) ∧ IRow w' (some a) row ∧ row.length ≤ 65536 ∧ IsWord g.rs k row)

theorem slice_neq (a : Addr) (n c : Nat) (w : World) : (binOp .neq 42 (.slice (some a) n c) (.slice none 0 0)).run Tryd.prog w = .ok (.bool true) w := by kernel_rfl
theorem slice_neq0 (w : World) : (binOp .neq 42 (.slice none 0 0) (.slice none 0 0)).run Tryd.prog w = .ok (.bool false) w := by kernel_rfl
theorem slice_eql (a : Addr) (n c : Nat) (w : World) : (binOp .eql 42 (.slice (some a) n c) (.slice none 0 0)).run Tryd.prog w = .ok (.bool false) w := by kernel_rfl
theorem slice_eql0 (w : World) : (binOp .eql 42 (.slice none 0 0) (.slice none 0 0)).run Tryd.prog w = .ok (.bool true) w := by kernel_rfl

theorem own_some {w : World} {base : Nat} {e : TypeId} {v : Value} {zs : List Int} (h : w.ownsRow base e 1 v zs.length (intsL zs)) (hn : v ≠ .slice none 0 0) : ∃ y c, v = .slice (some y) zs.length c := by
  obtain ⟨a, c, rfl, _, h2, _⟩ := own_irow h
  cases a with
  | none =>
    obtain ⟨h3, rfl⟩ := h2 rfl
    exact absurd (by rw [h3]) hn
  | some y => exact ⟨y, c, rfl⟩

theorem rowW_tok {t n : Nat} {rs : List R} (ho : OkRs t n rs) (ht : t ≤ 60) {f : Nat → Option (List Int)} (hf : RefW rs n f) {r : R} (hr : r ∈ rs) {v : List Int} (hv : rowW f r.right = some v) : Tok v := by
  obtain ⟨q, hq, hd⟩ := foldW_D hf (fun x hx => (ho.sym hr hx).1) hv
  obtain rfl : v = q := by simpa using hq
  exact Dij.toks ho (by omega) (k := r.left) (ho.left hr).1 (D.one hr hd)

set_option maxRecDepth 100000 in
set_option maxHeartbeats 4000000 in
theorem rword_any (ta na ra : Option Addr) (tc nc rc : Nat) (g : G) (k : Int) (w : World) (hG : GRow w ta na ra g) (hg : okG g) (hk64 : I64 k) :
    Calls Tryd.prog 22 #[.agg #[.slice ta g.ts.length tc, .slice na g.ns.length nc, .int .i64 g.ax, .slice ra g.rs.length rc], .int .i64 k] w fun e w' => RWordV w w' g k e ∧ Below w.heap.size w w' := by
  obtain ⟨i0, hi, hz0, hz1, hz2⟩ := info_parts GramLent.infoI
  have s1 := slice_neq
  have s2 := slice_neq0
  have s3 := slice_eql
  have s4 := slice_eql0
  have hB1 : Below w.heap.size w (w.alloc (.cells #[.slice ta g.ts.length tc, .slice na g.ns.length nc, .int .i64 g.ax, .slice ra g.rs.length rc] 25)) := (Below.refl _ _).alloc (Nat.le_refl _) _
  have hbx := rowNew w #[.slice ta g.ts.length tc, .slice na g.ns.length nc, .int .i64 g.ax, .slice ra g.rs.length rc] 25
  have hck := rshortest_any ta na ra tc nc rc g _ (hG.below hB1 (Nat.le_refl _)) hg
  go_enter Tryd.func22, Tryd.ntmps22
  go_wp2_with fail
  generalize w.alloc (.cells #[.slice ta g.ts.length tc, .slice na g.ns.length nc, .int .i64 g.ax, .slice ra g.rs.length rc] 25) = W1 at *
  refine hck.mono ?_
  rintro e w2 ⟨hor, hb1⟩
  have hB2 := hB1.trans (hb1.mono hB1.size)
  have hbx2 := hbx.below hb1 hbx.lt
  have hRw := hG.2.2.below hB2 (Nat.le_refl _)
  clear hck hB1 hbx
  rcases hor with ⟨h0, rfl⟩ | ⟨h0, d, ls, rfl, hd, hrow, hS⟩
  · have HZ : Hid (wordZ g k = checkG g) := if_pos h0
    have H0 : Hid ((checkG g).1 ≠ 0) := h0
    have h1 : ((((checkG g).1 : Nat) : Int) == 0) = false := by simpa using h0
    clear h0
    go_wp2
    go_ret2
    exact ⟨.inl ⟨by rw [HZ.out]; exact H0.out, by rw [HZ.out]; rfl⟩, hB2⟩
  have hgood := good_of h0
  have ho := hgood.okRs
  have n60 := ho.1
  have h120 := hgood.rules
  have t60 : g.ts.length ≤ 60 := by have := hgood.few; omega
  have HC : Hid ((checkG g).1 = 0) := h0
  clear h0
  by_cases hr0 : 0 ≤ k ∧ k < g.ns.length
  rotate_left
  · have HZ : Hid (wordZ g k = (1, none)) := by
      show _ = _
      unfold wordZ
      rw [if_neg (by rw [HC.out]; simp), if_pos hr0]
    by_cases hk0 : k < 0
    · clear hr0
      go_wp2
      go_ret2
      exact ⟨.inl ⟨by rw [HZ.out]; decide, by rw [HZ.out]; rfl⟩, hB2⟩
    · have hk1 : (g.ns.length : Int) ≤ k := by omega
      clear hr0
      go_wp2
      go_ret2
      exact ⟨.inl ⟨by rw [HZ.out]; decide, by rw [HZ.out]; rfl⟩, hB2⟩
  obtain ⟨m, hm⟩ : ∃ m : Nat, k = (m : Int) := ⟨k.toNat, by omega⟩
  subst hm
  have hmn : m < g.ns.length := by omega
  have hmn2 : (m : Int) < (g.ns.length : Int) := by omega
  have HR0 : Hid (0 ≤ (m : Int) ∧ (m : Int) < g.ns.length) := hr0
  clear hr0
  obtain ⟨y, hy⟩ : ∃ y, ls[m]? = some y := ⟨ls[m]'(by rw [hS.1.1]; exact hmn), List.getElem?_eq_getElem _⟩
  have hcy := hrow.cell (intsA_get hy)
  have hyd := getD_of hy
  have hlk := hS.1.2 m hmn
  rw [hyd] at hlk
  by_cases hy0 : y < 0
  · have hnp : ¬ Prod g.rs m := fun hp => by have := (hlk.2 hp).1; omega
    have HZ : Hid (wordZ g m = (15, none)) := by
      show _ = _
      unfold wordZ
      rw [if_neg (by rw [HC.out]; simp), if_neg (fun h => h HR0.out), if_pos hnp]
    clear hlk hyd hy hS
    go_wp2
    go_ret2
    exact ⟨.inl ⟨by rw [HZ.out]; decide, by rw [HZ.out]; rfl⟩, hB2⟩
  have hp : Prod g.rs m := Classical.byContradiction fun h => by have := hlk.1 h; omega
  have hsl := short_long ho hS hmn hp
  rw [hyd] at hsl
  obtain ⟨_, hy2, hy3⟩ := hlk.2 hp
  by_cases hyl : 65536 < y
  · have HZ : Hid (wordZ g m = (12, none)) := by
      show _ = _
      unfold wordZ
      rw [if_neg (by rw [HC.out]; simp), if_neg (fun h => h HR0.out), if_neg (fun h => h hp), if_pos (hsl.2 (by omega))]
    clear hlk hyd hy hS hsl hy3
    go_wp2
    go_ret2
    exact ⟨.inl ⟨by rw [HZ.out]; decide, by rw [HZ.out]; rfl⟩, hB2⟩
  have HZ : Hid (wordZ g m = (0, none)) := by
    show _ = _
    unfold wordZ
    rw [if_neg (by rw [HC.out]; simp), if_neg (fun h => h HR0.out), if_neg (fun h => h hp), if_neg (fun h => by have := hsl.1 h; omega)]
  obtain ⟨u0, hu0, hul0⟩ : ∃ u0, D g.rs [-1 - (m : Int)] u0 ∧ u0.length ≤ 65536 := by
    rcases hy3 with h | ⟨u, hu, hul⟩
    · omega
    · exact ⟨u, hu, by omega⟩
  have HU : Hid (D g.rs [-1 - (m : Int)] u0 ∧ u0.length ≤ 65536) := ⟨hu0, hul0⟩
  have hmk := fun W => madeRR_any g.ns.length n60 W
  have hrs0 := rowsO_new w2 g.ns.length
  have hBm : Below w2.heap.size w2 (w2.alloc (.cells (madeCells #[.slice none 0 0] g.ns.length) 42)) := (Below.refl _ _).alloc (Nat.le_refl _) _
  have hlt0 := hbx2.lt
  have hd2 : decide (g.ns.length ≤ m) = false := by simp; omega
  clear hlk hyd hy hS hsl hy3 hu0 hul0
  go_wp2
  go_loopw [9] (fun mo wr => ∃ (b : Bool) (f : Nat → Option (List Int)), mo = .bool b ∧ RowsO wr w2.heap.size g.ns.length f ∧ Hid (RefW g.rs g.ns.length f ∧ (b = false → WDone g.rs f g.rs.length)) ∧ Below w2.heap.size w2 wr) (fun mo wr => moreW mo wr w2.heap.size g.ns.length)
  case atStart => exact ⟨true, _, rfl, hrs0, ⟨fun j hj v hv => (by cases hv), fun h => (by cases h)⟩, hBm⟩
  case round =>
    clear hrs0 hBm hmk
    obtain ⟨b, f0, rfl, hrs, hok, hB⟩ := hrel
    cases b with
    | false =>
      obtain ⟨v, hv, hW, hvl⟩ := done_word ho t60 hok.out.1 (hok.out.2 rfl) hmn HU.out.1 HU.out.2
      rcases (hrs.cell hmn).2 with ⟨h1, _⟩ | ⟨row, a, c, h1, h2, h3⟩
      · rw [hv] at h1; cases h1
      obtain rfl : v = row := by rw [hv] at h1; exact Option.some.inj h1
      have HW : Hid (IsWord g.rs m v ∧ v.length ≤ 65536) := ⟨hW, hvl⟩
      clear hok hv h1 hW hvl
      go_wp2
      go_ret2
      exact ⟨.inr ⟨by rw [HZ.out], a, c, v, rfl, h3, HW.out.2, HW.out.1⟩, hB2.trans (hB.mono hB2.size)⟩
    | true =>
      have hm0 : Hid (mWW wr w2.heap.size g.ns.length = mW f0 g.ns.length) := mWW_rows hrs
      have hIn0 : Hid (InW g.rs g.ns.length f0 f0 false 0) := InW.start hok.out.1
      clear hok
      go_wp2
      go_loopw [9, 10] (fun mo i wx => ∃ (b : Bool) (k2 : Nat) (f : Nat → Option (List Int)), mo = .bool b ∧ k2 ≤ g.rs.length ∧ i = .int .i64 k2 ∧ RowsO wx w2.heap.size g.ns.length f ∧ Hid (InW g.rs g.ns.length f0 f b k2) ∧ Below w2.heap.size w2 wx) (fun _ i _ => g.rs.length - (intOf i).toNat)
      case atStart => exact ⟨false, 0, f0, rfl, by omega, rfl, hrs, hIn0, hB⟩
      case round =>
        clear hrs hIn0 hB
        obtain ⟨b, k2, f, rfl, hk2, rfl, hrs, hIn, hB⟩ := hrel
        have d3 := (hbx2.below hB hlt0).cell (q := 3) rfl
        have hRk := hRw.below hB (Nat.le_refl _)
        by_cases hkl : k2 < g.rs.length
        · obtain ⟨r, hr⟩ : ∃ r, g.rs[k2]? = some r := ⟨g.rs[k2], List.getElem?_eq_getElem hkl⟩
          obtain ⟨b4, off, qa, qc, hra, e0, e1, hI⟩ := hRk k2 r hr
          subst hra
          have hkl2 : (k2 : Int) < (g.rs.length : Int) := by omega
          have hrm := List.mem_of_getElem? hr
          have hokr := hg.2.2.2.2.1 r hrm
          have hleft := ho.left hrm
          have hrl := hokr.2.2
          have h32 := (ruleK_ok (ho.2 r hrm)).1
          obtain ⟨l, hl⟩ : ∃ l : Nat, r.left = (l : Int) := ⟨r.left.toNat, by omega⟩
          have hln : l < g.ns.length := by omega
          have hln2 : (l : Int) < (g.ns.length : Int) := by omega
          have hlt' : r.left.toNat = l := by omega
          rw [hl] at e0
          have hBn : Below wr.heap.size wr (wr.alloc (.cells #[.int .i64 (l : Int), .slice qa r.right.length qc] 56)) := (Below.refl _ _).alloc (Nat.le_refl _) _
          have hrs4 := hrs.below hBn (Nat.le_refl _)
          have hI4 := hI.below hBn (Nat.le_refl _)
          have hB4 := hB.trans (hBn.mono hB.size)
          have hbr := rowNew wr #[.int .i64 (l : Int), .slice qa r.right.length qc] 56
          have hB5 : Below (wr.alloc (.cells #[.int .i64 (l : Int), .slice qa r.right.length qc] 56)).heap.size (wr.alloc (.cells #[.int .i64 (l : Int), .slice qa r.right.length qc] 56)) ((wr.alloc (.cells #[.int .i64 (l : Int), .slice qa r.right.length qc] 56)).alloc (.cells #[] 3)) := (Below.refl _ _).alloc (Nat.le_refl _) _
          have hsz4 : (wr.alloc (.cells #[.int .i64 (l : Int), .slice qa r.right.length qc] 56)).heap.size = wr.heap.size + 1 := by simp
          have hown0 : ((wr.alloc (.cells #[.int .i64 (l : Int), .slice qa r.right.length qc] 56)).alloc (.cells #[] 3)).ownsRow (wr.alloc (.cells #[.int .i64 (l : Int), .slice qa r.right.length qc] 56)).heap.size 3 1 (.slice (some ⟨(wr.alloc (.cells #[.int .i64 (l : Int), .slice qa r.right.length qc] 56)).heap.size, 0, none⟩) 0 0) 0 (intsL []) := World.ownsRow_lit (wr.alloc (.cells #[.int .i64 (l : Int), .slice qa r.right.length qc] 56)) #[] 0 (Nat.le_refl _) (by unfold maxLen; omega) rfl
          have HR : Hid (g.rs[k2]? = some r) := hr
          have HL : Hid (r.left = (l : Int) ∧ r.left.toNat = l) := ⟨hl, hlt'⟩
          have hsym : ∀ x ∈ r.right, -1 - x < g.ns.length := fun x hx => (ho.sym hrm hx).1
          clear hr hl hlt' hI hRk hrs hB hleft hBn
          go_wp2
          generalize hW5 : (wr.alloc (.cells #[.int .i64 (l : Int), .slice qa r.right.length qc] 56)).alloc (.cells #[] 3) = W5 at *
          generalize hW4 : wr.alloc (.cells #[.int .i64 (l : Int), .slice qa r.right.length qc] 56) = W4 at *
          clear hW5 hW4
          generalize hbxe : wr.heap.size = bx at *
          rw [hsz4] at hown0
          go_loopw [12, 13] (fun v i wx => ∃ q : Nat, q ≤ r.right.length ∧ i = .int .i64 q ∧ ((∃ row y c, Hid (rowW f (r.right.take q) = some row) ∧ v = .slice (some y) row.length c ∧ wx.ownsRow (bx + 1) 3 1 (.slice (some y) row.length c) row.length (intsL row)) ∨ (Hid (rowW f (r.right.take q) = none) ∧ v = .slice none 0 0)) ∧ Below W4.heap.size W4 wx) (fun _ i _ => r.right.length - (intOf i).toNat)
          case atStart => exact ⟨0, by omega, rfl, .inl ⟨[], _, 0, rfl, rfl, hown0⟩, hB5⟩
          case round =>
            clear hown0 hB5
            obtain ⟨q, hq, rfl, hor, hBx⟩ := hrel
            have hrs5 := hrs4.below hBx (Nat.le_refl _)
            have hB5 := hB4.trans (hBx.mono hB4.size)
            have q0 := (hbr.below hBx hbr.lt).cell (q := 0) rfl
            have q1 := (hbr.below hBx hbr.lt).cell (q := 1) rfl
            have hI5 := hI4.below hBx (Nat.le_refl _)
            have hsw : bx + 1 ≤ wr.heap.size := by have := hBx.size; omega
            by_cases hql : q < r.right.length
            · have hql2 : (q : Int) < (r.right.length : Int) := by omega
              rcases hor with ⟨row, y, c, hrw, rfl, hown⟩ | ⟨hrw, rfl⟩
              · obtain ⟨x, hx⟩ : ∃ x, r.right[q]? = some x := ⟨r.right[q], List.getElem?_eq_getElem hql⟩
                obtain ⟨b5, off5, rfl, hc5⟩ := hI5 q x hx
                have hxm := List.mem_of_getElem? hx
                obtain ⟨x1, x2⟩ := hokr.2.1 x hxm
                have hsy := hsym x hxm
                have hstp : Hid (rowW f (r.right.take (q + 1)) = stepW f (some row) x) := by
                  show _ = _
                  rw [foldW_take f hx, hrw.out]
                have hrowl : row.length ≤ 65568 := by
                  have := rowW_len hrw.out
                  rw [List.length_take] at this
                  omega
                clear hx hxm
                by_cases h0 : x < 0
                · obtain ⟨v, hv⟩ : ∃ v : Nat, -1 - x = (v : Int) := ⟨(-1 - x).toNat, by omega⟩
                  have hvn : v < g.ns.length := by omega
                  have hvn2 : (v : Int) < (g.ns.length : Int) := by omega
                  have hvt : (-1 - x).toNat = v := by omega
                  have hx0 : ¬ 0 ≤ x := by omega
                  rcases (hrs5.cell hvn).2 with ⟨h1, h2⟩ | ⟨qr, a2, c2, h1, h2, h3⟩
                  · have hst : Hid (rowW f (r.right.take (q + 1)) = none) := by
                      show _ = _
                      rw [hstp.out]
                      simp [stepW, h0, hvt, h1]
                    clear hstp hvt h1 hrw
                    go_wp2
                    go_roundw
                    case rel => exact ⟨q + 1, by omega, by go_num, .inr ⟨hst, rfl⟩, hBx⟩
                    case measure => simp [intOf]; omega
                  · have hqrl : qr.length ≤ 65568 := (hIn.out.ok v hvn qr h1).2
                    by_cases hlg : 65536 < row.length + qr.length
                    · have hst : Hid (rowW f (r.right.take (q + 1)) = none) := by
                        show _ = _
                        rw [hstp.out]
                        simp [stepW, h0, hvt, h1, hlg]
                      have hlg2 : (65536 : Int) < (row.length : Int) + (qr.length : Int) := by omega
                      clear hstp hvt h1 hrw
                      go_wp2
                      go_roundw
                      case rel => exact ⟨q + 1, by omega, by go_num, .inr ⟨hst, rfl⟩, hBx⟩
                      case measure => simp [intOf]; omega
                    · have hst : Hid (rowW f (r.right.take (q + 1)) = some (row ++ qr)) := by
                        show _ = _
                        rw [hstp.out]
                        simp [stepW, h0, hvt, h1, hlg]
                      have hlg2 : ¬ (65536 : Int) < (row.length : Int) + (qr.length : Int) := by omega
                      have hsrc := irow_src h3
                      clear hstp hvt h1 hrw h3
                      go_wp2_with (at_builtin; refine wpList_append_own _ rfl _ _ 42 rfl (bx + 1) 3 i0 (.int .i64 0) 1 8 Tryd.underlying42 hi hz0 hz1 hz2 rfl (by decide) _ _ _ rfl hown a2 qr.length c2 (intsL qr) rfl (by rw [intsL_len]; omega) hsrc (intsL_one _) (by unfold maxLen; omega) (by omega) hsw ?_; intro v1 w1 hown1 hgrow1 hnil1)
                      have hBy : Below W4.heap.size W4 w1 := hBx.grown hgrow1 hBx.size (fun k hk => by rw [hsz4]; exact (hown.lt k hk).1)
                      have hown2 : w1.ownsRow (bx + 1) 3 1 v1 (row ++ qr).length (intsL (row ++ qr)) := by rw [List.length_append, intsL_app]; exact hown1
                      obtain ⟨y1, c1, hv1⟩ := own_some hown2 (fun e => by have := (hnil1.1 e).1; cases this)
                      rw [hv1] at hown2
                      go_roundw
                      case rel => first | exact ⟨q + 1, by omega, by go_num, ⟨row ++ qr, hst, y1, c1, hv1, hown2⟩, hBy⟩ | exact ⟨q + 1, by omega, by go_num, .inl ⟨row ++ qr, y1, c1, hst, hv1, hown2⟩, hBy⟩
                      case measure => simp [intOf]; omega
                · have hx0 : 0 ≤ x := by omega
                  have hst : Hid (rowW f (r.right.take (q + 1)) = some (row ++ [x])) := by
                    show _ = _
                    rw [hstp.out]
                    simp [stepW, h0]
                  clear hstp hrw
                  go_wp2_with (at_builtin; refine wpList_append_own _ rfl _ _ 42 rfl (bx + 1) 3 i0 (.int .i64 0) 1 8 Tryd.underlying42 hi hz0 hz1 hz2 rfl (by decide) _ _ _ rfl (hown.alloc _) ⟨wr.heap.size, 0, none⟩ 1 1 [.int .i64 x] rfl rfl (cell_one_new _ _ _) (by simp [Value.oneCell']) (by unfold maxLen; omega) (by omega) (by simp; omega) ?_; intro v1 w1 hown1 hgrow1 hnil1)
                  have hBy : Below W4.heap.size W4 w1 := (hBx.alloc hBx.size _).grown hgrow1 (by have := hBx.size; simp; omega) (fun k hk => by rw [hsz4]; exact (hown.lt k hk).1)
                  have hown2 : w1.ownsRow (bx + 1) 3 1 v1 (row ++ [x]).length (intsL (row ++ [x])) := by rw [List.length_append, intsL_app]; exact hown1
                  obtain ⟨y1, c1, hv1⟩ := own_some hown2 (fun e => by have := (hnil1.1 e).1; cases this)
                  rw [hv1] at hown2
                  go_roundw
                  case rel => first | exact ⟨q + 1, by omega, by go_num, ⟨row ++ [x], hst, y1, c1, hv1, hown2⟩, hBy⟩ | exact ⟨q + 1, by omega, by go_num, .inl ⟨row ++ [x], y1, c1, hst, hv1, hown2⟩, hBy⟩
                  case measure => simp [intOf]; omega
              · have hIn2 : Hid (InW g.rs g.ns.length f0 f b (k2 + 1)) := hIn.out.skip HR.out (fun v hv => by rw [foldW_end f hrw.out] at hv; cases hv)
                clear hIn
                go_wp2
                go_roundw
                case rel => exact ⟨b, k2 + 1, f, rfl, by omega, by go_num, hrs5, hIn2, hB5⟩
                case measure => simp [intOf]; omega
            · have hql2 : ¬ (q : Int) < (r.right.length : Int) := by omega
              obtain rfl : q = r.right.length := by omega
              rcases hor with ⟨row, y, c, hrw, rfl, hown⟩ | ⟨hrw, rfl⟩
              · have hrw2 : rowW f r.right = some row := by have := hrw.out; rw [List.take_length] at this; exact this
                have hrowl := rowW_len hrw2
                have hTr := rowW_tok ho t60 hIn.out.ok hrm hrw2
                obtain ⟨a9, c9, he9, hIr, _, _⟩ := own_irow hown
                obtain ⟨rfl, rfl⟩ : some y = a9 ∧ c = c9 := by simpa using he9
                have h32a : ∀ r ∈ g.rs, r.right.length ≤ 32 := fun r hr => (ruleK_ok (ho.2 r hr)).1
                obtain ⟨hfz, hcl⟩ := hrs5.cell hln
                rcases hcl with ⟨h1, h2⟩ | ⟨ur, a2, c2, h1, h2, h3⟩
                · have hIn2 : Hid (InW g.rs g.ns.length f0 (updO f l row) true (k2 + 1)) := by
                    have h := hIn.out.lower ho t60 h32a HR.out hrw2 (fun u hu => by rw [HL.out.2, h1] at hu; cases hu)
                    rw [HL.out.2] at h
                    exact h
                  have hrs6 := hrs5.set hln (c := c) hIr
                  have hB6 := hB5.setCell (p := ⟨w2.heap.size, l, none⟩) (Nat.le_refl _) (.slice (some y) row.length c)
                  clear hIn h1 hrw2 hrw hown
                  go_wp2
                  go_roundw
                  case rel => exact ⟨true, k2 + 1, _, rfl, by omega, by go_num, hrs6, hIn2, hB6⟩
                  case measure => simp [intOf]; omega
                · obtain ⟨hud, hul⟩ := hIn.out.ok l hln ur h1
                  have hTu : Tok ur := Dij.toks ho (by omega) (k := (l : Int)) (by omega) hud
                  have hrk := aheadB_rk hTr hTu
                  have hah := rahead_any (some y) (some a2) c c2 row ur _ hIr h3 (by omega) (by omega)
                  cases hab : aheadB row ur with
                  | true =>
                    rw [hab] at hah
                    have hIn2 : Hid (InW g.rs g.ns.length f0 (updO f l row) true (k2 + 1)) := by
                      have h := hIn.out.lower ho t60 h32a HR.out hrw2 (fun u hu => by rw [HL.out.2, h1] at hu; cases hu; exact hrk.1 hab)
                      rw [HL.out.2] at h
                      exact h
                    clear hIn hrw2 hrw hown hab hrk
                    go_wp2_with fail
                    refine hah.mono ?_
                    rintro e w7 ⟨rfl, hb7⟩
                    have hrs7 := hrs5.below hb7 (Nat.le_refl _)
                    have hIr7 := hIr.below hb7 (Nat.le_refl _)
                    have hB7 := hB5.trans (hb7.mono hB5.size)
                    have hfz7 := (hrs7.cell hln).1
                    have h27 := (hb7.cell (p := ⟨w2.heap.size, l, none⟩) hrs5.lt).trans h2
                    have q07 := (hb7.cell (p := ⟨bx, 0, none⟩) (by show bx < _; omega)).trans q0
                    have hrs6 := hrs7.set hln (c := c) hIr7
                    have hB6 := hB7.setCell (p := ⟨w2.heap.size, l, none⟩) (Nat.le_refl _) (.slice (some y) row.length c)
                    go_wp2
                    go_roundw
                    case rel => exact ⟨true, k2 + 1, _, rfl, by omega, by go_num, hrs6, hIn2, hB6⟩
                    case measure => simp [intOf]; omega
                  | false =>
                    rw [hab] at hah
                    have hIn2 : Hid (InW g.rs g.ns.length f0 f b (k2 + 1)) := hIn.out.skip HR.out (fun v hv => by
                      rw [hrw2] at hv
                      cases hv
                      refine ⟨ur, by rw [HL.out.2]; exact h1, Nat.le_of_not_lt (fun h => ?_)⟩
                      rw [hrk.2 h] at hab
                      cases hab)
                    clear hIn hrw2 hrw hown hab hrk
                    go_wp2_with fail
                    refine hah.mono ?_
                    rintro e w7 ⟨rfl, hb7⟩
                    have hrs7 := hrs5.below hb7 (Nat.le_refl _)
                    have hB7 := hB5.trans (hb7.mono hB5.size)
                    go_wp2
                    go_roundw
                    case rel => exact ⟨b, k2 + 1, f, rfl, by omega, by go_num, hrs7, hIn2, hB7⟩
                    case measure => simp [intOf]; omega
              · have hIn2 : Hid (InW g.rs g.ns.length f0 f b (k2 + 1)) := hIn.out.skip HR.out (fun v hv => by rw [foldW_end f hrw.out] at hv; cases hv)
                clear hIn
                go_wp2
                go_roundw
                case rel => exact ⟨b, k2 + 1, f, rfl, by omega, by go_num, hrs5, hIn2, hB5⟩
                case measure => simp [intOf]; omega
        · obtain rfl : k2 = g.rs.length := by omega
          have hkl2 : ¬ (g.rs.length : Int) < (g.rs.length : Int) := by omega
          have hm1 : Hid (mWW wr w2.heap.size g.ns.length = mW f g.ns.length) := mWW_rows hrs
          clear hRk
          go_wp2
          go_roundw
          case rel => exact ⟨b, f, rfl, hrs, ⟨hIn.out.ok, fun h => (hIn.out.no h).2⟩, hB⟩
          case measure =>
            cases b with
            | false => exact Nat.succ_pos _
            | true =>
              have := hIn.out.yes rfl
              show mWW _ _ _ + 1 < mWW _ _ _ + 1
              rw [hm0.out, hm1.out]
              omega

end Go.Proofs.YtjmodcpeggafhaaDoor.UsefulRWord
