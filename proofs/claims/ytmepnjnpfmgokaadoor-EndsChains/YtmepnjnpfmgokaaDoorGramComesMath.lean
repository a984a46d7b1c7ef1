/-
  Which nonterminals come to which, step by step; sets put together number by number. No part of the program.
-/
import Derived.Test.YtmepnjnpfmgokaaDoorGramAboveMath
namespace Go.Proofs.YtmepnjnpfmgokaaDoor.GramMath

open Classical in
/-- Does one come to another? -/
noncomputable def comesB (g : G) (a b : Nat) : Bool := decide (Comes g a b)

theorem comesB_iff (g : G) (a b : Nat) : comesB g a b = true ↔ Comes g a b := by
  unfold comesB
  simp

/-- What is known of those that were seen, and of the list of them. -/
structure Bfs (g : G) (a : Nat) (S : Nat → Bool) (T : List Nat) : Prop where
  start : a ∈ T
  nd : T.Nodup
  mem : ∀ x, x < g.ns.length → (S x = true ↔ x ∈ T)
  lt : ∀ x ∈ T, x < g.ns.length
  comes : ∀ x ∈ T, Comes g a x

def updB (S : Nat → Bool) (t : Nat) : Nat → Bool := fun i => if i = t then true else S i
theorem updB_at (S : Nat → Bool) (t : Nat) : updB S t t = true := if_pos rfl
theorem updB_ne (S : Nat → Bool) {t i : Nat} (h : i ≠ t) : updB S t i = S i := if_neg h
theorem updB_up (S : Nat → Bool) (t i : Nat) (h : S i = true) : updB S t i = true := by
  unfold updB
  split
  · rfl
  · exact h

theorem bfs_start {g : G} {a : Nat} (ha : a < g.ns.length) : Bfs g a (updB (fun _ => false) a) [a] :=
  ⟨by simp, by simp, fun x hx => by
    unfold updB
    by_cases e : x = a
    · simp [e]
    · simp [e], fun x hx => by simp at hx; omega, fun x hx => by
    obtain rfl : x = a := by simpa using hx
    exact .refl _⟩

theorem Bfs.add {g : G} {a t : Nat} {S : Nat → Bool} {T : List Nat} (h : Bfs g a S T) (ht : t < g.ns.length) (hn : S t = false) {x : Nat} (hx : x ∈ T) (hr : Ren g x t) : Bfs g a (updB S t) (T ++ [t]) := by
  have hnt : t ∉ T := fun e => by
    rw [(h.mem t ht).2 e] at hn
    cases hn
  refine ⟨List.mem_append_left _ h.start, ?_, fun y hy => ?_, fun y hy => ?_, fun y hy => ?_⟩
  · rw [List.nodup_append]
    refine ⟨h.nd, by simp, fun y hy z hz => ?_⟩
    obtain rfl : z = t := by simpa using hz
    rintro rfl
    exact hnt hy
  · by_cases e : y = t
    · subst e
      simp [updB_at]
    · rw [updB_ne _ e, h.mem y hy]
      simp [e]
  · rcases List.mem_append.1 hy with hy | hy
    · exact h.lt y hy
    · obtain rfl : y = t := by simpa using hy
      exact ht
  · rcases List.mem_append.1 hy with hy | hy
    · exact h.comes y hy
    · obtain rfl : y = t := by simpa using hy
      exact (h.comes x hx).snoc hr

theorem nodup_small : ∀ {n : Nat} {T : List Nat}, T.Nodup → (∀ x ∈ T, x < n) → T.length ≤ n
  | 0, T, _, hl => by
    cases T with
    | nil => simp
    | cons x l => exact absurd (hl x (by simp)) (by omega)
  | n + 1, T, hd, hl => by
    have h1 : (T.filter (fun x => decide (x ≠ n))).length ≤ n := nodup_small (hd.filter _) (fun x hx => by
      have h2 := List.mem_filter.1 hx
      have h3 := hl x h2.1
      have h4 : x ≠ n := by simpa using h2.2
      omega)
    have h5 : T.length = T.countP (fun x => decide (x ≠ n)) + T.countP (fun x => !decide (x ≠ n)) := by
      rw [List.length_eq_countP_add_countP (p := fun x => decide (x ≠ n))]
      simp
    have h6 : T.countP (fun x => !decide (x ≠ n)) ≤ 1 := by
      have : T.countP (fun x => !decide (x ≠ n)) = T.count n := by
        unfold List.count
        congr 1
        funext x
        simp [Bool.beq_eq_decide_eq]
      rw [this]
      exact List.nodup_iff_count.1 hd n
    rw [List.countP_eq_length_filter] at h5
    omega

theorem Bfs.small {g : G} {a : Nat} {S : Nat → Bool} {T : List Nat} (h : Bfs g a S T) : T.length ≤ g.ns.length := nodup_small h.nd h.lt

/-- Whatever a renaming of the first k rules brings from one has been seen. -/
def Out (g : G) (S : Nat → Bool) (x k : Nat) : Prop := ∀ j r, j < k → g.rs[j]? = some r → renB r = true → r.left = (x : Int) → S (renN r).toNat = true

theorem Out.up {g : G} {S : Nat → Bool} {x k : Nat} (h : Out g S x k) (t : Nat) : Out g (updB S t) x k := fun j r hj hr hb hl => updB_up _ _ _ (h j r hj hr hb hl)

theorem Out.zero (g : G) (S : Nat → Bool) (x : Nat) : Out g S x 0 := fun j r hj => absurd hj (by omega)

theorem Out.next {g : G} {S : Nat → Bool} {x k : Nat} {r : R} (h : Out g S x k) (hr : g.rs[k]? = some r) (hd : renB r = true → r.left = (x : Int) → S (renN r).toNat = true) : Out g S x (k + 1) := fun j r' hj hj2 hb hl => by
  by_cases e : j = k
  · subst e
    rw [hr] at hj2
    obtain rfl := Option.some.inj hj2
    exact hd hb hl
  · exact h j r' (by omega) hj2 hb hl

/-- The first i of the list have been gone through. -/
def Through (g : G) (S : Nat → Bool) (T : List Nat) (i : Nat) : Prop := ∀ j x, j < i → T[j]? = some x → Out g S x g.rs.length

theorem Through.zero (g : G) (S : Nat → Bool) (T : List Nat) : Through g S T 0 := fun j x hj => absurd hj (by omega)

theorem Through.add {g : G} {S : Nat → Bool} {T : List Nat} {i : Nat} (h : Through g S T i) (hi : i ≤ T.length) (t : Nat) : Through g (updB S t) (T ++ [t]) i := fun j x hj hx => by
  rw [List.getElem?_append_left (by omega)] at hx
  exact (h j x hj hx).up t

theorem Through.next {g : G} {S : Nat → Bool} {T : List Nat} {i x : Nat} (h : Through g S T i) (hx : T[i]? = some x) (ho : Out g S x g.rs.length) : Through g S T (i + 1) := fun j y hj hy => by
  by_cases e : j = i
  · subst e
    rw [hx] at hy
    obtain rfl := Option.some.inj hy
    exact ho
  · exact h j y (by omega) hy

theorem Bfs.done {g : G} (hg : GoodG g) {a : Nat} {S : Nat → Bool} {T : List Nat} (h : Bfs g a S T) (ht : Through g S T T.length) {b : Nat} (hb : b < g.ns.length) : S b = comesB g a b := by
  have key : ∀ {x y : Nat}, Comes g x y → x ∈ T → y ∈ T := by
    intro x y hc
    induction hc with
    | refl _ => exact fun h => h
    | step h1 _ ih =>
      intro hx
      apply ih
      have hlt := ren_lt hg h1
      obtain ⟨r, hr, hrb, hl, hn⟩ := h1
      obtain ⟨i, hi, hie⟩ := List.getElem_of_mem hx
      obtain ⟨j, hj, hje⟩ := List.getElem_of_mem hr
      have h2 := ht i _ hi (by rw [List.getElem?_eq_getElem hi, hie]) j r hj (by rw [List.getElem?_eq_getElem hj, hje]) hrb hl
      rw [hn, Int.toNat_natCast] at h2
      exact (h.mem _ hlt.2).1 h2
  rw [Bool.eq_iff_iff, comesB_iff, h.mem b hb]
  exact ⟨h.comes b, fun hc => key hc h.start⟩

/-- A set put together number by number. -/
def putN (p : Nat → Bool) : Nat → Nat
  | 0 => 0
  | f + 1 => if p f = true then putN p f ||| 2 ^ f else putN p f

theorem putN_lt (p : Nat → Bool) : ∀ f, putN p f < 2 ^ f
  | 0 => by simp [putN]
  | f + 1 => by
    have h := putN_lt p f
    have h2 : 2 ^ f < 2 ^ (f + 1) := Nat.pow_lt_pow_right (by omega) (by omega)
    show (if p f = true then _ else _) < _
    split
    · exact Nat.or_lt_two_pow (by omega) h2
    · omega

theorem putN_bit (p : Nat → Bool) (k : Nat) : ∀ f, (putN p f).testBit k = (decide (k < f) && p k)
  | 0 => by simp [putN]
  | f + 1 => by
    show (if p f = true then putN p f ||| 2 ^ f else putN p f).testBit k = _
    by_cases h : p f = true
    · rw [if_pos h, Nat.testBit_or, putN_bit p k f, Nat.testBit_two_pow]
      by_cases e : k = f
      · subst e; simp [h]
      · have e2 : ¬ f = k := fun x => e x.symm
        have e3 : decide (k < f) = decide (k < f + 1) := decide_eq_decide.2 (by omega)
        rw [e3]
        simp [e2]
    · rw [if_neg h, putN_bit p k f]
      by_cases e : k = f
      · subst e; simp [h]
      · have e3 : decide (k < f) = decide (k < f + 1) := decide_eq_decide.2 (by omega)
        rw [e3]

theorem put_above {g : G} (hg : GoodG g) : IsAbove g (fun i => putN (fun k => comesB g k i) g.ns.length) := by
  intro i hi
  refine ⟨putN_lt _ _, fun k => ?_⟩
  show (putN (fun k => comesB g k i) g.ns.length).testBit k = true ↔ _
  rw [putN_bit, Bool.and_eq_true, comesB_iff, decide_eq_true_eq]
  exact ⟨fun h => h.2, fun h => ⟨comes_lt hg h hi, h⟩⟩

end Go.Proofs.YtmepnjnpfmgokaaDoor.GramMath
