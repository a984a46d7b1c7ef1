/-
  Texts that stand together: EndsConcats.
-/
import Derived.Test.YtcoepmpgclndiaaGreatDoorBagGramLessMath
import Derived.Lib.AppendZeros
import Derived.Lib.SliceRun
import Derived.Test.YtcoepmpgclndiaaGreatDoorBEndsOfs
import Derived.Test.YtcoepmpgclndiaaGreatDoorBagGramEq
namespace Go.Proofs.YtcoepmpgclndiaaGreatDoor.EndsConcat
open Go.RowKit Go.Proofs.YtcoepmpgclndiaaGreatDoor.GramMath Go.Proofs.YtcoepmpgclndiaaGreatDoor.GramRow Go.Proofs.YtcoepmpgclndiaaGreatDoor.GramLent
set_option linter.unusedVariables false

abbrev intsL (zs : List Int) : List Value := zs.map (Value.int .i64)

/-- What is known of the new list in each round. -/
def CRel (l : List Int) (k : Int) (w w1 : World) (c1 : Nat) (v i : Value) (wr : World) : Prop :=
  (v = .slice (some ⟨w.heap.size, 0, none⟩) 0 c1 ∧ i = .int .i64 0 ∧ wr = w1) ∨ (i = .int .i64 1 ∧ wr.ownsRow w.heap.size 3 1 v l.length (intsL l) ∧ Below w.heap.size w wr) ∨ (i = .int .i64 2 ∧ wr.ownsRow w.heap.size 3 1 v (l.length + 1) (intsL (l ++ [k])) ∧ Below w.heap.size w wr)

end Go.Proofs.YtcoepmpgclndiaaGreatDoor.EndsConcat

namespace Go.Proofs.YtcoepmpgclndiaaGreatDoor.EndsWays
open Go.RowKit Go.Proofs.YtcoepmpgclndiaaGreatDoor.GramMath Go.Proofs.YtcoepmpgclndiaaGreatDoor.GramRow Go.Proofs.YtcoepmpgclndiaaGreatDoor.EndsMath Go.Proofs.YtcoepmpgclndiaaGreatDoor.EndsConcat Go.Proofs.YtcoepmpgclndiaaGreatDoor.GramApart Go.Proofs.YtcoepmpgclndiaaGreatDoor.GramLent
set_option linter.unusedVariables false

/-- Rules of a way are no more than the nonterminals that were met. -/
def Lens (n : Nat) (ys : List Wy) (S : Nat → Bool) : Prop := ∀ y ∈ ys, y.rules.length + 1 ≤ cnt n S

theorem one_lens {b : Bool} {l : List Int} {m k n : Nat} {r : R} {s : St} {S0 : Nat → Bool} (h : ∀ t, ldO b r = some t → t < n) (h0 : cnt n S0 ≤ cnt n s.S) (hl : l.length + 1 ≤ cnt n S0) (hs : Lens n s.nx s.S) : Lens n (one b l m k r s).nx (one b l m k r s).S ∧ cnt n S0 ≤ cnt n (one b l m k r s).S := by
  unfold one
  split
  · split
    · rename_i tt hto
      split
      · exact ⟨hs, h0⟩
      · rename_i hS
        have hS2 : s.S tt = false := by simpa using hS
        have hc := cnt_upd (h _ hto) hS2
        refine ⟨fun y hy => ?_, by dsimp only; omega⟩
        dsimp only at hy ⊢
        rcases List.mem_append.1 hy with hy | hy
        · have := hs y hy; omega
        · obtain rfl : y = _ := by simpa using hy
          simp
          omega
    · exact ⟨hs, h0⟩
  · exact ⟨hs, h0⟩
theorem goR_lens {b : Bool} {l : List Int} {m n : Nat} {S0 : Nat → Bool} (hl : l.length + 1 ≤ cnt n S0) : ∀ {rs : List R} {k : Nat} {s : St}, (∀ r ∈ rs, ∀ t, ldO b r = some t → t < n) → cnt n S0 ≤ cnt n s.S → Lens n s.nx s.S → Lens n (goR b l m k rs s).nx (goR b l m k rs s).S ∧ cnt n S0 ≤ cnt n (goR b l m k rs s).S
  | [], _, _, _, h0, hs => ⟨hs, h0⟩
  | r :: rs, k, s, h, h0, hs => by
    obtain ⟨h1, h2⟩ := one_lens (b := b) (l := l) (m := m) (k := k) (n := n) (r := r) (s := s) (h r (by simp)) h0 hl hs
    exact goR_lens hl (rs := rs) (fun r hr => h r (List.mem_cons_of_mem _ hr)) h2 h1
theorem goW_lens {b : Bool} {rs : List R} {n : Nat} {S0 : Nat → Bool} (h : ∀ r ∈ rs, ∀ t, ldO b r = some t → t < n) : ∀ {ys : List Wy} {s : St}, Lens n ys S0 → cnt n S0 ≤ cnt n s.S → Lens n s.nx s.S → Lens n (goW b rs ys s).nx (goW b rs ys s).S
  | [], _, _, _, hs => hs
  | y :: ys, s, hy, h0, hs => by
    obtain ⟨h1, h2⟩ := goR_lens (b := b) (m := y.to) (hy y (by simp)) (k := 0) h h0 hs
    exact goW_lens h (ys := ys) (fun z hz => hy z (List.mem_cons_of_mem _ hz)) h2 h1

theorem hitR_len {b : Bool} {t : Nat} {l : List Int} {m : Nat} {c : List Int} : ∀ {rs : List R} {k : Nat}, hitR b t l m k rs = some c → c.length = l.length + 1
  | [], _, h => by cases h
  | r :: rs, k, h => by
    unfold hitR at h
    split at h
    · cases h; simp
    · exact hitR_len h
theorem hitW_len {b : Bool} {t : Nat} {rs : List R} {c : List Int} {n : Nat} {S : Nat → Bool} : ∀ {ys : List Wy}, Lens n ys S → hitW b t rs ys = some c → c.length ≤ cnt n S
  | [], _, h => by cases h
  | y :: ys, hl, h => by
    unfold hitW at h
    cases hy : hitR b t y.rules y.to 0 rs with
    | none => rw [hy] at h; exact hitW_len (fun z hz => hl z (List.mem_cons_of_mem _ hz)) h
    | some d =>
      rw [hy] at h
      cases h
      have := hitR_len hy
      have := hl y (by simp)
      omega

theorem Search.len {b : Bool} {t : Nat} {rs : List R} {n : Nat} (h : ∀ r ∈ rs, ∀ t, ldO b r = some t → t < n) {ring : List Wy} {S : Nat → Bool} {o : Option (List Int)} (k : Search b t rs ring S o) : Lens n ring S → ∀ c, o = some c → c.length ≤ n := by
  induction k with
  | none S => intro _ c hc; cases hc
  | hit hh =>
    intro hl c hc
    cases hc
    exact Nat.le_trans (hitW_len hl hh) (cnt_le _ _)
  | step hne hh _ ih =>
    intro hl c hc
    exact ih (goW_lens h hl (Nat.le_refl _) (fun y hy => by cases hy)) c hc

theorem start_lens {n m : Nat} (hm : m < n) : Lens n (startW m) (startS m) := fun y hy => by
  obtain rfl : y = ⟨[], m⟩ := by simpa [startW] using hy
  unfold startS
  rw [cnt_upd hm rfl]
  simp

theorem FoundE.len {b : Bool} {g : G} (hg : GoodG g) {n t : Nat} (hn : n < g.ns.length) {c : List Int} (h : FoundE b g.rs n t (some c)) : c.length ≤ g.ns.length :=
  Search.len (fun r hr t ht => ld_lt hg hr ht) h (start_lens hn) c rfl

/-- A way as it lies in memory. -/
structure WQ where
  y : Wy
  a : Option Addr
  c : Nat

def cellsW : List WQ → List Value
  | [] => []
  | q :: l => .slice q.a q.y.rules.length q.c :: .int .i64 (q.y.to : Int) :: cellsW l

/-- The rules of a way lie there. -/
def WOk (w : World) (q : WQ) : Prop :=
  (q.a = none ∧ q.y.rules = [] ∧ q.c = 0) ∨ ∃ g, q.a = some ⟨g, 0, none⟩ ∧ w.ownsRow 0 3 1 (.slice (some ⟨g, 0, none⟩) q.y.rules.length q.c) q.y.rules.length (intsL q.y.rules)

/-- A number of 64 bits that says which were met. -/
structure Met (M : Nat) (S : Nat → Bool) : Prop where
  lt : M < 1152921504606846976
  bit : ∀ j, M.testBit j = S j

theorem Met.add {M m : Nat} {S : Nat → Bool} (h : Met M S) (hm : m < 60) : Met (M ||| 2 ^ m) (updB S m) := by
  refine ⟨?_, fun j => ?_⟩
  · have h2 : 2 ^ 60 = 1152921504606846976 := by decide
    have := h.lt
    rw [← h2] at this ⊢
    exact Nat.or_lt_two_pow this (Nat.pow_lt_pow_right (by omega) hm)
  · rw [Nat.testBit_or, h.bit, Nat.testBit_two_pow]
    unfold updB
    by_cases e : j = m
    · simp [e]
    · simp [e, Ne.symm e]

/-- The measure of the rings, told by values. -/
def lenV : Value → Nat
  | .slice _ n _ => n
  | _ => 0
def mRing (n : Nat) (m r : Value) : Nat := 2 * (n - cnt n (fun i => (intOf m).toNat.testBit i)) + (if lenV r = 0 then 0 else 1)

end Go.Proofs.YtcoepmpgclndiaaGreatDoor.EndsWays
