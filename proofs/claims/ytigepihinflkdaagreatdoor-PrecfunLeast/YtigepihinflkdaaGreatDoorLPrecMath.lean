/-
  Texts that stand together: PrecMath.
-/
import Derived.Test.YtigepihinflkdaaGreatDoorLGraphLevM
namespace Go.Proofs.YtigepihinflkdaaGreatDoor.PrecFn
open Go.RowKit Go.Proofs.YtigepihinflkdaaGreatDoor.GraphMath Go.Proofs.YtigepihinflkdaaGreatDoor.GraphNet
set_option linter.unusedVariables false

/-- Of each node the least one that is known to be in its class, with two classes joined. -/
def joinF (f : Nat → Nat) (a b : Nat) : Nat → Nat := fun k => if f k = max (f a) (f b) then min (f a) (f b) else f k
def stepF (q : Int → Int → Bool) (t : Nat) (f : Nat → Nat) (a b : Nat) : Nat → Nat := if q (a : Int) (b : Int) = true then joinF f a (t + b) else f
def rowF (q : Int → Int → Bool) (t : Nat) (f : Nat → Nat) (a : Nat) (n : Nat) : Nat → Nat := (List.range n).foldl (fun f b => stepF q t f a b) f
def allF (q : Int → Int → Bool) (t : Nat) (n : Nat) : Nat → Nat := (List.range n).foldl (fun f a => rowF q t f a t) id
def leastF (q : Int → Int → Bool) (t : Nat) : Nat → Nat := allF q t t
theorem rowF_succ (q : Int → Int → Bool) (t : Nat) (f : Nat → Nat) (a n : Nat) : rowF q t f a (n + 1) = stepF q t (rowF q t f a n) a n := by
  unfold rowF; rw [List.range_succ, List.foldl_append]; rfl
theorem allF_succ (q : Int → Int → Bool) (t n : Nat) : allF q t (n + 1) = rowF q t (allF q t n) n t := by
  unfold allF; rw [List.range_succ, List.foldl_append]; rfl

/-- Numbers as classes: the least one is told of each node. -/
def numL (f : Nat → Nat) : Nat → List Nat × Nat
  | 0 => ([], 0)
  | k + 1 => if f k < k then ((numL f k).1 ++ [(numL f k).1.getD (f k) 0], (numL f k).2) else ((numL f k).1 ++ [(numL f k).2], (numL f k).2 + 1)
theorem numL_len (f : Nat → Nat) : ∀ k, (numL f k).1.length = k
  | 0 => rfl
  | k + 1 => by
    unfold numL
    split
    · simp [numL_len f k]
    · simp [numL_len f k]
theorem numL_pre (f : Nat → Nat) (k : Nat) : ∃ x, (numL f (k + 1)).1 = (numL f k).1 ++ [x] := by
  conv => enter [1, x, 1]; unfold numL
  split
  · exact ⟨_, rfl⟩
  · exact ⟨_, rfl⟩
theorem numL_at (f : Nat → Nat) {i : Nat} : ∀ k, i < k → (numL f k).1[i]? = (numL f (i + 1)).1[i]?
  | 0, h => by omega
  | k + 1, h => by
    by_cases e : i = k
    · subst e; rfl
    · obtain ⟨x, hx⟩ := numL_pre f k
      rw [hx, List.getElem?_append_left (by rw [numL_len]; omega)]
      exact numL_at f k (by omega)
theorem numL_cnt (f : Nat → Nat) : ∀ k, (numL f k).2 ≤ k ∧ ∀ x ∈ (numL f k).1, x < (numL f k).2
  | 0 => ⟨Nat.le_refl _, by simp [numL]⟩
  | k + 1 => by
    obtain ⟨h1, h2⟩ := numL_cnt f k
    unfold numL
    split
    · next hlt =>
      refine ⟨by dsimp only; omega, fun x hx => ?_⟩
      rcases List.mem_append.1 hx with h | h
      · exact h2 x h
      · rw [List.mem_singleton.1 h]
        have hl : f k < (numL f k).1.length := by rw [numL_len]; exact hlt
        rw [List.getD_eq_getElem?_getD, List.getElem?_eq_getElem hl]
        exact h2 _ (List.getElem_mem hl)
    · refine ⟨by dsimp only; omega, fun x hx => ?_⟩
      rcases List.mem_append.1 hx with h | h
      · have := h2 x h; dsimp only; omega
      · rw [List.mem_singleton.1 h]; dsimp only; omega

def classL (q : Int → Int → Bool) (t : Nat) : List Nat := (numL (leastF q t) (2 * t)).1
def cntC (q : Int → Int → Bool) (t : Nat) : Nat := (numL (leastF q t) (2 * t)).2
theorem classL_len (q : Int → Int → Bool) (t : Nat) : (classL q t).length = 2 * t := numL_len _ _
theorem classL_lt (q : Int → Int → Bool) (t : Nat) : ∀ x ∈ classL q t, x < cntC q t := (numL_cnt _ _).2
theorem cntC_le (q : Int → Int → Bool) (t : Nat) : cntC q t ≤ 2 * t := (numL_cnt _ _).1

/-- The nodes of a class, of the first so many nodes. -/
def nodesK (cl : List Nat) (k j : Nat) : List Nat := (List.range k).filter (fun x => cl.getD x 0 == j)
theorem mem_nodesK {cl : List Nat} {k j x : Nat} : x ∈ nodesK cl k j ↔ x < k ∧ cl.getD x 0 = j := by simp [nodesK]
theorem nodesK_succ (cl : List Nat) (k j : Nat) : nodesK cl (k + 1) j = nodesK cl k j ++ (if cl.getD k 0 = j then [k] else []) := by
  unfold nodesK
  rw [List.range_succ, List.filter_append]
  by_cases h : cl.getD k 0 = j
  · rw [if_pos h]; simp only [List.filter_cons, List.filter_nil]; rw [if_pos (by simpa using h)]
  · rw [if_neg h]; simp only [List.filter_cons, List.filter_nil]; rw [if_neg (by simpa using h)]
/-- Classes whose numbers come up in their order: how many there are among the first k nodes. -/
def cntK (f : Nat → Nat) (k : Nat) : Nat := (numL f k).2
def partK (f : Nat → Nat) (n k : Nat) : List (List Nat) := (List.range (cntK f k)).map (nodesK (numL f n).1 k)
theorem partK_len (f : Nat → Nat) (n k : Nat) : (partK f n k).length = cntK f k := by simp [partK]

def aboveB (y k : Int → Int → Bool) (t : Nat) (x z : Nat) : Bool := k (x : Int) ((z : Int) - (t : Int)) || y (z : Int) ((x : Int) - (t : Int))
def edgeB (y k : Int → Int → Bool) (t : Nat) (cl : List Nat) (i j : Nat) : Bool := (nodesK cl (2 * t) i).any (fun x => (nodesK cl (2 * t) j).any (fun z => aboveB y k t x z))
def edgeR (B : Nat → Nat → Bool) (i n : Nat) : List (Int × Int) := ((List.range n).filter (B i)).map (fun (j : Nat) => ((i : Int), (j : Int)))
def edgeA (B : Nat → Nat → Bool) (c i : Nat) : List (Int × Int) := (List.range i).flatMap (fun i => edgeR B i c)
def edgeL (y q k : Int → Int → Bool) (t : Nat) : List (Int × Int) := edgeA (edgeB y k t (classL q t)) (cntC q t) (cntC q t)
theorem edgeR_zero (B : Nat → Nat → Bool) (i : Nat) : edgeR B i 0 = [] := rfl
theorem edgeR_succ (B : Nat → Nat → Bool) (i n : Nat) : edgeR B i (n + 1) = edgeR B i n ++ (if B i n = true then [((i : Int), (n : Int))] else []) := by
  unfold edgeR
  rw [List.range_succ, List.filter_append, List.map_append]
  by_cases h : B i n = true
  · rw [if_pos h]; simp [h]
  · rw [if_neg h]; simp [h]
theorem edgeA_succ (B : Nat → Nat → Bool) (c i : Nat) : edgeA B c (i + 1) = edgeA B c i ++ edgeR B i c := by
  unfold edgeA
  rw [List.range_succ, List.flatMap_append]
  simp
theorem mem_edgeR {B : Nat → Nat → Bool} {i n : Nat} {e : Int × Int} : e ∈ edgeR B i n ↔ ∃ j : Nat, j < n ∧ B i j = true ∧ e = ((i : Int), (j : Int)) := by
  unfold edgeR
  simp only [List.mem_map, List.mem_filter, List.mem_range]
  constructor
  · rintro ⟨j, ⟨h1, h2⟩, rfl⟩; exact ⟨j, h1, h2, rfl⟩
  · rintro ⟨j, h1, h2, rfl⟩; exact ⟨j, ⟨h1, h2⟩, rfl⟩
theorem mem_edgeA {B : Nat → Nat → Bool} {c n : Nat} {e : Int × Int} : e ∈ edgeA B c n ↔ ∃ i j : Nat, i < n ∧ j < c ∧ B i j = true ∧ e = ((i : Int), (j : Int)) := by
  unfold edgeA
  simp only [List.mem_flatMap, List.mem_range, mem_edgeR]
  constructor
  · rintro ⟨i, hi, j, h1, h2, h3⟩; exact ⟨i, j, hi, h1, h2, h3⟩
  · rintro ⟨i, j, hi, h1, h2, h3⟩; exact ⟨i, hi, j, h1, h2, h3⟩
theorem edgeR_len (B : Nat → Nat → Bool) (i n : Nat) : (edgeR B i n).length ≤ n := by
  unfold edgeR
  rw [List.length_map]
  have := List.length_filter_le (B i) (List.range n)
  simpa using this
theorem edgeA_len (B : Nat → Nat → Bool) (c : Nat) : ∀ n, (edgeA B c n).length ≤ n * c
  | 0 => by simp [edgeA]
  | n + 1 => by
    rw [edgeA_succ, List.length_append, Nat.add_mul, Nat.one_mul]
    have := edgeA_len B c n
    have := edgeR_len B n c
    omega

/-- Do two numbers say the relations? -/
def saysB (y q k : Int → Int → Bool) (f g : Int) (a b : Int) : Bool := (decide (f < g) || !y a b) && (decide (f = g) || !q a b) && (decide (g < f) || !k a b)
def fitRow (y q k : Int → Int → Bool) (t : Nat) (F G : List Int) (a n : Nat) : Bool := (List.range n).all (fun b => saysB y q k (F.getD a 0) (G.getD b 0) (a : Int) (b : Int))
def fitAll (y q k : Int → Int → Bool) (t : Nat) (F G : List Int) (n : Nat) : Bool := (List.range n).all (fun a => fitRow y q k t F G a t)
def fitsB (y q k : Int → Int → Bool) (t : Nat) (F G : List Int) : Bool := decide (F.length = t) && decide (G.length = t) && fitAll y q k t F G t

theorem stepF_lt {q : Int → Int → Bool} {t : Nat} {f : Nat → Nat} {N : Nat} (h : ∀ k, k < N → f k < N) {a b : Nat} (ha : a < N) (hb : t + b < N) : ∀ k, k < N → stepF q t f a b k < N := fun k hk => by
  unfold stepF
  split
  · unfold joinF
    have h1 := h a ha
    have h2 := h (t + b) hb
    split
    · omega
    · exact h k hk
  · exact h k hk

end Go.Proofs.YtigepihinflkdaaGreatDoor.PrecFn
