/-
  Which part each node is in, as GraphHang gathers it. No part of the program.
-/
import Derived.Test.YtkagahaokimoiaaDoorGraphPartsM
namespace Go.Proofs.YtkagahaokimoiaaDoor.GraphNet
open Go.RowKit Go.Proofs.YtkagahaokimoiaaDoor.GramMath Go.Proofs.YtkagahaokimoiaaDoor.GraphMath Go.Proofs.YtkagahaokimoiaaDoor.GraphFn
set_option linter.unusedVariables false

/-- Lists of which each node is in just one, once. -/
structure Split (m : Nat) (ps : List (List Nat)) : Prop where
  lt : ∀ (i : Nat) p, ps[i]? = some p → ∀ x ∈ p, x < m
  nodup : ∀ (i : Nat) p, ps[i]? = some p → p.Nodup
  one : ∀ (i j : Nat) p q x, ps[i]? = some p → ps[j]? = some q → x ∈ p → x ∈ q → i = j
  all : ∀ x, x < m → ∃ (i : Nat) (p : List Nat), ps[i]? = some p ∧ x ∈ p

theorem split_form {m : Nat} {same : Nat → Nat → Bool} (e : Eqv m same) : Split m ((heads same m).map (cls same m)) := by
  have hh : ∀ (i : Nat) p, ((heads same m).map (cls same m))[i]? = some p → ∃ h, (heads same m)[i]? = some h ∧ p = cls same m h := fun i p hp => by
    rw [List.getElem?_map] at hp
    obtain ⟨h, h1, h2⟩ := Option.map_eq_some_iff.1 hp
    exact ⟨h, h1, h2.symm⟩
  refine ⟨fun i p hp x hx => ?_, fun i p hp => ?_, fun i j p q x hp hq h1 h2 => ?_, fun x hx => ?_⟩
  · obtain ⟨h, _, rfl⟩ := hh i p hp
    exact (mem_cls.1 hx).1
  · obtain ⟨h, _, rfl⟩ := hh i p hp
    exact (List.Pairwise.filter _ List.pairwise_lt_range : (cls same m h).Pairwise (· < ·)).imp (fun h => Nat.ne_of_lt h)
  · obtain ⟨a, ha, rfl⟩ := hh i p hp
    obtain ⟨b, hb, rfl⟩ := hh j q hq
    obtain ⟨hx, sa⟩ := mem_cls.1 h1
    obtain ⟨_, sb⟩ := mem_cls.1 h2
    obtain ⟨a1, a2⟩ := mem_heads.1 (List.mem_of_getElem? ha)
    obtain ⟨b1, b2⟩ := mem_heads.1 (List.mem_of_getElem? hb)
    have := head_uniq e a1 b1 hx a2 b2 sa sb
    subst this
    have hnd : (heads same m).Nodup := (List.Pairwise.filter _ List.pairwise_lt_range : (heads same m).Pairwise (· < ·)).imp (fun h => Nat.ne_of_lt h)
    obtain ⟨hi, ei⟩ := List.getElem?_eq_some_iff.1 ha
    obtain ⟨hj, ej⟩ := List.getElem?_eq_some_iff.1 hb
    exact (List.getElem_inj hnd).1 (ei.trans ej.symm)
  · obtain ⟨y, h1, h2, h3⟩ := head_of e (x + 1) x (by omega) hx
    obtain ⟨i, hi, ei⟩ := List.mem_iff_getElem.1 (mem_heads.2 ⟨show y < m by omega, h2⟩)
    exact ⟨i, cls same m y, by rw [List.getElem?_map, List.getElem?_eq_getElem hi, ei]; rfl, mem_cls.2 ⟨hx, h3⟩⟩

def Seen (i k idx y : Nat) (p : List Nat) : Prop := (idx < i ∧ y ∈ p) ∨ (idx = i ∧ y ∈ p.take k)
def PF (m : Nat) (ps : List (List Nat)) (i k : Nat) (f : Nat → Int) : Prop := ∀ y, y < m → (∀ idx p, ps[idx]? = some p → Seen i k idx y p → f y = (idx : Int) + 1) ∧ ((∀ idx p, ps[idx]? = some p → ¬ Seen i k idx y p) → f y = 0)

theorem PF.start (m : Nat) (ps : List (List Nat)) : PF m ps 0 0 (fun _ => 0) := fun y hy => ⟨fun idx p hp h => by
  rcases h with h | ⟨_, h⟩
  · omega
  · simp at h, fun _ => rfl⟩
theorem PF.put {m : Nat} {ps : List (List Nat)} (hs : Split m ps) {i k x : Nat} {p : List Nat} {f : Nat → Int} (h : PF m ps i k f) (hp : ps[i]? = some p) (hx : p[k]? = some x) : f x = 0 ∧ PF m ps i (k + 1) (updA f x ((i : Int) + 1)) := by
  have hxin := List.mem_of_getElem? hx
  have hxm := hs.lt i p hp x hxin
  have hno : x ∉ p.take k := fun hc => by
    obtain ⟨j, hj, e⟩ := List.mem_iff_getElem.1 hc
    rw [List.length_take] at hj
    rw [List.getElem_take] at e
    obtain ⟨hk, e2⟩ := List.getElem?_eq_some_iff.1 hx
    have := (List.getElem_inj (hs.nodup i p hp)).1 (e.trans e2.symm)
    omega
  have htake : p.take (k + 1) = p.take k ++ [x] := by rw [List.take_add_one, hx]; rfl
  refine ⟨(h x hxm).2 (fun idx q hq hc => ?_), fun y hy => ?_⟩
  · rcases hc with ⟨h1, h2⟩ | ⟨h1, h2⟩
    · have := hs.one idx i q p x hq hp h2 hxin; omega
    · subst h1
      rw [hp] at hq
      cases hq
      exact hno h2
  · by_cases e : y = x
    · subst e
      rw [updA_at]
      refine ⟨fun idx q hq hc => ?_, fun hc => ?_⟩
      · have hin : y ∈ q := hc.elim (fun h => h.2) (fun h => List.mem_of_mem_take h.2)
        rw [hs.one idx i q p y hq hp hin hxin]
      · exact absurd (.inr ⟨rfl, by rw [htake]; simp⟩) (hc i p hp)
    · rw [updA_ne _ _ e]
      obtain ⟨h1, h2⟩ := h y hy
      have hiff : ∀ idx q, ps[idx]? = some q → (Seen i (k + 1) idx y q ↔ Seen i k idx y q) := fun idx q hq => by
        unfold Seen
        by_cases ei : idx = i
        · subst ei
          rw [hp] at hq
          cases hq
          rw [htake, List.mem_append, List.mem_singleton]
          constructor
          · rintro (h | ⟨_, h | h⟩)
            · omega
            · exact .inr ⟨rfl, h⟩
            · exact absurd h e
          · rintro (h | ⟨_, h⟩)
            · omega
            · exact .inr ⟨rfl, .inl h⟩
        · simp [ei]
      exact ⟨fun idx q hq hc => h1 idx q hq ((hiff idx q hq).1 hc), fun hc => h2 (fun idx q hq hcc => hc idx q hq ((hiff idx q hq).2 hcc))⟩
theorem PF.next {m : Nat} {ps : List (List Nat)} {i k : Nat} {p : List Nat} {f : Nat → Int} (h : PF m ps i k f) (hp : ps[i]? = some p) (hk : p.length ≤ k) : PF m ps (i + 1) 0 f := fun y hy => by
  obtain ⟨h1, h2⟩ := h y hy
  have hiff : ∀ idx q, ps[idx]? = some q → (Seen (i + 1) 0 idx y q ↔ Seen i k idx y q) := fun idx q hq => by
    unfold Seen
    constructor
    · rintro (⟨a, b⟩ | ⟨_, b⟩)
      · by_cases e : idx = i
        · subst e
          rw [hp] at hq
          cases hq
          exact .inr ⟨rfl, by rw [List.take_of_length_le hk]; exact b⟩
        · exact .inl ⟨by omega, b⟩
      · simp at b
    · rintro (⟨a, b⟩ | ⟨a, b⟩)
      · exact .inl ⟨by omega, b⟩
      · exact .inl ⟨by omega, List.mem_of_mem_take b⟩
  exact ⟨fun idx q hq hc => h1 idx q hq ((hiff idx q hq).1 hc), fun hc => h2 (fun idx q hq hcc => hc idx q hq ((hiff idx q hq).2 hcc))⟩
theorem PF.done {m : Nat} {ps : List (List Nat)} (hs : Split m ps) {f : Nat → Int} (h : PF m ps ps.length 0 f) {y : Nat} (hy : y < m) : ∃ (idx : Nat) (p : List Nat), ps[idx]? = some p ∧ y ∈ p ∧ f y = (idx : Int) + 1 := by
  obtain ⟨idx, p, h1, h2⟩ := hs.all y hy
  exact ⟨idx, p, h1, h2, (h y hy).1 idx p h1 (.inl ⟨(List.getElem?_eq_some_iff.1 h1).1, h2⟩)⟩

theorem parts_same {m : Nat} {same : Nat → Nat → Bool} (e : Eqv m same) {f : Nat → Int} (h : PF m ((heads same m).map (cls same m)) ((heads same m).map (cls same m)).length 0 f) {a b : Nat} (ha : a < m) (hb : b < m) : f a = f b ↔ same a b = true := by
  have hs := split_form e
  obtain ⟨i, p, i1, i2, i3⟩ := h.done hs ha
  obtain ⟨j, q, j1, j2, j3⟩ := h.done hs hb
  have hh : ∀ (i : Nat) p, ((heads same m).map (cls same m))[i]? = some p → ∃ h, h < m ∧ p = cls same m h := fun i p hp => by
    rw [List.getElem?_map] at hp
    obtain ⟨h, h1, h2⟩ := Option.map_eq_some_iff.1 hp
    exact ⟨h, (mem_heads.1 (List.mem_of_getElem? h1)).1, h2.symm⟩
  rw [i3, j3]
  constructor
  · intro he
    obtain rfl : i = j := by omega
    rw [i1] at j1
    cases j1
    obtain ⟨x, hx, rfl⟩ := hh i p i1
    have s1 := (mem_cls.1 i2).2
    have s2 := (mem_cls.1 j2).2
    exact e.trans a x b ha hx hb (e.symm x a hx ha s1) s2
  · intro he
    obtain ⟨x, hx, rfl⟩ := hh i p i1
    have s1 := (mem_cls.1 i2).2
    have hbx : b ∈ cls same m x := mem_cls.2 ⟨hb, e.trans x a b hx ha hb s1 he⟩
    rw [hs.one i j _ q b i1 j1 hbx j2]

end Go.Proofs.YtkagahaokimoiaaDoor.GraphNet
