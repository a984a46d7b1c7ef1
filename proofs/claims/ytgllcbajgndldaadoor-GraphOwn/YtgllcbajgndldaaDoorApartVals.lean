/-
  ApartInts of lists that are told by their values.
-/
import Derived.Test.YtgllcbajgndldaaDoorApartRoom
namespace Go.Proofs.YtgllcbajgndldaaDoor.ApartRoom
open Go.RowKit Go.Proofs.YtgllcbajgndldaaDoor.GramMath Go.Proofs.YtgllcbajgndldaaDoor.GramRow Go.Proofs.YtgllcbajgndldaaDoor.GramApart
set_option linter.unusedVariables false
set_option linter.unusedSimpArgs false

def adV : Value → Option Addr
  | .slice a _ _ => a
  | _ => none
def lnV : Value → Nat
  | .slice _ n _ => n
  | _ => 0
def cpV : Value → Nat
  | .slice _ _ c => c
  | _ => 0
def gV (v : Value) : Nat := match adV v with
  | some a => a.block
  | none => 0

/-- A list that is new memory: none, or a row of its own, of so many numbers at most. -/
def ListV (w : World) (B : Nat) (v : Value) : Prop := v = .slice none 0 0 ∨ ∃ g n c xs, v = .slice (some ⟨g, 0, none⟩) n c ∧ n ≤ 600 ∧ w.ownsRow B 3 1 (.slice (some ⟨g, 0, none⟩) n c) n xs
def AptV (v u : Value) : Prop := ∀ b, v.ownBlock = some b → u.ownBlock ≠ some b

theorem apart_vals (B A cA : Nat) (VL : List Value) (curA : Array Value) (w : World) (hm : VL.length ≤ 1000) (hm0 : 0 < VL.length) (hA : RowAt w A 24 curA) (hAc : ∀ (j : Nat) v, VL[j]? = some v → curA[j]? = some v)
    (hV : ∀ v ∈ VL, ListV w B v) (hd : VL.Pairwise AptV) (hAg : ∀ v ∈ VL, v.ownBlock ≠ some A) (hBw : B ≤ w.heap.size) :
    Calls Tryd.prog 16 #[.slice (some ⟨A, 0, none⟩) VL.length cA] w fun e w' => e = .returned (.bool true) ∧ Below B w w' ∧ But (fun b => ∃ v ∈ VL, v.ownBlock = some b) w w' := by
  have hget : ∀ j, j < VL.length → ∃ v, VL[j]? = some v ∧ VL.getD j (.slice none 0 0) = v ∧ v ∈ VL := fun j hj => ⟨VL[j], List.getElem?_eq_getElem hj, by simp [List.getD, List.getElem?_eq_getElem hj], List.getElem_mem hj⟩
  have hblk : ∀ v, ListV w B v → adV v ≠ none → v.ownBlock = some (gV v) ∧ adV v = some ⟨gV v, 0, none⟩ := fun v hv hn => by
    rcases hv with rfl | ⟨g, n, c, xs, rfl, _⟩
    · exact absurd rfl hn
    · exact ⟨rfl, rfl⟩
  refine (apart_room_but B VL.length A cA (fun j => gV (VL.getD j (.slice none 0 0))) (fun j => lnV (VL.getD j (.slice none 0 0))) (fun j => cpV (VL.getD j (.slice none 0 0))) (fun j => adV (VL.getD j (.slice none 0 0))) curA w hm hm0 hA ?_ ?_ ?_ ?_ ?_ ?_ hBw).mono ?_
  · intro j hj
    obtain ⟨v, h1, h2, h3⟩ := hget j hj
    rw [hAc j v h1]
    simp only [h2]
    rcases hV v h3 with rfl | ⟨g, n, c, xs, rfl, _⟩ <;> rfl
  · intro j hj
    obtain ⟨v, h1, h2, h3⟩ := hget j hj
    simp only [h2]
    rcases hV v h3 with rfl | ⟨g, n, c, xs, rfl, _⟩
    · exact .inl ⟨rfl, rfl, rfl⟩
    · exact .inr rfl
  · intro j hj hn
    obtain ⟨v, h1, h2, h3⟩ := hget j hj
    simp only [h2] at hn ⊢
    rcases hV v h3 with rfl | ⟨g, n, c, xs, rfl, _, ho⟩
    · exact absurd rfl hn
    · exact ⟨xs, ho⟩
  · intro a ha b hb hne hna hnb
    obtain ⟨v, h1, h2, h3⟩ := hget a ha
    obtain ⟨u, g1, g2, g3⟩ := hget b hb
    simp only [h2, g2] at hna hnb ⊢
    have e1 := (hblk v (hV v h3) hna).1
    have e2 := (hblk u (hV u g3) hnb).1
    intro e
    obtain ⟨ha', ea⟩ := List.getElem?_eq_some_iff.1 h1
    obtain ⟨hb', eb⟩ := List.getElem?_eq_some_iff.1 g1
    rcases Nat.lt_or_gt_of_ne hne with h | h
    · have := List.pairwise_iff_getElem.1 hd a b ha' hb' h
      rw [ea, eb] at this
      exact this _ e1 (by rw [e2, e])
    · have := List.pairwise_iff_getElem.1 hd b a hb' ha' h
      rw [ea, eb] at this
      exact this _ e2 (by rw [e1, e])
  · intro j hj
    obtain ⟨v, h1, h2, h3⟩ := hget j hj
    simp only [h2]
    rcases hV v h3 with rfl | ⟨g, n, c, xs, rfl, h, _⟩
    · exact Nat.zero_le _
    · exact h
  · intro j hj hn
    obtain ⟨v, h1, h2, h3⟩ := hget j hj
    simp only [h2] at hn ⊢
    have e1 := (hblk v (hV v h3) hn).1
    intro e
    exact hAg v h3 (by rw [e1, ← e])
  · rintro e w' ⟨rfl, hk⟩
    refine ⟨rfl, hk.low, hk.but.mono fun b hb hs => ?_⟩
    obtain ⟨j, hj, hn, rfl⟩ := hs
    obtain ⟨v, h1, h2, h3⟩ := hget j hj
    simp only [h2] at hn ⊢
    exact ⟨v, h3, (hblk v (hV v h3) hn).1⟩

end Go.Proofs.YtgllcbajgndldaaDoor.ApartRoom
