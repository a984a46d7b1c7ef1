/-
  Edges that are handed in: what they read as.
-/
import Derived.Test.YtgllcbajgndldaaDoorGramOpens
import Derived.Test.YtgllcbajgndldaaDoorGraphLent
import Derived.ChangeSame
namespace Go.Proofs.YtgllcbajgndldaaDoor.GraphOpen
open Go.Deep Go.Joins Go.ChangeShapes Go.WideShapes Go.ChangeAt Go.RowKit Go.Proofs.YtgllcbajgndldaaDoor.GramMath Go.Proofs.YtgllcbajgndldaaDoor.GramRow Go.Proofs.YtgllcbajgndldaaDoor.GramOpen Go.Proofs.YtgllcbajgndldaaDoor.GraphNet
set_option linter.unusedVariables false

theorem bytesE : Tryd.prog.bytesOf 45 = 16 := by kernel_rfl
theorem cellsE : Tryd.prog.cellsOf 45 = 2 := by kernel_rfl
theorem cells3 : Tryd.prog.cellsOf 3 = 1 := by kernel_rfl

section
variable {H : Type} {enc : TypeId × Value → H} {W : World} {sp : Nat → Bool} {hd : Bool}

theorem trod_two {P : Program} {t e : TypeId} {n : Nat} {c0 c1 : Value} {y : DataW H × List MemPlace} (ht : P.underlying t = some (.array 2 e)) (hc : P.cellsOf e = 1) (h : DataW.trod enc P W 0 sp hd n t [c0, c1] = some y) :
    ∃ y0 y1 k, DataW.trod enc P W 0 sp hd k e [c0] = some y0 ∧ DataW.trod enc P W 0 sp hd k e [c1] = some y1 := by
  cases n with
  | zero => simp [DataW.trod] at h
  | succ n =>
    unfold DataW.trod at h
    rw [ht] at h
    have r2 : List.range 2 = [0, 1] := rfl
    simp [r2, hc] at h
    obtain ⟨_, h⟩ := h
    cases h0 : DataW.trod enc P W 0 sp hd n e [c0] with
    | none => simp [h0] at h
    | some y0 =>
      cases h1 : DataW.trod enc P W 0 sp hd n e [c1] with
      | none => simp [h0, h1] at h
      | some y1 => exact ⟨y0, y1, n, h0, h1⟩

theorem open_edge {n : Nat} {c0 c1 : Value} {y : DataW H × List MemPlace} (h : DataW.trod enc Tryd.prog W 0 sp hd n 45 [c0, c1] = some y) :
    ∃ a b : Int, c0 = .int .i64 a ∧ c1 = .int .i64 b ∧ I64 a ∧ I64 b := by
  obtain ⟨y0, y1, k, h0, h1⟩ := trod_two Tryd.underlying45 cells3 h
  obtain ⟨a, ha, _, ha2⟩ := DataW.trod_int Tryd.underlying3 h0
  obtain ⟨b, hb, _, hb2⟩ := DataW.trod_int Tryd.underlying3 h1
  exact ⟨a, b, by simpa using ha, by simpa using hb, wf64 ha2, wf64 hb2⟩

theorem open_es {n : Nat} {v : Value} {y : DataW H × List MemPlace} (h : DataW.trod enc Tryd.prog W 0 sp hd n 22 [v] = some y) (hw : ∀ k ∈ y.1.weights Tryd.prog 22, k ≤ reachBytes) :
    ∃ a c es, v = .slice a es.length c ∧ es.length ≤ c ∧ es.length * 16 ≤ 140737488351232 ∧ (∀ e ∈ es, I64 e.1 ∧ I64 e.2) ∧ ERow W a es ∧ (a = none → es.length = 0 ∧ c = 0) := by
  rcases open_slice Tryd.underlying22 h with ⟨hcs, _⟩ | ⟨x, l, c, m, n', D, Pl, hcs, _, hl, hm, hmm, rfl, hall⟩
  · obtain rfl : v = .slice none 0 0 := by simpa using hcs
    exact ⟨none, 0, [], rfl, by simp, by simp, fun s hs => (by cases hs), fun i x hx => (by simp at hx), fun _ => ⟨rfl, rfl⟩⟩
  · obtain rfl : v = .slice (some x) l c := by simpa using hcs
    have hz2 : l ≤ m := by rw [hmm]; split <;> omega
    have hw1 : (((List.range l).map D).length + ((List.range (m - l)).map fun j => D (l + j)).length) * Tryd.prog.bytesOf 45 ≤ reachBytes := hw _ (by simp [DataW.weights, Tryd.underlying22])
    simp only [List.length_map, List.length_range, bytesE] at hw1
    unfold reachBytes at hw1
    rw [cellsE] at hall
    have hex : ∀ i, i < l → ∃ q : Int × Int, W.cells? 0 (x.add (i * 2)) 2 = some [.int .i64 q.1, .int .i64 q.2] ∧ I64 q.1 ∧ I64 q.2 := fun i hi => by
      obtain ⟨cs', h1, h2⟩ := hall i (by omega)
      obtain ⟨_, hlen, _⟩ := World.cells?_some h1
      obtain ⟨c0, c1, rfl⟩ := list2 (by simpa using hlen)
      obtain ⟨a, b, rfl, rfl, ha, hb⟩ := open_edge h2
      exact ⟨(a, b), h1, ha, hb⟩
    classical
    let F : Nat → Int × Int := fun i => if hi : i < l then (hex i hi).choose else (0, 0)
    have hF : ∀ i, i < l → W.cells? 0 (x.add (i * 2)) 2 = some [.int .i64 (F i).1, .int .i64 (F i).2] ∧ I64 (F i).1 ∧ I64 (F i).2 := fun i hi => by
      have := (hex i hi).choose_spec
      simp only [F, dif_pos hi]
      exact this
    refine ⟨some x, c, (List.range l).map F, by simp, by simpa using hl, by simp; omega, fun r hr => ?_, fun i u hu => ?_, fun h => by cases h⟩
    · obtain ⟨i, hi, rfl⟩ := List.mem_map.1 hr
      exact (hF i (List.mem_range.1 hi)).2
    · rw [List.getElem?_map] at hu
      have hi : i < l := by
        rcases Nat.lt_or_ge i l with h | h
        · exact h
        · rw [List.getElem?_eq_none (by simpa using h)] at hu; cases hu
      rw [List.getElem?_range hi] at hu
      obtain rfl : F i = u := by simpa using hu
      obtain ⟨h1, _⟩ := hF i hi
      obtain ⟨_, _, h4⟩ := World.cells?_some h1
      have c0 := h4 0 (by omega)
      have c1 := h4 1 (by omega)
      obtain ⟨b, off, spot⟩ := x
      have hspot : spot = none := by
        obtain ⟨h6, _, _⟩ := hF 0 (by omega)
        obtain ⟨_, _, h7⟩ := World.cells?_some h6
        have h8 := h7 0 (by omega)
        rw [Go.Deep.add_add] at h8
        simpa [Addr.add] using World.cell?_spot h8
      subst hspot
      rw [Go.Deep.add_add, Addr.add_lit] at c0 c1
      exact ⟨b, off, rfl, c0, c1⟩

end

end Go.Proofs.YtgllcbajgndldaaDoor.GraphOpen
