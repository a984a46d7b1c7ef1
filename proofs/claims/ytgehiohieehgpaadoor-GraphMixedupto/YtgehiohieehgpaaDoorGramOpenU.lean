/-
  Grammars as they came in, with what is asked of one that is lent, and how long its lists are at most.
-/
import Derived.Test.YtgehiohieehgpaaDoorGramOpens
import Derived.Test.YtgehiohieehgpaaDoorRows
namespace Go.Proofs.YtgehiohieehgpaaDoor.GramOpen
open Go.Deep Go.Joins Go.ChangeShapes Go.WideShapes Go.ChangeAt Go.RowKit Go.Proofs.YtgehiohieehgpaaDoor.GramMath Go.Proofs.YtgehiohieehgpaaDoor.GramRow
set_option linter.unusedVariables false

theorem bulk_pos {H : Type} (d : DataW H) : 1 ≤ Rows.uptoBulk d := by
  cases d with
  | lit x => cases x <;> simp [Rows.uptoBulk]
  | _ => simp [Rows.uptoBulk]

theorem bulk_len {H : Type} : ∀ l : List (DataW H), l.length ≤ Rows.uptoBulkAll l
  | [] => Nat.zero_le _
  | d :: r => by
    have h1 := bulk_len r
    have h2 := bulk_pos d
    show r.length + 1 ≤ Rows.uptoBulk d + Rows.uptoBulkAll r
    omega

theorem bulk_mem {H : Type} {d : DataW H} : ∀ {l : List (DataW H)}, d ∈ l → Rows.uptoBulk d ≤ Rows.uptoBulkAll l
  | [], h => by cases h
  | x :: r, h => by
    show _ ≤ Rows.uptoBulk x + Rows.uptoBulkAll r
    rcases List.mem_cons.1 h with rfl | h
    · omega
    · have := bulk_mem h
      omega

theorem bulk_slice {H : Type} (a b : List (DataW H)) : Rows.uptoBulk (.slice a b) = Rows.uptoBulkAll a + Rows.uptoBulkAll b + 1 := rfl

section
variable {H : Type} {enc : TypeId × Value → H} {W : World} {sp : Nat → Bool} {hd : Bool}

theorem open_is3 {n : Nat} {v : Value} {y : DataW H × List MemPlace} (h : DataW.trod enc Tryd.prog W 0 sp hd n 34 [v] = some y) (hw : ∀ k ∈ y.1.weights Tryd.prog 34, k ≤ reachBytes) :
    ∃ a c zs, v = .slice a zs.length c ∧ zs.length ≤ c ∧ zs.length * 8 ≤ 140737488351232 ∧ (∀ x ∈ zs, I64 x) ∧ IRow W a zs ∧ (a = none → zs.length = 0 ∧ c = 0) ∧ zs.length ≤ Rows.uptoBulk y.1 := by
  rcases open_ints Tryd.underlying34 Tryd.underlying3 (by kernel_rfl) h with ⟨hcs, _⟩ | ⟨x, l, c, ss, hcs, _, hl, hm, hz, rfl, hcell, hwz⟩
  · obtain rfl : v = .slice none 0 0 := by simpa using hcs
    exact ⟨none, 0, [], rfl, by simp, by simp, fun s hs => (by cases hs), fun i x hx => (by simp at hx), fun _ => ⟨rfl, rfl⟩, Nat.zero_le _⟩
  · obtain rfl : v = .slice (some x) l c := by simpa using hcs
    have hz2 : l ≤ ss.length := by rw [hz]; split <;> omega
    have e : (ss.take l).length = l := by rw [List.length_take]; omega
    have hbk : (ss.take l).length ≤ Rows.uptoBulk (.slice (lits (H := H) .i64 (ss.take l)) (lits (H := H) .i64 (ss.drop l))) := by
      have h1 := bulk_len (lits (H := H) .i64 (ss.take l))
      have h2 : (lits (H := H) .i64 (ss.take l)).length = (ss.take l).length := by simp [lits]
      rw [bulk_slice]
      omega
    have hw1 : ((lits (H := H) .i64 (ss.take l)).length + (lits (H := H) .i64 (ss.drop l)).length) * Tryd.prog.bytesOf 3 ≤ reachBytes := hw _ (by simp [DataW.weights, Tryd.underlying34])
    simp only [lits, List.length_map, bytesI, e] at hw1
    unfold reachBytes at hw1
    refine ⟨some x, c, ss.take l, by rw [e], by omega, by rw [e]; omega, fun s hs => ?_, fun i u hu => ?_, fun h => (by cases h), hbk⟩
    · have := hwz s (List.mem_of_mem_take hs)
      exact wf64 this
    · rw [List.getElem?_take] at hu
      by_cases hi : i < l
      · rw [if_pos hi] at hu
        have hc := hcell i (by omega)
        obtain ⟨b, off, spot⟩ := x
        have hspot : spot = none := by simpa [Addr.add] using World.cell?_spot (hcell 0 (by omega))
        subst hspot
        rw [Addr.add_lit, List.getD_eq_getElem?_getD, hu] at hc
        exact ⟨b, off, rfl, hc⟩
      · rw [if_neg hi] at hu; cases hu

end
end Go.Proofs.YtgehiohieehgpaaDoor.GramOpen
