/-
  What a line becomes ahead of its being handed on: its end of line left out, and a copy of it.
-/
import Derived.Test.YtneamnjekllfhaaWordsCutMath
import Derived.Test.YtneamnjekllfhaaShelf
namespace Go.Proofs.Ytneamnjekllfhaa.WordsCutM
open Go.RowKit Go.Proofs.Ytneamnjekllfhaa.WordsMath Go.Proofs.Ytneamnjekllfhaa.WordsOne Go.Proofs.Ytneamnjekllfhaa.WordsBytes

theorem size_mk (l : List UInt8) : (⟨l.toArray⟩ : ByteArray).size = l.length := by simp [ByteArray.size]

theorem copy_any (s : ByteArray) (w : World) (hs : s.size ≤ 281474976710656) : Calls Try.prog 8 #[.string s] w fun e w' => e = .returned (.string s) ∧ Below w.heap.size w w' := by
  go_enter Try.func8, Try.ntmps8
  go_wp2_with fail
  refine (Try.stringslite_Clone s w hs).mono ?_
  rintro e w1 ⟨rfl, hb⟩
  go_wp2
  go_ret
  exact ⟨rfl, hb⟩

theorem trim_line {l : List UInt8} {i : Nat} (h : Lib.indexByte l 10 = (i : Int)) (w : World) (hl : l.length ≤ 1048576) : Calls Try.prog 9 #[.string ⟨(l.take (i + 1)).toArray⟩, .string ⟨#[10]⟩] w fun e w' => e = .returned (.string ⟨(l.take i).toArray⟩) ∧ w' = w := by
  have h1 := Try.strings_TrimSuffix ⟨(l.take (i + 1)).toArray⟩ ⟨#[10]⟩ w (by rw [size_mk, List.length_take]; omega)
  have h2 : Lib.trimSuffix (⟨(l.take (i + 1)).toArray⟩ : ByteArray).data.toList (⟨#[10]⟩ : ByteArray).data.toList = l.take i := by
    show Lib.trimSuffix (l.take (i + 1)).toArray.toList [10] = _
    rw [List.toList_toArray, trim_at h]
  rw [h2] at h1
  exact h1

theorem trim_rest {l : List UInt8} (h : Lib.indexByte l 10 = -1) (w : World) (hl : l.length ≤ 1048576) : Calls Try.prog 9 #[.string ⟨l.toArray⟩, .string ⟨#[10]⟩] w fun e w' => e = .returned (.string ⟨l.toArray⟩) ∧ w' = w := by
  have h1 := Try.strings_TrimSuffix ⟨l.toArray⟩ ⟨#[10]⟩ w (by rw [size_mk]; omega)
  have h2 : Lib.trimSuffix (⟨l.toArray⟩ : ByteArray).data.toList (⟨#[10]⟩ : ByteArray).data.toList = l := by
    show Lib.trimSuffix l.toArray.toList [10] = _
    rw [List.toList_toArray, trim_none h]
  rw [h2] at h1
  exact h1

end Go.Proofs.Ytneamnjekllfhaa.WordsCutM
