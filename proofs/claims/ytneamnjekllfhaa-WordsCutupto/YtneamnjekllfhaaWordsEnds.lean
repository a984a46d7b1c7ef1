/-
  Where a word may end; which texts are plain, by the program and by the document's own answer.
-/
import Derived.Test.YtneamnjekllfhaaWordsOne
namespace Go.Proofs.Ytneamnjekllfhaa.WordsOne
open Go.RowKit Go.Proofs.Ytneamnjekllfhaa.WordsMath

theorem list_size (s : ByteArray) : s.data.toList.length = s.size := by cases s; simp [ByteArray.size]

theorem drop_cons (s : ByteArray) {i : Nat} (hi : i < s.size) : s.data.toList.drop i = s[i] :: s.data.toList.drop (i + 1) := by
  rw [List.drop_eq_getElem_cons (by rw [list_size]; exact hi)]
  congr 1

theorem drop_end (s : ByteArray) {i : Nat} (hi : s.size ≤ i) : s.data.toList.drop i = [] := by
  rw [List.drop_eq_nil_iff, list_size]; exact hi

theorem byte_lt (s : ByteArray) {i : Nat} (hi : i < s.size) : s[i].toNat < 256 := s[i].toNat_lt

theorem empty_list {s : ByteArray} (h : s.size = 0) : s.data.toList = [] := List.eq_nil_of_length_eq_zero (by rw [list_size]; exact h)

end Go.Proofs.Ytneamnjekllfhaa.WordsOne
