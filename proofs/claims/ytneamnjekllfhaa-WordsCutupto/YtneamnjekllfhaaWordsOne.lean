/-
  Single bytes: which are blanks, which are plain, by the program and by the document's own answer.
-/
import Derived.Test.YtneamnjekllfhaaWordsMath
import Derived.Test.YtneamnjekllfhaaProg
import Derived.WalkKit
import Derived.WalkSpells
namespace Go.Proofs.Ytneamnjekllfhaa.WordsOne
open Go.RowKit Go.Proofs.Ytneamnjekllfhaa.WordsMath

theorem ret_bool {a b : Bool} (h : a = b) : Ending.returned (.bool a) = .returned (.bool b) := by rw [h]

theorem ret_str {a b : ByteArray} (h : a = b) : Ending.returned (.string a) = .returned (.string b) := by rw [h]

end Go.Proofs.Ytneamnjekllfhaa.WordsOne
