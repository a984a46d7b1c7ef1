/-
  Texts that stand together: GramApartI.
-/
import Derived.Test.YthbbipgngeflnaaGreatDoorBagOpRow
import Derived.Test.YthbbipgngeflnaaGreatDoorBagLineApartV
namespace Go.Proofs.YthbbipgngeflnaaGreatDoor.GramApart
open Go.RowKit Go.Proofs.YthbbipgngeflnaaGreatDoor.GramMath Go.Proofs.YthbbipgngeflnaaGreatDoor.GramRow Go.Proofs.YthbbipgngeflnaaGreatDoor.GramAboveFn
set_option linter.unusedVariables false

end Go.Proofs.YthbbipgngeflnaaGreatDoor.GramApart
