/-
  Nothing of the library's is asked for on this road.
-/
import Derived.Test.YtpdkjblmpgmcjaaGreatDoorProg
