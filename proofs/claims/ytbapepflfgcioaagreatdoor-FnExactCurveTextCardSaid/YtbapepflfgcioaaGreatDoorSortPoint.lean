/-
  No points are sorted by this program: only the library's words.
  No condition.
-/
import Derived.Shelf.SlSortCmp.NoneTotal
import Derived.Test.YtbapepflfgcioaaGreatDoorProg
