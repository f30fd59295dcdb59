/-
  Strings and slices of strings over this translation, gathered.
-/
import Derived.Test.YtohicccbaenegaaGreatDoorQ0
import Derived.Test.YtohicccbaenegaaGreatDoorYSls
namespace Go.Proofs.YtohicccbaenegaaGreatDoor
end Go.Proofs.YtohicccbaenegaaGreatDoor
