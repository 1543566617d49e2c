/-
  Keys: characters in bytes: whole or not, and which.
-/
import Derived.Test.YtbonnjilbocldaaGreatDoorHD
import Derived.Shelf.Spec.DecodeRune
namespace Go.Proofs.YtbonnjilbocldaaGreatDoor
open Go.RowKit
set_option linter.unusedVariables false
set_option maxRecDepth 100000

end Go.Proofs.YtbonnjilbocldaaGreatDoor
