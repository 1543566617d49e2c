/-
  Keys: nothing here (the seat has no utf8.DecodeRune).
-/
import Derived.Test.YtgdkpmfdpfjdjaaGreatDoorKSeq
namespace Go.Proofs.YtgdkpmfdpfjdjaaGreatDoor
end Go.Proofs.YtgdkpmfdpfjdjaaGreatDoor
