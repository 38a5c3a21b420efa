/- The document's own Diff, and LexDiffs. -/
import Derived.Test.YtocogbllhmiefaaGreatDoorWalkW
import Derived.Deep.CutBlock
import Derived.Deep.LoopGhost
import Derived.Deep.DeepCutAuto
namespace Go.Proofs.YtocogbllhmiefaaGreatDoor.Lx
open Go Go.Proofs Go.RowKit Go.Shelf

end Go.Proofs.YtocogbllhmiefaaGreatDoor.Lx
