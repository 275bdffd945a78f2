import Derived.Test.YtlhohmlpcgbliaaGreatDoorZQ3
import Derived.Deep.LoopGhost
namespace Go.Proofs.YtlhohmlpcgbliaaGreatDoor
set_option maxRecDepth 100000
open Go.RowKit
attribute [local go_sem ↓] Go.wp_at_zero Go.wp_at_succ

end Go.Proofs.YtlhohmlpcgbliaaGreatDoor
