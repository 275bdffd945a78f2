import Derived.Test.YtlhohmlpcgbliaaGreatDoorZV2
import Derived.Deep.LoopGhost
import Derived.Test.YtlhohmlpcgbliaaGreatDoorZQ3
namespace Go.Proofs.YtlhohmlpcgbliaaGreatDoor
set_option maxRecDepth 100000
open Go.RowKit
attribute [local go_sem ↓] Go.wp_at_zero Go.wp_at_succ

end Go.Proofs.YtlhohmlpcgbliaaGreatDoor
namespace Go.Proofs.YtlhohmlpcgbliaaGreatDoor
set_option maxRecDepth 100000
open Go.RowKit
attribute [local go_sem ↓] Go.wp_at_zero Go.wp_at_succ

end Go.Proofs.YtlhohmlpcgbliaaGreatDoor
namespace Go.Proofs.YtlhohmlpcgbliaaGreatDoor
set_option maxRecDepth 100000
open Go.RowKit
attribute [local go_sem ↓] Go.wp_at_zero Go.wp_at_succ

section
variable {P : Program} {ops : Array Oper} {Q : Exit → Act → World → Prop}
end


end Go.Proofs.YtlhohmlpcgbliaaGreatDoor
namespace Go.Proofs.YtlhohmlpcgbliaaGreatDoor
set_option maxRecDepth 100000
open Go.RowKit
attribute [local go_sem ↓] Go.wp_at_zero Go.wp_at_succ

/-- The hash of the tree of these entries. -/
def rt (l : List ByteArray) : ByteArray := mth (l.map leafS)
end Go.Proofs.YtlhohmlpcgbliaaGreatDoor
