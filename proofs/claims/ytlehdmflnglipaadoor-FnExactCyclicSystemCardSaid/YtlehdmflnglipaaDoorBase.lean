/- Two closed facts of the loaded program. -/
import Derived.Test.YtlehdmflnglipaaDoorKit
namespace Go.Proofs.YtlehdmflnglipaaDoor
theorem own : ownKnob Tryd.prog.godebug = none := by kernel_rfl
theorem laidOut : laidOutB Tryd.prog = true := by kernel_rfl
end Go.Proofs.YtlehdmflnglipaaDoor
