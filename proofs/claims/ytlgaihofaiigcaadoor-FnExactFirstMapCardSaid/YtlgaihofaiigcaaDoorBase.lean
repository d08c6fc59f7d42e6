/- Two closed facts of the loaded program. -/
import Derived.Test.YtlgaihofaiigcaaDoorKit
namespace Go.Proofs.YtlgaihofaiigcaaDoor
theorem own : ownKnob Tryd.prog.godebug = none := by kernel_rfl
theorem laidOut : laidOutB Tryd.prog = true := by kernel_rfl
end Go.Proofs.YtlgaihofaiigcaaDoor
