/- Two closed facts of the loaded program. -/
import Derived.Test.YtlehdmflnglipaaKit
namespace Go.Proofs.Ytlehdmflnglipaa
theorem own : ownKnob Try.prog.godebug = none := by kernel_rfl
theorem laidOut : laidOutB Try.prog = true := by kernel_rfl
end Go.Proofs.Ytlehdmflnglipaa
