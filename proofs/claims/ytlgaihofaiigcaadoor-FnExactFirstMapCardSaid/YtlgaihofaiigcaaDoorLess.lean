/- The order of words: spec.IsLess, impl.IsLess. -/
import Derived.Test.YtlgaihofaiigcaaDoorBase
import Derived.Deep.QuietTactic
import Derived.BigQuiet
namespace Go.Proofs.YtlgaihofaiigcaaDoor
open Go.RowKit

/-- Is u shorter than v, or of the same length and less bytewise? -/
def lessS (u v : ByteArray) : Bool := if u.size = v.size then Op.bytesLess u.toList v.toList else decide (u.size < v.size)

end Go.Proofs.YtlgaihofaiigcaaDoor
