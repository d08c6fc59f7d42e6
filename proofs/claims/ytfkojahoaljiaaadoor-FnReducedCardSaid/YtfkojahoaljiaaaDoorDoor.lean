/- What the rows' listed variables give, and impl.FormatInt. -/
import Derived.Test.YtfkojahoaljiaaaDoorFmt
import Derived.Test.YtfkojahoaljiaaaDoorShelf
import Derived.Lib.SmallJoins
import Derived.Lib.LaidTab
namespace Go.Proofs.YtfkojahoaljiaaaDoor
open Go.RowKit Go.Joins

/-- The powers of ten in memory. -/
def Pow (W : World) : Prop := Lib.TabIs Tryd.prog W "internal/strconv.uint64pow10" .u64 Lib.pow10Tab
theorem below_grown_row {w : World} {k : Nat} {os : Array Obj} : Below w.heap.size w (Go.Sort.grow (w.drewN k) os) :=
  ⟨rfl, rfl, rfl, by simp [Go.Sort.grow], fun i hi => by simp only [Go.Sort.grow]; exact Array.getElem?_append_left hi⟩

end Go.Proofs.YtfkojahoaljiaaaDoor
