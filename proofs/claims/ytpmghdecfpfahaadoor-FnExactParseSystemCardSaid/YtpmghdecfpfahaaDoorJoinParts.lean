/- impl.joinParts. -/
import Derived.Test.YtpmghdecfpfahaaDoorJoinPlain
import Derived.Test.YtpmghdecfpfahaaDoorBase
import Derived.Test.YtpmghdecfpfahaaDoorOwn
import Derived.Test.YtpmghdecfpfahaaDoorShelf
import Derived.Lib.SmallJoins
import Derived.IntWalk
import Derived.Laws.Rows
namespace Go.Proofs.YtpmghdecfpfahaaDoor
open Go.RowKit Go.Joins

set_option maxHeartbeats 400000 in
theorem joinParts_any (bk o c : Nat) (xs : List ByteArray) (sep : ByteArray) (w : World) (hcells : ∀ (j : Nat) x, xs[j]? = some x → w.cell? ⟨bk, o + j, none⟩ = some (.string x))
    (hbk : bk < w.heap.size) (hN : xs.length ≤ 140737488355328) (hcap : xs.length ≤ c) (hlen : (Lib.join (xs.map (·.data.toList)) sep.data.toList).length ≤ 140737488355328) :
    Calls Tryd.prog 65 #[.string sep, .slice (some ⟨bk, o, none⟩) xs.length c] w fun e w' => e = .returned (.string (joinS xs sep)) ∧ Below w.heap.size w w' := by
  have HC := Lib.hid hcells
  clear hcells
  go_enter Tryd.func65, Tryd.ntmps65
  go_wp2_with (go_at_call 73; refine (Tryd.strings_Join bk o c xs sep _ HC.out hbk hN hcap hlen).mono ?_; rintro e w' ⟨rfl, hb⟩)
  go_ret
  exact ⟨rfl, hb⟩

end Go.Proofs.YtpmghdecfpfahaaDoor
