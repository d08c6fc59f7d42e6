/- impl.Join. -/
import Derived.Test.YtpmghdecfpfahaaDoorJoinParts
namespace Go.Proofs.YtpmghdecfpfahaaDoor
open Go.RowKit Go.Joins

set_option maxHeartbeats 400000 in
theorem joinParts_none (a : Option Addr) (c : Nat) (sep : ByteArray) (w : World) :
    Calls Tryd.prog 65 #[.string sep, .slice a 0 c] w fun e w' => e = .returned (.string ⟨#[]⟩) ∧ w = w' := by
  go_enter Tryd.func65, Tryd.ntmps65
  go_wp2_with (go_at_call 73; refine (Tryd.strings_Join_none a c sep _).mono ?_; rintro e w' ⟨rfl, rfl⟩)
  go_ret
  exact ⟨rfl, rfl⟩

set_option maxHeartbeats 400000 in
theorem implJoin (A : Option Addr) (n c B : Nat) (xs : List ByteArray) (sep : ByteArray) (w : World) (h : Own B w (.slice A n c) 1 n (strs xs)) (hsep : sep.size ≤ 1048576) (hn : n ≤ 1048576) (ht : total xs ≤ 1048576) :
    Calls Tryd.prog 55 #[.slice A n c, .string sep] w fun e w' => e = .returned (.string (joinS xs sep)) ∧ Below w.heap.size w w' := by
  have hl : xs.length = n := by have := h.1; simpa [strs] using this
  have hsz := joinTo_size xs sep n n hl hsep hn ht
  have hj : joinTo xs sep n = joinS xs sep := by unfold joinTo; rw [List.take_of_length_le (by omega)]
  rw [hj] at hsz
  have hlen : (Lib.join (xs.map (·.data.toList)) sep.data.toList).length ≤ 140737488355328 := by
    have : (joinS xs sep).size = (Lib.join (xs.map (·.data.toList)) sep.data.toList).length := by show (Lib.join _ _).toArray.size = _; simp
    omega
  have Hlen := Lib.hid hlen
  have hcc : n ≤ c := by
    obtain ⟨_, A', c', hv, hc', _, _⟩ := h
    injection hv with _ _ e; subst e; exact hc'
  clear hj hsz hlen
  by_cases h0 : 0 < n
  · obtain ⟨g, off, rfl, -, hg, hc⟩ := h.str h0
    subst hl
    have hcell : ∀ (j : Nat) x, xs[j]? = some x → w.cell? ⟨g, off + j, none⟩ = some (.string x) := fun j x hx => by
      obtain ⟨s, hs, hx', -⟩ := hc j (List.getElem?_eq_some_iff.1 hx).1
      rw [hx] at hs; rw [Option.some.inj hs]; exact hx'
    have Hcell := Lib.hid hcell
    clear hc hcell
    go_enter Tryd.func55, Tryd.ntmps55
    go_wp2_with (go_at_call 65; refine (joinParts_any g off c xs sep _ Hcell.out hg (by omega) hcc Hlen.out).mono ?_; rintro e w' ⟨rfl, hb⟩)
    go_ret
    exact ⟨rfl, hb⟩
  · obtain rfl : n = 0 := by omega
    have hx : xs = [] := List.eq_nil_of_length_eq_zero hl
    have Hend := Lib.hid (show (⟨#[]⟩ : ByteArray) = joinS xs sep by rw [hx]; rfl)
    clear hx hl Hlen
    go_enter Tryd.func55, Tryd.ntmps55
    go_wp2_with (go_at_call 65; refine (joinParts_none A c sep _).mono ?_; rintro e w' ⟨rfl, rfl⟩)
    go_ret
    exact ⟨ret_str Hend.out, Below.refl _ _⟩
end Go.Proofs.YtpmghdecfpfahaaDoor
