/- Contracts of both Join, on slices of the call's own. -/
import Derived.Test.YtcdndnnmcjpdnaaIn
import Derived.Test.YtcdndnnmcjpdnaaPad
namespace Go.Proofs.Ytcdndnnmcjpdnaa
open Go.RowKit Go.Joins

/-- spec.Join's text behind k rounds. -/
def joinTo (xs : List ByteArray) (sep : ByteArray) (k : Nat) : ByteArray := joinS (xs.take k) sep
theorem join_step (xs : List ByteArray) (sep s : ByteArray) (k : Nat) (h : xs[k]? = some s) :
    joinTo xs sep (k + 1) = (if k = 0 then joinTo xs sep k else joinTo xs sep k ++ sep) ++ s := by
  have hk := (List.getElem?_eq_some_iff.1 h).1
  have he := (List.getElem?_eq_some_iff.1 h).2
  unfold joinTo joinS
  rw [List.take_succ_eq_append_getElem hk, he]
  cases k with
  | zero => apply ByteArray.ext; simp [Lib.join_one, Lib.join_nil]
  | succ k =>
    rw [if_neg (by omega)]
    cases xs with
    | nil => simp at hk
    | cons x xs =>
      simp only [List.take_succ_cons, List.cons_append, List.map_cons, List.map_append, Lib.join_cons, Lib.joinTail]
      apply ByteArray.ext; simp
theorem joinS_size (xs : List ByteArray) (sep : ByteArray) : (joinS xs sep).size ≤ sep.size * xs.length + total xs := by
  show (Lib.join (xs.map (·.data.toList)) sep.data.toList).toArray.size ≤ _
  cases xs with
  | nil => simp [Lib.join_nil]
  | cons x r =>
    simp only [List.size_toArray, List.map_cons]
    rw [Lib.join_length]
    have h1 : ∀ l : List ByteArray, Lib.lens (l.map (·.data.toList)) = total l := by
      intro l; unfold Lib.lens total
      rw [List.map_map]; exact congrArg List.sum (List.map_congr_left (fun a _ => Array.length_toList ..))
    have h2 := h1 (x :: r)
    rw [List.map_cons] at h2
    rw [h2]
    simp only [List.length_map, List.length_cons]
    have e1 : sep.data.toList.length = sep.size := by simp
    rw [e1]
    have e2 : sep.size * r.length ≤ sep.size * (r.length + 1) := Nat.mul_le_mul (Nat.le_refl _) (by omega)
    omega
theorem total_take (xs : List ByteArray) (k : Nat) : total (xs.take k) ≤ total xs := by
  unfold total
  conv => rhs; rw [← List.take_append_drop k xs]
  rw [List.map_append, List.sum_append]; omega
theorem joinTo_size (xs : List ByteArray) (sep : ByteArray) (k n : Nat) (hn : xs.length = n) (h1 : sep.size ≤ 1048576) (h2 : n ≤ 1048576) (h3 : total xs ≤ 1048576) : (joinTo xs sep k).size ≤ 1099512676352 := by
  have h := joinS_size (xs.take k) sep
  have ht := total_take xs k
  have hl : (xs.take k).length ≤ 1048576 := by rw [List.length_take]; omega
  have hm : sep.size * (xs.take k).length ≤ 1048576 * 1048576 := Nat.mul_le_mul h1 hl
  unfold joinTo
  omega

set_option maxHeartbeats 400000 in
theorem specJoin (A : Option Addr) (n c B : Nat) (xs : List ByteArray) (sep : ByteArray) (w : World) (h : Own B w (.slice A n c) 1 n (strs xs)) (hsep : sep.size ≤ 1048576) (hn : n ≤ 1048576) (ht : total xs ≤ 1048576) :
    Calls Try.prog 21 #[.slice A n c, .string sep] w fun e w' => e = .returned (.string (joinS xs sep)) ∧ w = w' := by
  have hl : xs.length = n := by have := h.1; simpa [strs] using this
  have Hl := Lib.hid hl
  clear hl
  by_cases h0 : 0 < n
  · obtain ⟨g, off, rfl, -, -, hc⟩ := h.str h0
    have HC := Lib.hid hc
    clear hc
    have HS := Lib.hid (fun k => joinTo_size xs sep k n Hl.out hsep hn ht)
    have Hend := Lib.hid (show joinTo xs sep n = joinS xs sep by unfold joinTo; rw [List.take_of_length_le (by rw [Hl.out]; exact Nat.le_refl _)])
    go_enter Try.func21, Try.ntmps21
    go_wp2
    go_loop [5, 6, 7, 10] (fun q _ _ i => ∃ k : Nat, k ≤ n ∧ i = .int .i64 k ∧ q = .string (joinTo xs sep k)) (fun _ _ _ i => n - (intOf i).toNat)
    case atStart => exact ⟨0, Nat.zero_le _, rfl, by simp [joinTo, joinS, Lib.join_nil]⟩
    case round =>
      obtain ⟨k, hk, rfl, rfl⟩ := hrel
      by_cases hlt : k < n
      · obtain ⟨s, hs, hx, -⟩ := HC.out k hlt
        have hst := join_step xs sep s k hs
        have hss : s.size ≤ 1048576 := by
          have h1 := total_step xs k s hs
          have h2 := total_take xs (k + 1)
          omega
        have hjs := HS.out k
        have Hst := Lib.hid hst
        clear hst hs
        by_cases hk0 : k = 0
        · subst hk0
          rw [Nat.add_zero] at hx
          go_wp2
          go_round
          case rel => exact ⟨1, by omega, rfl, by rw [Hst.out]; simp⟩
          case measure => simp [intOf]; omega
        · have hkp : 0 < (k : Int) := by omega
          have Hk0 := Lib.hid hk0
          clear hk0
          generalize hJ : joinTo xs sep k = J at *
          have HJ := Lib.hid hJ
          clear hJ
          go_wp2
          go_round
          case rel => exact ⟨k + 1, by omega, by go_num, by rw [Hst.out, if_neg Hk0.out]⟩
          case measure => simp [intOf]; omega
      · have hkn := Lib.hid (show k = n by omega)
        go_wp2
        go_ret
        exact ⟨ret_str (by rw [hkn.out, Hend.out]), rfl⟩
  · obtain rfl : n = 0 := by omega
    have hx : xs = [] := List.eq_nil_of_length_eq_zero Hl.out
    have Hend := Lib.hid (show (⟨#[]⟩ : ByteArray) = joinS xs sep by rw [hx]; rfl)
    clear hx
    go_enter Try.func21, Try.ntmps21
    go_wp2
    refine wp_loop_rounds 1 ?_
    rw [rounds_succ]
    go_wp2
    go_ret
    exact ⟨ret_str Hend.out, rfl⟩

set_option maxHeartbeats 400000 in
theorem joinParts_none (a : Option Addr) (c : Nat) (sep : ByteArray) (w : World) :
    Calls Try.prog 31 #[.string sep, .slice a 0 c] w fun e w' => e = .returned (.string ⟨#[]⟩) ∧ w = w' := by
  go_enter Try.func31, Try.ntmps31
  go_wp2_with (go_at_call 33; refine (Try.strings_Join_none a c sep _).mono ?_; rintro e w' ⟨rfl, rfl⟩)
  go_ret
  exact ⟨rfl, rfl⟩

set_option maxHeartbeats 400000 in
theorem implJoin (A : Option Addr) (n c B : Nat) (xs : List ByteArray) (sep : ByteArray) (w : World) (h : Own B w (.slice A n c) 1 n (strs xs)) (hsep : sep.size ≤ 1048576) (hn : n ≤ 1048576) (ht : total xs ≤ 1048576) :
    Calls Try.prog 23 #[.slice A n c, .string sep] w fun e w' => e = .returned (.string (joinS xs sep)) ∧ Below w.heap.size w w' := by
  have hl : xs.length = n := by have := h.1; simpa [strs] using this
  have hsz := joinTo_size xs sep n n hl hsep hn ht
  have hj : joinTo xs sep n = joinS xs sep := by unfold joinTo; rw [List.take_of_length_le (by omega)]
  rw [hj] at hsz
  have hlen : (Lib.join (xs.map (·.data.toList)) sep.data.toList).length ≤ 140737488355328 := by
    have : (joinS xs sep).size = (Lib.join (xs.map (·.data.toList)) sep.data.toList).length := by show (Lib.join _ _).toArray.size = _; simp
    omega
  have Hlen := Lib.hid hlen
  have hcc : n ≤ c := by
    obtain ⟨_, A', c', hv, hc', _, _⟩ := h
    injection hv with _ _ e; subst e; exact hc'
  clear hj hsz hlen
  by_cases h0 : 0 < n
  · obtain ⟨g, off, rfl, -, hg, hc⟩ := h.str h0
    subst hl
    have hcell : ∀ (j : Nat) x, xs[j]? = some x → w.cell? ⟨g, off + j, none⟩ = some (.string x) := fun j x hx => by
      obtain ⟨s, hs, hx', -⟩ := hc j (List.getElem?_eq_some_iff.1 hx).1
      rw [hx] at hs; rw [Option.some.inj hs]; exact hx'
    have Hcell := Lib.hid hcell
    clear hc hcell
    go_enter Try.func23, Try.ntmps23
    go_wp2_with (go_at_call 31; refine (joinParts_any g off c xs sep _ Hcell.out hg (by omega) hcc Hlen.out).mono ?_; rintro e w' ⟨rfl, hb⟩)
    go_ret
    exact ⟨rfl, hb⟩
  · obtain rfl : n = 0 := by omega
    have hx : xs = [] := List.eq_nil_of_length_eq_zero hl
    have Hend := Lib.hid (show (⟨#[]⟩ : ByteArray) = joinS xs sep by rw [hx]; rfl)
    clear hx hl Hlen
    go_enter Try.func23, Try.ntmps23
    go_wp2_with (go_at_call 31; refine (joinParts_none A c sep _).mono ?_; rintro e w' ⟨rfl, rfl⟩)
    go_ret
    exact ⟨ret_str Hend.out, Below.refl _ _⟩
end Go.Proofs.Ytcdndnnmcjpdnaa
