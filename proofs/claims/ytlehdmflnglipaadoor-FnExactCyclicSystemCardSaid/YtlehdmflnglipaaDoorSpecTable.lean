/- The model's TableOk. -/
import Derived.Test.YtlehdmflnglipaaDoorTable
import Derived.Test.YtlehdmflnglipaaDoorL01In
namespace Go.Proofs.YtlehdmflnglipaaDoor
open Go.RowKit

theorem Own.ilen {B n : Nat} {w : World} {v : Value} {l : List Int} (h : Own B w v 1 n (ints l)) : l.length = n := by have := h.1; rw [ints_length] at this; omega
/-- The cell of place j. -/
theorem Own.tat {B n g off c : Nat} {w : World} {l : List Int} (h : Own B w (.slice (some ⟨g, off, none⟩) n c) 1 n (ints l)) {j : Nat} (hj : j < n) :
    w.cell? ⟨g, off + j, none⟩ = some (.int .i64 (tat l j)) := by
  have hl := h.ilen
  have h1 := (h.cellAt (by omega) (i := j) (by rw [ints_length]; omega)).1
  rw [h1]; simp only [ints, List.getElem?_map]; rw [tat_get (by omega)]; rfl
set_option maxRecDepth 100000 in
set_option maxHeartbeats 800000 in
theorem specTableOk (q : Int) (A : Option Addr) (n c B : Nat) (xs : List Int) (w : World) (h : Own B w (.slice A n c) 1 n (ints xs)) (hn : n ≤ 1048576) :
    Calls Tryd.prog 40 #[tabV q A n c] w fun e w' => e = .returned (.bool (tableOk q xs)) ∧ Below w.heap.size w w' := by
  have hlen := h.ilen
  by_cases hq : 1 ≤ q ∧ q ≤ 40
  · obtain ⟨N, rfl⟩ : ∃ N : Nat, q = N := ⟨q.toNat, by omega⟩
    have h1 : 1 ≤ N := by omega
    have h40 : N ≤ 40 := by omega
    have hsq := sq_le h40
    have hsq0 : 0 ≤ (N : Int) * (N : Int) := by omega
    clear hq
    have HO := Lib.hid h
    have Hlen := Lib.hid hlen
    clear h hlen
    by_cases hnn : n = N * N
    · have e1 : ((n : Int) != (N : Int) * (N : Int)) = false := by simp; omega
      have Hnn := Lib.hid hnn
      have hn16 : n ≤ 1600 := by omega
      clear hnn
      have hn0 : 0 < n := by have h3 : 1 * 1 ≤ N * N := Nat.mul_le_mul h1 h1; have := Hnn.out; omega
      have hNn : N ≤ n := by have h3 : 1 * N ≤ N * N := Nat.mul_le_mul_right N h1; have := Hnn.out; omega
      obtain ⟨g, off, c0, hv⟩ := HO.out.formR hn0
      obtain ⟨rfl, rfl⟩ : A = some ⟨g, off, none⟩ ∧ c = c0 := by injection hv with a _ b; exact ⟨a, b⟩
      clear hv
      go_enter Tryd.func40, Tryd.ntmps40
      go_wp2_with (go_at_call 25; refine (l01In_yes _ _ _ _ (by omega) (by omega)).mono ?_; rintro e w' ⟨rfl, rfl⟩)
      have b1 := bel1 w (.cells #[.int .i64 (N : Int), .slice (some ⟨g, off, none⟩) n c] 35)
      have X1 := Lib.hid (Blk.new1 w #[.int .i64 (N : Int), .slice (some ⟨g, off, none⟩) n c] 35)
      have HC := Lib.hid (fun j (hj : j < n) => (HO.out.below b1).tat hj)
      generalize w.alloc (.cells #[.int .i64 (N : Int), .slice (some ⟨g, off, none⟩) n c] 35) = w1 at *
      go_loop [26] (fun i => ∃ k : Nat, i = .int .i64 k ∧ k ≤ n ∧ Hid (∀ j, j < k → 0 ≤ tat xs j ∧ tat xs j < N)) (fun i => n - (intOf i).toNat)
      case atStart => exact ⟨0, rfl, Nat.zero_le _, fun j hj => absurd hj (by omega)⟩
      case round =>
        obtain ⟨k, rfl, hk, HR⟩ := hrel
        by_cases hlt : k < n
        · have hx := HC.out k hlt
          obtain ⟨x, hxe⟩ : ∃ x, tat xs k = x := ⟨_, rfl⟩
          rw [hxe] at hx
          by_cases hr : 0 ≤ x ∧ x ≤ (N : Int) - 1
          · have HR1 : Hid (∀ j, j < k + 1 → 0 ≤ tat xs j ∧ tat xs j < N) := fun j hj => by
              by_cases e : j = k
              · subst e; rw [hxe]; omega
              · exact HR.out j (by omega)
            have hr0 := hr.1
            have hr1 := hr.2
            clear hr hxe
            go_wp2_with (go_at_call 25; refine (l01In_yes _ _ _ _ (by omega) (by omega)).mono ?_; rintro e w' ⟨rfl, rfl⟩)
            go_round
            case rel => exact ⟨k + 1, by go_num, by omega, HR1⟩
            case measure => simp [intOf]; omega
          · have He := Lib.hid (tableOk_not (n := N) (xs := xs) (fun h => hr (by have := h.rng k (by have := Hnn.out; omega); omega)))
            have hr' : x < 0 ∨ (N : Int) - 1 < x := by omega
            have Hr := Lib.hid hr'
            clear hr hr' hxe
            go_wp2_with (go_at_call 25; refine (l01In_no _ _ _ _ Hr.out).mono ?_; rintro e w' ⟨rfl, rfl⟩)
            go_ret
            exact ⟨ret_bool He.out.symm, b1⟩
        · obtain rfl : n = k := by omega
          clear hk hlt
          have HRng : Hid (∀ j, j < N * N → 0 ≤ tat xs j ∧ tat xs j < N) := by have := Hnn.out; rw [this] at HR; exact HR
          clear HR
          obtain ⟨q0, q1, -, -, ql⟩ := X1.out.two
          go_wp2_with fail
          go_loopw [6] (fun i wr => ∃ (k : Nat) (m : Nat), i = .int .i64 k ∧ k ≤ N ∧ wr = w1.drewN m ∧ Hid (∀ i, i < k → tat xs i = i ∧ tat xs (i * N) = i ∧ ∀ j x, j < N → x < N → tat xs ((tat xs (i * N + j)).toNat * N + x) = tat xs (i * N + (tat xs (j * N + x)).toNat))) (fun i _ => N - (intOf i).toNat)
          case atStart => exact ⟨0, 0, rfl, Nat.zero_le _, rfl, fun j hj => absurd hj (by omega)⟩
          case round =>
            obtain ⟨i, m, rfl, hi, rfl, HI⟩ := hrel
            by_cases hlt : i < N
            · have hiN : i * N < n := by have h3 := row_lt hlt (show 0 < N by omega); have := Hnn.out; omega
              have hin : i < n := by omega
              have hx := HC.out i hin
              have hy := HC.out (i * N) hiN
              by_cases hl : tat xs i = i
              · by_cases hr : tat xs (i * N) = i
                · rw [hl] at hx
                  rw [hr] at hy
                  have Hl := Lib.hid hl
                  have Hr := Lib.hid hr
                  clear hl hr
                  go_wp2_with fail
                  clear hx hy
                  go_loopw [7] (fun j wr => ∃ (k : Nat) (m : Nat), j = .int .i64 k ∧ k ≤ N ∧ wr = w1.drewN m ∧ Hid (∀ j x, j < k → x < N → tat xs ((tat xs (i * N + j)).toNat * N + x) = tat xs (i * N + (tat xs (j * N + x)).toNat))) (fun j _ => N - (intOf j).toNat)
                  case atStart => exact ⟨0, m, rfl, Nat.zero_le _, rfl, fun j x hj => absurd hj (by omega)⟩
                  case round =>
                    obtain ⟨j, mj, rfl, hj, rfl, HJ⟩ := hrel
                    by_cases hjl : j < N
                    · go_wp2_with fail
                      have hij : i * N + j < n := by have h3 := row_lt hlt hjl; have := Hnn.out; omega
                      obtain ⟨X, hX⟩ : ∃ X : Nat, tat xs (i * N + j) = X := ⟨(tat xs (i * N + j)).toNat, by have := HRng.out (i * N + j) (row_lt hlt hjl); omega⟩
                      have hXN : X < N := by have := HRng.out (i * N + j) (row_lt hlt hjl); omega
                      have HX := Lib.hid hX
                      clear hX
                      go_loopw [8] (fun q wr => ∃ (k : Nat) (m : Nat), q = .int .i64 k ∧ k ≤ N ∧ wr = w1.drewN m ∧ Hid (∀ x, x < k → tat xs (X * N + x) = tat xs (i * N + (tat xs (j * N + x)).toNat))) (fun q _ => N - (intOf q).toNat)
                      case atStart => exact ⟨0, mj, rfl, Nat.zero_le _, rfl, fun x hj => absurd hj (by omega)⟩
                      case round =>
                        obtain ⟨k, mk, rfl, hk, rfl, HK⟩ := hrel
                        by_cases hkl : k < N
                        · have hjk : j * N + k < n := by have h3 := row_lt hjl hkl; have := Hnn.out; omega
                          have hXk : X * N + k < n := by have h3 := row_lt hXN hkl; have := Hnn.out; omega
                          obtain ⟨Y, hY⟩ : ∃ Y : Nat, tat xs (j * N + k) = Y := ⟨(tat xs (j * N + k)).toNat, by have := HRng.out (j * N + k) (row_lt hjl hkl); omega⟩
                          have hYN : Y < N := by have := HRng.out (j * N + k) (row_lt hjl hkl); omega
                          have hiY : i * N + Y < n := by have h3 := row_lt hlt hYN; have := Hnn.out; omega
                          have z1 := HC.out _ hij
                          have z2 := HC.out _ hXk
                          have z3 := HC.out _ hjk
                          have z4 := HC.out _ hiY
                          rw [HX.out] at z1
                          rw [hY] at z3
                          have HY := Lib.hid hY
                          clear hY
                          obtain ⟨U, hU⟩ : ∃ U, tat xs (X * N + k) = U := ⟨_, rfl⟩
                          obtain ⟨V, hV⟩ : ∃ V, tat xs (i * N + Y) = V := ⟨_, rfl⟩
                          rw [hU] at z2
                          rw [hV] at z4
                          have HU := Lib.hid hU
                          have HV := Lib.hid hV
                          clear hU hV
                          by_cases hUV : U = V
                          · subst hUV
                            have HK1 : Hid (∀ x, x < k + 1 → tat xs (X * N + x) = tat xs (i * N + (tat xs (j * N + x)).toNat)) := fun x hx => by
                              by_cases e : x = k
                              · subst e; rw [HU.out, HY.out, Int.toNat_natCast, HV.out]
                              · exact HK.out x (by omega)
                            go_wp2_with fail
                            go_quiet (fail)
                            all_goals go_wp2_with fail
                            go_roundw
                            case rel => exact ⟨k + 1, _, by go_num, by omega, rfl, HK1⟩
                            case measure => simp [intOf]; omega
                          · have He := Lib.hid (tableOk_not (n := N) (xs := xs) (fun h => hUV (by have h3 := h.asc i j k hlt hjl hkl; rw [HX.out, HY.out] at h3; simp only [Int.toNat_natCast] at h3; rw [HU.out, HV.out] at h3; exact h3)))
                            have e2 : (U == V) = false := by simpa using hUV
                            have e3 : (U != V) = true := by simpa using hUV
                            clear hUV
                            go_wp2_with fail
                            go_quiet (fail)
                            all_goals go_wp2_with fail
                            go_ret
                            exact ⟨ret_bool He.out.symm, below_drewN (below_drewN b1 _) _⟩
                        · obtain rfl : N = k := by omega
                          have HJ1 : Hid (∀ j' x, j' < j + 1 → x < N → tat xs ((tat xs (i * N + j')).toNat * N + x) = tat xs (i * N + (tat xs (j' * N + x)).toNat)) := fun j' x hj' hx => by
                            by_cases e : j' = j
                            · subst e; rw [HX.out]; exact HK.out x hx
                            · exact HJ.out j' x (by omega) hx
                          go_wp2_with fail
                          go_roundw
                          case rel => exact ⟨j + 1, _, by go_num, by omega, rfl, HJ1⟩
                          case measure => simp [intOf]; omega
                    · obtain rfl : N = j := by omega
                      have HI1 : Hid (∀ i', i' < i + 1 → tat xs i' = i' ∧ tat xs (i' * N) = i' ∧ ∀ j x, j < N → x < N → tat xs ((tat xs (i' * N + j)).toNat * N + x) = tat xs (i' * N + (tat xs (j * N + x)).toNat)) := fun i' hi' => by
                        by_cases e : i' = i
                        · subst e; exact ⟨Hl.out, Hr.out, fun j x hj hx => HJ.out j x hj hx⟩
                        · exact HI.out i' (by omega)
                      go_wp2_with fail
                      go_roundw
                      case rel => exact ⟨i + 1, _, by go_num, by omega, rfl, HI1⟩
                      case measure => simp [intOf]; omega
                · have He := Lib.hid (tableOk_not (n := N) (xs := xs) (fun h => hr (h.idr i hlt)))
                  rw [hl] at hx
                  obtain ⟨y, hye⟩ : ∃ y, tat xs (i * N) = y := ⟨_, rfl⟩
                  rw [hye] at hy hr
                  clear hye hl
                  have e2 : (y == (i : Int)) = false := by simpa using hr
                  have e3 : (y != (i : Int)) = true := by simpa using hr
                  clear hr
                  go_wp2_with fail
                  go_ret
                  exact ⟨ret_bool He.out.symm, below_drewN b1 _⟩
              · have He := Lib.hid (tableOk_not (n := N) (xs := xs) (fun h => hl (h.idl i hlt)))
                obtain ⟨x, hxe⟩ : ∃ x, tat xs i = x := ⟨_, rfl⟩
                rw [hxe] at hx hl
                clear hxe
                have e2 : (x == (i : Int)) = false := by simpa using hl
                have e3 : (x != (i : Int)) = true := by simpa using hl
                clear hl
                go_wp2_with fail
                go_ret
                exact ⟨ret_bool He.out.symm, below_drewN b1 _⟩
            · obtain rfl : N = i := by omega
              have HT := Lib.hid (tableOk_yes (n := N) (xs := xs) ⟨h1, h40, by rw [Hlen.out, Hnn.out], HRng.out, fun i hi => (HI.out i hi).1, fun i hi => (HI.out i hi).2.1, fun i j k hi hj hk => (HI.out i hi).2.2 j k hj hk⟩)
              go_wp2_with fail
              go_ret
              exact ⟨ret_bool HT.out.symm, below_drewN b1 _⟩
    · have He := Lib.hid (tableOk_not (n := N) (xs := xs) (fun h => hnn (by have := h.len; have := Hlen.out; omega)))
      have e1 : ((n : Int) != (N : Int) * (N : Int)) = true := by simp; omega
      clear hnn
      go_enter Tryd.func40, Tryd.ntmps40
      go_wp2_with (go_at_call 25; refine (l01In_yes _ _ _ _ (by omega) (by omega)).mono ?_; rintro e w' ⟨rfl, rfl⟩)
      go_ret
      exact ⟨ret_bool He.out.symm, bel1 _ _⟩
  · have He := Lib.hid (tableOk_no (n := q) (xs := xs) (fun m e h => hq ⟨by have := h.lo; omega, by have := h.hi; omega⟩))
    have hq' : q < 1 ∨ 40 < q := by omega
    have Hq := Lib.hid hq'
    clear hq hq' h hlen
    go_enter Tryd.func40, Tryd.ntmps40
    go_wp2_with (go_at_call 25; refine (l01In_no _ _ _ _ Hq.out).mono ?_; rintro e w' ⟨rfl, rfl⟩)
    go_ret
    exact ⟨ret_bool He.out.symm, bel1 _ _⟩
end Go.Proofs.YtlehdmflnglipaaDoor
