/- spec.FormatInt gives the decimal numeral of every int. -/
import Derived.Test.YtfkojahoaljiaaaDoorBase
import Derived.Test.YtfkojahoaljiaaaDoorNum
import Derived.IntWalk
import Derived.Deep.RegionWith
namespace Go.Proofs.YtfkojahoaljiaaaDoor
open Go.RowKit

/-- string([]byte{n}), the byte lying in block g. -/
theorem one_byte_at {P : Program} {src dst e : TypeId} (hs : P.underlying src = some (.slice e)) (he : P.underlying e = some (.int .u8)) (hd : P.underlying dst = some .string) (w : World) (g : Nat) (n : Int) (h0 : 0 ≤ n) (h1 : n < 256)
    (hc : w.cell? ⟨g, 0, none⟩ = some (.int .u8 n)) :
    (convert src dst (.slice (some ⟨g, 0, none⟩) 1 1)).run P w = .ok (.string ⟨#[UInt8.ofNat n.toNat]⟩) w := by
  have h := run_convert_bytes_back (P := P) w src dst e ⟨g, 0, none⟩ 1 [UInt8.ofNat n.toNat] hs he hd (fun j hj => by
    obtain rfl : j = 0 := by simpa using hj
    have hn : ((UInt8.ofNat n.toNat).toNat : Int) = n := by
      rw [UInt8.toNat_ofNat']; omega
    have e0 : (⟨g, 0, none⟩ : Addr).add 0 = ⟨g, 0, none⟩ := rfl
    rw [e0, hc]
    show _ = some (Value.int .u8 ((UInt8.ofNat n.toNat).toNat : Int))
    rw [hn])
  exact h
theorem one_byte_new {P : Program} {src dst e : TypeId} (hs : P.underlying src = some (.slice e)) (he : P.underlying e = some (.int .u8)) (hd : P.underlying dst = some .string) (n : Int) (h0 : 0 ≤ n) (h1 : n < 256) (w : World) :
    (convert src dst (.slice (some ⟨w.heap.size, 0, none⟩) 1 1)).run P (w.alloc (.cells #[.int .u8 n] e)) = .ok (.string ⟨#[UInt8.ofNat n.toNat]⟩) (w.alloc (.cells #[.int .u8 n] e)) :=
  one_byte_at hs he hd _ _ n h0 h1 (by rw [World.cell?_alloc_at _ _ _ _ rfl]; rfl)

theorem keep_new {W w1 : World} {v : Value} {e : TypeId} (hb : Below (W.alloc (.cells #[v] e)).heap.size (W.alloc (.cells #[v] e)) w1) : w1.cell? ⟨W.heap.size, 0, none⟩ = some v :=
  (hb.cell (by simp)).trans (by rw [World.cell?_alloc_at _ _ _ _ rfl]; rfl)
theorem keep_new' {W w1 : World} {v : Value} {e : TypeId} (hb : Below (W.alloc (.cells #[v] e)).drew.heap.size (W.alloc (.cells #[v] e)).drew w1) : w1.cell? ⟨W.heap.size, 0, none⟩ = some v :=
  (hb.cell (p := ⟨W.heap.size, 0, none⟩) (show W.heap.size < (W.alloc (.cells #[v] e)).heap.size by simp)).trans (show (W.alloc (.cells #[v] e)).cell? ⟨W.heap.size, 0, none⟩ = some v by rw [World.cell?_alloc_at _ _ _ _ rfl]; rfl)
theorem end_a {W w1 : World} (hb : Below W.drew.heap.size W.drew w1) (o : Obj) : Below W.heap.size W (w1.alloc o) :=
  have h : Below W.heap.size W w1 := (Below.refl _ W).drew.trans hb
  h.alloc h.size o
theorem end_b {W w1 : World} {o : Obj} (hb : Below (W.alloc o).drew.heap.size (W.alloc o).drew w1) : Below W.heap.size W w1 :=
  ((Below.refl _ W).alloc (Nat.le_refl _) o).drew.trans (hb.mono (show W.heap.size ≤ (W.alloc o).heap.size by simp))

set_option maxHeartbeats 400000 in
theorem specFormatInt_pos (n : Nat) (w : World) (hn : n ≤ 9223372036854775807) :
    Calls Tryd.prog 71 #[.int .i64 n] w fun e w' => e = .returned (.string (itoaS n)) ∧ Below w.heap.size w w' := by
  go_enter Tryd.func71, Tryd.ntmps71
  go_wp2
  go_loopw [0, 3] (fun q o wr => ∃ (m : Nat) (out : List UInt8), q = .int .i64 m ∧ m ≤ n ∧ o = .string ⟨out.toArray⟩ ∧ Hid (Lib.decDigits m ++ out = Lib.decDigits n) ∧ out.length ≤ 20 ∧ Below w.heap.size w wr) (fun q _ _ => (intOf q).toNat)
  case atStart => exact ⟨n, [], rfl, Nat.le_refl _, rfl, List.append_nil _, by simp, Below.refl _ _⟩
  case round =>
    obtain ⟨m, out, rfl, hm, rfl, HD, ho, hb⟩ := hrel
    have h20 : (Lib.decDigits n).length ≤ 20 := by rw [Lib.decDigits_length]; exact Lib.nDigits_le20 n (by omega)
    by_cases h9 : 9 < m
    · have hcv := one_byte_new (P := Tryd.prog) Tryd.underlying22 Tryd.underlying5 Tryd.underlying9 (48 + (m : Int) % 10) (by omega) (by omega)
      have hst : Lib.decDigits (m / 10) ++ (UInt8.ofNat (48 + m % 10) :: out) = Lib.decDigits n := by
        rw [← HD.out]; conv => rhs; rw [Lib.decDigits, dif_neg (by omega)]
        simp
      have Hst := Lib.hid hst
      clear hst
      go_wp2
      go_roundw
      case rel =>
        refine ⟨m / 10, UInt8.ofNat (48 + m % 10) :: out, by go_num, by omega, ?_, Hst, ?_, hb.alloc hb.size _⟩
        · congr 1
          rw [show UInt8.ofNat (48 + m % 10) = 48 + UInt8.ofNat (m % 10) by rw [UInt8.ofNat_add]; rfl]
          apply ByteArray.ext; simp
        · have h1 := congrArg List.length Hst.out
          have h3 := Lib.nDigits_pos (m / 10)
          rw [List.length_append, Lib.decDigits_length] at h1
          omega
      case measure => simp [intOf]; omega
    · have hcv := one_byte_new (P := Tryd.prog) Tryd.underlying22 Tryd.underlying5 Tryd.underlying9 (48 + (m : Int)) (by omega) (by omega)
      have hd := HD.out
      rw [Lib.decDigits_one (by omega)] at hd
      have Hd := Lib.hid hd
      clear hd
      go_wp2
      go_ret
      refine ⟨ret_str ?_, hb.alloc hb.size _⟩
      unfold itoaS Lib.itoa
      rw [if_neg (by omega), Int.toNat_natCast, ← Hd.out]
      rw [show UInt8.ofNat (48 + m) = 48 + UInt8.ofNat m by rw [UInt8.ofNat_add]; rfl]
      apply ByteArray.ext; simp

theorem neg_parts (n : Int) (h : n < 0) : ∃ m : Nat, n = -(m : Int) ∧ 0 < m ∧ n.tdiv 10 = -((m / 10 : Nat) : Int) ∧ n.tmod 10 = -((m % 10 : Nat) : Int) := by
  obtain ⟨m, rfl⟩ : ∃ m : Nat, n = -(m : Int) := ⟨(-n).toNat, by omega⟩
  refine ⟨m, rfl, by omega, ?_, ?_⟩
  · rw [Int.neg_tdiv, Int.tdiv_eq_ediv_of_nonneg (by omega)]; rfl
  · rw [Int.neg_tmod, Int.tmod_eq_emod_of_nonneg (by omega)]; rfl
theorem itoa_neg (m : Nat) (h : 0 < m) : Lib.itoa (-(m : Int)) = 45 :: Lib.decDigits m := by
  unfold Lib.itoa
  rw [if_pos (by omega)]; simp
theorem itoaS_one (n : Int) (h0 : n < 0) (h1 : -10 < n) : (⟨#[45]⟩ : ByteArray) ++ ⟨#[UInt8.ofNat (48 - n).toNat]⟩ = itoaS n := by
  obtain ⟨m, rfl, hm, -, -⟩ := neg_parts n h0
  unfold itoaS
  rw [itoa_neg m hm, Lib.decDigits_one (by omega), show (48 - -(m : Int)).toNat = 48 + m by omega]
  apply ByteArray.ext; simp
theorem itoaS_rec (n : Int) (h0 : n ≤ -10) : itoaS (n.tdiv 10) ++ (⟨#[UInt8.ofNat (48 - n.tmod 10).toNat]⟩ : ByteArray) = itoaS n := by
  obtain ⟨m, rfl, hm, hq, hr⟩ := neg_parts n (by omega)
  unfold itoaS
  rw [hq, hr, itoa_neg m hm, itoa_neg (m / 10) (by omega), show (48 - -((m % 10 : Nat) : Int)).toNat = 48 + m % 10 by omega]
  conv => rhs; rw [Lib.decDigits, dif_neg (by omega)]
  apply ByteArray.ext; simp
theorem itoaS_size (n : Int) (h0 : -9223372036854775808 ≤ n) (h1 : n ≤ 9223372036854775807) : (itoaS n).size ≤ 21 := by
  show (Lib.itoa n).toArray.size ≤ 21
  rw [List.size_toArray]; exact Lib.itoa_length_le n h0 h1

set_option maxHeartbeats 400000 in
theorem specFormatInt_one (n : Int) (w : World) (h0 : n < 0) (h1 : -10 < n) :
    Calls Tryd.prog 71 #[.int .i64 n] w fun e w' => e = .returned (.string (itoaS n)) ∧ Below w.heap.size w w' := by
  have hq : n.tdiv 10 = 0 := by
    obtain ⟨m, rfl, hm, hq, -⟩ := neg_parts n h0
    rw [hq]; omega
  have hcv := one_byte_new (P := Tryd.prog) Tryd.underlying22 Tryd.underlying5 Tryd.underlying9 (48 - n) (by omega) (by omega)
  have He := Lib.hid (itoaS_one n h0 h1)
  go_enter Tryd.func71, Tryd.ntmps71
  go_wp2_with fail
  go_ret
  exact ⟨ret_str He.out, (Below.refl _ _).alloc (Nat.le_refl _) _⟩

set_option maxHeartbeats 400000 in
theorem specFormatInt_rec (n : Int) (w : World) (h0 : n ≤ -10) (h1 : -9223372036854775808 ≤ n)
    (ih : Hid (∀ W : World, Calls Tryd.prog 71 #[.int .i64 (n.tdiv 10)] W fun e w' => e = .returned (.string (itoaS (n.tdiv 10))) ∧ Below W.heap.size W w')) :
    Calls Tryd.prog 71 #[.int .i64 n] w fun e w' => e = .returned (.string (itoaS n)) ∧ Below w.heap.size w w' := by
  obtain ⟨m, hnm, hm, hq, hr⟩ := neg_parts n (by omega)
  have q0 : -922337203685477580 ≤ n.tdiv 10 := by omega
  have q1 : n.tdiv 10 ≤ -1 := by omega
  have qz : (n.tdiv 10 == 0) = false := by rw [beq_eq_false_iff_ne]; omega
  have r0 : -9 ≤ n.tmod 10 := by omega
  have r1 : n.tmod 10 ≤ 0 := by omega
  have He := Lib.hid (itoaS_rec n h0)
  have hsz := itoaS_size (n.tdiv 10) (by omega) (by omega)
  have hcv := one_byte_new (P := Tryd.prog) Tryd.underlying22 Tryd.underlying5 Tryd.underlying9 (48 - n.tmod 10) (by omega) (by omega)
  have hca := fun (W : World) (g : Nat) => one_byte_at (P := Tryd.prog) Tryd.underlying22 Tryd.underlying5 Tryd.underlying9 W g (48 - n.tmod 10) (by omega) (by omega)
  clear hnm hq hr hm m
  go_enter Tryd.func71, Tryd.ntmps71
  go_wp2_with fail
  have k1 : IntKind.i64.wrap (n.tdiv 10) = n.tdiv 10 := IntWalk.i64_in _ (by omega)
  have k2 : IntKind.i64.wrap (48 - n.tmod 10) = 48 - n.tmod 10 := IntWalk.i64_in _ (by omega)
  have k3 : IntKind.u8.wrap (48 - n.tmod 10) = 48 - n.tmod 10 := IntWalk.u8_in _ (by omega)
  have k4 : IntKind.i64.wrap (n.tmod 10) = n.tmod 10 := IntWalk.i64_in _ (by omega)
  go_region_with ((go_at_call 71; refine (ih.out _).mono ?_; rintro e w1 ⟨rfl, hb1⟩; first | have hx := keep_new hb1 | have hx := keep_new' hb1 | skip))
  all_goals go_wp2_with fail
  all_goals go_ret
  all_goals first | exact ⟨ret_str He.out, end_a hb1 _⟩ | exact ⟨ret_str He.out, end_b hb1⟩

theorem specFormatInt_k : ∀ (k : Nat) (n : Int) (w : World), n.natAbs < k → -9223372036854775808 ≤ n → n ≤ 9223372036854775807 →
    Calls Tryd.prog 71 #[.int .i64 n] w fun e w' => e = .returned (.string (itoaS n)) ∧ Below w.heap.size w w'
  | 0, n, w, hk, _, _ => by omega
  | k + 1, n, w, hk, h0, h1 => by
    by_cases hp : 0 ≤ n
    · obtain ⟨m, rfl⟩ : ∃ m : Nat, n = m := ⟨n.toNat, by omega⟩
      exact specFormatInt_pos m w (by omega)
    · by_cases h10 : -10 < n
      · exact specFormatInt_one n w (by omega) h10
      · refine specFormatInt_rec n w (by omega) h0 (fun W => ?_)
        obtain ⟨m, hnm, hm, hq, -⟩ := neg_parts n (by omega)
        exact specFormatInt_k k _ W (by omega) (by omega) (by omega)
theorem specFormatInt (n : Int) (w : World) (h0 : -9223372036854775808 ≤ n) (h1 : n ≤ 9223372036854775807) :
    Calls Tryd.prog 71 #[.int .i64 n] w fun e w' => e = .returned (.string (itoaS n)) ∧ Below w.heap.size w w' :=
  specFormatInt_k (n.natAbs + 1) n w (by omega) h0 h1
end Go.Proofs.YtfkojahoaljiaaaDoor
