/- The program's tables that are made by a function. -/
import Derived.Test.YtlehdmflnglipaaMonoid
import Derived.Test.YtlehdmflnglipaaGridPlain
import Derived.Deep.RegionHeld3
import Derived.Deep.RegionLaw
import Derived.Deep.AppendLies
namespace Go.Proofs.Ytlehdmflnglipaa
open Go.RowKit

theorem run_rowG (g off N : Nat) (h40 : N ≤ 40) (w : World) : Sem.run Try.prog (Instr.sliceAt 42 (.pointer (some ⟨g, off, none⟩)) none (some (.int .i64 (N : Int))) none) w = .ok (.slice (some ⟨g, off, none⟩) N 40) w := by
  have hL : Try.prog.arrayLen 42 = 40 := by kernel_rfl
  have hs : ∀ w, Sem.run Try.prog (sizeOf (Try.prog.elem 42)) w = .ok 1 w := fun w => by kernel_rfl
  rw [run_sliceAt_array_h w 42 ⟨g, off, none⟩ (by kernel_rfl) .i64 (N : Int) (by omega) (by rw [hL]; omega), hs, hL]
  simp [slicedAt, Addr.add]
theorem ownsRow_sameG {W w : World} {base n : Nat} {e : TypeId} {size : Nat} {v : Value} {xs : List Value} (h : W.ownsRow base e size v n xs) (hk : ∀ b, base ≤ b → w.heap[b]? = W.heap[b]?) : w.ownsRow base e size v n xs := by
  obtain ⟨hl, h2⟩ := h
  refine ⟨hl, ?_⟩
  rcases h2 with ⟨rfl, rfl⟩ | ⟨g, cap, cur, rfl, hg, hh, r⟩
  · exact .inl ⟨rfl, rfl⟩
  · exact .inr ⟨g, cap, cur, rfl, hg, (hk g hg).trans hh, r⟩
theorem gridRow_get {f : Nat → Nat → Nat} {i N j : Nat} (h : j < N) : (ints (gridRow f i N))[j]? = some (.int .i64 (f i j : Nat)) := by simp [ints, gridRow, h]
set_option maxRecDepth 100000 in
set_option maxHeartbeats 1600000 in
theorem monTable_any (g N : Nat) (f : Nat → Nat → Nat) (w : World) (h : MonAt w g N (grid N f)) (h1 : 1 ≤ N) (h40 : N ≤ 40) :
    Calls Try.prog 39 #[.pointer (some ⟨g, 0, none⟩)] w fun e w' => ∃ A c, e = .returned (tabV N A (N * N) c) ∧ Own w.heap.size w' (.slice A (N * N) c) 1 (N * N) (ints (grid N f)) ∧ Below w.heap.size w w' := by
  obtain ⟨i0, hi0, hz0, hz1, hz2⟩ := infoR_parts infoInt
  have hrow := fun off w => run_rowG g off N h40 w
  have HM := Lib.hid (fun (w' : World) (hb : Below w.heap.size w w') => h.below hb)
  have x0 := h.size
  have hgl := h.lt
  clear h
  have hsq := sq_le h40
  have x1 : (w.alloc (.cells #[.int .i64 0, .slice none 0 0] 27)).cell? ⟨g, 0, none⟩ = some (.int .i64 N) := (HM.out _ (bel1 w _)).size
  have HT0 := Lib.hid (Blk.new2 w (.cells #[.int .i64 0, .slice none 0 0] 27) #[.int .i64 (N : Int), .slice none 0 0] 27)
  have b0 := bel2 w (.cells #[.int .i64 0, .slice none 0 0] 27) (.cells #[.int .i64 (N : Int), .slice none 0 0] 27)
  have x2 := (HM.out _ b0).size
  have hs0 : ((w.alloc (.cells #[.int .i64 0, .slice none 0 0] 27)).alloc (.cells #[.int .i64 (N : Int), .slice none 0 0] 27)).heap.size = w.heap.size + 2 := by simp
  go_enter Try.func39, Try.ntmps39
  go_wp2_with fail
  have HZ0 := Lib.hid ((Blk.new1 w #[.int .i64 0, .slice none 0 0] 27).alloc (.cells #[.int .i64 (N : Int), .slice none 0 0] 27))
  have HR0 := Lib.hid (World.ownsRow_nil ((w.alloc (.cells #[.int .i64 0, .slice none 0 0] 27)).alloc (.cells #[.int .i64 (N : Int), .slice none 0 0] 27)) (w.heap.size + 2) 3 1)
  clear x0 x1 x2
  generalize (w.alloc (.cells #[.int .i64 0, .slice none 0 0] 27)).alloc (.cells #[.int .i64 (N : Int), .slice none 0 0] 27) = w1 at *
  have hs1 : w.heap.size + 2 ≤ w1.heap.size := by omega
  clear hs0
  go_loopw [14] (fun q wr => ∃ (i : Nat) (vv : Value), q = .int .i64 i ∧ i ≤ N ∧ Hid (Blk wr (w.heap.size + 1) 27 #[.int .i64 (N : Int), vv]) ∧ Hid (Blk wr w.heap.size 27 #[.int .i64 0, .slice none 0 0]) ∧ Hid (wr.ownsRow (w.heap.size + 2) 3 1 vv (i * N) (ints (gridTo N f i))) ∧ Below w.heap.size w wr ∧ w.heap.size + 2 ≤ wr.heap.size) (fun q _ => N - (intOf q).toNat)
  case atStart => exact ⟨0, _, rfl, Nat.zero_le _, HT0, HZ0, by simpa [gridTo, ints] using HR0, b0, hs1⟩
  case round =>
    clear HR0 HT0 HZ0 b0 hs1
    obtain ⟨i, vv, rfl, hi, HT, HZ, HR, hb, hs⟩ := hrel
    by_cases hlt : i < N
    · have HM1 := Lib.hid (HM.out _ hb)
      have x0 := HM1.out.size
      have hiN := row_le hlt h40
      obtain ⟨A9, c9, hv9⟩ := (Own.of_row HR.out).form
      subst hv9
      have t1 : wr.cell? ⟨w.heap.size + 1, 1, none⟩ = some (.slice A9 (i * N) c9) := HT.out.cell 1
      have tl6 := HT.out.lt
      have hnews : ∀ j x, (ints (gridRow f i N))[j]? = some x → wr.drew.cell? ((⟨g, 1 + i * 40, none⟩ : Addr).add j) = some x := fun j x hx => by
        have hj : j < N := by have := (List.getElem?_eq_some_iff.1 hx).1; rw [ints_length, gridRow_len] at this; exact this
        have hrw := HM1.out.row i j hlt hj
        rw [grid_tat hlt hj] at hrw
        rw [gridRow_get hj] at hx
        rw [show ((⟨g, 1 + i * 40, none⟩ : Addr).add j) = ⟨g, 1 + i * 40 + j, none⟩ by unfold Addr.add; split <;> simp_all]
        exact hrw.trans hx
      have hone : ∀ x ∈ ints (gridRow f i N), x.oneCell' = true := fun x hx => by
        unfold ints at hx; rw [List.mem_map] at hx; obtain ⟨y, _, rfl⟩ := hx; rfl
      have HR8 : Hid (wr.drew.ownsRow (w.heap.size + 2) 3 1 (.slice A9 (i * N) c9) (i * N) (ints (gridTo N f i))) := HR.out
      have HB9 : Hid (∀ w9, wr.drew.grownBy w9 (Value.slice A9 (i * N) c9).ownBlock → Blk w9 (w.heap.size + 1) 27 #[.int .i64 (N : Int), .slice A9 (i * N) c9] ∧ Blk w9 w.heap.size 27 #[.int .i64 0, .slice none 0 0]) := fun w9 hg =>
        ⟨(hg.block _ (by show _ < wr.heap.size; omega) (fun h => by have := ownsRow_ge HR.out h; omega)).trans HT.out, (hg.block _ (by show _ < wr.heap.size; omega) (fun h => by have := ownsRow_ge HR.out h; omega)).trans HZ.out⟩
      have hi0' : (0 : Int) ≤ (i : Int) := by omega
      have hi40 : (i : Int) < 40 := by omega
      go_wp2_with fail
      go_region_law (refine (id ?_); rw [if_pos (by simp [Region.wanted])]; refine wp_append_lies _ (.tmp 18) (.tmp 28) 22 rfl (w.heap.size + 2) 3 i0 (.int .i64 0) 1 8 Try.underlying22 hi0 hz0 hz1 hz2 rfl (by omega) (.slice A9 (i * N) c9) (i * N) (ints (gridTo N f i)) (by first | rfl | simp [Act.eval, Act.put]) HR8.out ⟨g, 1 + i * 40, none⟩ N 40 (ints (gridRow f i N)) (by first | rfl | simp [Act.eval, Act.put]) (by rw [ints_length, gridRow_len, Nat.mul_one]) hnews hone (by omega) (by unfold maxLen; omega) (by omega) (by show _ ≤ wr.heap.size; exact hs) _ rfl ?_; intro g9 cp9 w9 hown9 hgrow9 hat9 hlt9; have z1 : w9.cell? ⟨w.heap.size + 1, 1, none⟩ = some (.slice A9 (i * N) c9) := (HB9.out w9 hgrow9).1.cell 1; have zf : w9.frozen? ⟨w.heap.size + 1, 1, none⟩ = false := (HB9.out w9 hgrow9).1.frozen 1)
      all_goals (
        have HT9 := (HB9.out w9 hgrow9).1
        have HZ9 := (HB9.out w9 hgrow9).2
        have HT10 : Hid (Blk (w9.setCell ⟨w.heap.size + 1, 1, none⟩ (.slice (some ⟨g9, 0, none⟩) (i * N + N) cp9)) (w.heap.size + 1) 27 #[.int .i64 (N : Int), .slice (some ⟨g9, 0, none⟩) (i * N + N) cp9]) := HT9.set_ 1 _
        have HZ10 : Hid (Blk (w9.setCell ⟨w.heap.size + 1, 1, none⟩ (.slice (some ⟨g9, 0, none⟩) (i * N + N) cp9)) w.heap.size 27 #[.int .i64 0, .slice none 0 0]) := HZ9.far (by show w.heap.size ≠ w.heap.size + 1; omega) _
        have HR10 : Hid ((w9.setCell ⟨w.heap.size + 1, 1, none⟩ (.slice (some ⟨g9, 0, none⟩) (i * N + N) cp9)).ownsRow (w.heap.size + 2) 3 1 (.slice (some ⟨g9, 0, none⟩) (i * N + N) cp9) ((i + 1) * N) (ints (gridTo N f (i + 1)))) := by
          show World.ownsRow _ _ _ _ _ _ _
          rw [gridTo_succ, Nat.succ_mul]
          refine ownsRow_sameG (W := w9) ?_ (fun b hb => Below.heap_setCell w9 ⟨w.heap.size + 1, 1, none⟩ _ b (by show b ≠ w.heap.size + 1; omega))
          simpa [ints] using hown9
        have b9 : Below w.heap.size w w9 := hb.drew.grown hgrow9 (by show _ ≤ wr.heap.size; omega) (fun k hk => by have := ownsRow_ge HR.out hk.symm; omega)
        have b10 := b9.setCell (p := ⟨w.heap.size + 1, 1, none⟩) (by show w.heap.size ≤ w.heap.size + 1; omega) (.slice (some ⟨g9, 0, none⟩) (i * N + N) cp9)
        have hs10 : w.heap.size + 2 ≤ (w9.setCell ⟨w.heap.size + 1, 1, none⟩ (.slice (some ⟨g9, 0, none⟩) (i * N + N) cp9)).heap.size := by have h9 := hgrow9.size; have h8 : wr.drew.heap.size = wr.heap.size := rfl; simp; omega
        clear hown9 hgrow9 hat9 z1 zf HT9 b9 hnews HR8 t1
        go_wp2_with fail
        go_roundw
        case rel => exact ⟨i + 1, _, by go_num, by omega, HT10, HZ10, HR10, b10, hs10⟩
        case measure => simp [intOf]; omega)
    · obtain rfl : N = i := by omega
      obtain ⟨A9, c9, hv9⟩ := (Own.of_row HR.out).form
      subst hv9
      have HO := Lib.hid ((Own.of_row HR.out).mono (by omega : w.heap.size + 1 ≤ w.heap.size + 2))
      obtain ⟨t0, t1, -, -, tl⟩ := HT.out.two
      obtain ⟨z0, z1, zf0, zf1, zl⟩ := HZ.out.two
      go_wp2_with fail
      refine bodyPost_ret (v := tabV N A9 (N * N) c9) (by simp [results, Try.results39, go_sem, *]) rfl ⟨A9, c9, rfl, ?_, ?_⟩
      · exact ((HO.out.far (by show w.heap.size < w.heap.size + 1; omega) _).far (by show w.heap.size < w.heap.size + 1; omega) _).mono (by omega)
      · exact (hb.setCell (Nat.le_refl _) _).setCell (Nat.le_refl _) _

set_option maxRecDepth 100000 in
set_option maxHeartbeats 1600000 in
theorem multipliedOpp (N D c' : Nat) (p : Nat) (E : Option Addr) (f : Nat → Nat → Nat) (w : World)
    (hcall : ∀ (w' : World) (i k : Nat), Below w.heap.size w w' → i < N → k < N → Calls Try.prog 26 #[.int .i64 (i : Int), .int .i64 (k : Int), .pointer (some ⟨p, 0, none⟩)] w' fun e w'' => e = .returned (.int .i64 (f i k : Nat)) ∧ ∃ m, w'' = w'.drewN m)
    (hr : ∀ i k, i < N → k < N → f i k < N) (hE : Own D w (.slice E N c') 1 N (ints (upTo N))) (h1 : 1 ≤ N) (h40 : N ≤ 40) :
    Calls Try.prog 32 #[.slice E N c', .func (.func 26) #[] #[.pointer (some ⟨p, 0, none⟩)]] w fun e w' => e = .returned (.tuple #[.pointer (some ⟨w.heap.size, 0, none⟩), .bool true]) ∧ MonAt w' w.heap.size N (grid N f) ∧ Below w.heap.size w w' := by
  have hbuild := zero_mon
  have hne := monZ_ne
  obtain ⟨g, off, c0, hv⟩ := hE.formR (by omega)
  obtain ⟨rfl, rfl⟩ : E = some ⟨g, off, none⟩ ∧ c' = c0 := by injection hv with a _ b; exact ⟨a, b⟩
  clear hv
  have HE := Lib.hid hE
  have HC := Lib.hid hcall
  have HR := Lib.hid hr
  clear hcall hE hr
  have hc0 : (w.alloc (.cells (monZ.setIfInBounds 0 (.int .i64 N)) 45)).cell? ⟨w.heap.size, 0, none⟩ = some (.int .i64 N) := (MonTo.start w N (grid N f)).size
  go_enter Try.func32, Try.ntmps32
  go_wp2_with fail
  have M0 := Lib.hid (MonTo.start w N (grid N f))
  have b0 := bel1 w (.cells (mon0 N) 45)
  change Hid (MonTo (w.alloc (.cells (monZ.setIfInBounds 0 (.int .i64 N)) 45)) w.heap.size N 0 0 (grid N f)) at M0
  change Below w.heap.size w (w.alloc (.cells (monZ.setIfInBounds 0 (.int .i64 N)) 45)) at b0
  clear hbuild hne
  generalize w.alloc (.cells (monZ.setIfInBounds 0 (.int .i64 N)) 45) = w1 at *
  clear hc0
  have HE1 := Lib.hid (fun (w' : World) (hb : Below w.heap.size w w') => HE.out.below hb)
  clear HE
  go_loopw [18] (fun i' wr => ∃ i : Nat, i' = .int .i64 i ∧ i ≤ N ∧ Hid (MonTo wr w.heap.size N i 0 (grid N f)) ∧ Below w.heap.size w wr) (fun i' _ => N - (intOf i').toNat)
  case atStart => exact ⟨0, rfl, Nat.zero_le _, M0, b0⟩
  case round =>
    clear M0 b0
    obtain ⟨i, rfl, hi, HM, hb⟩ := hrel
    by_cases hlt : i < N
    · have hs0 := HM.out.size
      go_wp2_with fail
      clear hs0
      obtain ⟨wo, rfl⟩ : ∃ y : World, y = wr := ⟨_, rfl⟩
      go_loopw [25] (fun i' wr => ∃ k : Nat, i' = .int .i64 k ∧ k ≤ N ∧ Hid (MonTo wr w.heap.size N i k (grid N f)) ∧ Below w.heap.size w wr) (fun i' _ => N - (intOf i').toNat)
      case atStart => exact ⟨0, rfl, Nat.zero_le _, HM, hb⟩
      case round =>
        clear HM hb
        obtain ⟨k, rfl, hk, HM2, hb2⟩ := hrel
        by_cases hkl : k < N
        · obtain ⟨s1, hs1, hx1⟩ := (HE1.out _ hb2).iget hlt
          obtain ⟨s2, hs2, hx2⟩ := (HE1.out _ hb2).iget hkl
          rw [upTo_get hlt] at hs1
          rw [upTo_get hkl] at hs2
          obtain rfl := Option.some.inj hs1
          obtain rfl := Option.some.inj hs2
          clear hs1 hs2
          have hfl := HR.out i k hlt hkl
          have Hg := Lib.hid (grid_tat (f := f) hlt hkl)
          have HT := Lib.hid (fun m => HC.out (wr.drewN m) i k (below_drewN hb2 m) hlt hkl)
          generalize f i k = U at *
          go_wp2_with fail
          have HX := Lib.hid (fun (v : Int) m => indexInt_any (some ⟨g, off, none⟩) N c' D v (upTo N) (wr.drewN m) (HE1.out _ (below_drewN hb2 m)) |>.mono fun e w' (h : _ ∧ _ = w') => (⟨h.1, h.2.symm⟩ : _ ∧ w' = wr.drewN m))
          go_quiet ((first | (go_at_call 26; refine Calls.quiet_of (HT.out _)) | (go_at_call 40; refine Calls.quiet_of_same (HX.out _ _))))
          clear hx1 hx2 HT HX
          have Hi := Lib.hid (idx_upTo (n := N) (v := (U : Int)) ⟨by omega, by omega⟩)
          have HM3 := Lib.hid ((HM2.out.drewN nq).set_ h40 hlt hkl)
          rw [Hg.out] at HM3
          have hb3 := (below_drewN hb2 nq).setCell (p := ⟨w.heap.size, 1 + i * 40 + k, none⟩) (Nat.le_refl _) (.int .i64 (U : Int))
          obtain ⟨⟨old, y0⟩, y1⟩ := (HM2.out.drewN nq).at_ (show i < 40 by omega) (show k < 40 by omega)
          rw [Hi.out]
          generalize wr.drewN nq = w5 at *
          go_wp2_with fail
          go_roundw
          case rel => exact ⟨k + 1, by go_num, by omega, HM3, hb3⟩
          case measure => simp [intOf]; omega
        · obtain rfl : N = k := by omega
          have HM3 := Lib.hid HM2.out.next
          go_wp2_with fail
          go_roundw
          case rel => exact ⟨i + 1, by go_num, by omega, HM3, hb2⟩
          case measure => simp [intOf]; omega
    · obtain rfl : N = i := by omega
      have HD := Lib.hid HM.out.done
      go_wp2_with fail
      go_ret2
      exact ⟨rfl, HD.out, hb⟩
set_option maxRecDepth 100000 in
set_option maxHeartbeats 1600000 in
theorem tableByOpp (N : Nat) (p : Nat) (f : Nat → Nat → Nat) (w : World)
    (hcall : ∀ (w' : World) (i k : Nat), Below w.heap.size w w' → i < N → k < N → Calls Try.prog 26 #[.int .i64 (i : Int), .int .i64 (k : Int), .pointer (some ⟨p, 0, none⟩)] w' fun e w'' => e = .returned (.int .i64 (f i k : Nat)) ∧ ∃ m, w'' = w'.drewN m)
    (hr : ∀ i k, i < N → k < N → f i k < N) (h1 : 1 ≤ N) (h40 : N ≤ 40) :
    Calls Try.prog 25 #[.int .i64 (N : Int), .func (.func 26) #[] #[.pointer (some ⟨p, 0, none⟩)]] w fun e w' => ∃ A c, e = .returned (tabV N A (N * N) c) ∧ Own w.heap.size w' (.slice A (N * N) c) 1 (N * N) (ints (grid N f)) ∧ Below w.heap.size w w' := by
  have HC := Lib.hid hcall
  have HR := Lib.hid hr
  have b1 := bel1 w (.cells #[.int .i64 0, .slice none 0 0] 27)
  have HZ1 := Lib.hid (Blk.new1 w #[.int .i64 0, .slice none 0 0] 27)
  clear hcall hr
  go_enter Try.func25, Try.ntmps25
  go_wp2_with fail
  generalize w.alloc (.cells #[.int .i64 0, .slice none 0 0] 27) = w1 at *
  refine (numbersUpTo_any N _ h40).mono ?_
  rintro e w2 ⟨v2, rfl, o2, hb2⟩
  obtain ⟨E, c2, rfl⟩ := o2.form
  have b2 := b1.trans (hb2.mono b1.size)
  have HZ2 := Lib.hid (HZ1.out.below hb2 HZ1.out.lt)
  have E2 := Lib.hid o2
  clear hb2 o2 HZ1
  go_wp2_with fail
  refine (multipliedOpp N _ c2 p E f w2 (fun w' i k hb hi hk => HC.out w' i k (b2.trans (hb.mono b2.size)) hi hk) HR.out E2.out h1 h40).mono ?_
  rintro e w3 ⟨rfl, hM, hb3⟩
  have b3 := b2.trans (hb3.mono b2.size)
  have HM := Lib.hid hM
  have HZ3 := Lib.hid (HZ2.out.below hb3 HZ2.out.lt)
  have hw3 := b2.size
  clear hb3 hM E2 HZ2
  go_wp2_with fail
  refine (monTable_any _ N f w3 HM.out h1 h40).mono ?_
  rintro e w4 ⟨A4, c4, rfl, o4, hb4⟩
  have b4 := b3.trans (hb4.mono b3.size)
  have HZ4 := Lib.hid (HZ3.out.below hb4 HZ3.out.lt)
  have hlt3 : w.heap.size < w3.heap.size := HZ3.out.lt
  have O4 := Lib.hid o4
  clear hb4 o4 HZ3 HM
  obtain ⟨z0, z1, zf0, zf1, zl⟩ := HZ4.out.two
  go_wp2_with fail
  refine bodyPost_ret (v := tabV N A4 (N * N) c4) (by simp [results, Try.results25, go_sem, *]) rfl ⟨A4, c4, rfl, ?_, ?_⟩
  · exact ((O4.out.far (by show w.heap.size < _; exact hlt3) _).far (by show w.heap.size < _; exact hlt3) _).mono (by omega)
  · exact (b4.setCell (Nat.le_refl _) _).setCell (Nat.le_refl _) _
set_option maxRecDepth 100000 in
set_option maxHeartbeats 1600000 in
theorem multipliedProd (N D c' : Nat) (p p2 : Nat) (E : Option Addr) (f : Nat → Nat → Nat) (w : World)
    (hcall : ∀ (w' : World) (i k : Nat), Below w.heap.size w w' → i < N → k < N → Calls Try.prog 29 #[.int .i64 (i : Int), .int .i64 (k : Int), .pointer (some ⟨p, 0, none⟩), .pointer (some ⟨p2, 0, none⟩)] w' fun e w'' => e = .returned (.int .i64 (f i k : Nat)) ∧ ∃ m, w'' = w'.drewN m)
    (hr : ∀ i k, i < N → k < N → f i k < N) (hE : Own D w (.slice E N c') 1 N (ints (upTo N))) (h1 : 1 ≤ N) (h40 : N ≤ 40) :
    Calls Try.prog 32 #[.slice E N c', .func (.func 29) #[] #[.pointer (some ⟨p, 0, none⟩), .pointer (some ⟨p2, 0, none⟩)]] w fun e w' => e = .returned (.tuple #[.pointer (some ⟨w.heap.size, 0, none⟩), .bool true]) ∧ MonAt w' w.heap.size N (grid N f) ∧ Below w.heap.size w w' := by
  have hbuild := zero_mon
  have hne := monZ_ne
  obtain ⟨g, off, c0, hv⟩ := hE.formR (by omega)
  obtain ⟨rfl, rfl⟩ : E = some ⟨g, off, none⟩ ∧ c' = c0 := by injection hv with a _ b; exact ⟨a, b⟩
  clear hv
  have HE := Lib.hid hE
  have HC := Lib.hid hcall
  have HR := Lib.hid hr
  clear hcall hE hr
  have hc0 : (w.alloc (.cells (monZ.setIfInBounds 0 (.int .i64 N)) 45)).cell? ⟨w.heap.size, 0, none⟩ = some (.int .i64 N) := (MonTo.start w N (grid N f)).size
  go_enter Try.func32, Try.ntmps32
  go_wp2_with fail
  have M0 := Lib.hid (MonTo.start w N (grid N f))
  have b0 := bel1 w (.cells (mon0 N) 45)
  change Hid (MonTo (w.alloc (.cells (monZ.setIfInBounds 0 (.int .i64 N)) 45)) w.heap.size N 0 0 (grid N f)) at M0
  change Below w.heap.size w (w.alloc (.cells (monZ.setIfInBounds 0 (.int .i64 N)) 45)) at b0
  clear hbuild hne
  generalize w.alloc (.cells (monZ.setIfInBounds 0 (.int .i64 N)) 45) = w1 at *
  clear hc0
  have HE1 := Lib.hid (fun (w' : World) (hb : Below w.heap.size w w') => HE.out.below hb)
  clear HE
  go_loopw [18] (fun i' wr => ∃ i : Nat, i' = .int .i64 i ∧ i ≤ N ∧ Hid (MonTo wr w.heap.size N i 0 (grid N f)) ∧ Below w.heap.size w wr) (fun i' _ => N - (intOf i').toNat)
  case atStart => exact ⟨0, rfl, Nat.zero_le _, M0, b0⟩
  case round =>
    clear M0 b0
    obtain ⟨i, rfl, hi, HM, hb⟩ := hrel
    by_cases hlt : i < N
    · have hs0 := HM.out.size
      go_wp2_with fail
      clear hs0
      obtain ⟨wo, rfl⟩ : ∃ y : World, y = wr := ⟨_, rfl⟩
      go_loopw [25] (fun i' wr => ∃ k : Nat, i' = .int .i64 k ∧ k ≤ N ∧ Hid (MonTo wr w.heap.size N i k (grid N f)) ∧ Below w.heap.size w wr) (fun i' _ => N - (intOf i').toNat)
      case atStart => exact ⟨0, rfl, Nat.zero_le _, HM, hb⟩
      case round =>
        clear HM hb
        obtain ⟨k, rfl, hk, HM2, hb2⟩ := hrel
        by_cases hkl : k < N
        · obtain ⟨s1, hs1, hx1⟩ := (HE1.out _ hb2).iget hlt
          obtain ⟨s2, hs2, hx2⟩ := (HE1.out _ hb2).iget hkl
          rw [upTo_get hlt] at hs1
          rw [upTo_get hkl] at hs2
          obtain rfl := Option.some.inj hs1
          obtain rfl := Option.some.inj hs2
          clear hs1 hs2
          have hfl := HR.out i k hlt hkl
          have Hg := Lib.hid (grid_tat (f := f) hlt hkl)
          have HT := Lib.hid (fun m => HC.out (wr.drewN m) i k (below_drewN hb2 m) hlt hkl)
          generalize f i k = U at *
          go_wp2_with fail
          have HX := Lib.hid (fun (v : Int) m => indexInt_any (some ⟨g, off, none⟩) N c' D v (upTo N) (wr.drewN m) (HE1.out _ (below_drewN hb2 m)) |>.mono fun e w' (h : _ ∧ _ = w') => (⟨h.1, h.2.symm⟩ : _ ∧ w' = wr.drewN m))
          go_quiet ((first | (go_at_call 29; refine Calls.quiet_of (HT.out _)) | (go_at_call 40; refine Calls.quiet_of_same (HX.out _ _))))
          clear hx1 hx2 HT HX
          have Hi := Lib.hid (idx_upTo (n := N) (v := (U : Int)) ⟨by omega, by omega⟩)
          have HM3 := Lib.hid ((HM2.out.drewN nq).set_ h40 hlt hkl)
          rw [Hg.out] at HM3
          have hb3 := (below_drewN hb2 nq).setCell (p := ⟨w.heap.size, 1 + i * 40 + k, none⟩) (Nat.le_refl _) (.int .i64 (U : Int))
          obtain ⟨⟨old, y0⟩, y1⟩ := (HM2.out.drewN nq).at_ (show i < 40 by omega) (show k < 40 by omega)
          rw [Hi.out]
          generalize wr.drewN nq = w5 at *
          go_wp2_with fail
          go_roundw
          case rel => exact ⟨k + 1, by go_num, by omega, HM3, hb3⟩
          case measure => simp [intOf]; omega
        · obtain rfl : N = k := by omega
          have HM3 := Lib.hid HM2.out.next
          go_wp2_with fail
          go_roundw
          case rel => exact ⟨i + 1, by go_num, by omega, HM3, hb2⟩
          case measure => simp [intOf]; omega
    · obtain rfl : N = i := by omega
      have HD := Lib.hid HM.out.done
      go_wp2_with fail
      go_ret2
      exact ⟨rfl, HD.out, hb⟩
set_option maxRecDepth 100000 in
set_option maxHeartbeats 1600000 in
theorem tableByProd (N : Nat) (p p2 : Nat) (f : Nat → Nat → Nat) (w : World)
    (hcall : ∀ (w' : World) (i k : Nat), Below w.heap.size w w' → i < N → k < N → Calls Try.prog 29 #[.int .i64 (i : Int), .int .i64 (k : Int), .pointer (some ⟨p, 0, none⟩), .pointer (some ⟨p2, 0, none⟩)] w' fun e w'' => e = .returned (.int .i64 (f i k : Nat)) ∧ ∃ m, w'' = w'.drewN m)
    (hr : ∀ i k, i < N → k < N → f i k < N) (h1 : 1 ≤ N) (h40 : N ≤ 40) :
    Calls Try.prog 25 #[.int .i64 (N : Int), .func (.func 29) #[] #[.pointer (some ⟨p, 0, none⟩), .pointer (some ⟨p2, 0, none⟩)]] w fun e w' => ∃ A c, e = .returned (tabV N A (N * N) c) ∧ Own w.heap.size w' (.slice A (N * N) c) 1 (N * N) (ints (grid N f)) ∧ Below w.heap.size w w' := by
  have HC := Lib.hid hcall
  have HR := Lib.hid hr
  have b1 := bel1 w (.cells #[.int .i64 0, .slice none 0 0] 27)
  have HZ1 := Lib.hid (Blk.new1 w #[.int .i64 0, .slice none 0 0] 27)
  clear hcall hr
  go_enter Try.func25, Try.ntmps25
  go_wp2_with fail
  generalize w.alloc (.cells #[.int .i64 0, .slice none 0 0] 27) = w1 at *
  refine (numbersUpTo_any N _ h40).mono ?_
  rintro e w2 ⟨v2, rfl, o2, hb2⟩
  obtain ⟨E, c2, rfl⟩ := o2.form
  have b2 := b1.trans (hb2.mono b1.size)
  have HZ2 := Lib.hid (HZ1.out.below hb2 HZ1.out.lt)
  have E2 := Lib.hid o2
  clear hb2 o2 HZ1
  go_wp2_with fail
  refine (multipliedProd N _ c2 p p2 E f w2 (fun w' i k hb hi hk => HC.out w' i k (b2.trans (hb.mono b2.size)) hi hk) HR.out E2.out h1 h40).mono ?_
  rintro e w3 ⟨rfl, hM, hb3⟩
  have b3 := b2.trans (hb3.mono b2.size)
  have HM := Lib.hid hM
  have HZ3 := Lib.hid (HZ2.out.below hb3 HZ2.out.lt)
  have hw3 := b2.size
  clear hb3 hM E2 HZ2
  go_wp2_with fail
  refine (monTable_any _ N f w3 HM.out h1 h40).mono ?_
  rintro e w4 ⟨A4, c4, rfl, o4, hb4⟩
  have b4 := b3.trans (hb4.mono b3.size)
  have HZ4 := Lib.hid (HZ3.out.below hb4 HZ3.out.lt)
  have hlt3 : w.heap.size < w3.heap.size := HZ3.out.lt
  have O4 := Lib.hid o4
  clear hb4 o4 HZ3 HM
  obtain ⟨z0, z1, zf0, zf1, zl⟩ := HZ4.out.two
  go_wp2_with fail
  refine bodyPost_ret (v := tabV N A4 (N * N) c4) (by simp [results, Try.results25, go_sem, *]) rfl ⟨A4, c4, rfl, ?_, ?_⟩
  · exact ((O4.out.far (by show w.heap.size < _; exact hlt3) _).far (by show w.heap.size < _; exact hlt3) _).mono (by omega)
  · exact (b4.setCell (Nat.le_refl _) _).setCell (Nat.le_refl _) _
end Go.Proofs.Ytlehdmflnglipaa
