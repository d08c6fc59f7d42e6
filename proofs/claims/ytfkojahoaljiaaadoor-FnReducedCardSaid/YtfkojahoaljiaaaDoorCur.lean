/- The laws' drawing cursor: l01New, l01Byte, l31New. -/
import Derived.Test.YtfkojahoaljiaaaDoorBase
import Derived.Laws.Rows
import Derived.Deep.QuietTactic
import Derived.BigQuiet
import Derived.IntWalk
import Derived.Lib.SmallJoins
namespace Go.Proofs.YtfkojahoaljiaaaDoor
open Go.RowKit Go.Joins

/-- A slice of bytes that came in. -/
def InB (w : World) (A : Option Addr) (n c : Nat) : Prop :=
  n ≤ c ∧ c ≤ maxLen ∧ ∀ k, k < n → ∃ a z, A = some a ∧ a.block < w.heap.size ∧ w.cell? (a.add k) = some (.int .u8 z) ∧ 0 ≤ z ∧ z ≤ 255
/-- Block g is a cursor over such a slice. -/
def Cur (w : World) (g : Nat) (A : Option Addr) (n c : Nat) : Prop :=
  n ≤ 1048576 ∧ n ≤ c ∧ c ≤ maxLen ∧ (∀ k, k < n → ∃ a z, A = some a ∧ a.block < g ∧ w.cell? (a.add k) = some (.int .u8 z) ∧ 0 ≤ z ∧ z ≤ 255) ∧
    ∃ i h : Int, 0 ≤ i ∧ i ≤ n ∧ w.heap[g]? = some (.cells #[.slice A n c, .int .i64 i, .int .i64 h] 76 (0, 0))
theorem addr_block (a : Addr) (k : Nat) : (a.add k).block = a.block := by unfold Addr.add; split <;> rfl
theorem Cur.lt {w : World} {g : Nat} {A : Option Addr} {n c : Nat} (h : Cur w g A n c) : g < w.heap.size := by
  obtain ⟨_, _, _, _, i, hh, _, _, hg⟩ := h
  exact (Array.getElem?_eq_some_iff.1 hg).1
/-- The cursor stays where another block is written. -/
theorem Cur.keep {w w' : World} {g : Nat} {A : Option Addr} {n c : Nat} (h : Cur w g A n c) (hb : ∀ k, k ≤ g → w'.heap[k]? = w.heap[k]?) : Cur w' g A n c := by
  obtain ⟨h1, h2, h3, h4, i, hh, h5, h6, hg⟩ := h
  refine ⟨h1, h2, h3, fun k hk => ?_, i, hh, h5, h6, (hb g (Nat.le_refl _)).trans hg⟩
  obtain ⟨a, z, e, hlt, hc, hz⟩ := h4 k hk
  exact ⟨a, z, e, hlt, (World.cell?_of_block (w := w) (hb _ (by rw [addr_block]; omega))).trans hc, hz⟩
theorem Cur.below {w w' : World} {g : Nat} {A : Option Addr} {n c : Nat} (h : Cur w g A n c) (hb : Below w.heap.size w w') : Cur w' g A n c :=
  h.keep fun k hk => hb.block k (by have := h.lt; omega)

theorem grown_trans' {a b c : World} {g : Nat} (h : a.grownBy b (some g)) (k : b.grownBy c (some g)) : a.grownBy c (some g) :=
  ⟨k.os.trans h.os, k.tape.trans h.tape, k.output.trans h.output, Nat.le_trans h.size k.size, fun i hi hne => (k.block i (Nat.lt_of_lt_of_le hi h.size) hne).trans (h.block i hi hne)⟩
theorem grown_drewN {a b : World} {g : Nat} (h : a.grownBy b (some g)) (m : Nat) : a.grownBy (b.drewN m) (some g) := ⟨h.os, h.tape, h.output, h.size, h.block⟩
theorem grown_set (w : World) (g o : Nat) (u : Value) : w.grownBy (w.setCell ⟨g, o, none⟩ u) (some g) :=
  ⟨rfl, rfl, rfl, by simp [World.setCell], fun k _ hne => Below.heap_setCell _ _ _ _ (fun e => hne (by rw [e]))⟩
/-- The cursor's block written: what the walk asks of the world behind the store. -/
theorem cur_set {w : World} {g : Nat} {A : Option Addr} {n c : Nat} {i hh : Int} (hg : w.heap[g]? = some (.cells #[.slice A n c, .int .i64 i, .int .i64 hh] 76 (0, 0))) (h2 : Int) :
    (w.setCell ⟨g, 2, none⟩ (.int .i64 h2)).heap[g]? = some (.cells #[.slice A n c, .int .i64 i, .int .i64 h2] 76 (0, 0)) := by
  rw [heap_setCell_same _ _ _ _ _ _ hg]; rfl
theorem cur_step {w : World} {g : Nat} {A : Option Addr} {n c : Nat} {i hh : Int} (hg : w.heap[g]? = some (.cells #[.slice A n c, .int .i64 i, .int .i64 hh] 76 (0, 0))) (j : Int) :
    (w.setCell ⟨g, 1, none⟩ (.int .i64 j)).heap[g]? = some (.cells #[.slice A n c, .int .i64 j, .int .i64 hh] 76 (0, 0)) := by
  rw [heap_setCell_same _ _ _ _ _ _ hg]; rfl
theorem i64_and255 (n : Int) : bits .and .i64 n 255 = n % 256 := by
  have h255 : (BitVec.ofInt 64 255).toNat = 2 ^ 8 - 1 := by decide
  have key : (BitVec.ofInt 64 n &&& BitVec.ofInt 64 255).toNat = (n % ((2 ^ 64 : Nat) : Int)).toNat % 2 ^ 8 := by
    rw [BitVec.toNat_and, BitVec.toNat_ofInt, h255, Nat.and_two_pow_sub_one_eq_mod]
  show IntKind.i64.wrap ((BitVec.ofInt 64 n &&& BitVec.ofInt 64 255).toNat : Nat) = n % 256
  rw [key, IntKind.wrap_i64]
  omega
theorem and255 (x : Int) : 0 ≤ bits .and .i64 x 255 ∧ bits .and .i64 x 255 ≤ 255 := by
  rw [i64_and255]; omega
/-- A cursor whose own block has been written, and nothing else. -/
theorem Cur.moved {w w' : World} {g : Nat} {A : Option Addr} {n c : Nat} {i h : Int} (hc : Cur w g A n c) (hG : w.grownBy w' (some g)) (h0 : 0 ≤ i) (h1 : i ≤ n)
    (hg : w'.heap[g]? = some (.cells #[.slice A n c, .int .i64 i, .int .i64 h] 76 (0, 0))) : Cur w' g A n c := by
  obtain ⟨a1, a2, a3, a4, -⟩ := hc
  refine ⟨a1, a2, a3, fun k hk => ?_, i, h, h0, h1, hg⟩
  obtain ⟨a, z, e, hlt, hz, hb⟩ := a4 k hk
  exact ⟨a, z, e, hlt, hG.cell hz (fun e => by injection e with e; rw [addr_block] at e; omega), hb⟩
def BytePost (W : World) (g : Nat) (A : Option Addr) (n c : Nat) (e : Ending) (w' : World) : Prop :=
  ∃ r : Int, e = .returned (.int .i64 r) ∧ 0 ≤ r ∧ r ≤ 255 ∧ Cur w' g A n c ∧ W.grownBy w' (some g)

set_option maxHeartbeats 800000 in
theorem l01Byte_any (g : Nat) (A : Option Addr) (n c : Nat) (w : World) (h : Cur w g A n c) :
    Calls Tryd.prog 19 #[.pointer (some ⟨g, 0, none⟩)] w (BytePost w g A n c) := by
  have H := Lib.hid h
  obtain ⟨h1, h2, h3, h4, i, hh, h5, h6, hg⟩ := h
  have c0 : w.cell? ⟨g, 0, none⟩ = some (.slice A n c) := by rw [cell_of_row _ _ _ _ _ _ hg]; rfl
  have c1 : w.cell? ⟨g, 1, none⟩ = some (.int .i64 i) := by rw [cell_of_row _ _ _ _ _ _ hg]; rfl
  have c2 : w.cell? ⟨g, 2, none⟩ = some (.int .i64 hh) := by rw [cell_of_row _ _ _ _ _ _ hg]; rfl
  have f0 : ∀ o, w.frozen? ⟨g, o, none⟩ = false := fun o => frozen_of_row _ _ _ _ _ hg
  have H4 := Lib.hid h4
  clear h4
  go_enter Tryd.func19, Tryd.ntmps19
  go_wp2
  generalize wrap64 (wrap64 (hh * 6364136223846793005) + 1442695040888963407) = h2
  have hg1 := cur_set hg h2
  have G1 := grown_set w g 2 (.int .i64 h2)
  clear c0 c1 c2 f0 hg
  generalize w.setCell ⟨g, 2, none⟩ (.int .i64 h2) = w1 at *
  have c0 : w1.cell? ⟨g, 0, none⟩ = some (.slice A n c) := by rw [cell_of_row _ _ _ _ _ _ hg1]; rfl
  have c1 : w1.cell? ⟨g, 1, none⟩ = some (.int .i64 i) := by rw [cell_of_row _ _ _ _ _ _ hg1]; rfl
  have c2 : w1.cell? ⟨g, 2, none⟩ = some (.int .i64 h2) := by rw [cell_of_row _ _ _ _ _ _ hg1]; rfl
  have f0 : ∀ o, w1.frozen? ⟨g, o, none⟩ = false := fun o => frozen_of_row _ _ _ _ _ hg1
  have Hg1 := Lib.hid hg1
  have G1' := Lib.hid G1
  clear hg1 G1
  go_quiet (fail)
  go_wp2
  generalize hx0 : bits .and .i64 (bits .xor .i64 (h2 / 8589934592) (h2 / 35184372088832)) 255 = x0
  have hx := and255 (bits .xor .i64 (h2 / 8589934592) (h2 / 35184372088832))
  rw [hx0] at hx
  clear hx0
  by_cases hin : i < n
  · obtain ⟨k, rfl⟩ : ∃ k : Nat, i = k := ⟨i.toNat, by omega⟩
    obtain ⟨a, z, rfl, hlt, hcz, hz0, hz1⟩ := H4.out k (by omega)
    have cz : w1.cell? (a.add k) = some (.int .u8 z) := G1'.out.cell hcz (fun e => by injection e with e; rw [addr_block] at e; omega)
    go_quiet (fail)
    go_wp2
    go_quiet (fail)
    go_wp2
    go_ret
    have hr := and255 (x0 + z)
    have hg2 := cur_step Hg1.out ((k : Int) + 1)
    have G2 := fun m : Nat => grown_trans' (grown_drewN G1'.out m) (grown_set (w1.drewN m) g 1 (.int .i64 ((k : Int) + 1)))
    have HG2 := fun m : Nat => H.out.moved (G2 m) (i := (k : Int) + 1) (by omega) (by omega) hg2
    exact ⟨_, rfl, hr.1, hr.2, HG2 _, G2 _⟩
  · go_quiet (fail)
    go_wp2
    go_ret
    exact ⟨x0, rfl, hx.1, hx.2, H.out.moved (grown_drewN G1'.out _) h5 h6 Hg1.out, grown_drewN G1'.out _⟩

/-- What l01New and l31New leave: a pointer to a new cursor. -/
def CurPost (W : World) (A : Option Addr) (n c : Nat) (e : Ending) (w' : World) : Prop :=
  ∃ g, e = .returned (.pointer (some ⟨g, 0, none⟩)) ∧ W.heap.size ≤ g ∧ Cur w' g A n c ∧ Below W.heap.size W w'
theorem InB.keep {w w' : World} {A : Option Addr} {n c : Nat} (h : InB w A n c) (hb : Below w.heap.size w w') : InB w' A n c := by
  obtain ⟨h1, h2, h3⟩ := h
  refine ⟨h1, h2, fun k hk => ?_⟩
  obtain ⟨a, z, e, hlt, hc, hz⟩ := h3 k hk
  exact ⟨a, z, e, by have := hb.size; omega, (hb.cell (by rw [addr_block]; exact hlt)).trans hc, hz⟩
theorem cur_new {W : World} {A : Option Addr} {n c : Nat} (h : InB W A n c) (hn : n ≤ 1048576) (hh : Int) :
    Cur (W.alloc (.cells #[.slice A n c, .int .i64 0, .int .i64 hh] 76)) W.heap.size A n c := by
  obtain ⟨h1, h2, h3⟩ := h
  refine ⟨hn, h1, h2, fun k hk => ?_, 0, hh, by omega, by omega, heap_alloc_new W _⟩
  obtain ⟨a, z, e, hlt, hc, hz⟩ := h3 k hk
  exact ⟨a, z, e, hlt, (World.cell?_alloc_lt W _ _ (by rw [addr_block]; exact hlt)).trans hc, hz⟩

set_option maxHeartbeats 800000 in
set_option maxRecDepth 100000 in
theorem l01New_any (A : Option Addr) (n c : Nat) (w : World) (h : InB w A n c) (hn : n ≤ 1048576) :
    Calls Tryd.prog 38 #[.slice A n c] w (CurPost w A n c) := by
  have H := Lib.hid h
  obtain ⟨h1, h2, h3⟩ := h
  have H3 := Lib.hid h3
  clear h3
  go_enter Tryd.func38, Tryd.ntmps38
  go_wp2
  go_loop [3, 4] (fun q i => ∃ (k : Nat) (x : Int), k ≤ n ∧ q = .int .i64 x ∧ i = .int .i64 k) (fun _ i => n - (intOf i).toNat)
  case atStart => exact ⟨0, _, Nat.zero_le _, rfl, rfl⟩
  case round =>
    obtain ⟨k, x, hk, rfl, rfl⟩ := hrel
    by_cases hlt : k < n
    · obtain ⟨a, z, rfl, hab, hcz, hz0, hz1⟩ := H3.out k hlt
      by_cases h4 : (k : Int) < 4000
      · go_wp2
        generalize bits .and .i64 _ 1073741823 = y
        go_round
        case rel => exact ⟨k + 1, y, by omega, rfl, by go_num⟩
        case measure => simp [intOf]; omega
      · go_wp2
        go_ret
        exact ⟨_, rfl, Nat.le_refl _, cur_new H.out hn x, (Below.refl _ w).alloc (Nat.le_refl _) _⟩
    · go_wp2
      go_ret
      exact ⟨_, rfl, Nat.le_refl _, cur_new H.out hn x, (Below.refl _ w).alloc (Nat.le_refl _) _⟩

theorem below_grown {B : Nat} {a b c : World} {g : Nat} (h : Below B a b) (k : b.grownBy c (some g)) (hg : B ≤ g) (hB : B ≤ b.heap.size) : Below B a c :=
  h.grown k hB (fun x hx => by injection hx with hx; omega)

set_option maxHeartbeats 800000 in
theorem l31New_any (A : Option Addr) (n c m : Nat) (w : World) (h : InB w A n c) (hn : n ≤ 1048576) (hm : m ≤ 1000000) :
    Calls Tryd.prog 18 #[.slice A n c, .int .i64 m] w (CurPost w A n c) := by
  go_enter Tryd.func18, Tryd.ntmps18
  go_wp2_with (go_at_call 38; refine (l01New_any A n c _ h hn).mono ?_)
  rintro e w1 ⟨g, rfl, hg, hC, hb⟩
  have HC := Lib.hid hC
  clear hC
  go_wp2_with fail
  go_loopw [6] (fun i wr => ∃ k : Nat, k ≤ m ∧ i = .int .i64 k ∧ Hid (Cur wr g A n c) ∧ Below w.heap.size w wr) (fun i _ => m - (intOf i).toNat)
  case atStart => exact ⟨0, Nat.zero_le _, rfl, HC, hb⟩
  case round =>
    obtain ⟨k, hk, rfl, HC', hb'⟩ := hrel
    have hs := hb'.size
    by_cases hlt : k < m
    · go_wp2_with (go_at_call 19; refine (l01Byte_any g A n c _ HC'.out).mono ?_)
      rintro e w2 ⟨r, rfl, -, -, hC2, hG⟩
      have HC2 := Lib.hid hC2
      clear hC2
      go_wp2_with fail
      go_roundw
      case rel => exact ⟨k + 1, by omega, by go_num, HC2, below_grown hb' hG hg hs⟩
      case measure => simp [intOf]; omega
    · go_wp2_with fail
      go_ret
      exact ⟨g, rfl, hg, HC'.out, hb'⟩

open Go.WideShapes Go.ChangeShapes in
/-- A slice of bytes that came in, opened. -/
theorem open_bytes {H : Type} {enc : TypeId × Value → H} {P : Program} {w : World} {r : Reach} {b0 : Nat} {t e : TypeId} {v : Value} {d : DataW H} {ps : List MemPlace} (ht : P.underlying t = some (.slice e)) (he : P.underlying e = some (.int .u8)) (hc : P.cellsOf e = 1)
    (hval : Value.okWide P w r b0 t v) (hd : DataW.Trod enc P w 0 (fun _ => true) true t v d ps) : ∃ A n c, v = .slice A n c ∧ InB w A n c := by
  obtain ⟨a, len, cap, rfl⟩ := okWide_slice ht hval
  obtain ⟨fuel, hf⟩ := hd
  rcases open_ints ht he hc hf with ⟨hcs, hx⟩ | ⟨a', len', cap', zs, hcs, _, hl, hm, hz, hx, hcell, hwf⟩
  · have hv : Value.slice a len cap = .slice none 0 0 := by simpa [Value.cells] using hcs
    exact ⟨_, 0, 0, hv, Nat.le_refl _, by unfold maxLen; omega, fun k hk => by omega⟩
  · have hv : Value.slice a len cap = .slice (some a') len' cap' := by simpa [Value.cells] using hcs
    simp only [if_true] at hz
    refine ⟨_, len', cap', hv, hl, hm, fun k hk => ?_⟩
    have hk' : k < zs.length := by omega
    have hc1 := hcell k hk'
    rw [List.getD_eq_getElem?_getD, List.getElem?_eq_getElem hk', Option.getD_some] at hc1
    have hw := hwf _ (List.getElem_mem hk')
    simp only [Lit.wf, IntKind.min, IntKind.max, IntKind.signed, IntKind.bits] at hw
    have hlt := World.block_lt_of_cell? w _ hc1
    rw [addr_block] at hlt
    exact ⟨a', zs[k], rfl, hlt, hc1, by simp at hw; omega, by simp at hw; omega⟩
end Go.Proofs.YtfkojahoaljiaaaDoor
