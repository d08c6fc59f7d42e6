/- slices.Repeat of one number. -/
import Derived.Test.YtkiomohpmajjcaaCosPlain
import Derived.Test.YtkiomohpmajjcaaShelf
import Derived.Laws.CopyOwn
import Derived.Deep.RegionLaw
namespace Go.Proofs.Ytkiomohpmajjcaa
open Go.RowKit

theorem run_makeInts (u : World) (n : Nat) (hn : n ≤ 1048576) : (Instr.makeSlice 22 (.int .i64 (n : Int)) (.int .i64 (n : Int))).run Try.prog u =
      .ok (.slice (some ⟨u.heap.size, 0, none⟩) n n) (u.alloc (.cells (madeCells #[.int .i64 0] n) 3)) := by
  obtain ⟨i0, hi, hz0, hz1, hz2⟩ := infoR_parts infoInt
  have h := run_make (P := Try.prog) u 22 3 i0 (.int .i64 0) Try.underlying22 hi hz0 .i64 .i64 (n : Int) (n : Int) (by omega) (Int.le_refl _) (by rw [hz2]; omega) (by omega)
  simpa [hz1, Value.cells] using h
theorem mulOne_any (N : Nat) (h : N ≤ 40) (w : World) : Calls Try.prog 74 #[.int .u64 1, .int .u64 N] w fun e w' => e = .returned (.tuple #[.int .u64 0, .int .u64 (N : Nat)]) ∧ w = w' := by
  refine (Try.bits_Mul 1 N (by omega) (by omega) w).mono ?_
  rintro e w' ⟨rfl, rfl⟩
  refine ⟨?_, rfl⟩
  rw [Nat.one_mul, Nat.div_eq_of_lt (by omega), Nat.mod_eq_of_lt (by omega)]
  rfl
/-- The first k cells hold v. -/
def fillC (v : Int) (N k : Nat) : List Value := ints (List.replicate k v ++ List.replicate (N - k) 0)
theorem fillC_length {v : Int} {N k : Nat} (h : k ≤ N) : (fillC v N k).length = N := by unfold fillC; rw [ints_length]; simp; omega
theorem fillC_zero (v : Int) (N : Nat) : madeCells #[Value.int .i64 0] N = (fillC v N 0).toArray := by
  apply Array.ext
  · simp [madeCells, fillC, ints]
  · intro i h1 h2; simp [madeCells, fillC, ints, Nat.mod_one]
theorem fillC_get {v : Int} {N k j : Nat} (h : j < k) : (fillC v N k)[j]? = some (.int .i64 v) := by
  simp [fillC, ints, List.getElem?_append, h]
theorem fillC_splice {v : Int} {N k m : Nat} (h : k + m ≤ N) : splice (fillC v N k) k (List.replicate m (Value.int .i64 v)) = fillC v N (k + m) := by
  unfold splice fillC ints
  simp only [List.map_append, List.map_replicate, List.length_replicate]
  rw [List.take_append_of_le_length (by simp), List.take_of_length_le (by simp), List.drop_append, List.length_replicate]
  rw [List.drop_eq_nil_of_le (by simp), List.nil_append, List.drop_replicate, ← List.append_assoc, List.replicate_append_replicate]
  congr 2; omega
theorem fillC_all (v : Int) (N : Nat) : fillC v N N = ints (List.replicate N v) := by unfold fillC; simp
theorem sizeInt : (Try.prog.info? 3).map (·.size) = some 1 := by kernel_rfl
set_option maxRecDepth 100000 in
set_option maxHeartbeats 1600000 in
theorem repeatOne_any (v : Int) (g0 N : Nat) (w : World) (hx : Blk w g0 3 #[.int .i64 v]) (h1 : 1 ≤ N) (h40 : N ≤ 40) :
    Calls Try.prog 65 #[.slice (some ⟨g0, 0, none⟩) 1 1, .int .i64 N] w fun e w' => ∃ v', e = .returned v' ∧ Own w.heap.size w' v' 1 N (ints (List.replicate N v)) ∧ Below w.heap.size w w' := by
  have hmk := fun u => run_makeInts u N (by omega)
  have HX := Lib.hid (hx.alloc (.cells (madeCells #[.int .i64 0] N) 3))
  have HF : Hid ((w.alloc (.cells (madeCells #[.int .i64 0] N) 3)).heap[w.heap.size]? = some (.cells (fillC v N 0).toArray 3 (0, 0))) := by
    show _ = _; rw [← fillC_zero]; exact heap_alloc_new w _
  clear hx
  go_enter Try.func65, Try.ntmps65
  go_wp2_with fail
  refine (mulOne_any N h40 w).mono ?_
  rintro e w1 ⟨rfl, rfl⟩
  go_wp2_with (with_reducible refine wpList_copy_splice rfl (.tmp 31) (.tmp 32) 22 22 rfl 3 Try.underlying22 sizeInt (some ⟨w.heap.size, 0, none⟩) (some ⟨g0, 0, none⟩) N N 1 1 rfl rfl w.heap.size 0 (fillC v N 0) 3 HF.out [.int .i64 v] ?c1 ?c2 ?c3 ?c4 w.heap.size w (bel1 w (.cells (madeCells #[.int .i64 0] N) 3)) (Nat.le_refl _) ?_)
  case c1 => simp [Nat.min_def]; omega
  case c2 =>
    intro j u hj
    match j, hj with
    | 0, hj => (simp at hj; subst hj; have h2 := HX.out.cell 0; simpa [Addr.add] using h2)
  case c3 => rw [fillC_length (Nat.zero_le _)]; simp; omega
  case c4 => intro u hu; simp at hu; subst hu; rfl
  intro w2 hg2 hb2
  have HG2 : Hid (w2.heap[w.heap.size]? = some (.cells (fillC v N 1).toArray 3 (0, 0))) := by
    have h2 := fillC_splice (v := v) (N := N) (k := 0) (m := 1) (by omega)
    rw [List.replicate_one, Nat.zero_add] at h2
    rw [← h2]; exact hg2.out
  clear hg2 HX HF hmk
  go_wp2_with fail
  go_loopw [8] (fun i' wr => ∃ k : Nat, i' = .int .i64 k ∧ 1 ≤ k ∧ k ≤ N ∧ Hid (wr.heap[w.heap.size]? = some (.cells (fillC v N k).toArray 3 (0, 0))) ∧ Below w.heap.size w wr) (fun i' _ => N - (intOf i').toNat)
  case atStart => exact ⟨1, rfl, Nat.le_refl _, h1, HG2, hb2⟩
  case round =>
    obtain ⟨k, rfl, hk1, hk, HG, hb⟩ := hrel
    have hbs := hb.size
    by_cases hlt : k < N
    · obtain ⟨mm, hmm⟩ : ∃ mm, Nat.min k (N - k) = mm := ⟨_, rfl⟩
      have hm1 : 0 < mm ∧ k + mm ≤ N ∧ mm ≤ k := by simp only [Nat.min_def] at hmm; split at hmm <;> omega
      have Hmm := Lib.hid hmm
      have HGd : Hid (wr.drew.heap[w.heap.size]? = some (.cells (fillC v N k).toArray 3 (0, 0))) := HG
      have hbd := hb.drew
      clear hmm
      go_wp2_with fail
      have HC := Lib.hid (show ∀ j u, (List.replicate mm (Value.int .i64 v))[j]? = some u → wr.drew.cell? ((⟨w.heap.size, 0, none⟩ : Addr).add j) = some u from fun j u hj => by
        obtain ⟨hj1, rfl⟩ := List.getElem?_eq_some_iff.1 hj
        rw [List.length_replicate] at hj1
        rw [Addr.add_lit, Nat.zero_add, cell_of_row _ _ _ _ _ _ HGd.out]
        rw [List.getElem?_toArray, fillC_get (by omega)]; simp)
      have Hfit := Lib.hid (show k + (List.replicate mm (Value.int .i64 v)).length ≤ (fillC v N k).length by rw [fillC_length hk, List.length_replicate]; exact hm1.2.1)
      have Hnn := Lib.hid (show (List.replicate mm (Value.int .i64 v)).length = Nat.min k (N - k) by rw [List.length_replicate, Hmm.out])
      have H1c := Lib.hid (show ∀ u ∈ List.replicate mm (Value.int .i64 v), u.oneCell' = true from fun u hu => by rw [List.eq_of_mem_replicate hu]; rfl)
      have Hsp := Lib.hid (fillC_splice (v := v) hm1.2.1)
      go_region_law (refine step_copy_splice rfl (.tmp 41) (.tmp 44) 22 22 rfl 3 Try.underlying22 sizeInt (some ⟨w.heap.size, k, none⟩) (some ⟨w.heap.size, 0, none⟩) (N - k) (N - k) k N (by simp [Act.eval, Act.put]; omega) (by simp [Act.eval, Act.put]) w.heap.size k (fillC v N k) 3 HGd.out (List.replicate mm (.int .i64 v)) Hnn.out (fun _ => ⟨rfl, _, rfl, HC.out⟩) Hfit.out H1c.out w.heap.size w hbd (Nat.le_refl _) ?_; intro w4 hg4 hb4)
      rw [Hsp.out] at hg4
      have Hl := Lib.hid (List.length_replicate (n := mm) (a := Value.int .i64 v))
      have hm2 := hm1.1
      have hm3 := hm1.2.1
      clear HC Hfit Hnn H1c Hsp HG HGd Hmm hm1
      go_wp2_with fail
      go_roundw
      case rel => exact ⟨k + mm, by rw [IntWalk.i64_in _ (by omega)]; omega, by omega, hm3, hg4⟩
      case measure => (simp [intOf]; rw [IntWalk.i64_in _ (by omega)]; omega)
    · obtain rfl : N = k := by omega
      have HO : Hid (Own w.heap.size wr (.slice (some ⟨w.heap.size, 0, none⟩) N N) 1 N (ints (List.replicate N v))) := by
        rw [fillC_all] at HG
        refine ⟨by rw [ints_length]; simp, _, N, rfl, Nat.le_refl _, by unfold maxLen; omega, fun _ => ⟨w.heap.size, 0, rfl, Nat.le_refl _, ?_, fun j hj => ?_⟩⟩
        · exact (Array.getElem?_eq_some_iff.1 HG.out).1
        · rw [Nat.zero_add]
          exact ⟨by rw [cell_of_row _ _ _ _ _ _ HG.out]; simp, by simp [World.frozen?, HG.out]⟩
      go_wp2_with fail
      go_ret
      exact ⟨_, rfl, HO.out, hb⟩
end Go.Proofs.Ytkiomohpmajjcaa
