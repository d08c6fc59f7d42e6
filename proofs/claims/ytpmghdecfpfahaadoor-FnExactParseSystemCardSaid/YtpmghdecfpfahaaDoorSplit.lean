/- bytesIn and impl.SplitAny. -/
import Derived.Test.YtpmghdecfpfahaaDoorSplitPlain
import Derived.Laws.Rows
import Derived.Laws.Tables
import Derived.Laws.CopyOwn
import Derived.Lib.Strings
namespace Go.Proofs.YtpmghdecfpfahaaDoor
open Go.RowKit

/-- 256 bools in memory. -/
def boolCells (p : Nat → Bool) : Array Value := (Array.range 256).map fun i => .bool (p i)
theorem boolCells_size (p : Nat → Bool) : (boolCells p).size = 256 := by simp [boolCells]
theorem boolCells_get (p : Nat → Bool) (c : Nat) (h : c < 256) : (boolCells p)[c]? = some (.bool (p c)) := by simp [boolCells, h]
theorem boolCells_one (p : Nat → Bool) : (boolCells p).all (·.oneCell') = true := by
  rw [Array.all_eq_true_iff_forall_mem]
  intro v hv
  simp only [boolCells, Array.mem_map] at hv
  obtain ⟨i, -, rfl⟩ := hv
  rfl
theorem boolCells_set (p : Nat → Bool) (c : Nat) : (boolCells p).setIfInBounds c (.bool true) = boolCells (fun i => p i || i == c) := by
  apply Array.ext
  · simp [boolCells]
  · intro i h1 h2
    have h3 : i < (boolCells p).size := by simpa using h1
    rw [Array.getElem_setIfInBounds h3]
    by_cases e : c = i
    · subst e; simp [boolCells]
    · have e' : (i == c) = false := by simp; omega
      rw [if_neg e]; simp [boolCells, e']
theorem zero256 (w : World) : (zeroValue 70).run Tryd.prog w = .ok (.agg (boolCells (sepOf []))) w := by kernel_rfl

set_option maxHeartbeats 400000 in
theorem bytesIn_any (s : ByteArray) (w : World) (hs : s.size ≤ maxLen) :
    Calls Tryd.prog 63 #[.string s] w fun e w' => e = .returned (.agg (boolCells (sepOf s.data.toList))) ∧ Below w.heap.size w w' := by
  unfold maxLen at hs
  have hz := zero256
  go_enter Tryd.func63, Tryd.ntmps63
  go_wp2
  go_loopw [4, 7] (fun _ i wr => ∃ (k : Nat), k ≤ s.size ∧ i = .int .i64 k ∧ Hid (wr.heap[w.heap.size + 1]? = some (.cells (boolCells (sepOf (s.data.toList.take k))) 70 (0, 0)) ∧ wr.heap[w.heap.size]? = some (.cells (boolCells (sepOf [])) 70 (0, 0))) ∧ Below w.heap.size w wr) (fun _ i _ => s.size - (intOf i).toNat)
  case atStart =>
    refine ⟨0, Nat.zero_le _, rfl, ?_, ((Below.refl _ w).alloc (Nat.le_refl _) _).alloc (by simp) _⟩
    exact ⟨heap_alloc2_new w _ _, heap_alloc2_old w _ _⟩
  case round =>
    obtain ⟨k, hk, rfl, hh, hb⟩ := hrel
    have hsz : w.heap.size + 1 < wr.heap.size := (Array.getElem?_eq_some_iff.1 hh.out.1).1
    by_cases hlt : k < s.size
    · have h256 : (s[k].toNat : Int) < 256 := by have := s[k].toNat_lt; omega
      have hcell : wr.cell? ⟨w.heap.size + 1, s[k].toNat, none⟩ = some (.bool (sepOf (s.data.toList.take k) s[k].toNat)) := by
        rw [cell_of_row wr _ _ _ _ _ hh.out.1, boolCells_get _ _ (by omega)]
      have hfz : wr.frozen? ⟨w.heap.size + 1, s[k].toNat, none⟩ = false := by simp [World.frozen?, hh.out.1]
      go_wp2
      go_roundw
      case rel =>
        refine ⟨k + 1, by omega, by go_num, ?_, hb.setCell (by simp) _⟩
        refine ⟨?_, ?_⟩
        · rw [heap_setCell_same _ _ _ _ _ _ hh.out.1, boolCells_set, sepOf_snoc, take_snoc s k hlt]
        · rw [heap_setCell_other _ _ _ _ (by simp)]; exact hh.out.2
      case measure => simp [intOf]; omega
    · have h1 : wr.heap[w.heap.size + 1]? = some (.cells (boolCells (sepOf s.data.toList)) 70 (0, 0)) := by
        have := hh.out.1; rwa [take_all s k hlt] at this
      have H1 := Lib.hid h1
      clear h1
      have hi : (Tryd.prog.info? 70).map (·.size) = some (boolCells (sepOf s.data.toList)).size := by rw [boolCells_size]; kernel_rfl
      have Hi := Lib.hid hi
      clear hi
      go_wp2_with (first | (refine wpList_load_row rfl 70 _ rfl (w.heap.size + 1) rfl 70 _ (0, 0) _ H1.out Tryd.underlying70 rfl Hi.out ?_) | (refine wpList_store_row rfl 70 _ _ rfl w.heap.size _ rfl rfl 70 _ hh.out.2 Hi.out (by rw [boolCells_size, boolCells_size]) (boolCells_one _) ?_))
      refine bodyPost_ret (results_cell_row rfl _ _ w.heap.size 70 (boolCells (sepOf s.data.toList)) (0, 0) _ rfl (setRow_heap _ _ _ _ _ _ hh.out.2) Tryd.underlying70 rfl Hi.out) rfl ⟨rfl, ?_⟩
      exact below_setRow hb (Nat.le_refl _) _

set_option maxHeartbeats 800000 in
set_option maxRecDepth 100000 in
theorem implSplitAny (s b : ByteArray) (w : World) (hs : s.size ≤ 1048576) (hb : b.size ≤ maxLen) :
    Calls Tryd.prog 50 #[.string s, .string b] w fun e w' => ∃ v, e = .returned v ∧ Own w.heap.size w' v 1 (splitL (sepOf b.data.toList) s.data.toList).length (strs (splitL (sepOf b.data.toList) s.data.toList)) ∧ Below w.heap.size w w' := by
  obtain ⟨i0, hi, hz0, hz1, hz2⟩ := info_parts infoStr
  have hz := zero256
  have hi36 : (Tryd.prog.info? 70).map (·.size) = some (boolCells (sepOf b.data.toList)).size := by rw [boolCells_size]; kernel_rfl
  have Hi36 := Lib.hid hi36
  clear hi36
  go_enter Tryd.func50, Tryd.ntmps50
  go_wp2_with (go_at_call 63; refine (bytesIn_any _ _ hb).mono ?_)
  rintro e w1 ⟨rfl, hb1⟩
  have hs1 := hb1.size
  go_wp2_with (refine wpList_store_row rfl 70 _ _ rfl w1.heap.size _ rfl rfl 70 _ (heap_alloc_new w1 _) Hi36.out (by rw [boolCells_size, boolCells_size]) (boolCells_one _) ?_)
  have hblk := setRow_heap (w1.alloc (.cells (boolCells (sepOf [])) 70)) w1.heap.size _ (boolCells (sepOf b.data.toList)) _ _ (heap_alloc_new w1 _)
  have hbel : Below w.heap.size w ((w1.alloc (.cells (boolCells (sepOf [])) 70)).setRow w1.heap.size (boolCells (sepOf b.data.toList))) := below_setRow (hb1.alloc hb1.size _) hb1.size _
  have hsz2 : w1.heap.size + 1 ≤ ((w1.alloc (.cells (boolCells (sepOf [])) 70)).setRow w1.heap.size (boolCells (sepOf b.data.toList))).heap.size := by rw [size_setRow]; simp
  generalize (w1.alloc (.cells (boolCells (sepOf [])) 70)).setRow w1.heap.size (boolCells (sepOf b.data.toList)) = w2 at hblk hbel hsz2
  have Hblk := Lib.hid hblk
  clear hblk hz
  go_loopw [6, 7, 8, 13] (fun v f _ i wr => ∃ (k a : Nat) (A : List (List UInt8)), k ≤ s.size ∧ a ≤ k ∧ A.length ≤ k ∧ f = .int .i64 a ∧ i = .int .i64 k ∧
      Hid (splitSt (sepOf b.data.toList) (s.data.toList.take k) = (A, (s.data.toList.take k).drop a)) ∧ Hid (wr.ownsRow (w1.heap.size + 1) 9 1 v A.length (strs (A.map mkS))) ∧
      Hid (wr.heap[w1.heap.size]? = some (.cells (boolCells (sepOf b.data.toList)) 70 (0, 0))) ∧ Below w.heap.size w wr ∧ w1.heap.size + 1 ≤ wr.heap.size) (fun _ _ _ i _ => s.size - (intOf i).toNat)
  case atStart => exact ⟨0, 0, [], Nat.zero_le _, Nat.le_refl _, Nat.le_refl _, rfl, rfl, by simp [Hid, splitSt], World.ownsRow_nil _ _ _ _, Hblk, hbel, hsz2⟩
  case round =>
    obtain ⟨k, a, A, hk, hak, hA, rfl, rfl, HS, HO, HB, hbw, hsz⟩ := hrel
    by_cases hlt : k < s.size
    · have h256 : (s[k].toNat : Int) < 256 := by have := s[k].toNat_lt; omega
      have hcell : wr.cell? ⟨w1.heap.size, s[k].toNat, none⟩ = some (.bool (sepOf b.data.toList s[k].toNat)) := by
        rw [cell_of_row wr _ _ _ _ _ HB.out, boolCells_get _ _ (by omega)]
      cases hsep : sepOf b.data.toList s[k].toNat with
      | true =>
        rw [hsep] at hcell
        have Hsep := Lib.hid hsep
        clear hsep
        go_wp2_with (at_builtin; refine wpList_append_own _ rfl _ _ 61 rfl (w1.heap.size + 1) 9 i0 (.string ⟨#[]⟩) 1 16 Tryd.underlying61 hi hz0 hz1 hz2 rfl (by decide) _ _ _ rfl (HO.out.alloc _) ⟨wr.heap.size, 0, none⟩ 1 1 [.string (s.extract a k)] rfl rfl ?c1 ?c2 ?c3 ?c4 ?c5 ?_)
        case c1 =>
          intro j u hj
          match j, hj with
          | 0, hj => simp at hj; subst hj; simp [Addr.add]
        case c2 => intro u hu; simp at hu; subst hu; rfl
        case c3 => unfold maxLen; omega
        case c4 => omega
        case c5 => simp; omega
        intro v' w3 hown' hgrow _
        have hS2 : splitSt (sepOf b.data.toList) (s.data.toList.take (k + 1)) = (A ++ [(s.data.toList.take k).drop a], (s.data.toList.take (k + 1)).drop (k + 1)) := by
          rw [take_snoc s k hlt, splitSt_snoc, HS.out, Hsep.out, if_pos rfl]
          congr 1
          exact (List.drop_of_length_le (by simp; omega)).symm
        have hO2 : w3.ownsRow (w1.heap.size + 1) 9 1 v' (A ++ [(s.data.toList.take k).drop a]).length (strs ((A ++ [(s.data.toList.take k).drop a]).map mkS)) := by
          have e : strs (A.map mkS) ++ [Value.string (s.extract a k)] = strs ((A ++ [(s.data.toList.take k).drop a]).map mkS) := by
            rw [extract_mkS s a k (by omega)]; simp [strs]
          rw [← e, List.length_append]; exact hown'
        have hsz3 := hgrow.size
        have hB3 : w3.heap[w1.heap.size]? = some (.cells (boolCells (sepOf b.data.toList)) 70 (0, 0)) := by
          rw [grown_block HO.out hgrow (by omega) hsz]; exact HB.out
        have hbw3 : Below w.heap.size w w3 := grown_one HO.out hgrow hbw (by omega) hsz
        have HS2 := Lib.hid hS2
        have HO2 := Lib.hid hO2
        have HB3 := Lib.hid hB3
        clear hS2 hO2 hB3 hown' hgrow
        go_wp2
        go_roundw
        case rel => exact ⟨k + 1, k + 1, _, by omega, Nat.le_refl _, by simp; omega, by go_num, by go_num, HS2, HO2, HB3, hbw3, by simp at hsz3; omega⟩
        case measure => simp [intOf]; omega
      | false =>
        rw [hsep] at hcell
        have hS2 : splitSt (sepOf b.data.toList) (s.data.toList.take (k + 1)) = (A, (s.data.toList.take (k + 1)).drop a) := by
          rw [take_snoc s k hlt, splitSt_snoc, HS.out, hsep, if_neg (by simp), List.drop_append_of_le_length (by simp; omega)]
        have HS2 := Lib.hid hS2
        clear hS2 hsep
        go_wp2
        go_roundw
        case rel => exact ⟨k + 1, a, A, by omega, by omega, by omega, rfl, by go_num, HS2, HO, HB, hbw, hsz⟩
        case measure => simp [intOf]; omega
    · go_wp2_with (at_builtin; refine wpList_append_own _ rfl _ _ 61 rfl (w1.heap.size + 1) 9 i0 (.string ⟨#[]⟩) 1 16 Tryd.underlying61 hi hz0 hz1 hz2 rfl (by decide) _ _ _ rfl (HO.out.alloc _) ⟨wr.heap.size, 0, none⟩ 1 1 [.string (s.extract a s.size)] rfl rfl ?c1 ?c2 ?c3 ?c4 ?c5 ?_)
      case c1 =>
        intro j u hj
        match j, hj with
        | 0, hj => simp at hj; subst hj; simp [Addr.add]
      case c2 => intro u hu; simp at hu; subst hu; rfl
      case c3 => unfold maxLen; omega
      case c4 => omega
      case c5 => simp; omega
      intro v' w3 hown' hgrow _
      have hS : splitL (sepOf b.data.toList) s.data.toList = (A ++ [(s.data.toList.take s.size).drop a]).map mkS := by
        have h1 := HS.out
        rw [take_all s k hlt] at h1
        unfold splitL
        rw [h1, show s.data.toList.take s.size = s.data.toList from List.take_of_length_le (by simp)]
      have hO2 : w3.ownsRow (w1.heap.size + 1) 9 1 v' (splitL (sepOf b.data.toList) s.data.toList).length (strs (splitL (sepOf b.data.toList) s.data.toList)) := by
        have e : strs (A.map mkS) ++ [Value.string (s.extract a s.size)] = strs (splitL (sepOf b.data.toList) s.data.toList) := by
          rw [extract_mkS s a s.size (Nat.le_refl _), hS]; simp [strs]
        rw [← e, show (splitL (sepOf b.data.toList) s.data.toList).length = A.length + 1 by rw [hS]; simp]; exact hown'
      have hbw3 : Below w.heap.size w w3 := grown_one HO.out hgrow hbw (by omega) hsz
      have HO2 := Lib.hid hO2
      clear hO2 hS hown' hgrow
      go_wp2
      go_ret
      exact ⟨_, rfl, (Own.of_row HO2.out).mono (by omega), hbw3⟩

end Go.Proofs.YtpmghdecfpfahaaDoor
