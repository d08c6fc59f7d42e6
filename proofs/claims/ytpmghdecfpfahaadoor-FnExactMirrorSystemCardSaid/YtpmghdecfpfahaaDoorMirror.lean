/- A word backwards: both MirrorWord. -/
import Derived.Test.YtpmghdecfpfahaaDoorBase
import Derived.Test.YtpmghdecfpfahaaDoorOwn
import Derived.Deep.QuietTactic
import Derived.BigQuiet
import Derived.RegionTactic
import Derived.IntWalk
import Derived.Lib.Strings
import Derived.Lib.SmallJoins
import Derived.Laws.Rows
namespace Go.Proofs.YtpmghdecfpfahaaDoor
open Go.RowKit Go.Joins

def mirS (s : ByteArray) : ByteArray := ⟨s.data.toList.reverse.toArray⟩
/-- The last k bytes, backwards. -/
def mirK (s : ByteArray) (k : Nat) : ByteArray := ⟨((s.data.toList.reverse).take k).toArray⟩
theorem mirK_zero (s : ByteArray) : mirK s 0 = ⟨#[]⟩ := by simp [mirK]
theorem mirK_all (s : ByteArray) : mirK s s.size = mirS s := by
  unfold mirK mirS; rw [List.take_of_length_le (by simp)]
theorem mirK_size (s : ByteArray) (k : Nat) (h : k ≤ s.size) : (mirK s k).size = k := by
  show (List.take k s.data.toList.reverse).toArray.size = k
  rw [List.size_toArray, List.length_take, List.length_reverse]; simp; omega
theorem mirK_step (s : ByteArray) (k : Nat) (h : k < s.size) : mirK s k ++ s.extract (s.size - 1 - k) (s.size - 1 - k + 1) = mirK s (k + 1) := by
  apply ByteArray.ext
  apply Array.ext'
  have hl : s.data.toList.length = s.size := by simp
  have e : (s.extract (s.size - 1 - k) (s.size - 1 - k + 1)).data.toList = [s.data.toList[s.size - 1 - k]'(by omega)] := by
    rw [Lib.extract_data]
    rw [show s.size - 1 - k + 1 - (s.size - 1 - k) = 1 by omega]
    rw [List.drop_eq_getElem_cons (by omega)]; rfl
  simp only [ByteArray.data_append, Array.toList_append, e]
  simp only [mirK]
  rw [List.take_succ_eq_append_getElem (by simp; omega)]
  congr 1
  rw [List.getElem_reverse]
  simp only [hl]

set_option maxHeartbeats 400000 in
theorem specMirrorWord (s : ByteArray) (w : World) (hs : s.size ≤ 1048576) :
    Calls Tryd.prog 44 #[.string s] w fun e w' => e = .returned (.string (mirS s)) ∧ w = w' := by
  have H0 := Lib.hid (mirK_zero s)
  have HA := Lib.hid (mirK_all s)
  go_enter Tryd.func44, Tryd.ntmps44
  go_wp2_with fail
  go_loop [3, 4] (fun q i => ∃ k : Nat, k ≤ s.size ∧ q = .string (mirK s k) ∧ i = .int .i64 ((s.size : Int) - 1 - k)) (fun _ i => ((intOf i) + 1).toNat)
  case atStart => exact ⟨0, Nat.zero_le _, by rw [H0.out], by simp⟩
  case round =>
    obtain ⟨k, hk, rfl, rfl⟩ := hrel
    by_cases hlt : k < s.size
    · obtain ⟨j, hj⟩ : ∃ j : Nat, (s.size : Int) - 1 - k = j := ⟨s.size - 1 - k, by omega⟩
      have Hst := Lib.hid (mirK_step s k hlt)
      have hz := mirK_size s k hk
      have ej : s.size - 1 - k = j := by omega
      rw [ej] at Hst
      rw [hj]
      have hj2 : j < s.size := by omega
      generalize mirK s k = q at *
      go_wp2_with fail
      go_round
      case rel => exact ⟨k + 1, by omega, by rw [Hst.out], by congr 1; omega⟩
      case measure => simp [intOf]
    · obtain rfl : k = s.size := by omega
      have hneg : (s.size : Int) - 1 - (s.size : Int) = -1 := by omega
      rw [hneg, HA.out]
      go_wp2_with fail
      go_ret
      exact ⟨rfl, rfl⟩

/-- The first k and the last k of a list have changed places. -/
def revK (l : List Value) (k : Nat) : List Value := (List.range l.length).map fun x => if x < k ∨ l.length - k ≤ x then l.getD (l.length - 1 - x) undef else l.getD x undef
theorem revK_length (l : List Value) (k : Nat) : (revK l k).length = l.length := by simp [revK]
theorem revK_get (l : List Value) (k x : Nat) (h : x < l.length) : (revK l k)[x]? = some (if x < k ∨ l.length - k ≤ x then l.getD (l.length - 1 - x) undef else l.getD x undef) := by simp [revK, h]
theorem revK_zero (l : List Value) : revK l 0 = l := by
  apply List.ext_getElem?
  intro x
  by_cases h : x < l.length
  · rw [revK_get l 0 x h, if_neg (by omega)]; simp [h]
  · rw [List.getElem?_eq_none (by rw [revK_length]; omega), List.getElem?_eq_none (by omega)]
theorem revK_end (l : List Value) (k : Nat) (h : l.length ≤ 2 * k + 1) : revK l k = l.reverse := by
  apply List.ext_getElem?
  intro x
  by_cases hx : x < l.length
  · rw [revK_get l k x hx, List.getElem?_reverse hx]
    by_cases hc : x < k ∨ l.length - k ≤ x
    · rw [if_pos hc]; simp [show l.length - 1 - x < l.length by omega]
    · rw [if_neg hc]
      have : l.length - 1 - x = x := by omega
      rw [this]; simp [hx]
  · rw [List.getElem?_eq_none (by rw [revK_length]; omega), List.getElem?_eq_none (by simp; omega)]
theorem revK_step (l : List Value) (k j : Nat) (hj : j + k + 1 = l.length) (h : k < j) (x y : Value) (hx : (revK l k)[k]? = some x) (hy : (revK l k)[j]? = some y) : ((revK l k).set k y).set j x = revK l (k + 1) := by
  rw [revK_get l k k (by omega), if_neg (by omega)] at hx
  rw [revK_get l k j (by omega), if_neg (by omega)] at hy
  have hx := Option.some.inj hx
  have hy := Option.some.inj hy
  apply List.ext_getElem?
  intro z
  by_cases hz : z < l.length
  · rw [revK_get l (k + 1) z hz]
    by_cases e1 : z = j
    · subst e1
      rw [List.getElem?_set_self (by simp [revK_length]; omega), if_pos (by omega), ← hx]; congr 2; omega
    · rw [List.getElem?_set_ne (Ne.symm e1)]
      by_cases e2 : z = k
      · subst e2
        rw [List.getElem?_set_self (by simp [revK_length]; omega), if_pos (by omega), ← hy]; congr 2; omega
      · rw [List.getElem?_set_ne (Ne.symm e2), revK_get l k z hz]
        by_cases hc : z < k ∨ l.length - k ≤ z
        · rw [if_pos hc, if_pos (by omega)]
        · rw [if_neg hc, if_neg (by omega)]
  · rw [List.getElem?_eq_none (by simp [revK_length]; omega), List.getElem?_eq_none (by rw [revK_length]; omega)]
theorem revK_mem (l : List Value) (k i : Nat) (x : Value) (h : (revK l k)[i]? = some x) : x ∈ l := by
  have hi : i < l.length := by have := (List.getElem?_eq_some_iff.1 h).1; rwa [revK_length] at this
  rw [revK_get l k i hi] at h
  have h := Option.some.inj h
  rw [← h]
  split
  · rw [List.getD_eq_getElem?_getD, List.getElem?_eq_getElem (show l.length - 1 - i < l.length by omega)]; exact List.getElem_mem _
  · rw [List.getD_eq_getElem?_getD, List.getElem?_eq_getElem hi]; exact List.getElem_mem _

set_option maxHeartbeats 800000 in
set_option maxRecDepth 100000 in
theorem reverse_own (B g off c n : Nat) (l : List Value) (w : World) (hn : n ≤ 1048576) (hB : B ≤ g) (hu : ∀ v ∈ l, ∃ z, v = Value.int .u8 z) (h : Own B w (.slice (some ⟨g, off, none⟩) n c) 1 n l) :
    Calls Tryd.prog 77 #[.slice (some ⟨g, off, none⟩) n c] w fun e w' => e = .returned (.tuple #[]) ∧ Own B w' (.slice (some ⟨g, off, none⟩) n c) 1 n l.reverse ∧ Below B w w' := by
  have hl : l.length = n := by have := h.1; omega
  have HL := Lib.hid hl
  have H0 := Lib.hid (revK_zero l)
  have Hu := Lib.hid hu
  clear hl hu
  go_enter Tryd.func77, Tryd.ntmps77
  go_wp2_with fail
  go_loopw [2, 3] (fun i j wr => ∃ k : Nat, 2 * k ≤ n + 1 ∧ i = .int .i64 k ∧ j = .int .i64 ((n : Int) - 1 - k) ∧ Hid (Own B wr (.slice (some ⟨g, off, none⟩) n c) 1 n (revK l k)) ∧ Below B w wr) (fun i _ _ => n - (intOf i).toNat)
  case atStart => exact ⟨0, by omega, rfl, by simp, by rw [H0.out]; exact h, Below.refl _ _⟩
  case round =>
    obtain ⟨k, hk, rfl, rfl, HO, hb⟩ := hrel
    by_cases hlt : 2 * k + 1 < n
    · obtain ⟨j, hj⟩ : ∃ j : Nat, (n : Int) - 1 - k = j := ⟨n - 1 - k, by omega⟩
      have hkj : k < j := by omega
      have hjn : j < n := by omega
      have hkn : k < n := by omega
      have HJ := Lib.hid (show j + k + 1 = l.length by rw [HL.out]; omega)
      rw [hj]
      obtain ⟨_, A', c', hv, _, _, hcell⟩ := HO.out
      obtain ⟨g', off', e, _, hg, r⟩ := hcell (by omega)
      have hA : A' = some ⟨g, off, none⟩ := by injection hv with x _ _; exact x.symm
      rw [hA] at e
      obtain ⟨rfl, rfl⟩ : g = g' ∧ off = off' := by injection e with e; injection e with e1 e2; exact ⟨e1, e2⟩
      obtain ⟨ci, fi⟩ := r k (by rw [revK_length, HL.out]; omega)
      obtain ⟨cj, fj⟩ := r j (by rw [revK_length, HL.out]; omega)
      obtain ⟨x, hx⟩ : ∃ x, (revK l k)[k]? = some x := ⟨_, List.getElem?_eq_getElem (by rw [revK_length, HL.out]; omega)⟩
      obtain ⟨y, hy⟩ : ∃ y, (revK l k)[j]? = some y := ⟨_, List.getElem?_eq_getElem (by rw [revK_length, HL.out]; omega)⟩
      rw [hx] at ci
      rw [hy] at cj
      have o2 := Own.set (Own.set HO.out (j := k) (by rw [revK_length, HL.out]; omega) y) (j := j) (by simp [revK_length, HL.out]; omega) x
      rw [revK_step l k j HJ.out hkj x y hx hy] at o2
      obtain ⟨x, rfl⟩ := Hu.out _ (revK_mem _ _ _ _ hx)
      obtain ⟨y, rfl⟩ := Hu.out _ (revK_mem _ _ _ _ hy)
      have HO2 := Lib.hid o2
      clear o2 hx hy r hcell hv hA e
      go_wp2_with fail
      go_region
      go_wp2_with fail
      go_roundw
      case rel => exact ⟨k + 1, by omega, by go_num, by congr 1; omega, HO2, ((hb.setCell hB _).setCell hB _).drew⟩
      case measure => simp [intOf]; omega
    · have hnl : ¬ (k : Int) < (n : Int) - 1 - k := by omega
      have HO2 := HO.out
      rw [revK_end l k (by rw [HL.out]; omega)] at HO2
      have HO3 := Lib.hid HO2
      clear HO2
      go_wp2_with fail
      go_end0
      exact ⟨rfl, HO3.out, hb⟩

def bytesV (l : List UInt8) : List Value := l.map fun b => .int .u8 (b.toNat : Int)
theorem bytesV_u8 (l : List UInt8) : ∀ v ∈ bytesV l, ∃ z, v = Value.int .u8 z := by
  intro v hv
  simp only [bytesV, List.mem_map] at hv
  obtain ⟨b, -, rfl⟩ := hv
  exact ⟨_, rfl⟩
/-- The row that []byte(s) lays. -/
theorem Own.bytes (w : World) (s : ByteArray) (cap : Nat) (e : TypeId) (h1 : s.size ≤ cap) (h2 : cap ≤ maxLen) :
    Own w.heap.size (w.alloc (.cells (bytesRow s cap) e ((bytesRow s cap).size, (bytesRow s cap).size + 1))) (.slice (some ⟨w.heap.size, 0, none⟩) s.size cap) 1 s.size (bytesV s.data.toList) := by
  refine ⟨by simp [bytesV], _, cap, rfl, h1, h2, fun _ => ⟨w.heap.size, 0, rfl, Nat.le_refl _, by simp, fun j hj => ?_⟩⟩
  have hj' : j < s.data.size := by simpa [bytesV] using hj
  have hh := heap_alloc_new w (.cells (bytesRow s cap) e ((bytesRow s cap).size, (bytesRow s cap).size + 1))
  have hz : (bytesRow s cap).size ≥ s.data.size := by simp [bytesRow]
  refine ⟨?_, ?_⟩
  · rw [cell_of_row _ _ _ _ _ _ hh, Nat.zero_add, bytesRow_at s cap j hj']; simp [bytesV, Array.getElem?_eq_getElem hj']
  · simp only [World.frozen?, hh]; simp; omega

set_option maxRecDepth 100000 in
set_option maxHeartbeats 400000 in
theorem wordMirror (s : ByteArray) (w : World) (hs : s.size ≤ 1048576) :
    Calls Tryd.prog 71 #[.string s] w fun e w' => e = .returned (.string (mirS s)) ∧ Below w.heap.size w w' := by
  have hcv := run_bytes_of_string (P := Tryd.prog) w 78 72 5 s Tryd.underlying78 Tryd.underlying72 Tryd.underlying5
  have h1 := grownCap_ge w s.size 0 5
  have h2 := grownCap_le_maxLen w s.size 0 5 (by unfold maxLen; omega)
  generalize grownCap w s.size 0 5 = cap at *
  have HO := Lib.hid (Own.bytes w s cap 5 h1 h2)
  generalize Obj.cells (bytesRow s cap) 5 ((bytesRow s cap).size, (bytesRow s cap).size + 1) = o at *
  have Hb := Lib.hid ((Below.refl w.heap.size w).alloc (Nat.le_refl _) o)
  have e : w.drew.alloc o = (w.alloc o).drewN 1 := rfl
  have HO1 := Lib.hid (HO.out.drewN 1)
  rw [e] at hcv
  go_enter Tryd.func71, Tryd.ntmps71
  go_wp2_with fail
  refine (reverse_own w.heap.size w.heap.size 0 cap s.size (bytesV s.data.toList) _ hs (Nat.le_refl _) (bytesV_u8 _) HO1.out).mono ?_
  rintro e w1 ⟨rfl, o1, b1⟩
  have hback : (convert 72 78 (.slice (some ⟨w.heap.size, 0, none⟩) s.size cap)).run Tryd.prog w1 = .ok (.string (mirS s)) w1 := by
    have hl : s.size = s.data.toList.reverse.length := by simp
    rw [hl]
    refine run_convert_bytes_back w1 72 78 5 ⟨w.heap.size, 0, none⟩ cap s.data.toList.reverse Tryd.underlying72 Tryd.underlying5 Tryd.underlying78 (fun j hj => ?_)
    obtain ⟨_, A', c', hv, _, _, hcell⟩ := o1
    have hjs : j < s.size := by simpa using hj
    obtain ⟨g', off', e, _, _, r⟩ := hcell (by omega)
    have hA : A' = some ⟨w.heap.size, 0, none⟩ := by injection hv with x _ _; exact x.symm
    rw [hA] at e
    obtain ⟨rfl, rfl⟩ : w.heap.size = g' ∧ 0 = off' := by injection e with e; injection e with e1 e2; exact ⟨e1, e2⟩
    have hr := (r j (by simp [bytesV]; omega)).1
    have ea : (⟨w.heap.size, 0, none⟩ : Addr).add j = ⟨w.heap.size, 0 + j, none⟩ := by simp [Addr.add]; exact fun h => h.symm
    rw [ea, hr]
    simp only [bytesV, ← List.map_reverse]
    rw [List.getElem?_map, List.getElem?_eq_getElem hj]
    rfl
  have hbb := Lib.hid (Hb.out.trans ((below_draws w.heap.size (w.alloc o) 1).trans b1))
  clear o1 b1
  go_wp2_with fail
  go_ret
  exact ⟨rfl, hbb.out⟩

theorem implMirrorWord (s : ByteArray) (w : World) (hs : s.size ≤ 1048576) :
    Calls Tryd.prog 60 #[.string s] w fun e w' => e = .returned (.string (mirS s)) ∧ Below w.heap.size w w' := by
  go_enter Tryd.func60, Tryd.ntmps60
  go_wp2_with (go_at_call 71; refine (wordMirror _ _ hs).mono ?_)
  rintro e w1 ⟨rfl, b⟩
  go_wp2_with fail
  go_ret
  exact ⟨rfl, b⟩
end Go.Proofs.YtpmghdecfpfahaaDoor
