/- Links: copied, slices.Reverse over links, both TurnProof, both CountBack. -/
import Derived.Test.YtddifhbjjiphiaaDoorLinks
import Derived.Laws.CopyRow
import Derived.Deep.QuietTactic
import Derived.BigQuiet
namespace Go.Proofs.YtddifhbjjiphiaaDoor
open Go.RowKit

section
variable {α : Type} (d : α)
/-- The first k and the last k of a list have changed places. -/
def revG (l : List α) (k : Nat) : List α := (List.range l.length).map fun x => if x < k ∨ l.length - k ≤ x then l.getD (l.length - 1 - x) d else l.getD x d
theorem revG_length (l : List α) (k : Nat) : (revG d l k).length = l.length := by simp [revG]
theorem revG_get (l : List α) (k x : Nat) (h : x < l.length) : (revG d l k)[x]? = some (if x < k ∨ l.length - k ≤ x then l.getD (l.length - 1 - x) d else l.getD x d) := by simp [revG, h]
theorem revG_zero (l : List α) : revG d l 0 = l := by
  apply List.ext_getElem?
  intro x
  by_cases h : x < l.length
  · rw [revG_get d l 0 x h, if_neg (by omega)]; simp [h]
  · rw [List.getElem?_eq_none (by rw [revG_length]; omega), List.getElem?_eq_none (by omega)]
theorem revG_end (l : List α) (k : Nat) (h : l.length ≤ 2 * k + 1) : revG d l k = l.reverse := by
  apply List.ext_getElem?
  intro x
  by_cases hx : x < l.length
  · rw [revG_get d l k x hx, List.getElem?_reverse hx]
    by_cases hc : x < k ∨ l.length - k ≤ x
    · rw [if_pos hc]; simp [show l.length - 1 - x < l.length by omega]
    · rw [if_neg hc]
      have : l.length - 1 - x = x := by omega
      rw [this]; simp [hx]
  · rw [List.getElem?_eq_none (by rw [revG_length]; omega), List.getElem?_eq_none (by simp; omega)]
theorem revG_step (l : List α) (k j : Nat) (hj : j + k + 1 = l.length) (h : k < j) (x y : α) (hx : (revG d l k)[k]? = some x) (hy : (revG d l k)[j]? = some y) : ((revG d l k).set k y).set j x = revG d l (k + 1) := by
  rw [revG_get d l k k (by omega), if_neg (by omega)] at hx
  rw [revG_get d l k j (by omega), if_neg (by omega)] at hy
  have hx := Option.some.inj hx
  have hy := Option.some.inj hy
  apply List.ext_getElem?
  intro z
  by_cases hz : z < l.length
  · rw [revG_get d l (k + 1) z hz]
    by_cases e1 : z = j
    · subst e1
      rw [List.getElem?_set_self (by simp [revG_length]; omega), if_pos (by omega), ← hx]; congr 2; omega
    · rw [List.getElem?_set_ne (Ne.symm e1)]
      by_cases e2 : z = k
      · subst e2
        rw [List.getElem?_set_self (by simp [revG_length]; omega), if_pos (by omega), ← hy]; congr 2; omega
      · rw [List.getElem?_set_ne (Ne.symm e2), revG_get d l k z hz]
        by_cases hc : z < k ∨ l.length - k ≤ z
        · rw [if_pos hc, if_pos (by omega)]
        · rw [if_neg hc, if_neg (by omega)]
  · rw [List.getElem?_eq_none (by simp [revG_length]; omega), List.getElem?_eq_none (by rw [revG_length]; omega)]
end

/-- copy, of a whole list of links into a row that holds as many. -/
theorem run_copyK {P : Program} {w : World} {dT ty elem : TypeId} {g n c : Nat} {A : Option Addr} {cur : Array Value} {t : TypeId} {cs : List Value} (hu : P.underlying dT = some (.slice elem)) (hs : (P.info? elem).map (·.size) = some 3)
    (hg : w.heap[g]? = some (.cells cur t (0, 0))) (hc : cur.size = n * 3) (hn : cs.length = n * 3) (hsrc : 0 < n → ∃ a, A = some a ∧ ∀ j v, cs[j]? = some v → w.cell? (a.add j) = some v) (h1 : ∀ v ∈ cs, v.oneCell' = true) :
    (Builtin.copy_ #[dT, dT] ty #[.slice (some ⟨g, 0, none⟩) n n, .slice A n c]).run P w = .ok (goInt n) (w.setRow g cs.toArray) := by
  cases hq : P.info? elem with
  | none => simp [hq] at hs
  | some i =>
    have hi : i.size = 3 := by simpa [hq] using hs
    by_cases h0 : 0 < n
    · obtain ⟨a, rfl, hsr⟩ := hsrc h0
      have hl := run_loadCells_list (P := P) w a cs hsr
      have hst := run_storeCells_at P g 0 t cs 0 cur w hg (by simp; omega) h1
      have e : (cur.toList.take (0 + 0) ++ cs ++ cur.toList.drop (0 + 0 + cs.length)).toArray = cs.toArray := by
        rw [List.drop_of_length_le (by simp; omega)]; simp
      rw [e] at hst
      simp [Builtin.copy_, run_underlying hu, Builtin.lenOf, Builtin.firstCells, sizeOf, typeInfo, hq, hi, ← hn, hl, hst]
    · obtain rfl : n = 0 := by omega
      obtain rfl : cs = [] := List.eq_nil_of_length_eq_zero (by simpa using hn)
      obtain rfl : cur = #[] := Array.eq_empty_of_size_eq_zero (by simpa using hc)
      have hw : w.setRow g ([] : List Value).toArray = w := setRow_self w g #[] t (0, 0) hg
      rw [hw]
      cases A with
      | none => simp [Builtin.copy_, run_underlying hu, Builtin.lenOf, Builtin.firstCells, sizeOf, typeInfo, hq, storeCells]
      | some a =>
        have hl := run_loadCells_list (P := P) w a [] (fun j v h => by simp at h)
        simp only [List.length_nil] at hl
        simp [Builtin.copy_, run_underlying hu, Builtin.lenOf, Builtin.firstCells, sizeOf, typeInfo, hq, hl, storeCells]
theorem linksC_one' (l : List LK) : ∀ v ∈ linksC l, v.oneCell' = true := by
  intro v hv
  simp only [linksC, List.mem_flatMap, linkC, List.mem_cons, List.not_mem_nil, or_false] at hv
  obtain ⟨a, -, rfl | rfl | rfl⟩ := hv <;> rfl
theorem sizeLink : (Tryd.prog.info? 34).map (·.size) = some 3 := by kernel_rfl
theorem Own.src {B n size c : Nat} {w : World} {A : Option Addr} {xs : List Value} (h : Own B w (.slice A n c) size n xs) : 0 < n → ∃ a, A = some a ∧ ∀ j v, xs[j]? = some v → w.cell? (a.add j) = some v := by
  intro hn
  obtain ⟨h1, A', c', hv, hc, hm, h2⟩ := h
  obtain ⟨rfl, rfl⟩ : A = A' ∧ c = c' := by injection hv; exact ⟨by assumption, by assumption⟩
  obtain ⟨g, off, e, -, -, r⟩ := h2 hn
  refine ⟨⟨g, off, none⟩, e, fun j v hj => ?_⟩
  have hjl := (List.getElem?_eq_some_iff.1 hj).1
  have ea : (⟨g, off, none⟩ : Addr).add j = ⟨g, off + j, none⟩ := by simp [Addr.add]
  rw [ea, (r j hjl).1, hj]
theorem Own.drew_ {B n size : Nat} {w : World} {v : Value} {xs : List Value} (h : Own B w v size n xs) : Own B w.drew v size n xs := h
theorem Own.below_src {B n size c : Nat} {w w' : World} {A : Option Addr} {xs : List Value} (h : Own B w (.slice A n c) size n xs) (hb : Below w.heap.size w w') : 0 < n → ∃ a, A = some a ∧ ∀ j v, xs[j]? = some v → w'.cell? (a.add j) = some v := (h.below hb).src
theorem Own.ofRow3 {w : World} {g n : Nat} {t : TypeId} {xs : List LK} (hg : w.heap[g]? = some (.cells (linksC xs).toArray t (0, 0))) (hn : xs.length = n) (hm : n ≤ maxLen) : Own g w (.slice (some ⟨g, 0, none⟩) n n) 3 n (linksC xs) := by
  refine ⟨by rw [linksC_length, hn], _, n, rfl, Nat.le_refl _, hm, fun _ => ⟨g, 0, rfl, Nat.le_refl _, ?_, fun j hj => ?_⟩⟩
  · rcases Nat.lt_or_ge g w.heap.size with hlt | hge
    · exact hlt
    · rw [Array.getElem?_eq_none hge] at hg; cases hg
  · refine ⟨?_, frozen_of_row _ _ _ _ _ hg⟩
    rw [cell_of_row _ _ _ _ _ _ hg, Nat.zero_add]; simp
set_option maxHeartbeats 800000 in
theorem copied_any (A : Option Addr) (n c B : Nat) (xs : List LK) (w : World) (h : Own B w (.slice A n c) 3 n (linksC xs)) (hn : n ≤ 1048576) :
    Calls Tryd.prog 59 #[.slice A n c] w fun e w' => e = .returned (.slice (some ⟨w.heap.size, 0, none⟩) n n) ∧ Own w.heap.size w' (.slice (some ⟨w.heap.size, 0, none⟩) n n) 3 n (linksC xs) ∧ Below w.heap.size w w' := by
  have hmk := run_makeLinks n hn
  have hl := h.llen
  have b1 := bel1 w (.cells (madeCells #[.int .i64 0, .int .i64 0, .bool false] (n * 3)) 34)
  have hg := heap_alloc_new w (.cells (madeCells #[.int .i64 0, .int .i64 0, .bool false] (n * 3)) 34)
  have hcp := fun ty => run_copyK (P := Tryd.prog) (dT := 43) (ty := ty) (n := n) (c := c) (A := A) (cs := linksC xs) Tryd.underlying43 sizeLink hg (by simp [madeCells]) (by rw [linksC_length, hl]) (h.below_src b1) (linksC_one' xs)
  have hO : Own w.heap.size ((w.alloc (.cells (madeCells #[.int .i64 0, .int .i64 0, .bool false] (n * 3)) 34)).setRow w.heap.size (linksC xs).toArray) (.slice (some ⟨w.heap.size, 0, none⟩) n n) 3 n (linksC xs) :=
    Own.ofRow3 (setRow_heap _ _ _ _ _ _ hg) hl (by unfold maxLen; omega)
  have hB : Below w.heap.size w ((w.alloc (.cells (madeCells #[.int .i64 0, .int .i64 0, .bool false] (n * 3)) 34)).setRow w.heap.size (linksC xs).toArray) :=
    b1.trans ⟨rfl, rfl, rfl, by simp [World.setRow], fun k hk => setRow_other _ _ k _ (by omega)⟩
  have HO := Lib.hid hO
  have HB := Lib.hid hB
  have HC := Lib.hid hcp
  clear hO hB hcp b1 hg h hl
  go_enter Tryd.func59, Tryd.ntmps59
  have hcp := HC.out 3
  go_wp2_with fail
  go_ret
  exact ⟨rfl, HO.out, HB.out⟩

def flipB (x : LK) : LK := (x.1, x.2.1, !x.2.2)
/-- What TurnProof answers. -/
def turnL (l : List LK) : List LK := l.reverse.map flipB
theorem turnL_length (l : List LK) : (turnL l).length = l.length := by simp [turnL]

set_option maxHeartbeats 1600000 in
set_option maxRecDepth 100000 in
theorem reverseK (B g off c n : Nat) (l : List LK) (w : World) (hn : n ≤ 1048576) (hB : B ≤ g) (h : Own B w (.slice (some ⟨g, off, none⟩) n c) 3 n (linksC l)) :
    Calls Tryd.prog 73 #[.slice (some ⟨g, off, none⟩) n c] w fun e w' => e = .returned (.tuple #[]) ∧ Own B w' (.slice (some ⟨g, off, none⟩) n c) 3 n (linksC l.reverse) ∧ Below B w w' := by
  have hl : l.length = n := h.llen
  have HL := Lib.hid hl
  have H0 := Lib.hid (revG_zero (0, 0, false) l)
  clear hl
  go_enter Tryd.func73, Tryd.ntmps73
  go_wp2_with fail
  go_loopw [2, 3] (fun i j wr => ∃ k : Nat, 2 * k ≤ n + 1 ∧ i = .int .i64 k ∧ j = .int .i64 ((n : Int) - 1 - k) ∧ Hid (Own B wr (.slice (some ⟨g, off, none⟩) n c) 3 n (linksC (revG (0, 0, false) l k))) ∧ Below B w wr) (fun i _ _ => n - (intOf i).toNat)
  case atStart => exact ⟨0, by omega, rfl, by simp, by rw [H0.out]; exact h, Below.refl _ _⟩
  case round =>
    obtain ⟨k, hk, rfl, rfl, HO, hb⟩ := hrel
    by_cases hlt : 2 * k + 1 < n
    · obtain ⟨j, hj⟩ : ∃ j : Nat, (n : Int) - 1 - k = j := ⟨n - 1 - k, by omega⟩
      have hkj : k < j := by omega
      have hjn : j < n := by omega
      have hkn : k < n := by omega
      have HJ := Lib.hid (show j + k + 1 = l.length by rw [HL.out]; omega)
      rw [hj]
      obtain ⟨-, hgl, ⟨x, y, z⟩, hx, x0, x1, x2, xf0, xf1, xf2⟩ := HO.out.link hkn
      obtain ⟨-, -, ⟨p, q, r⟩, hy, y0, y1, y2, yf0, yf1, yf2⟩ := HO.out.link hjn
      have hkl : k * 3 + 2 < (linksC (revG (0, 0, false) l k)).length := by rw [linksC_length, revG_length, HL.out]; omega
      have hjl : j * 3 + 2 < (linksC (revG (0, 0, false) l k)).length := by rw [linksC_length, revG_length, HL.out]; omega
      have o2 := Own.set (Own.set (Own.set HO.out (j := k * 3) (by omega) (.int .i64 p)) (j := k * 3 + 1) (by rw [List.length_set]; omega) (.int .i64 q)) (j := k * 3 + 2) (by simp only [List.length_set]; omega) (.bool r)
      rw [linksC_set _ k (p, q, r) (by rw [revG_length, HL.out]; omega)] at o2
      have hjl2 : j * 3 + 2 < (linksC ((revG (0, 0, false) l k).set k (p, q, r))).length := by rw [linksC_length, List.length_set, revG_length, HL.out]; omega
      have o4 := Own.set (Own.set (Own.set o2 (j := j * 3) (by omega) (.int .i64 x)) (j := j * 3 + 1) (by rw [List.length_set]; omega) (.int .i64 y)) (j := j * 3 + 2) (by simp only [List.length_set]; omega) (.bool z)
      rw [linksC_set _ j (x, y, z) (by rw [List.length_set, revG_length, HL.out]; omega), revG_step (0, 0, false) l k j HJ.out hkj (x, y, z) (p, q, r) hx hy] at o4
      have e1 : off + (k * 3 + 1) = off + k * 3 + 1 := by omega
      have e2 : off + (k * 3 + 2) = off + k * 3 + 2 := by omega
      have e3 : off + (j * 3 + 1) = off + j * 3 + 1 := by omega
      have e4 : off + (j * 3 + 2) = off + j * 3 + 2 := by omega
      rw [e1, e2, e3, e4] at o4
      have HO2 := Lib.hid o4.drew_
      have HBB := Lib.hid (((((((hb.setCell (p := ⟨g, off + k * 3, none⟩) hB (.int .i64 p)).setCell (p := ⟨g, off + k * 3 + 1, none⟩) hB (.int .i64 q)).setCell (p := ⟨g, off + k * 3 + 2, none⟩) hB (.bool r)).setCell (p := ⟨g, off + j * 3, none⟩) hB (.int .i64 x)).setCell (p := ⟨g, off + j * 3 + 1, none⟩) hB (.int .i64 y)).setCell (p := ⟨g, off + j * 3 + 2, none⟩) hB (.bool z)).drew)
      clear o2 o4 hx hy e1 e2 e3 e4 hkl hjl hjl2
      dsimp only at x0 x1 x2 y0 y1 y2
      go_wp2_with fail
      go_region
      go_wp2_with fail
      go_roundw
      case rel => exact ⟨k + 1, by omega, by go_num, by congr 1; omega, HO2, HBB.out⟩
      case measure => simp [intOf]; omega
    · have hnl : ¬ (k : Int) < (n : Int) - 1 - k := by omega
      have HO2 := HO.out
      rw [revG_end (0, 0, false) l k (by rw [HL.out]; omega)] at HO2
      have HO3 := Lib.hid HO2
      clear HO2
      go_wp2_with fail
      go_end0
      exact ⟨rfl, HO3.out, hb⟩

theorem turn_step (ys : List LK) (j : Nat) (y : LK) (h : ys[j]? = some y) : ((ys.take j).map flipB ++ ys.drop j).set j (flipB y) = (ys.take (j + 1)).map flipB ++ ys.drop (j + 1) := by
  obtain ⟨hj, he⟩ := List.getElem?_eq_some_iff.1 h
  have h1 : ys.drop j = y :: ys.drop (j + 1) := by rw [List.drop_eq_getElem_cons hj, he]
  have h2 : ys.take (j + 1) = ys.take j ++ [y] := by rw [List.take_succ_eq_append_getElem hj, he]
  have h3 : ((ys.take j).map flipB).length = j := by simp; omega
  rw [h1, h2, List.set_append_right _ _ (by omega), h3, Nat.sub_self, List.set_cons_zero, List.map_append, List.append_assoc]
  rfl
theorem turn_mid (ys : List LK) (j : Nat) (y : LK) (h : ys[j]? = some y) : ((ys.take j).map flipB ++ ys.drop j)[j]? = some y := by
  have hj := (List.getElem?_eq_some_iff.1 h).1
  rw [List.getElem?_append_right (by simp; omega)]
  have h3 : j - ((ys.take j).map flipB).length = 0 := by simp; omega
  rw [h3, List.getElem?_drop]; simpa using h
set_option maxRecDepth 100000 in
set_option maxHeartbeats 800000 in
theorem implTurnProof (A : Option Addr) (n c B : Nat) (xs : List LK) (w : World) (h : Own B w (.slice A n c) 3 n (linksC xs)) (hn : n ≤ 1048576) :
    Calls Tryd.prog 54 #[.slice A n c] w fun e w' => ∃ v, e = .returned v ∧ Own w.heap.size w' v 3 n (linksC (turnL xs)) ∧ Below w.heap.size w w' := by
  have HO := Lib.hid h
  have Hl := Lib.hid h.llen
  clear h
  go_enter Tryd.func54, Tryd.ntmps54
  go_wp2_with fail
  refine (copied_any A n c B xs _ HO.out hn).mono ?_
  rintro e w1 ⟨rfl, o1, b1⟩
  have O1 := Lib.hid o1
  clear o1
  go_wp2_with fail
  refine (reverseK w.heap.size w.heap.size 0 n n xs _ hn (Nat.le_refl _) O1.out).mono ?_
  rintro e w2 ⟨rfl, o2, hb2⟩
  have b2 := b1.trans hb2
  obtain ⟨ys, hys⟩ : ∃ ys, xs.reverse = ys := ⟨_, rfl⟩
  rw [hys] at o2
  have Hyl : Hid (ys.length = n) := by show _ = _; rw [← hys, List.length_reverse, Hl.out]
  have HF : Hid (turnL xs = ys.map flipB) := by show _ = _; rw [turnL, hys]
  have O2 := Lib.hid o2
  clear o2 hb2 b1 O1 hys HO
  go_wp2_with fail
  go_loopw [11] (fun i wr => ∃ j : Nat, j ≤ n ∧ i = .int .i64 j ∧ Hid (Own w.heap.size wr (.slice (some ⟨w.heap.size, 0, none⟩) n n) 3 n (linksC ((ys.take j).map flipB ++ ys.drop j))) ∧ Below w.heap.size w wr) (fun i _ => n - (intOf i).toNat)
  case atStart => exact ⟨0, Nat.zero_le _, rfl, by show Own _ _ _ _ _ _; simpa using O2.out, b2⟩
  case round =>
    obtain ⟨j, hj, rfl, HR, hb⟩ := hrel
    by_cases hlt : j < n
    · obtain ⟨y, hy⟩ : ∃ y, ys[j]? = some y := ⟨_, List.getElem?_eq_getElem (by rw [Hyl.out]; exact hlt)⟩
      obtain ⟨-, hgl, r, hr, x0, x1, x2, -, -, xf2⟩ := HR.out.link hlt
      obtain rfl : y = r := by rw [turn_mid ys j y hy] at hr; exact Option.some.inj hr
      have o3 := Own.set HR.out (j := j * 3 + 2) (by rw [linksC_length]; simp [Hyl.out]; omega) (.bool (!y.2.2))
      rw [linksC_setB _ j y _ hr] at o3
      have e3 : ((ys.take j).map flipB ++ ys.drop j).set j (y.1, y.2.1, !y.2.2) = (ys.take (j + 1)).map flipB ++ ys.drop (j + 1) := turn_step ys j y hy
      rw [e3] at o3
      have e0 : 0 + (j * 3 + 2) = 0 + j * 3 + 2 := by omega
      rw [e0] at o3
      have hb3 := hb.setCell (p := ⟨w.heap.size, 0 + j * 3 + 2, none⟩) (Nat.le_refl _) (.bool (!y.2.2))
      generalize y.2.2 = z at *
      rw [Nat.zero_add] at x2 xf2 o3 hb3
      have O3 := Lib.hid o3
      have B3 := Lib.hid hb3
      clear o3 hb3 e0 e3 hr hy x0 x1 HR hb
      cases z
      all_goals
        go_wp2_with fail
        go_roundw
        case rel => exact ⟨j + 1, by omega, by go_num, O3, B3.out⟩
        case measure => simp [intOf]; omega
    · obtain rfl : j = n := by omega
      have o3 := HR.out
      rw [List.drop_of_length_le (by rw [Hyl.out]; exact Nat.le_refl _), List.append_nil, List.take_of_length_le (by rw [Hyl.out]; exact Nat.le_refl _), ← HF.out] at o3
      have O3 := Lib.hid o3
      clear o3 HR
      go_wp2_with fail
      go_ret
      exact ⟨_, rfl, O3.out, hb⟩

theorem turnL_get (xs : List LK) (n j : Nat) (x : LK) (hl : xs.length = n) (hj : j < n) (h : xs[n - 1 - j]? = some x) : (turnL xs).take (j + 1) = (turnL xs).take j ++ [flipB x] := by
  have h2 : (turnL xs)[j]? = some (flipB x) := by
    rw [turnL, List.getElem?_map, List.getElem?_reverse (by omega), hl, h]; rfl
  have hjl := (List.getElem?_eq_some_iff.1 h2).1
  have he := (List.getElem?_eq_some_iff.1 h2).2
  rw [List.take_succ_eq_append_getElem hjl, he]
set_option maxRecDepth 100000 in
set_option maxHeartbeats 1600000 in
theorem specTurnProof (A : Option Addr) (n c B : Nat) (xs : List LK) (w : World) (h : Own B w (.slice A n c) 3 n (linksC xs)) (hn : n ≤ 1048576) :
    Calls Tryd.prog 52 #[.slice A n c] w fun e w' => ∃ v, e = .returned v ∧ Own w.heap.size w' v 3 n (linksC (turnL xs)) ∧ Below w.heap.size w w' := by
  obtain ⟨i0, hi, hz0, hz1, hz2⟩ := infoR_parts infoLink
  have HO := Lib.hid h
  have Hl := Lib.hid h.llen
  have hR := World.ownsRow_lit (e := 34) (base := w.heap.size) (size := 3) w #[] 0 (Nat.le_refl _) (by unfold maxLen; omega) rfl
  have HR0 : Hid ((w.alloc (.cells #[] 34)).ownsRow w.heap.size 34 3 (.slice (some ⟨w.heap.size, 0, none⟩) 0 0) 0 (linksC ((turnL xs).take 0))) := by
    show World.ownsRow _ _ _ _ _ _ _
    rw [List.take_zero]; exact hR
  clear h hR
  go_enter Tryd.func52, Tryd.ntmps52
  go_wp2_with fail
  go_loopw [3, 4] (fun o i wr => ∃ j : Nat, j ≤ n ∧ i = .int .i64 ((n : Int) - 1 - j) ∧ Hid (wr.ownsRow w.heap.size 34 3 o j (linksC ((turnL xs).take j))) ∧ Below w.heap.size w wr) (fun _ i _ => ((intOf i) + 1).toNat)
  case atStart => exact ⟨0, Nat.zero_le _, by simp, HR0, bel1 _ _⟩
  case round =>
    obtain ⟨j, hj, rfl, HR, hb⟩ := hrel
    have hbs := hb.size
    by_cases hlt : j < n
    · obtain ⟨i, hij⟩ : ∃ i : Nat, (n : Int) - 1 - j = i := ⟨n - 1 - j, by omega⟩
      have hin : i < n := by omega
      obtain ⟨g, off, c0, hv⟩ := HO.out.formR (by omega)
      obtain ⟨rfl, rfl⟩ : A = some ⟨g, off, none⟩ ∧ c = c0 := by injection hv with a _ b; exact ⟨a, b⟩
      clear hv
      obtain ⟨-, hgl, ⟨x, y, z⟩, hr, x0, x1, x2, -, -, -⟩ := (HO.out.below hb).link hin
      have HT : Hid ((turnL xs).take (j + 1) = (turnL xs).take j ++ [(x, y, !z)]) := turnL_get xs n j (x, y, z) Hl.out hlt (by rw [show n - 1 - j = i by omega]; exact hr)
      have HR2 := Lib.hid (HR.out.alloc (.cells #[.int .i64 x, .int .i64 y, .bool (!z)] 34))
      have b2 := hb.alloc hbs (.cells #[.int .i64 x, .int .i64 y, .bool (!z)] 34)
      rw [hij]
      dsimp only at x0 x1 x2
      clear hr
      go_wp2_with (at_builtin; refine wpList_append_own _ rfl _ _ 43 rfl w.heap.size 34 i0 (.agg #[.int .i64 0, .int .i64 0, .bool false]) 3 24 Tryd.underlying43 hi hz0 hz1 hz2 rfl (by decide) _ _ _ rfl (HR2.out.alloc _) ⟨wr.heap.size + 1, 0, none⟩ 1 1 [.int .i64 x, .int .i64 y, .bool (!z)] rfl rfl ?c1 ?c2 ?c3 ?c4 ?c5 ?_)
      case c1 =>
        intro q u hq
        match q, hq with
        | 0, hq => simp at hq; subst hq; simp [Addr.add]
        | 1, hq => simp at hq; subst hq; simp [Addr.add]
        | 2, hq => simp at hq; subst hq; simp [Addr.add]
      case c2 => intro u hu; simp at hu; rcases hu with rfl | rfl | rfl <;> rfl
      case c3 => unfold maxLen; omega
      case c4 => omega
      case c5 => simp; omega
      intro v' w6 hown' hgrow _
      have hown2 : w6.ownsRow w.heap.size 34 3 v' (j + 1) (linksC ((turnL xs).take (j + 1))) := by
        rw [HT.out, linksC_append]
        exact hown'
      have hbw6 : Below w.heap.size w w6 := grown_one HR2.out hgrow b2 (Nat.le_refl _) (by simp; omega)
      have HR6 := Lib.hid hown2
      have hi2 : (n : Int) - 1 - (j + 1 : Nat) = (i : Int) - 1 := by omega
      clear hown' hgrow hown2 HR2 b2 hb HR
      go_wp2_with fail
      go_roundw
      case rel => exact ⟨j + 1, by omega, by rw [hi2], HR6, hbw6⟩
      case measure => simp [intOf]
    · obtain rfl : j = n := by omega
      have o3 := HR.out
      rw [List.take_of_length_le (by rw [turnL_length, Hl.out]; exact Nat.le_refl _)] at o3
      have hneg : (j : Int) - 1 - j = -1 := by omega
      rw [hneg]
      obtain ⟨A6, c6, hv6⟩ := (Own.of_row o3).form
      subst hv6
      have O3 := Lib.hid (Own.of_row o3)
      clear o3 HR
      go_wp2_with fail
      go_ret
      exact ⟨_, rfl, O3.out, hb⟩

def cntB (xs : List LK) : Nat := (xs.filter (·.2.2)).length
theorem cntB_step (xs : List LK) (j : Nat) (x : LK) (h : xs[j]? = some x) : cntB (xs.take (j + 1)) = cntB (xs.take j) + (if x.2.2 then 1 else 0) := by
  have hj := (List.getElem?_eq_some_iff.1 h).1
  have he := (List.getElem?_eq_some_iff.1 h).2
  rw [List.take_succ_eq_append_getElem hj, he, cntB, List.filter_append, List.length_append, cntB]
  congr 1
  cases hz : x.2.2 <;> simp [hz]
theorem cntB_le (xs : List LK) (j : Nat) : cntB (xs.take j) ≤ j := by
  unfold cntB
  exact Nat.le_trans (List.length_filter_le _ _) (by simp; omega)
end Go.Proofs.YtddifhbjjiphiaaDoor
