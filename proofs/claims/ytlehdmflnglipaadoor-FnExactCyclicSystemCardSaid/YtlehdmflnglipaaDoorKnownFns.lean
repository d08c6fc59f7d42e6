/- The closures that make the rules of the known systems. -/
import Derived.Test.YtlehdmflnglipaaDoorMadeBy
namespace Go.Proofs.YtlehdmflnglipaaDoor
open Go.RowKit

theorem own_twoK {W : World} {g : Nat} {t : TypeId} {a b : Nat} (h : Blk W g t #[.int .i64 (a : Int), .int .i64 (b : Int)]) : Own 0 W (.slice (some ⟨g, 0, none⟩) 2 2) 1 2 (ints (natI [a, b])) := by
  refine ⟨rfl, _, 2, rfl, Nat.le_refl _, by unfold maxLen; omega, fun _ => ⟨g, 0, rfl, Nat.zero_le _, h.lt, fun j hj => ?_⟩⟩
  match j, hj with
  | 0, _ => exact ⟨h.cell 0, h.frozen 0⟩
  | 1, _ => exact ⟨h.cell 1, h.frozen 1⟩
  | n + 2, hj => (simp [ints, natI] at hj; omega)
theorem own_oneK {W : World} {g : Nat} {t : TypeId} {a : Nat} (h : Blk W g t #[.int .i64 (a : Int)]) : Own 0 W (.slice (some ⟨g, 0, none⟩) 1 1) 1 1 (ints (natI [a])) := by
  refine ⟨rfl, _, 1, rfl, Nat.le_refl _, by unfold maxLen; omega, fun _ => ⟨g, 0, rfl, Nat.zero_le _, h.lt, fun j hj => ?_⟩⟩
  match j, hj with
  | 0, _ => exact ⟨h.cell 0, h.frozen 0⟩
  | n + 1, hj => simp [ints, natI] at hj
theorem two_ltK {a b : Nat} (ha : a < 4) (hb : b < 4) : ∀ x ∈ [a, b], x < 4 := fun x hx => by simp at hx; omega
theorem one_ltK {a : Nat} (ha : a < 4) : ∀ x ∈ [a], x < 4 := fun x hx => by simp at hx; omega
theorem belK_alloc {B : Nat} {w W : World} (h : Below B w W) (hB : B ≤ w.heap.size) (o : Obj) : Below B w (W.alloc o) := h.alloc (Nat.le_trans hB h.size) o
theorem string_sumK (a b : ByteArray) (ha : a.size ≤ 8) (hb : b.size ≤ 8) : ¬ (9223372036854775807 < a.size + b.size) := by omega
abbrev zRule : Obj := .cells #[.string ⟨#[]⟩, .string ⟨#[]⟩] 44
set_option maxRecDepth 100000 in
set_option maxHeartbeats 3200000 in
theorem sortFn_any (p q y x : Nat) (w : World) (hP : Blk w p 3 #[.int .i64 (y : Int)]) (hQ : Blk w q 3 #[.int .i64 (x : Int)]) (hy : y < 4) (hx : x < 4) (hL : Let w) :
    Calls Tryd.prog 36 #[.pointer (some ⟨p, 0, none⟩), .pointer (some ⟨q, 0, none⟩)] w fun e w' => e = .returned (ruleV (letW [y, x], letW [x, y])) ∧ Below w.heap.size w w' := by
  have HL := Lib.hid (fun (w' : World) (hb : Below w.heap.size w w') => hL.keep hb (Nat.le_refl _))
  have HSt : Hid (∀ w', Below w.heap.size w w' → w'.cell? ⟨p, 0, none⟩ = some (.int .i64 (y : Int)) ∧ w'.cell? ⟨q, 0, none⟩ = some (.int .i64 (x : Int)) ∧ Below w.heap.size w w') :=
    fun w' hw => ⟨(hP.below hw hP.lt).cell 0, (hQ.below hw hQ.lt).cell 0, hw⟩
  have hd0 : Below w.heap.size w (w.alloc zRule).drew := (bel1 w _).drew
  have hd1 : Below w.heap.size w ((w.alloc zRule).drew.alloc (.cells #[.int .i64 (y : Int), .int .i64 (x : Int)] 3)) := belK_alloc hd0 (Nat.le_refl _) _
  have hd2 : Below w.heap.size w ((w.alloc zRule).drew.alloc (.cells #[.int .i64 (x : Int), .int .i64 (y : Int)] 3)) := belK_alloc hd0 (Nat.le_refl _) _
  have hd3 : Below w.heap.size w (((w.alloc zRule).drew.alloc (.cells #[.int .i64 (y : Int), .int .i64 (x : Int)] 3)).alloc (.cells #[.int .i64 (x : Int), .int .i64 (y : Int)] 3)) := belK_alloc hd1 (Nat.le_refl _) _
  have hd4 : Below w.heap.size w (((w.alloc zRule).drew.alloc (.cells #[.int .i64 (x : Int), .int .i64 (y : Int)] 3)).alloc (.cells #[.int .i64 (y : Int), .int .i64 (x : Int)] 3)) := belK_alloc hd2 (Nat.le_refl _) _
  have hsz : (w.alloc zRule).drew.heap.size = w.heap.size + 1 := by show (w.alloc zRule).heap.size = _; simp
  have f1 := Blk.new1 (w.alloc zRule).drew #[.int .i64 (y : Int), .int .i64 (x : Int)] 3
  have f2 := f1.alloc (.cells #[.int .i64 (x : Int), .int .i64 (y : Int)] 3)
  have f3 := Blk.new2 (w.alloc zRule).drew (.cells #[.int .i64 (x : Int), .int .i64 (y : Int)] 3) #[.int .i64 (y : Int), .int .i64 (x : Int)] 3
  have f4 := Blk.new2 (w.alloc zRule).drew (.cells #[.int .i64 (y : Int), .int .i64 (x : Int)] 3) #[.int .i64 (x : Int), .int .i64 (y : Int)] 3
  have f5 := (Blk.new1 (w.alloc zRule).drew #[.int .i64 (x : Int), .int .i64 (y : Int)] 3).alloc (.cells #[.int .i64 (y : Int), .int .i64 (x : Int)] 3)
  rw [hsz] at f1 f2 f3 f4 f5
  have F1 := Lib.hid f1
  have F2 := Lib.hid f2
  have F3 := Lib.hid f3
  have F4 := Lib.hid f4
  have F5 := Lib.hid f5
  have HZ := Lib.hid (Blk.new1 w #[.string ⟨#[]⟩, .string ⟨#[]⟩] 44)
  have HZ3 : Hid (Blk (((w.alloc zRule).drew.alloc (.cells #[.int .i64 (y : Int), .int .i64 (x : Int)] 3)).alloc (.cells #[.int .i64 (x : Int), .int .i64 (y : Int)] 3)) w.heap.size 44 #[.string ⟨#[]⟩, .string ⟨#[]⟩]) := Blk.alloc (Blk.alloc (show Blk (w.alloc zRule).drew _ _ _ from HZ.out) _) _
  have HZ4 : Hid (Blk (((w.alloc zRule).drew.alloc (.cells #[.int .i64 (x : Int), .int .i64 (y : Int)] 3)).alloc (.cells #[.int .i64 (y : Int), .int .i64 (x : Int)] 3)) w.heap.size 44 #[.string ⟨#[]⟩, .string ⟨#[]⟩]) := Blk.alloc (Blk.alloc (show Blk (w.alloc zRule).drew _ _ _ from HZ.out) _) _
  have hw1 := (letW_size [y, x])
  have hw2 := (letW_size [x, y])
  obtain ⟨u, hu⟩ : ∃ u, letW [y, x] = u := ⟨_, rfl⟩
  obtain ⟨v, hv⟩ : ∃ v, letW [x, y] = v := ⟨_, rfl⟩
  have HS1 := Lib.hid (fun (W : World) (g : Nat) (hB : Blk W g 3 #[.int .i64 (y : Int), .int .i64 (x : Int)]) (hb : Below w.heap.size w W) => by have h := spelled_any _ 2 2 0 [y, x] W (own_twoK hB) (two_ltK hy hx) (by omega) (by omega) (HL.out _ hb); rw [hu] at h; exact h)
  have HS2 := Lib.hid (fun (W : World) (g : Nat) (hB : Blk W g 3 #[.int .i64 (x : Int), .int .i64 (y : Int)]) (hb : Below w.heap.size w W) => by have h := spelled_any _ 2 2 0 [x, y] W (own_twoK hB) (two_ltK hx hy) (by omega) (by omega) (HL.out _ hb); rw [hv] at h; exact h)
  rw [hu, hv]
  clear f1 f2 f3 f4 f5 hsz hP hQ hL hu hv hw1 hw2
  obtain ⟨s0, s1, -⟩ := HSt.out _ hd0
  go_enter Tryd.func36, Tryd.ntmps36
  go_wp2_with fail
  go_region_held3 (fun w' => w'.cell? ⟨p, 0, none⟩ = some (.int .i64 (y : Int)) ∧ w'.cell? ⟨q, 0, none⟩ = some (.int .i64 (x : Int)) ∧ Below w.heap.size w w')
    ((refine HSt.out _ ?_; first | exact hd0 | exact hd1 | exact hd2 | exact hd3 | exact hd4 | exact (bel3 w _ _ _).drew))
    ((first
      | (go_at_call 29; refine (HS1.out _ _ (by first | exact F1.out | exact F2.out | exact F3.out) (by first | exact hd1 | exact hd3 | exact hd4)).mono ?_; rintro e w5 ⟨rfl, rfl⟩)
      | (go_at_call 29; refine (HS2.out _ _ (by first | exact F4.out | exact F5.out) (by first | exact hd3 | exact hd4)).mono ?_; rintro e w6 ⟨rfl, rfl⟩)))
  all_goals (
    go_wp2_with fail
    refine bodyPost_ret (v := ruleV (u, v)) (by simp [results, Tryd.results36, go_sem, *]) rfl ⟨rfl, (bel3 w _ _ _).drew⟩)
set_option maxRecDepth 100000 in
set_option maxHeartbeats 3200000 in
theorem projFn_any (p x : Nat) (w : World) (hP : Blk w p 3 #[.int .i64 (x : Int)]) (hx : x < 4) (hL : Let w) :
    Calls Tryd.prog 37 #[.pointer (some ⟨p, 0, none⟩)] w fun e w' => e = .returned (ruleV (letW [x, x], letW [x])) ∧ Below w.heap.size w w' := by
  have HL := Lib.hid (fun (w' : World) (hb : Below w.heap.size w w') => hL.keep hb (Nat.le_refl _))
  have HSt : Hid (∀ w', Below w.heap.size w w' → w'.cell? ⟨p, 0, none⟩ = some (.int .i64 (x : Int)) ∧ Below w.heap.size w w') :=
    fun w' hw => ⟨(hP.below hw hP.lt).cell 0, hw⟩
  have hd0 : Below w.heap.size w (w.alloc zRule).drew := (bel1 w _).drew
  have hd1 : Below w.heap.size w ((w.alloc zRule).drew.alloc (.cells #[.int .i64 (x : Int), .int .i64 (x : Int)] 3)) := belK_alloc hd0 (Nat.le_refl _) _
  have hd2 : Below w.heap.size w ((w.alloc zRule).drew.alloc (.cells #[.int .i64 (x : Int)] 3)) := belK_alloc hd0 (Nat.le_refl _) _
  have hd3 : Below w.heap.size w (((w.alloc zRule).drew.alloc (.cells #[.int .i64 (x : Int), .int .i64 (x : Int)] 3)).alloc (.cells #[.int .i64 (x : Int)] 3)) := belK_alloc hd1 (Nat.le_refl _) _
  have hd4 : Below w.heap.size w (((w.alloc zRule).drew.alloc (.cells #[.int .i64 (x : Int)] 3)).alloc (.cells #[.int .i64 (x : Int), .int .i64 (x : Int)] 3)) := belK_alloc hd2 (Nat.le_refl _) _
  have hsz : (w.alloc zRule).drew.heap.size = w.heap.size + 1 := by show (w.alloc zRule).heap.size = _; simp
  have f1 := Blk.new1 (w.alloc zRule).drew #[.int .i64 (x : Int), .int .i64 (x : Int)] 3
  have f2 := f1.alloc (.cells #[.int .i64 (x : Int)] 3)
  have f3 := Blk.new2 (w.alloc zRule).drew (.cells #[.int .i64 (x : Int)] 3) #[.int .i64 (x : Int), .int .i64 (x : Int)] 3
  have f4 := Blk.new2 (w.alloc zRule).drew (.cells #[.int .i64 (x : Int), .int .i64 (x : Int)] 3) #[.int .i64 (x : Int)] 3
  have f5 := (Blk.new1 (w.alloc zRule).drew #[.int .i64 (x : Int)] 3).alloc (.cells #[.int .i64 (x : Int), .int .i64 (x : Int)] 3)
  rw [hsz] at f1 f2 f3 f4 f5
  have F1 := Lib.hid f1
  have F2 := Lib.hid f2
  have F3 := Lib.hid f3
  have F4 := Lib.hid f4
  have F5 := Lib.hid f5
  have HZ := Lib.hid (Blk.new1 w #[.string ⟨#[]⟩, .string ⟨#[]⟩] 44)
  have HZ3 : Hid (Blk (((w.alloc zRule).drew.alloc (.cells #[.int .i64 (x : Int), .int .i64 (x : Int)] 3)).alloc (.cells #[.int .i64 (x : Int)] 3)) w.heap.size 44 #[.string ⟨#[]⟩, .string ⟨#[]⟩]) := Blk.alloc (Blk.alloc (show Blk (w.alloc zRule).drew _ _ _ from HZ.out) _) _
  have HZ4 : Hid (Blk (((w.alloc zRule).drew.alloc (.cells #[.int .i64 (x : Int)] 3)).alloc (.cells #[.int .i64 (x : Int), .int .i64 (x : Int)] 3)) w.heap.size 44 #[.string ⟨#[]⟩, .string ⟨#[]⟩]) := Blk.alloc (Blk.alloc (show Blk (w.alloc zRule).drew _ _ _ from HZ.out) _) _
  have HSu := Lib.hid (fun (W : World) (g n : Nat) (l : List Nat) (hO : Own 0 W (.slice (some ⟨g, 0, none⟩) n n) 1 n (ints (natI l))) (hb : Below w.heap.size w W) (hl : ∀ a ∈ l, a < 4) (hn : n ≤ 8) (h0 : 0 < n) => spelled_any (some ⟨g, 0, none⟩) n n 0 l W hO hl hn h0 (HL.out _ hb))
  clear f1 f2 f3 f4 f5 hsz hP hL
  obtain ⟨s0, -⟩ := HSt.out _ hd0
  go_enter Tryd.func37, Tryd.ntmps37
  go_wp2_with fail
  go_region_held3 (fun w' => w'.cell? ⟨p, 0, none⟩ = some (.int .i64 (x : Int)) ∧ Below w.heap.size w w')
    ((refine HSt.out _ ?_; first | exact hd0 | exact hd1 | exact hd2 | exact hd3 | exact hd4 | exact (bel3 w _ _ _).drew))
    ((go_at_call 29; refine (HSu.out _ _ _ _ (by first | exact own_twoK F1.out | exact own_twoK F2.out | exact own_twoK F3.out | exact own_oneK F4.out | exact own_oneK F5.out) (by first | exact hd1 | exact hd3 | exact hd4) (by first | exact two_ltK hx hx | exact one_ltK hx) (by omega) (by omega)).mono ?_; rintro e w5 ⟨rfl, rfl⟩))
  all_goals (
    go_wp2_with fail
    refine bodyPost_ret (v := ruleV (letW [x, x], letW [x])) (by simp [results, Tryd.results37, go_sem, *]) rfl ⟨rfl, (bel3 w _ _ _).drew⟩)
set_option maxRecDepth 100000 in
set_option maxHeartbeats 1600000 in
theorem brackFn_any (p i : Nat) (w : World) (hP : Blk w p 3 #[.int .i64 (i : Int)]) (hi : i < 2) (hL : Let w) :
    Calls Tryd.prog 38 #[.pointer (some ⟨p, 0, none⟩)] w fun e w' => e = .returned (ruleV (letW [2 * i, 2 * i + 1], ⟨#[]⟩)) ∧ Below w.heap.size w w' := by
  have HL := Lib.hid (fun (w' : World) (hb : Below w.heap.size w w') => hL.keep hb (Nat.le_refl _))
  have s0 := (hP.below (bel1 w zRule) hP.lt).cell 0
  have f1 := Blk.new2 w zRule #[.int .i64 (2 * (i : Int)), .int .i64 (2 * (i : Int) + 1)] 3
  have hc : #[Value.int .i64 (2 * (i : Int)), Value.int .i64 (2 * (i : Int) + 1)] = #[Value.int .i64 ((2 * i : Nat) : Int), Value.int .i64 ((2 * i + 1 : Nat) : Int)] := by rw [show ((2 * i : Nat) : Int) = 2 * (i : Int) by omega, show ((2 * i + 1 : Nat) : Int) = 2 * (i : Int) + 1 by omega]
  have HS := Lib.hid (by
    have h := spelled_any (some ⟨w.heap.size + 1, 0, none⟩) 2 2 0 [2 * i, 2 * i + 1] _ (own_twoK (hc ▸ f1)) (two_ltK (by omega) (by omega)) (by omega) (by omega) (HL.out _ (bel2 w _ _))
    exact h)
  have hz := (Blk.new1 w #[.string ⟨#[]⟩, .string ⟨#[]⟩] 44).alloc (.cells #[.int .i64 (2 * (i : Int)), .int .i64 (2 * (i : Int) + 1)] 3)
  obtain ⟨z0, z1, zf0, zf1, -⟩ := hz.two
  simp only [List.getElem?_toArray, List.getElem?_cons_zero] at s0
  rw [← hc] at HS
  generalize letW [2 * i, 2 * i + 1] = u at *
  clear f1 hc hP hL hz
  go_enter Tryd.func38, Tryd.ntmps38
  go_wp2_with fail
  refine HS.out.mono ?_
  rintro e w5 ⟨rfl, rfl⟩
  go_wp2_with fail
  refine bodyPost_ret (v := ruleV (u, ⟨#[]⟩)) (by simp [results, Tryd.results38, go_sem, *]) rfl ⟨rfl, bel2 _ _ _⟩
end Go.Proofs.YtlehdmflnglipaaDoor
