/- The laws' marks on lists of rules and on systems: markRuleS, heldRuleS, markSystem, heldSystem. -/
import Derived.Test.YtlehdmflnglipaaDoorRules
import Derived.Test.YtlehdmflnglipaaDoorMarks
namespace Go.Proofs.YtlehdmflnglipaaDoor
open Go.RowKit

theorem Own.cellAt {B n m g off c : Nat} {w : World} {xs : List Value} (h : Own B w (.slice (some ⟨g, off, none⟩) n c) m n xs) (hn : 0 < n) {i : Nat} (hi : i < xs.length) : w.cell? ⟨g, off + i, none⟩ = xs[i]? ∧ w.frozen? ⟨g, off + i, none⟩ = false := by
  obtain ⟨h1, A', c', hv, hc, hm, h2⟩ := h
  obtain ⟨g', off', e, hg, hlt, r⟩ := h2 hn
  have hA : A' = some ⟨g, off, none⟩ := by injection hv with a b d; exact a.symm
  rw [hA] at e
  obtain ⟨rfl, rfl⟩ : g = g' ∧ off = off' := by injection e with e; injection e with e1 e2; exact ⟨e1, e2⟩
  exact r i hi
theorem Own.ge {B n m g off c : Nat} {w : World} {xs : List Value} (h : Own B w (.slice (some ⟨g, off, none⟩) n c) m n xs) (hn : 0 < n) : B ≤ g ∧ g < w.heap.size := by
  obtain ⟨h1, A', c', hv, hc, hm, h2⟩ := h
  obtain ⟨g', off', e, hg, hlt, r⟩ := h2 hn
  have hA : A' = some ⟨g, off, none⟩ := by injection hv with a b d; exact a.symm
  rw [hA] at e
  obtain ⟨rfl, rfl⟩ : g = g' ∧ off = off' := by injection e with e; injection e with e1 e2; exact ⟨e1, e2⟩
  exact ⟨hg, hlt⟩
def blockOf (A : Option Addr) : Nat := (A.map (·.block)).getD 0
/-- Nothing that was there has turned, but the slice's own block. -/
def KeptA (A : Option Addr) (n : Nat) (w w' : World) : Prop := ∀ d, d < w.heap.size → (0 < n → d ≠ blockOf A) → w'.heap[d]? = w.heap[d]?
theorem KeptA.below {A : Option Addr} {n : Nat} {w w1 w2 : World} (h : KeptA A n w w1) (hs : w.heap.size ≤ w1.heap.size) (hb : Below w1.heap.size w1 w2) : KeptA A n w w2 := fun d hd hn => (hb.block d (by omega)).trans (h d hd hn)
theorem KeptA.setCell {g off n : Nat} {w w1 : World} (h : KeptA (some ⟨g, off, none⟩) n w w1) (hn : 0 < n) (o : Nat) (u : Value) : KeptA (some ⟨g, off, none⟩) n w (w1.setCell ⟨g, o, none⟩ u) :=
  fun d hd h1 => (Below.heap_setCell w1 ⟨g, o, none⟩ u d (h1 hn)).trans (h d hd h1)
theorem KeptA.blk {A : Option Addr} {n : Nat} {w w' : World} {d : Nat} {t : TypeId} {cs : Array Value} (h : KeptA A n w w') (hb : Blk w d t cs) (hn : 0 < n → d ≠ blockOf A) : Blk w' d t cs := (h d hb.lt hn).trans hb
theorem Own.blk_lt {B n m c : Nat} {w : World} {A : Option Addr} {xs : List Value} (h : Own B w (.slice A n c) m n xs) (hn : 0 < n) : B ≤ blockOf A ∧ blockOf A < w.heap.size := by
  obtain ⟨g, off, c0, hv⟩ := h.formR hn
  obtain ⟨rfl, rfl⟩ : A = some ⟨g, off, none⟩ ∧ c = c0 := by injection hv with a _ b; exact ⟨a, b⟩
  exact h.ge hn
theorem Own.keptA {B n N m c : Nat} {w w' : World} {A A' : Option Addr} {xs : List Value} (h : Own B w (.slice A' N c) m N xs) (hk : KeptA A n w w') (hs : w.heap.size ≤ w'.heap.size) (hne : 0 < N → 0 < n → blockOf A' ≠ blockOf A) : Own B w' (.slice A' N c) m N xs := by
  obtain ⟨h1, A9, c9, hv, hc, hm, h2⟩ := h
  obtain ⟨rfl, rfl⟩ : A' = A9 ∧ c = c9 := by injection hv with a _ b; exact ⟨a, b⟩
  refine ⟨h1, A', c, rfl, hc, hm, fun hn => ?_⟩
  obtain ⟨g, off, e, hg, hlt, r⟩ := h2 hn
  have hb : blockOf A' = g := by rw [e]; rfl
  have hh := hk g hlt (fun h => by rw [← hb]; exact hne hn h)
  exact ⟨g, off, e, hg, by omega, fun j hj => ⟨(World.cell?_of_block (w := w) (a := ⟨g, off + j, none⟩) hh).trans (r j hj).1, (World.frozen?_of_block (w := w) (a := ⟨g, off + j, none⟩) hh).trans (r j hj).2⟩⟩
def marksR (k : Int) (n : Nat) : List R := (List.range n).map fun i : Nat => (markT (k + 2 * i), markT (k + 2 * i + 1))
theorem marksR_length (k : Int) (n : Nat) : (marksR k n).length = n := by simp [marksR]
theorem marksR_get (k : Int) (n j : Nat) (h : j < n) : (marksR k n)[j]? = some (markT (k + 2 * j), markT (k + 2 * j + 1)) := by simp [marksR, h]
theorem marksR_step (k : Int) (i : Nat) (l : List R) (hi : i < l.length) : (marksR k i ++ l.drop i).set i (markT (k + 2 * i), markT (k + 2 * i + 1)) = marksR k (i + 1) ++ l.drop (i + 1) := by
  have h1 : l.drop i = l[i] :: l.drop (i + 1) := by rw [List.drop_eq_getElem_cons hi]
  have hm : marksR k (i + 1) = marksR k i ++ [(markT (k + 2 * i), markT (k + 2 * i + 1))] := by simp [marksR, List.range_succ]
  rw [h1, hm, List.set_append_right _ _ (by simp [marksR_length]), marksR_length, Nat.sub_self, List.set_cons_zero, List.append_assoc]
  rfl

set_option maxRecDepth 100000 in
set_option maxHeartbeats 800000 in
theorem markRuleS_any (A : Option Addr) (n c B : Nat) (k : Int) (l : List R) (w : World) (h : Own B w (.slice A n c) 2 n (rulesC l)) (hB : B ≤ w.heap.size) (h0 : 0 ≤ k) (hk : k + 2 * n ≤ 4611686018427387000) :
    Calls Tryd.prog 32 #[.slice A n c, .int .i64 k] w fun e w' => e = .returned (.int .i64 (k + 2 * n)) ∧ Own B w' (.slice A n c) 2 n (rulesC (marksR k n)) ∧ Below B w w' ∧ KeptA A n w w' := by
  have hl := h.rlen
  have hmax := h.bound
  unfold maxLen at hmax
  by_cases hn : 0 < n
  · obtain ⟨g, off, c0, hv⟩ := h.formR hn
    obtain ⟨rfl, rfl⟩ : A = some ⟨g, off, none⟩ ∧ c = c0 := by injection hv with a _ b; exact ⟨a, b⟩
    clear hv
    have hg := (h.ge hn).1
    have Hl := Lib.hid hl
    clear hl
    go_enter Tryd.func32, Tryd.ntmps32
    go_wp2
    go_loopw [1, 5] (fun q i wr => ∃ j : Nat, j ≤ n ∧ q = .int .i64 (k + 2 * j) ∧ i = .int .i64 j ∧ Hid (Own B wr (.slice (some ⟨g, off, none⟩) n c) 2 n (rulesC (marksR k j ++ l.drop j))) ∧ Below B w wr ∧ Hid (w.heap.size ≤ wr.heap.size ∧ KeptA (some ⟨g, off, none⟩) n w wr)) (fun _ i _ => n - (intOf i).toNat)
    case atStart => exact ⟨0, Nat.zero_le _, by simp, rfl, by simpa [marksR, Hid] using h, Below.refl _ _, Nat.le_refl _, fun d _ _ => rfl⟩
    case round =>
      obtain ⟨j, hj, rfl, rfl, ho, hb, HK⟩ := hrel
      have hbs := hb.size
      by_cases hlt : j < n
      · go_wp2_with fail
        refine (markText_any _ _ (by omega)).mono ?_
        rintro e w1 ⟨rfl, hb1⟩
        have hlen : (rulesC (marksR k j ++ l.drop j)).length = n * 2 := by rw [rulesC_length]; simp [marksR_length, Hl.out]; omega
        have ho1 := ho.out.below hb1
        obtain ⟨x0, xf0⟩ := ho1.cellAt hn (i := j * 2) (by omega)
        rw [List.getElem?_eq_getElem (by omega)] at x0
        generalize (rulesC (marksR k j ++ l.drop j))[j * 2] = old at x0
        have ho2 := Lib.hid (Own.set ho1 (j := j * 2) (by omega) (.string (markT (k + 2 * j))))
        have b2 := Lib.hid ((hb.trans (hb1.mono (by omega))).setCell (p := ⟨g, off + j * 2, none⟩) hg (.string (markT (k + 2 * j))))
        have s2 := b2.out.size
        have K2 := Lib.hid ((HK.out.2.below HK.out.1 hb1).setCell hn (off + j * 2) (.string (markT (k + 2 * j))))
        have sw := HK.out.1
        have sw2 : w.heap.size ≤ (w1.setCell ⟨g, off + j * 2, none⟩ (.string (markT (k + 2 * j)))).heap.size := by rw [World.size_setCell]; have := hb1.size; omega
        clear ho1 hb1 hb ho sw HK
        go_wp2_with fail
        generalize w1.setCell ⟨g, off + j * 2, none⟩ (.string (markT (k + 2 * j))) = w2 at *
        refine (markText_any _ _ (by omega)).mono ?_
        rintro e w3 ⟨rfl, hb3⟩
        have ho3 := ho2.out.below hb3
        have b3 := b2.out.trans (hb3.mono (by omega))
        obtain ⟨x1, xf1⟩ := ho3.cellAt hn (i := j * 2 + 1) (by rw [List.length_set]; omega)
        rw [List.getElem?_set_ne (by omega), List.getElem?_eq_getElem (by omega)] at x1
        generalize (rulesC (marksR k j ++ l.drop j))[j * 2 + 1] = old1 at x1
        have ho4 := Own.set ho3 (j := j * 2 + 1) (by rw [List.length_set]; omega) (.string (markT (k + 2 * j + 1)))
        rw [rulesC_set _ j (markT (k + 2 * j), markT (k + 2 * j + 1)) (by simp [marksR_length, Hl.out]; omega), marksR_step k j l (by rw [Hl.out]; exact hlt)] at ho4
        have HO4 := Lib.hid ho4
        have b4 := b3.setCell (p := ⟨g, off + (j * 2 + 1), none⟩) hg (.string (markT (k + 2 * j + 1)))
        have e1 : off + (j * 2 + 1) = off + j * 2 + 1 := by omega
        rw [e1] at x1 xf1 HO4 b4
        have K4 := Lib.hid ((K2.out.below sw2 hb3).setCell hn (off + j * 2 + 1) (.string (markT (k + 2 * j + 1))))
        have s4 : Hid (w.heap.size ≤ (w3.setCell ⟨g, off + j * 2 + 1, none⟩ (.string (markT (k + 2 * j + 1)))).heap.size) := by show _ ≤ _; rw [World.size_setCell]; have := hb3.size; omega
        clear ho4 ho3 hb3 e1 b3 K2 sw2
        go_wp2_with fail
        go_roundw
        case rel => exact ⟨j + 1, by omega, by go_num, by go_num, HO4, b4, s4.out, K4.out⟩
        case measure => simp [intOf]; omega
      · obtain rfl : j = n := by omega
        have ho1 := ho.out
        rw [List.drop_of_length_le (by rw [Hl.out]; exact Nat.le_refl _), List.append_nil] at ho1
        have HO1 := Lib.hid ho1
        clear ho1
        go_wp2_with fail
        go_ret
        exact ⟨rfl, HO1.out, hb, HK.out.2⟩
  · obtain rfl : n = 0 := by omega
    go_enter Tryd.func32, Tryd.ntmps32
    go_wp2
    refine wp_loop_rounds 1 ?_
    rw [rounds_succ]
    go_wp2
    go_ret
    obtain rfl : l = [] := List.eq_nil_of_length_eq_zero hl
    exact ⟨by simp, by simpa [marksR] using h, Below.refl _ _, fun d _ _ => rfl⟩

theorem held2r_keep {W W1 w : World} {a : Addr} {v : Value} {B : Nat} (h : W.cell? a = some v ∧ Below B w W) (hb : Below W.heap.size W W1) (hB : B ≤ w.heap.size) (ha : a.block < w.heap.size) : W1.cell? a = some v ∧ Below B w W1 :=
  have hs := h.2.size
  ⟨(hb.cell (by omega)).trans h.1, h.2.trans (hb.mono (by omega))⟩
set_option maxRecDepth 100000 in
set_option maxHeartbeats 800000 in
theorem heldRuleS_yes (A : Option Addr) (n c B : Nat) (k : Int) (w : World) (h : Own B w (.slice A n c) 2 n (rulesC (marksR k n))) (h0 : 0 ≤ k) (hk : k + 2 * n ≤ 4611686018427387000) :
    Calls Tryd.prog 33 #[.slice A n c, .int .i64 k] w fun e w' => e = .returned (.int .i64 (k + 2 * n)) ∧ Below w.heap.size w w' := by
  have hmax := h.bound
  unfold maxLen at hmax
  by_cases hn : 0 < n
  · obtain ⟨g, off, c0, hv⟩ := h.formR hn
    obtain ⟨rfl, rfl⟩ : A = some ⟨g, off, none⟩ ∧ c = c0 := by injection hv with a _ b; exact ⟨a, b⟩
    clear hv
    have hg := (h.ge hn).2
    have HO := Lib.hid h
    clear h
    go_enter Tryd.func33, Tryd.ntmps33
    go_wp2
    go_loopw [1, 5] (fun q i wr => ∃ j : Nat, j ≤ n ∧ q = .int .i64 (k + 2 * j) ∧ i = .int .i64 j ∧ Below w.heap.size w wr) (fun _ i _ => n - (intOf i).toNat)
    case atStart => exact ⟨0, Nat.zero_le _, by simp, rfl, Below.refl _ _⟩
    case round =>
      obtain ⟨j, hj, rfl, rfl, hb⟩ := hrel
      have hbs := hb.size
      by_cases hlt : j < n
      · obtain ⟨-, -, r, hr, x0, x1, -, -⟩ := (HO.out.below hb).rule hlt
        rw [marksR_get k n j hlt] at hr
        obtain rfl := Option.some.inj hr
        clear hr
        dsimp only at x0 x1
        go_wp2
        go_region_held3 (fun w' => w'.cell? ⟨g, off + j * 2, none⟩ = some (.string (markT (k + 2 * j))) ∧ Below w.heap.size w w')
          (first | exact ⟨x0, hb.drew⟩ | exact held2r_keep (by assumption) hb1 (Nat.le_refl _) hg)
          ((go_at_call 54; refine (markText_any _ _ (by omega)).mono ?_; rintro e w1 ⟨rfl, hb1⟩))
        all_goals go_wp2
        have hS := ‹_ ∧ Below w.heap.size w w1›
        have b1 := hS.2
        have y1 : w1.cell? ⟨g, off + j * 2 + 1, none⟩ = some (.string (markT (k + 2 * j + 1))) := (hb1.cell (by show g < wr.heap.size; omega)).trans x1
        clear hS hb1 x0 x1
        have s1 := b1.size
        have kk : IntKind.i64.wrap (k + 2 * (j : Int) + 1) = k + 2 * (j : Int) + 1 := IntWalk.i64_in _ (by omega)
        go_region_held3 (fun w' => w'.cell? ⟨g, off + j * 2 + 1, none⟩ = some (.string (markT (k + 2 * j + 1))) ∧ Below w.heap.size w w')
          (first | exact ⟨y1, b1.drew⟩ | exact held2r_keep (by assumption) hb2 (Nat.le_refl _) hg)
          ((go_at_call 54; refine (markText_any _ _ (by omega)).mono ?_; rintro e w2 ⟨rfl, hb2⟩))
        all_goals go_wp2
        have hS := ‹_ ∧ Below w.heap.size w w2›
        clear kk
        go_roundw
        case rel => exact ⟨j + 1, by omega, by go_num, by go_num, hS.2⟩
        case measure => simp [intOf]; omega
      · obtain rfl : j = n := by omega
        go_wp2_with fail
        go_ret
        exact ⟨rfl, hb⟩
  · obtain rfl : n = 0 := by omega
    go_enter Tryd.func33, Tryd.ntmps33
    go_wp2
    refine wp_loop_rounds 1 ?_
    rw [rounds_succ]
    go_wp2
    go_ret
    exact ⟨by simp, Below.refl _ _⟩

set_option maxHeartbeats 400000 in
theorem markSystem_any (x k : Int) (A : Option Addr) (n c B : Nat) (l : List R) (w : World) (h : Own B w (.slice A n c) 2 n (rulesC l)) (hB : B ≤ w.heap.size) (h0 : 0 ≤ k) (hk : k + 2 * n ≤ 4611686018427387000) :
    Calls Tryd.prog 11 #[.agg #[.int .i64 x, .slice A n c], .int .i64 k] w fun e w' => e = .returned (.int .i64 (k + 2 * n)) ∧ Own B w' (.slice A n c) 2 n (rulesC (marksR k n)) ∧ Below B w w' ∧ KeptA A n w w' := by
  have HO := Lib.hid (fun o1 => h.below (bel1 w o1))
  clear h
  go_enter Tryd.func11, Tryd.ntmps11
  go_wp2_with fail
  refine (markRuleS_any A n c B k l _ (HO.out _) (by simp; omega) h0 hk).mono ?_
  rintro e w1 ⟨rfl, o1, hb1, k1⟩
  have b1 := ((bel1 w _).mono hB).trans hb1
  have O1 := Lib.hid o1
  have K1 : Hid (KeptA A n w w1) := fun d hd hn => (k1 d (by simp; omega) hn).trans (Below.heap_alloc _ _ _ hd)
  clear o1 hb1 k1
  go_wp2_with fail
  go_ret
  exact ⟨rfl, O1.out, b1, K1.out⟩
set_option maxHeartbeats 400000 in
theorem heldSystem_yes (x k : Int) (A : Option Addr) (n c B : Nat) (w : World) (h : Own B w (.slice A n c) 2 n (rulesC (marksR k n))) (h0 : 0 ≤ k) (hk : k + 2 * n ≤ 4611686018427387000) :
    Calls Tryd.prog 12 #[.agg #[.int .i64 x, .slice A n c], .int .i64 k] w fun e w' => e = .returned (.int .i64 (k + 2 * n)) ∧ Below w.heap.size w w' := by
  have HO := Lib.hid (fun o1 => h.below (bel1 w o1))
  clear h
  go_enter Tryd.func12, Tryd.ntmps12
  go_wp2_with fail
  refine (heldRuleS_yes A n c B k _ (HO.out _) h0 hk).mono ?_
  rintro e w1 ⟨rfl, hb1⟩
  have b1 := (bel1 w _).trans (hb1.mono (by simp))
  clear hb1
  go_wp2_with fail
  go_ret
  exact ⟨rfl, b1⟩
end Go.Proofs.YtlehdmflnglipaaDoor
