/- The center: plain; the model's CenterOf. -/
import Derived.Test.YtkiomohpmajjcaaSortPlain
namespace Go.Proofs.Ytkiomohpmajjcaa
open Go.RowKit

noncomputable def centB (n : Nat) (xs : List Int) (i : Nat) : Bool := cdec (∀ x, x < n → tmul n xs i x = tmul n xs x i)
theorem Grp.conj_self {N : Nat} {xs : List Int} (h : Grp N xs) {x i : Nat} (hx : x < N) (hi : i < N) : conj N xs x i = i ↔ tmul N xs i x = tmul N xs x i := by
  obtain ⟨h1, h2, h3⟩ := h.inv_spec hx
  have e : tmul N xs (conj N xs x i) x = tmul N xs x i := by
    unfold conj
    rw [h.tab.assoc (h.tab.lt hx hi) h1 hx, h3, (h.tab.one (h.tab.lt hx hi)).2]
  constructor
  · intro hc; rw [hc] at e; exact e
  · intro hc
    unfold conj
    rw [← hc, h.tab.assoc hi hx h1, h2, (h.tab.one hi).2]
theorem Grp.conj_one {N : Nat} {xs : List Int} (h : Grp N xs) {i : Nat} (hi : i < N) : conj N xs 0 i = i :=
  (h.conj_self (by have := h.tab.lo; omega) hi).2 (by rw [(h.tab.one hi).1, (h.tab.one hi).2])
theorem cent_len {N : Nat} {xs : List Int} (h : Grp N xs) {i : Nat} (hi : i < N) : (((pick (conjB N xs i) N).length : Int) == 1) = centB N xs i := by
  have hi0 : (i : Int) ∈ pick (conjB N xs i) N := mem_pick.2 ⟨i, hi, cdec_yes ⟨0, by omega, h.conj_one hi⟩, rfl⟩
  cases hc : centB N xs i
  · rw [beq_eq_false_iff_ne]
    intro hl
    have hl1 : (pick (conjB N xs i) N).length = 1 := by omega
    obtain ⟨a, ha⟩ := List.length_eq_one_iff.1 hl1
    rw [ha, List.mem_singleton] at hi0
    refine not_cdec hc fun x hx => (h.conj_self hx hi).1 ?_
    have hm : ((conj N xs x i : Nat) : Int) ∈ pick (conjB N xs i) N := mem_pick.2 ⟨_, h.conj_lt hx hi, cdec_yes ⟨x, hx, rfl⟩, rfl⟩
    rw [ha, List.mem_singleton] at hm
    omega
  · rw [beq_iff_eq]
    have e : pick (conjB N xs i) N = [(i : Int)] := strict_eq _ _ (pick_strict _ _) (List.pairwise_singleton _ _) fun y => by
      rw [List.mem_singleton]
      constructor
      · intro hy
        obtain ⟨k, hk, hp, rfl⟩ := mem_pick.1 hy
        obtain ⟨x, hx, rfl⟩ := of_cdec hp
        rw [(h.conj_self hx hi).2 (of_cdec hc x hx)]
      · rintro rfl; exact hi0
    rw [e]; rfl
noncomputable def centOf (q : Int) (xs : List Int) : List Int := if isGroupB q xs then pick (centB q.toNat xs) q.toNat else []
theorem centOf_yes {N : Nat} {xs : List Int} (h : Grp N xs) : centOf N xs = pick (centB N xs) N := by unfold centOf; rw [isGroup_yes h]; rfl
theorem centOf_no {q : Int} {xs : List Int} (h : isGroupB q xs = false) : centOf q xs = [] := by unfold centOf; rw [h]; rfl
theorem centOf_len (q : Int) (xs : List Int) : (centOf q xs).length ≤ 40 := by
  cases h : isGroupB q xs
  · rw [centOf_no h]; simp
  · obtain ⟨N, rfl, hG⟩ := isGroup_iff h
    rw [centOf_yes hG]
    have := pick_len (centB N xs) N
    have := hG.tab.hi
    omega
/-- What stands at j while the k-th product of i is looked at. -/
noncomputable def centAt (N : Nat) (xs : List Int) (i k j : Nat) : Bool := if j < i then centB N xs j else if j = i then cdec (∀ x, x < k → tmul N xs i x = tmul N xs x i) else false
theorem centAt_self (N : Nat) (xs : List Int) (i k : Nat) : centAt N xs i k i = cdec (∀ x, x < k → tmul N xs i x = tmul N xs x i) := by unfold centAt; rw [if_neg (by omega), if_pos rfl]
set_option maxRecDepth 100000 in
set_option maxHeartbeats 1600000 in
theorem specCenterOf (q : Int) (A : Option Addr) (n c B : Nat) (xs : List Int) (w : World) (h : Own B w (.slice A n c) 1 n (ints xs)) (hn : n ≤ 1048576) :
    Calls Try.prog 30 #[tabV q A n c] w fun e w' => ∃ v, e = .returned v ∧ Own w.heap.size w' v 1 (centOf q xs).length (ints (centOf q xs)) ∧ Below w.heap.size w w' := by
  have HO := Lib.hid (h.below (bel1 w (.cells #[.int .i64 q, .slice A n c] 28)))
  clear h
  go_enter Try.func30, Try.ntmps30
  go_wp2_with fail
  refine (specIsGroup q A n c B xs _ HO.out hn).mono ?_
  rintro e w1 ⟨rfl, hb1⟩
  have b1 := (bel1 w _).trans (hb1.mono (by simp))
  have X1 := Lib.hid ((Blk.new1 w _ _).below hb1 (by simp))
  have O1 := Lib.hid (HO.out.below hb1)
  obtain ⟨q0, q1, -, -, ql⟩ := X1.out.two
  clear hb1 HO
  cases hg : isGroupB q xs
  · have He := Lib.hid (centOf_no hg)
    clear hg
    go_wp2_with fail
    go_ret
    exact ⟨_, rfl, by rw [He.out]; exact Own.none_, b1⟩
  · obtain ⟨N, rfl, hG⟩ := isGroup_iff hg
    have He := Lib.hid (centOf_yes hG)
    have h1 := hG.tab.lo
    have h40 := hG.tab.hi
    have HG := Lib.hid hG
    clear hg hG
    have hmk := fun u => run_makeBools u N (by omega)
    have HM := Lib.hid (Bits.new w1 N)
    have hbm := bel1 w1 (.cells (madeCells #[.bool false] N) 4)
    go_wp2_with fail
    clear q0 q1 hmk
    have hbs1 := b1.size
    generalize w1.alloc (.cells (madeCells #[.bool false] N) 4) = wn at *
    go_loopw [14] (fun i' wr => ∃ i : Nat, i' = .int .i64 i ∧ i ≤ N ∧ Hid (Bits wr w1.heap.size N (fun j => if j < i then centB N xs j else false)) ∧ Below w1.heap.size w1 wr) (fun i' _ => N - (intOf i').toNat)
    case atStart => exact ⟨0, rfl, Nat.zero_le _, HM.out.congr (fun j _ => by rw [if_neg (by omega)]), hbm⟩
    case round =>
      obtain ⟨i, rfl, hiN, HB, hb⟩ := hrel
      have hbs := hb.size
      by_cases hlt : i < N
      · obtain ⟨x4, x5⟩ := HB.out.cell hlt
        have HB1 := Lib.hid ((HB.out.set_ i true).congr (f' := centAt N xs i 0) (fun j _ => by
          unfold centAt
          by_cases ej : j = i
          · subst ej; rw [if_pos rfl, if_neg (by omega), if_pos rfl]; exact (cdec_yes (fun x hx => by omega)).symm
          · rw [if_neg ej, if_neg ej]))
        have hb1 := hb.setCell (p := ⟨w1.heap.size, i, none⟩) (Nat.le_refl _) (.bool true)
        rw [if_neg (by omega)] at x4
        go_wp2_with fail
        clear x4 x5 HB hb
        go_loopw [5] (fun k' wr => ∃ k : Nat, k' = .int .i64 k ∧ k ≤ N ∧ Hid (Bits wr w1.heap.size N (centAt N xs i k)) ∧ Below w1.heap.size w1 wr) (fun k' _ => N - (intOf k').toNat)
        case atStart => exact ⟨0, rfl, Nat.zero_le _, HB1, hb1⟩
        case round =>
          clear HB1 hb1 hbs
          obtain ⟨k, rfl, hk, HB, hb⟩ := hrel
          obtain ⟨q0, q1, -, -, -⟩ := (X1.out.below hb X1.out.lt).two
          have hbs := hb.size
          by_cases hkl : k < N
          · obtain ⟨hc1, hc2⟩ := HB.out.cell hlt
            cases hv : centAt N xs i k i
            · rw [hv] at hc1
              have Hno : Hid (¬ ∀ x, x < k → tmul N xs i x = tmul N xs x i) := by rw [centAt_self] at hv; exact not_cdec hv
              have HX := Lib.hid ((HB.out.set_ i false).congr (f' := centAt N xs i (k + 1)) (fun j _ => by
                by_cases ej : j = i
                · subst ej; rw [if_pos rfl, centAt_self]; exact (cdec_no (fun h => Hno.out fun x hx => h x (by omega))).symm
                · rw [if_neg ej]; unfold centAt; rw [if_neg ej, if_neg ej]))
              clear hv
              go_wp2_with fail
              go_region
              go_wp2_with fail
              go_roundw
              case rel => exact ⟨k + 1, by go_num, by omega, HX, (hb.setCell (Nat.le_refl _) _).drew⟩
              case measure => simp [intOf]; omega
            · rw [hv] at hc1
              have Hyes : Hid (∀ x, x < k → tmul N xs i x = tmul N xs x i) := by rw [centAt_self] at hv; exact of_cdec hv
              have HX := Lib.hid (fun (w' : World) (hS : Below wr.heap.size wr w') (b : Bool) (hb' : b = cdec (∀ x, x < k + 1 → tmul N xs i x = tmul N xs x i)) => by
                have h := ((HB.out.below hS).set_ i b).congr (f' := centAt N xs i (k + 1)) (fun j _ => by
                  by_cases ej : j = i
                  · subst ej; rw [if_pos rfl, centAt_self, hb']
                  · rw [if_neg ej]; unfold centAt; rw [if_neg ej, if_neg ej])
                exact (⟨h, (hb.trans (hS.mono hbs)).setCell (Nat.le_refl _) _⟩ : _ ∧ Below w1.heap.size w1 (w'.setCell ⟨w1.heap.size, i, none⟩ (.bool b))))
              have Hb : Hid ((((tmul N xs i k : Nat) : Int) == ((tmul N xs k i : Nat) : Int)) = cdec (∀ x, x < k + 1 → tmul N xs i x = tmul N xs x i)) := by
                show _ = _
                rw [cast_beq]
                by_cases e : tmul N xs i k = tmul N xs k i
                · rw [cdec_yes (fun x hx => by
                    by_cases ex : x = k
                    · subst ex; exact e
                    · exact Hyes.out x (by omega)), e]; simp
                · rw [cdec_no (fun h => e (h k (by omega)))]
                  simpa using e
              have HW := Lib.hid (fun (w' : World) (hS : Below wr.heap.size wr w') => O1.out.below (hb.trans (hS.mono hbs)))
              have hgr : w1.heap.size < wr.heap.size := HB.out.lt
              have hq : w.heap.size < wr.heap.size := by have := X1.out.lt; omega
              have HC := Lib.hid (fun (w' : World) (hS : Below wr.heap.size wr w') => reg_cell ⟨hc1, hc2⟩ hS hgr)
              have HQ := Lib.hid (fun (w' : World) (hS : Below wr.heap.size wr w') => reg_keep ⟨q0, q1⟩ (Below.refl _ wr) hS hq)
              have hD0 : Below wr.heap.size wr wr.drew := (Below.refl _ wr).drew
              clear hv
              go_wp2_with fail
              first | go_region_with ((go_at_call 50; refine (l08Times_any N _ _ A n c B xs _ (HW.out _ (by assumption)) HG.out.tab (by assumption) (by assumption)).mono ?_; rintro e w9 ⟨rfl, hb9⟩; have hB9 := Below.trans (by assumption : Below wr.heap.size wr _) (hb9.mono (Below.size (by assumption))); obtain ⟨hc3, hc4⟩ := HC.out _ hB9; obtain ⟨q3, q4⟩ := HQ.out _ hB9)) | fail
              all_goals (go_wp2_with fail; go_roundw; (case rel => exact ⟨k + 1, by go_num, by omega, (HX.out _ hB9 _ Hb.out).1, (HX.out _ hB9 _ Hb.out).2⟩); (case measure => simp [intOf]; omega))
          · obtain rfl : N = k := by omega
            have HX := Lib.hid (HB.out.congr (f' := fun j => if j < i + 1 then centB N xs j else false) (fun j _ => by
              unfold centAt
              by_cases ej : j = i
              · subst ej; rw [if_neg (by omega), if_pos rfl, if_pos (by omega)]; rfl
              · by_cases el : j < i
                · rw [if_pos el, if_pos (by omega)]
                · rw [if_neg el, if_neg ej, if_neg (by omega)]))
            go_wp2_with fail
            go_roundw
            case rel => exact ⟨i + 1, by go_num, by omega, HX, hb⟩
            case measure => simp [intOf]; omega
      · obtain rfl : N = i := by omega
        have OB := Lib.hid ((HB.out.congr (f' := centB N xs) (fun j hj => by rw [if_pos hj])).own (by unfold maxLen; omega) (Nat.le_refl _))
        go_wp2_with fail
        refine (l09List_any _ N N _ (centB N xs) _ OB.out (by omega)).mono ?_
        rintro e w9 ⟨v9, rfl, o9, hb9⟩
        have O9 := Lib.hid (o9.mono (by omega : w.heap.size ≤ _))
        have b9 := b1.trans ((hb.trans (hb9.mono hbs)).mono hbs1)
        obtain ⟨A9, c9, rfl⟩ := o9.form
        clear hb9 o9
        go_wp2_with fail
        go_ret
        exact ⟨_, rfl, by rw [He.out]; exact O9.out, b9⟩
end Go.Proofs.Ytkiomohpmajjcaa
