/- The model's LastStep: the step with the greatest place. -/
import Derived.Test.YtjndopogjiacpaaDoorFirst
namespace Go.Proofs.YtjndopogjiacpaaDoor
open Go.RowKit

set_option maxRecDepth 100000 in
set_option maxHeartbeats 1600000 in
theorem specLastStep (k : Int) (A : Option Addr) (n c B : Nat) (l : List R) (s : ByteArray) (w : World) (h : Own B w (.slice A n c) 2 n (rulesC l)) (hsm : smallR l) (hs : s.size ≤ 1048576) :
    Calls Tryd.prog 39 #[.agg #[.int .i64 k, .slice A n c], .string s] w fun e w' => e = .returned (.tuple #[stepV (sideStep k l s 1).1, .bool (sideStep k l s 1).2]) ∧ Below w.heap.size w w' := by
  have HO := Lib.hid h
  clear h
  go_enter Tryd.func39, Tryd.ntmps39
  go_wp2_with fail
  refine (specStepsOf k A n c B l s _ (HO.out.below (bel3 _ _ _ _)) hsm hs).mono ?_
  rintro e w1 ⟨v, rfl, o1, hb1⟩
  have b1 := (bel3 w _ _ _).trans (hb1.mono (by simp; omega))
  have R1 := Lib.hid (((Blk.new2 w _ _ _).alloc _).below hb1 (by simp))
  have T1 := Lib.hid ((Blk.new3 w _ _ _ _).below hb1 (by simp))
  obtain ⟨A1, c1, rfl⟩ := o1.form
  have O1 := Lib.hid o1
  have hmax := o1.bound
  unfold maxLen at hmax
  have hw1 : w.heap.size + 2 < w1.heap.size := T1.out.lt
  simp only [World.size_alloc] at O1
  clear hb1 o1
  have He : Hid (sideStep k l s 1 = best (stepsOf k l s)) := by
    show _ = _
    unfold sideStep stepsOf
    split
    · exact (best_steps l s).symm
    · rfl
  generalize stepsOf k l s = L at *
  generalize hm : L.length = m at *
  have Hm := Lib.hid hm
  clear hm
  go_wp2_with fail
  go_loopw [7, 15] (fun f i wr => ∃ (j : Nat) (b : ST × Bool), j ≤ m ∧ i = .int .i64 j ∧ f = .bool b.2 ∧ Hid (best (L.take j) = b) ∧ Hid (Blk wr (w.heap.size + 1 + 1) 37 #[.int .i64 b.1.1, .int .i64 b.1.2]) ∧ Hid (Blk wr (w.heap.size + 1) 37 #[.int .i64 0, .int .i64 0]) ∧ Hid (Own (w.heap.size + 1 + 1 + 1) wr (.slice A1 m c1) 2 m (stepsC L)) ∧ Below w.heap.size w wr ∧ w1.heap.size ≤ wr.heap.size) (fun _ i _ => m - (intOf i).toNat)
  case atStart => exact ⟨0, ((0, 0), false), Nat.zero_le _, rfl, rfl, rfl, T1, R1, O1, b1, Nat.le_refl _⟩
  case round =>
    obtain ⟨j, ⟨⟨bu, bv⟩, bf⟩, hj, rfl, rfl, HBst, HT, HR, HX, hb, hbs⟩ := hrel
    dsimp only
    by_cases hlt : j < m
    · obtain ⟨g, off, c0, hv⟩ := HX.out.formR (by omega)
      obtain ⟨rfl, rfl⟩ : A1 = some ⟨g, off, none⟩ ∧ c1 = c0 := by injection hv with a _ b; exact ⟨a, b⟩
      clear hv
      obtain ⟨-, hgl, ⟨u, v⟩, hr, x0, x1, -, -⟩ := HX.out.step hlt
      have Hst : Hid (best (L.take (j + 1)) = bestF ((bu, bv), bf) (u, v)) := by show _ = _; rw [take_step L j _ hr, best_snoc, HBst.out]
      clear hr
      have HT2 := Lib.hid (HT.out.alloc (.cells #[.int .i64 u, .int .i64 v] 37))
      have HR2 := Lib.hid (HR.out.alloc (.cells #[.int .i64 u, .int .i64 v] 37))
      have HX2 := Lib.hid (HX.out.below (bel1 wr (.cells #[.int .i64 u, .int .i64 v] 37)))
      have hb2 := hb.alloc hb.size (.cells #[.int .i64 u, .int .i64 v] 37)
      have hbs2 : w1.heap.size ≤ (wr.alloc (.cells #[.int .i64 u, .int .i64 v] 37)).heap.size := by simp; omega
      obtain ⟨y0, y1, f0, f1, yl⟩ := HT2.out.two
      obtain ⟨z0, z1, -, -, zl⟩ := (Blk.new1 wr #[.int .i64 u, .int .i64 v] 37).two
      by_cases hd : bf = false ∨ bv < v
      · have HB3 : Hid (best (L.take (j + 1)) = ((u, v), true)) := by show _ = _; rw [Hst.out, bestF, if_pos hd]
        have HT3 : Hid (Blk (((wr.alloc (.cells #[.int .i64 u, .int .i64 v] 37)).setCell ⟨w.heap.size + 1 + 1, 0, none⟩ (.int .i64 u)).setCell ⟨w.heap.size + 1 + 1, 1, none⟩ (.int .i64 v)) (w.heap.size + 1 + 1) 37 #[.int .i64 u, .int .i64 v]) := (HT2.out.set_ 0 (.int .i64 u)).set_ 1 (.int .i64 v)
        have HR3 := Lib.hid ((HR2.out.far (p := ⟨w.heap.size + 1 + 1, 0, none⟩) (by simp) (.int .i64 u)).far (p := ⟨w.heap.size + 1 + 1, 1, none⟩) (by simp) (.int .i64 v))
        have HX3 := Lib.hid ((HX2.out.far (p := ⟨w.heap.size + 1 + 1, 0, none⟩) (by simp) (.int .i64 u)).far (p := ⟨w.heap.size + 1 + 1, 1, none⟩) (by simp) (.int .i64 v))
        have hb3 := (hb2.setCell (p := ⟨w.heap.size + 1 + 1, 0, none⟩) (by simp; omega) (.int .i64 u)).setCell (p := ⟨w.heap.size + 1 + 1, 1, none⟩) (by simp; omega) (.int .i64 v)
        rcases hd with rfl | hd
        · go_wp2_with fail
          go_roundw
          case rel => exact ⟨j + 1, ((u, v), true), by omega, by go_num, rfl, HB3, HT3, HR3, HX3, hb3, by simpa [World.size_setCell] using hbs2⟩
          case measure => simp [intOf]; omega
        · cases bf
          · go_wp2_with fail
            go_roundw
            case rel => exact ⟨j + 1, ((u, v), true), by omega, by go_num, rfl, HB3, HT3, HR3, HX3, hb3, by simpa [World.size_setCell] using hbs2⟩
            case measure => simp [intOf]; omega
          · go_wp2_with fail
            go_roundw
            case rel => exact ⟨j + 1, ((u, v), true), by omega, by go_num, rfl, HB3, HT3, HR3, HX3, hb3, by simpa [World.size_setCell] using hbs2⟩
            case measure => simp [intOf]; omega
      · have HB3 : Hid (best (L.take (j + 1)) = ((bu, bv), true)) := by
          show _ = _
          rw [Hst.out, bestF, if_neg hd]
          have : bf = true := by cases bf <;> simp_all
          rw [this]
        obtain rfl : bf = true := by cases bf <;> simp_all
        have hdd : ¬ bv < v := fun h => hd (.inr h)
        clear hd
        go_wp2_with fail
        go_roundw
        case rel => exact ⟨j + 1, ((bu, bv), true), by omega, by go_num, rfl, HB3, HT2, HR2, HX2, hb2, hbs2⟩
        case measure => simp [intOf]; omega
    · have HF : Hid (sideStep k l s 1 = ((bu, bv), bf)) := by
        show _ = _
        have h1 := HBst.out
        rw [List.take_of_length_le (by rw [Hm.out]; omega)] at h1
        rw [He.out, h1]
      obtain ⟨y0, y1, -, -, yl⟩ := HT.out.two
      obtain ⟨r0, r1, f0, f1, rl⟩ := HR.out.two
      go_wp2_with fail
      refine bodyPost_ret (v := .tuple #[stepV (bu, bv), .bool bf]) (by simp [results, Tryd.results39, go_sem, *]) rfl ⟨ret_stb HF.out.symm, ?_⟩
      exact (hb.setCell (by simp) _).setCell (by simp) _
end Go.Proofs.YtjndopogjiacpaaDoor
