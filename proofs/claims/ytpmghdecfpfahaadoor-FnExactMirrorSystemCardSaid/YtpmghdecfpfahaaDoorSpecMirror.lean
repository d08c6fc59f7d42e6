/- The model's MirrorSystem. -/
import Derived.Test.YtpmghdecfpfahaaDoorMirrorRules
namespace Go.Proofs.YtpmghdecfpfahaaDoor
open Go.RowKit Go.Joins

set_option maxRecDepth 100000 in
set_option maxHeartbeats 3200000 in
theorem specMirrorSystem (k : Int) (A : Option Addr) (n c B : Nat) (l : List R) (w : World) (h : Own B w (.slice A n c) 2 n (rulesC l)) (hsm : smallR l) (hn : n ≤ 1048576) :
    Calls Tryd.prog 25 #[.agg #[.int .i64 k, .slice A n c]] w fun e w' =>
      (systemOk k l = false ∧ e = .returned (.tuple #[.agg #[.int .i64 0, .slice none 0 0], .bool false]) ∧ Below w.heap.size w w') ∨
      (systemOk k l = true ∧ ∃ v, e = .returned (.tuple #[.agg #[.int .i64 k, v], .bool true]) ∧ Own w.heap.size w' v 2 n (rulesC (mirL k l)) ∧ Below w.heap.size w w') := by
  obtain ⟨i0, hi, hz0, hz1, hz2⟩ := infoR_parts infoRule
  have hmax := h.bound
  have hlen := h.rlen
  unfold maxLen at hmax
  have HO := Lib.hid h
  have Hlen := Lib.hid hlen
  have Hsm := Lib.hid hsm
  clear h hlen hsm
  go_enter Tryd.func25, Tryd.ntmps25
  go_wp2_with fail
  refine (specSystemOk k _ _ _ B l _ (HO.out.below (bel2 _ _ _)) Hsm.out).mono ?_
  rintro e w1 ⟨rfl, hb1⟩
  have HB1 := Lib.hid (((Blk.new1 w _ _).alloc _).below hb1 (by simp; omega))
  have HR1 := Lib.hid ((Blk.new2 w _ _ _).below hb1 (by simp))
  have b1 := (bel2 w _ _).trans (hb1.mono (by simp; omega))
  clear hb1
  obtain ⟨q0, q1, -, -, ql⟩ := HB1.out.two
  obtain ⟨r0, r1, f0, f1, rl⟩ := HR1.out.two
  cases h1 : systemOk k l
  · have He := Lib.hid (show systemOk k l = false from h1)
    clear h1
    go_wp2_with fail
    refine bodyPost_ret (v := .tuple #[.agg #[.int .i64 0, .slice none 0 0], .bool false]) (by simp [results, Tryd.results25, go_sem, *]) rfl (Or.inl ⟨by first | rfl | exact He.out, rfl, ?_⟩)
    exact (b1.setCell (by simp) _).setCell (by simp) _
  clear r0 r1 f0 f1
  go_wp2_with fail
  go_loopw [19] (fun i wr => ∃ (j : Nat) (v : Value), j ≤ n ∧ i = .int .i64 j ∧ Hid (Blk wr w1.heap.size 36 #[.int .i64 k, v]) ∧ Hid (wr.ownsRow (w1.heap.size + 1) 26 2 v j (rulesC (mirL k (l.take j)))) ∧ Hid (Blk wr w.heap.size 36 #[.int .i64 k, .slice A n c]) ∧ Hid (Blk wr (w.heap.size + 1) 36 #[.int .i64 0, .slice none 0 0]) ∧ Below w.heap.size w wr) (fun i _ => n - (intOf i).toNat)
  case atStart => exact ⟨0, .slice none 0 0, Nat.zero_le _, rfl, Blk.new1 _ _ _, World.ownsRow_nil _ _ _ _, HB1.out.alloc _, HR1.out.alloc _, b1.alloc b1.size _⟩
  case round =>
    obtain ⟨j, vv, hj, rfl, HS, HW, HB, HR, hb⟩ := hrel
    have hbs := hb.size
    by_cases hlt : j < n
    · obtain ⟨g, off, c0, hv⟩ := HO.out.formR (by omega)
      obtain ⟨rfl, rfl⟩ : A = some ⟨g, off, none⟩ ∧ c = c0 := by injection hv with a _ b; exact ⟨a, b⟩
      clear hv q0 q1 ql
      obtain ⟨-, hgl, ⟨u, v⟩, hr, x0, x1, -, -⟩ := (HO.out.below hb).rule hlt
      obtain ⟨q0, q1, -, -, ql⟩ := HB.out.two
      have Hr := Lib.hid hr
      have hsz := Hsm.out _ (List.mem_of_getElem? hr)
      have Hu := Lib.hid hsz.1
      have Hv := Lib.hid hsz.2
      clear hr hsz
      go_wp2_with fail
      obtain ⟨z0, z1, -, -, zl⟩ := (Blk.new1 wr #[.string u, .string v] 26).two
      have t0 := ((HB.out.alloc (.cells #[.string u, .string v] 26)).two).1
      have tl := ((HB.out.alloc (.cells #[.string u, .string v] 26)).two).2.2.2.2
      have b2 := hb.alloc hbs (.cells #[.string u, .string v] 26)
      have HB2 := Lib.hid (HB.out.alloc (.cells #[.string u, .string v] 26))
      have HR2 := Lib.hid (HR.out.alloc (.cells #[.string u, .string v] 26))
      have HS2 := Lib.hid (HS.out.alloc (.cells #[.string u, .string v] 26))
      have HW2 := Lib.hid (HW.out.alloc (.cells #[.string u, .string v] 26))
      have hsu : (mirS u).size ≤ 1048576 := by rw [mirS_size]; exact Hu.out
      have hsv : (mirS v).size ≤ 1048576 := by rw [mirS_size]; exact Hv.out
      have HMU := Lib.hid (fun W => specMirrorWord u W Hu.out)
      have HMV := Lib.hid (fun W => specMirrorWord v W Hv.out)
      have HOr := Lib.hid (fun W => specOrientRule k (mirS u) (mirS v) W hsu hsv)
      have Hst := Lib.hid (mirL_step k l j _ Hr.out)
      have e1 : mirR k (u, v) = orientOf k (mirS u, mirS v) := rfl
      rw [e1] at Hst
      generalize mirS u = p at *
      generalize mirS v = q at *
      generalize orientOf k (p, q) = oo at *
      generalize canOrient k (p, q) = cc at *
      obtain ⟨oa, ob⟩ := oo
      clear e1 hsu hsv x0 x1 q0 q1 ql hb HB HR HW HS
      generalize wr.alloc (.cells #[.string u, .string v] 26) = w2 at *
      have hw2s := b2.size
      have K0 : w2.drew.cell? ⟨w.heap.size, 0, none⟩ = some (.int .i64 k) ∧ w2.drew.cell? ⟨wr.heap.size, 0, none⟩ = some (.string u) ∧ w2.drew.cell? ⟨wr.heap.size, 1, none⟩ = some (.string v) ∧ Below w2.heap.size w2 w2.drew := ⟨t0, z0, z1, (Below.refl _ w2).drew⟩
      have K0a := fun o => held3_allocd K0 tl zl o
      go_cut [7, 8, 19] from 19 to 42 (fun s7 _ s16 wx => ∃ d, s7 = .pointer (some ⟨d, 0, none⟩) ∧ s16 = .int .i64 j ∧ wx.cell? ⟨d, 0, none⟩ = some (.string oa) ∧ wx.cell? ⟨d, 1, none⟩ = some (.string ob) ∧ Hid (Below w2.heap.size w2 wx))
      case first =>
        go_region_held3 (fun w' => w'.cell? ⟨w.heap.size, 0, none⟩ = some (.int .i64 k) ∧ w'.cell? ⟨wr.heap.size, 0, none⟩ = some (.string u) ∧ w'.cell? ⟨wr.heap.size, 1, none⟩ = some (.string v) ∧ Below w2.heap.size w2 w')
          (first | exact K0 | exact K0a _ | exact S4 | exact held3_alloc S4 tl zl _ | exact held3_set2 S4 (Nat.le_refl _) tl zl _ _)
          ((first
            | (go_at_call_of 44 (Value.string u); refine (HMU.out _).mono ?_; rintro e w' ⟨rfl, rfl⟩)
            | (go_at_call_of 44 (Value.string v); refine (HMV.out _).mono ?_; rintro e w' ⟨rfl, rfl⟩)
            | (go_at_call 22; refine (HOr.out _).mono ?_; rintro e w4 ⟨rfl, hb4⟩; (first | have S4 := held3_keep K0 hb4 (Nat.le_refl _) tl zl | have S4 := held3_keep (K0a _) hb4 (Nat.le_refl _) tl zl); (first | (have D4 := new_kept1 hb4; obtain ⟨x0, x1, e0, e1, xl⟩ := id D4.two) | skip))))
        all_goals go_wp2_with fail
        all_goals go_meet
        all_goals first
          | exact ⟨_, rfl, rfl, (Blk.new1 w4 _ _).cell 0, (Blk.new1 w4 _ _).cell 1, S4.2.2.2.alloc S4.2.2.2.size _⟩
          | exact ⟨_, rfl, rfl, (D4.set2 _ _).cell 0, (D4.set2 _ _).cell 1, (held3_set2 S4 (Nat.le_refl _) tl zl _ _).2.2.2⟩
      case rest =>
        obtain ⟨d, rfl, rfl, d0, d1, B5⟩ := hcut
        have b5 := b2.trans (B5.out.mono hw2s)
        have HB5 := Lib.hid (HB2.out.below B5.out HB2.out.lt)
        have HR5 := Lib.hid (HR2.out.below B5.out HR2.out.lt)
        have HS5 := Lib.hid (HS2.out.below B5.out HS2.out.lt)
        have HW5 := Lib.hid (ownsRow_below HW2.out B5.out)
        have hbs5 := b5.size
        have hS5 := HS5.out.lt
        have hR5 := HR5.out.lt
        have hb1s := b1.size
        obtain ⟨s0, s1, g0, g1, sl⟩ := HS5.out.two
        clear HB2 HR2 HW2 HS2 t0 z0 z1 tl zl K0 K0a hw2s
        go_wp2_with (at_builtin; refine wpList_append_own _ rfl _ _ 34 rfl (w1.heap.size + 1) 26 i0 (.agg #[.string ⟨#[]⟩, .string ⟨#[]⟩]) 2 32 Tryd.underlying34 hi hz0 hz1 hz2 rfl (by decide) _ _ _ rfl (HW5.out.alloc _) ⟨wc.heap.size, 0, none⟩ 1 1 [.string oa, .string ob] rfl rfl ?c1 ?c2 ?c3 ?c4 ?c5 ?_)
        case c2 => exact ⟨rfl, rfl⟩
        case c3 => unfold maxLen; omega
        case c4 => omega
        case c5 => omega
        intro v' w6 hown' hgrow _
        have hown2 : w6.ownsRow (w1.heap.size + 1) 26 2 v' (j + 1) (rulesC (mirL k (l.take (j + 1)))) := by rw [← Hst.out]; exact hown'
        obtain ⟨g4, o4, c4, hv4⟩ := (Own.of_row hown2).formR (by omega)
        subst hv4
        have hgb : ∀ d, d < w1.heap.size + 1 → w6.heap[d]? = wc.heap[d]? := fun d hd => grown_block HW5.out hgrow hd (by omega)
        have HB6 : Hid (Blk w6 w.heap.size 36 #[.int .i64 k, .slice (some ⟨g, off, none⟩) n c]) := (hgb _ (by omega)).trans HB5.out
        have HR6 : Hid (Blk w6 (w.heap.size + 1) 36 #[.int .i64 0, .slice none 0 0]) := (hgb _ (by omega)).trans HR5.out
        have HS6 : Hid (Blk w6 w1.heap.size 36 #[.int .i64 k, vv]) := (hgb _ (by omega)).trans HS5.out
        have b6 : Below w.heap.size w w6 := grown_one HW5.out hgrow b5 (by omega) (by omega)
        have HW7 := Lib.hid (ownsRow_setCell_below hown2 (a := ⟨w1.heap.size, 1, none⟩) (by show w1.heap.size < _; omega) (.slice (some ⟨g4, o4, none⟩) (j + 1) c4))
        have HS7 := Lib.hid (Blk.set_ HS6.out 1 (.slice (some ⟨g4, o4, none⟩) (j + 1) c4))
        have HB7 := Lib.hid (Blk.far HB6.out (p := ⟨w1.heap.size, 1, none⟩) (by show w.heap.size ≠ w1.heap.size; omega) (.slice (some ⟨g4, o4, none⟩) (j + 1) c4))
        have HR7 := Lib.hid (Blk.far HR6.out (p := ⟨w1.heap.size, 1, none⟩) (by show w.heap.size + 1 ≠ w1.heap.size; omega) (.slice (some ⟨g4, o4, none⟩) (j + 1) c4))
        have b7 := b6.setCell (p := ⟨w1.heap.size, 1, none⟩) (by show w.heap.size ≤ w1.heap.size; omega) (.slice (some ⟨g4, o4, none⟩) (j + 1) c4)
        clear hown' hown2 hgrow hgb d0 d1 HB5 HR5 HW5 HS5 s0 s1 g0 g1 sl
        obtain ⟨s0, s1, g0, g1, sl⟩ := HS6.out.two
        go_wp2_with fail
        go_roundw
        case rel => exact ⟨j + 1, .slice (some ⟨g4, o4, none⟩) (j + 1) c4, by omega, by go_num, HS7, HW7, HB7, HR7, b7⟩
        case measure => simp [intOf]; omega
    · obtain rfl : j = n := by omega
      have ho := HW.out
      rw [List.take_of_length_le (by rw [Hlen.out]; exact Nat.le_refl _)] at ho
      have HO9 := Lib.hid (Own.of_row ho)
      obtain ⟨A9, c9, rfl⟩ := HO9.out.form
      obtain ⟨s0, s1, -, -, sl⟩ := HS.out.two
      obtain ⟨r0, r1, f0, f1, rl⟩ := HR.out.two
      have hb1s := b1.size
      clear ho HW
      go_wp2_with fail
      refine bodyPost_ret (v := .tuple #[.agg #[.int .i64 k, .slice A9 j c9], .bool true]) (by simp [results, Tryd.results25, go_sem, *]) rfl (Or.inr ⟨by first | rfl | exact h1, _, rfl, ?_, ?_⟩)
      · exact ((HO9.out.far (by simp; omega) _).far (by simp; omega) _).mono (by omega)
      · refine Below.setCell (Below.setCell hb ?_ _) ?_ _ <;> simp
end Go.Proofs.YtpmghdecfpfahaaDoor
