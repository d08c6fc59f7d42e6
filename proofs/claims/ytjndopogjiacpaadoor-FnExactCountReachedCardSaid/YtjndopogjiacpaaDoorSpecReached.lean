/- The model's CountReached. -/
import Derived.Test.YtjndopogjiacpaaDoorBfs
import Derived.Test.YtjndopogjiacpaaDoorSpecReduce
import Derived.Test.YtjndopogjiacpaaDoorStrs
namespace Go.Proofs.YtjndopogjiacpaaDoor
open Go.RowKit

theorem hasW_step (Q : List ByteArray) (j : Nat) (x y : ByteArray) (h : Q[j]? = some x) : hasW (Q.take (j + 1)) y = (hasW (Q.take j) y || decide (x = y)) := by
  rw [take_step Q j x h, hasW, hasW, List.any_append]; simp
theorem hasW_yes (Q : List ByteArray) (j : Nat) (y : ByteArray) (h : Q[j]? = some y) : hasW Q y = true := (hasW_iff Q y).2 (List.mem_of_getElem? h)
set_option maxHeartbeats 400000 in
theorem specHas (A : Option Addr) (m c B : Nat) (Q : List ByteArray) (y : ByteArray) (w : World) (h : Own B w (.slice A m c) 1 m (strs Q)) :
    Calls Tryd.prog 69 #[.slice A m c, .string y] w fun e w' => e = .returned (.bool (hasW Q y)) ∧ w = w' := by
  have hmax := h.bound
  unfold maxLen at hmax
  have hl : Q.length = m := by have := h.1; rw [strs_length] at this; omega
  have Hl := Lib.hid hl
  have HO := Lib.hid h
  clear h hl
  go_enter Tryd.func69, Tryd.ntmps69
  go_wp2_with fail
  go_loopw [9] (fun i wr => ∃ j : Nat, j ≤ m ∧ i = .int .i64 j ∧ Hid (hasW (Q.take j) y = false) ∧ wr = w) (fun i _ => m - (intOf i).toNat)
  case atStart => exact ⟨0, Nat.zero_le _, rfl, rfl, rfl⟩
  case round =>
    obtain ⟨j, hj, rfl, HN, rfl⟩ := hrel
    by_cases hlt : j < m
    · obtain ⟨g, off, rfl, -, hg, hcell⟩ := HO.out.str (by omega)
      obtain ⟨x, hx, x0, -⟩ := hcell j hlt
      have Hst := Lib.hid (hasW_step Q j x y hx)
      have Hx := Lib.hid hx
      clear hcell hx
      by_cases hxy : x = y
      · subst hxy
        have He := Lib.hid (hasW_yes Q j x Hx.out)
        go_wp2_with fail
        go_ret
        exact ⟨ret_bool He.out.symm, rfl⟩
      · have hd : (x.toList == y.toList) = false := toList_ne hxy
        have HN2 : Hid (hasW (Q.take (j + 1)) y = false) := by show _ = _; rw [Hst.out, HN.out]; simp [hxy]
        clear hxy
        go_wp2_with fail
        go_roundw
        case rel => exact ⟨j + 1, by omega, by go_num, HN2, trivial⟩
        case measure => simp [intOf]; omega
    · have He : Hid (hasW Q y = false) := by
        have h1 := HN.out
        rw [List.take_of_length_le (by rw [Hl.out]; omega)] at h1
        exact h1
      go_wp2_with fail
      go_ret
      exact ⟨ret_bool He.out.symm, rfl⟩

theorem rows_apart {w : World} {b1 b2 : Nat} {e1 e2 : TypeId} {s1 s2 n1 n2 : Nat} {v1 v2 : Value} {x1 x2 : List Value} (h1 : w.ownsRow b1 e1 s1 v1 n1 x1) (h2 : w.ownsRow b2 e2 s2 v2 n2 x2) (hne : e1 ≠ e2) : v1.ownBlock = none ∨ v1.ownBlock ≠ v2.ownBlock := by
  rcases h1.2 with ⟨rfl, _⟩ | ⟨g, cap, cur, rfl, _, hg, _⟩
  · exact .inl rfl
  · right
    rcases h2.2 with ⟨rfl, _⟩ | ⟨g', cap', cur', rfl, _, hg', _⟩
    · simp [Value.ownBlock]
    · intro e
      obtain rfl : g = g' := by simpa [Value.ownBlock] using e
      rw [hg] at hg'
      injection hg' with hg'
      injection hg' with _ h _
      exact hne h
theorem heldB3 {W W1 : World} {p1 p2 p3 : Addr} {a1 a2 a3 : Value} {B : Nat} {w : World} (h : W.cell? p1 = some a1 ∧ W.cell? p2 = some a2 ∧ W.cell? p3 = some a3 ∧ Below B w W) (hb : Below W.heap.size W W1) (hB : B ≤ W.heap.size)
    (h1 : p1.block < W.heap.size) (h2 : p2.block < W.heap.size) (h3 : p3.block < W.heap.size) :
    W1.cell? p1 = some a1 ∧ W1.cell? p2 = some a2 ∧ W1.cell? p3 = some a3 ∧ Below B w W1 :=
  ⟨(hb.cell h1).trans h.1, (hb.cell h2).trans h.2.1, (hb.cell h3).trans h.2.2.1, h.2.2.2.trans (hb.mono hB)⟩

set_option maxRecDepth 100000 in
set_option maxHeartbeats 2000000 in
theorem specCountReached (k : Int) (A : Option Addr) (n c B : Nat) (l : List R) (s : ByteArray) (w : World) (h : Own B w (.slice A n c) 2 n (rulesC l)) (hsm : smallR l) (hs : s.size ≤ 1048576) :
    Calls Tryd.prog 47 #[.agg #[.int .i64 k, .slice A n c], .string s] w fun e w' => e = .returned (.int .i64 (countS k l s)) ∧ Below w.heap.size w w' := by
  obtain ⟨i0, hi, hz0, hz1, hz2⟩ := info_parts infoStr
  have HO := Lib.hid h
  clear h
  go_enter Tryd.func47, Tryd.ntmps47
  go_wp2_with fail
  refine (specOk k A n c B l s _ (HO.out.below (bel1 _ _)) hsm hs).mono ?_
  rintro e w1 ⟨rfl, hb1⟩
  have b1 := (bel1 w _).trans (hb1.mono (by simp))
  have HB1 := Lib.hid ((Blk.new1 w _ _).below hb1 (by simp))
  clear hb1
  cases h1 : canRed k l s
  · have HF := Lib.hid (countS_no1 h1)
    clear h1
    go_wp2_with fail
    go_ret
    exact ⟨by rw [HF.out]; rfl, b1⟩
  by_cases h8 : ¬ s.size ≤ 8
  · have HF := Lib.hid (countS_no2 (k := k) (l := l) h8)
    clear h1
    go_wp2_with fail
    go_ret
    exact ⟨by rw [HF.out]; rfl, b1⟩
  have h8' : s.size ≤ 8 := by omega
  have HF := Lib.hid (countS_yes h1 h8')
  have HS0 := Lib.hid (SearchAt.start h1 h8')
  have hwl := HB1.out.lt
  clear h1 h8
  go_wp2_with fail
  have HW0 : Hid ((w1.alloc (.cells #[.string s] 9)).ownsRow w1.heap.size 9 1 (.slice (some ⟨w1.heap.size, 0, none⟩) 1 1) [s].length (strs [s])) :=
    ⟨rfl, Or.inr ⟨w1.heap.size, 1, _, rfl, Nat.le_refl _, heap_alloc_new w1 _, Nat.le_refl _, by unfold maxLen; omega, rfl, rfl⟩⟩
  have b2 := b1.alloc b1.size (.cells #[.string s] 9)
  have HB2 := Lib.hid (HB1.out.alloc (.cells #[.string s] 9))
  have hln : w1.heap.size ≤ (w1.alloc (.cells #[.string s] 9)).heap.size := by simp
  generalize w1.alloc (.cells #[.string s] 9) = w2 at *
  go_loopw [5, 6] (fun v i wr => ∃ (a : Nat) (Q : List ByteArray) (A5 : Option Addr) (c5 : Nat), i = .int .i64 a ∧ v = .slice A5 Q.length c5 ∧ Hid (SearchAt k l s Q a) ∧ Hid (wr.ownsRow w1.heap.size 9 1 v Q.length (strs Q)) ∧ Hid (Blk wr w.heap.size 25 #[.int .i64 k, .slice A n c]) ∧ Below w.heap.size w wr ∧ w1.heap.size ≤ wr.heap.size) (fun _ i _ => 87381 - (intOf i).toNat)
  case atStart => exact ⟨0, [s], _, _, rfl, rfl, HS0, HW0, HB2, b2, hln⟩
  case round =>
    obtain ⟨a, Q, A5, c5, rfl, rfl, HS, HW, HB, hb, hbs⟩ := hrel
    have hQl := HS.out.good.len
    have hal := HS.out.le
    have hQw := Lib.hid (fun v hv => HS.out.good.word v hv)
    obtain ⟨q0, q1, -, -, ql⟩ := HB.out.two
    by_cases hlt : a < Q.length
    · obtain ⟨g, off, hA, -, hg, hcell⟩ := (Own.of_row HW.out).str (by omega)
      subst hA
      obtain ⟨v, hv, x0, -⟩ := hcell a hlt
      have Hv := Lib.hid hv
      have hvw := HS.out.good.word v (List.mem_of_getElem? hv)
      have Hvc := Lib.hid hvw.1
      have hv8 := hvw.2
      have HSn := Lib.hid (HS.out.next hv)
      clear hcell hv hvw
      have hvs : v.size ≤ 1048576 := by omega
      have hst0 := stepsOf_yes (k := k) v (canRed_rules Hvc.out)
      have Hsp := Lib.hid (fun (W : World) (hO : Own B W (.slice A n c) 2 n (rulesC l)) => by have := specStepsRow k A n c B l v W hO hsm hvs; rw [hst0] at this; exact this)
      have HLs := Lib.hid (fun x (hx : x ∈ stepsD l v 0) => (mem_stepsD l v 0 x).1 hx)
      have HSn2 : Hid (SearchAt k l s (growL l v (stepsD l v 0) Q) (a + 1)) := HSn
      clear hst0 HSn
      generalize stepsD l v 0 = L at *
      generalize hm : L.length = m at *
      have Hm := Lib.hid hm
      have HGd := Lib.hid (fun j => GoodQ.growL Hvc.out hv8 (L.take j) Q (fun x hx => HLs.out x (List.mem_of_mem_take hx)) HS.out.good)
      have HPr := Lib.hid (fun j => pre_get (growL_pre l v (L.take j) Q) Hv.out)
      clear hm
      go_wp2_with fail
      obtain ⟨w0, rfl⟩ : ∃ x : World, x = wr := ⟨_, rfl⟩
      go_region_held3 (fun w' => w'.cell? ⟨w.heap.size, 0, none⟩ = some (.int .i64 k) ∧ w'.cell? ⟨w.heap.size, 1, none⟩ = some (.slice A n c) ∧ w'.cell? ⟨g, off + a, none⟩ = some (.string v) ∧ Below w0.heap.size w0 w')
        (first | exact ⟨q0, q1, x0, (Below.refl _ w0).drew⟩ | exact heldB3 (by assumption) hb3 (Nat.le_refl _) ql ql hg)
        ((go_at_call 27; refine (Hsp.out _ (HO.out.below hb.drew)).mono ?_; rintro e w3 ⟨v3, rfl, o3, hb3⟩; obtain ⟨A3, c3, rfl⟩ := (Own.of_row o3).form))
      have hS := (‹_ ∧ _ ∧ _ ∧ Below w0.heap.size w0 w3›).2.2.2
      have hmax := (Own.of_row o3).bound
      unfold maxLen at hmax
      have O3 := Lib.hid o3
      have b3 := hb.trans (hS.mono hb.size)
      have HB3 := Lib.hid (HB.out.below hS HB.out.lt)
      have HW3 := Lib.hid (ownsRow_below HW.out hS)
      have hs3 := hS.size
      clear hS o3 HB HW hb q0 q1 ql hb3 x0 hg
      have O3' : Hid (w3.ownsRow w0.heap.size 37 2 (.slice A3 m c3) m (stepsC L)) := O3
      clear O3
      go_wp2_with fail
      go_loopw [5, 35] (fun q i wx => ∃ (j : Nat) (A6 : Option Addr) (c6 : Nat), i = .int .i64 j ∧ j ≤ m ∧ q = .slice A6 (growL l v (L.take j) Q).length c6 ∧ Hid (wx.ownsRow w1.heap.size 9 1 q (growL l v (L.take j) Q).length (strs (growL l v (L.take j) Q))) ∧ Hid (wx.ownsRow w0.heap.size 37 2 (.slice A3 m c3) m (stepsC L)) ∧ Hid (Blk wx w.heap.size 25 #[.int .i64 k, .slice A n c]) ∧ Below w.heap.size w wx ∧ w0.heap.size ≤ wx.heap.size) (fun _ i _ => m - (intOf i).toNat)
      case atStart => exact ⟨0, _, _, rfl, Nat.zero_le _, rfl, HW3, O3', HB3, b3, hs3⟩
      case round =>
        obtain ⟨j, A6, c6, rfl, hj, rfl, HQ, HX, HB4, hb4, hs4⟩ := hrel
        have hql := (HGd.out j).len
        by_cases hjm : j < m
        · obtain ⟨g4, off4, hA4, -, hg4, hcell4⟩ := (Own.of_row HQ.out).str (List.length_pos_of_mem (List.mem_of_getElem? (HPr.out j)))
          subst hA4
          obtain ⟨v', hv', x0, -⟩ := hcell4 a (List.getElem?_eq_some_iff.1 (HPr.out j)).1
          obtain rfl : v' = v := by rw [HPr.out j] at hv'; exact (Option.some.inj hv').symm
          clear hcell4 hv'
          obtain ⟨g5, off5, c5', hv5⟩ := (Own.of_row HX.out).formR (by omega)
          obtain ⟨rfl, rfl⟩ : A3 = some ⟨g5, off5, none⟩ ∧ c3 = c5' := by injection hv5 with a _ b; exact ⟨a, b⟩
          clear hv5
          obtain ⟨-, hg5, ⟨si, sp⟩, hr, y0, y1, -, -⟩ := (Own.of_row HX.out).step hjm
          have hstep := HLs.out _ (List.mem_of_getElem? hr)
          obtain ⟨ha1, ha2, ha3, ha4⟩ := step_props Hvc.out hstep
          have Hap : Hid (applyS k l v' (si, sp) = ((afterS l v' (si, sp)).1, true)) := by show _ = _; rw [apply_step Hvc.out hstep]; exact ha1
          have HGr : Hid (growL l v' (L.take (j + 1)) Q = grow1 (growL l v' (L.take j) Q) (afterS l v' (si, sp)).1) := by show _ = _; rw [take_step L j _ hr, growL_snoc]
          clear hr hstep ha1 ha2 ha3 ha4
          have hgd1 := (HGd.out (j + 1)).len
          have hai := (List.getElem?_eq_some_iff.1 (HPr.out j)).1
          rw [HGr.out] at hgd1
          have Hgd1 := Lib.hid hgd1
          generalize hy : (afterS l v' (si, sp)).1 = y at *
          have hbs4 := hb4.size
          have b5 := hb4.alloc hbs4 (.cells #[.int .i64 si, .int .i64 sp] 37)
          have HQ5 := Lib.hid (HQ.out.alloc (.cells #[.int .i64 si, .int .i64 sp] 37))
          have HX5 := Lib.hid (HX.out.alloc (.cells #[.int .i64 si, .int .i64 sp] 37))
          have HB5 := Lib.hid (HB4.out.alloc (.cells #[.int .i64 si, .int .i64 sp] 37))
          obtain ⟨q0, q1, -, -, ql⟩ := HB5.out.two
          obtain ⟨z0, z1, -, -, zl⟩ := (Blk.new1 wr #[.int .i64 si, .int .i64 sp] 37).two
          have x1 := (World.cell?_of_block (w := wr) (a := ⟨g4, off4 + a, none⟩) (Below.heap_alloc wr (.cells #[.int .i64 si, .int .i64 sp] 37) g4 hg4)).trans x0
          have hg5' : g4 < (wr.alloc (.cells #[.int .i64 si, .int .i64 sp] 37)).heap.size := by simp; omega
          have hs5 : w0.heap.size ≤ (wr.alloc (.cells #[.int .i64 si, .int .i64 sp] 37)).heap.size := by simp; omega
          clear hgd1 HQ HX HB4 hb4 x0 hg4 hbs4 hy
          go_wp2_with fail
          generalize wr.alloc (.cells #[.int .i64 si, .int .i64 sp] 37) = w5 at *
          go_region_held3 (fun w' => w'.cell? ⟨w.heap.size, 0, none⟩ = some (.int .i64 k) ∧ w'.cell? ⟨w.heap.size, 1, none⟩ = some (.slice A n c) ∧ w'.cell? ⟨g4, off4 + a, none⟩ = some (.string v') ∧ w'.cell? ⟨wr.heap.size, 0, none⟩ = some (.int .i64 si) ∧ w'.cell? ⟨wr.heap.size, 1, none⟩ = some (.int .i64 sp) ∧ Below w5.heap.size w5 w')
            (first | exact ⟨q0, q1, x1, z0, z1, (Below.refl _ w5).drew⟩ | exact held5_keep (by assumption) hb6 (Nat.le_refl _) ql ql hg5' zl zl)
            ((go_at_call 34; refine (specApplyStep k A n c B l v' si sp _ (HO.out.below b5.drew) hsm hvs).mono ?_; rw [Hap.out]; rintro e w6 ⟨rfl, hb6⟩))
          have hS := (‹_ ∧ _ ∧ _ ∧ _ ∧ _ ∧ Below w5.heap.size w5 w6›).2.2.2.2.2
          have b6 := b5.trans (hS.mono b5.size)
          have HQ6 := Lib.hid (ownsRow_below HQ5.out hS)
          have HX6 := Lib.hid (ownsRow_below HX5.out hS)
          have HB6 := Lib.hid (HB5.out.below hS HB5.out.lt)
          have hs6 := hS.size
          clear hS hb6 HQ5 HX5 HB5 b5 q0 q1 ql z0 z1 zl x1 hg5'
          have hH := Lib.hid (specHas (some ⟨g4, off4, none⟩) _ c6 _ (growL l v' (L.take j) Q) y w6 (Own.of_row HQ6.out))
          go_wp2_with fail
          refine hH.out.mono ?_
          rintro e w7 ⟨rfl, rfl⟩
          clear hH
          cases hh : hasW (growL l v' (L.take j) Q) y
          · have HGr2 : Hid (growL l v' (L.take (j + 1)) Q = growL l v' (L.take j) Q ++ [y]) := by show _ = _; rw [HGr.out, grow1, hh]; rfl
            have hq1 : (growL l v' (L.take j) Q).length + 1 ≤ 87381 := by have := Hgd1.out; rw [grow1, hh] at this; simpa using this
            have hw16 := b6.size
            clear hh HGr Hgd1
            go_wp2_with (at_builtin; refine wpList_append_own _ rfl _ _ 76 rfl w1.heap.size 9 i0 (.string ⟨#[]⟩) 1 16 Tryd.underlying76 hi hz0 hz1 hz2 rfl (by decide) _ _ _ rfl (HQ6.out.alloc _) ⟨w6.heap.size, 0, none⟩ 1 1 [.string y] rfl rfl ?c1 ?c2 ?c3 ?c4 ?c5 ?_)
            case c1 =>
              intro j u hj
              match j, hj with
              | 0, hj => simp at hj; subst hj; simp [Addr.add]
            case c2 => intro u hu; simp at hu; subst hu; rfl
            case c3 => unfold maxLen; omega
            case c4 => omega
            case c5 => simp; omega
            intro v9 w9 hown' hgrow _
            have hown2 : w9.ownsRow w1.heap.size 9 1 v9 (growL l v' (L.take (j + 1)) Q).length (strs (growL l v' (L.take (j + 1)) Q)) := by
              rw [HGr2.out, List.length_append]
              have e : strs (growL l v' (L.take j) Q ++ [y]) = strs (growL l v' (L.take j) Q) ++ [Value.string y] := by simp [strs]
              rw [e]; exact hown'
            have HX9 := Lib.hid ((HX6.out.alloc (.cells #[.string y] 9)).kept hgrow (rows_apart HX6.out HQ6.out (by decide)))
            have HB9 : Hid (Blk w9 w.heap.size 25 #[.int .i64 k, .slice A n c]) := (grown_block HQ6.out hgrow (by omega) (by omega)).trans HB6.out
            have b9 : Below w.heap.size w w9 := grown_one HQ6.out hgrow b6 (by omega) (by omega)
            have hs9 := hgrow.size
            simp at hs9
            obtain ⟨g9, o9, c9, hv9⟩ := (Own.of_row hown2).formR (by rw [HGr2.out]; simp)
            subst hv9
            have HQ9 := Lib.hid hown2
            clear hown' hown2 hgrow HQ6 HX6 HB6 b6
            go_wp2_with fail
            go_roundw
            case rel => exact ⟨j + 1, _, _, by go_num, by omega, rfl, HQ9, HX9, HB9, b9, by omega⟩
            case measure => simp [intOf]; omega
          · have HGr2 : Hid (growL l v' (L.take (j + 1)) Q = growL l v' (L.take j) Q) := by show _ = _; rw [HGr.out, grow1, hh]; rfl
            have HQ7 : Hid (w6.ownsRow w1.heap.size 9 1 (.slice (some ⟨g4, off4, none⟩) (growL l v' (L.take j) Q).length c6) (growL l v' (L.take (j + 1)) Q).length (strs (growL l v' (L.take (j + 1)) Q))) := by
              show World.ownsRow _ _ _ _ _ _ _; rw [HGr2.out]; exact HQ6.out
            clear hh
            go_wp2_with fail
            go_roundw
            case rel => exact ⟨j + 1, _, _, by go_num, by omega, by rw [HGr2.out], HQ7, HX6, HB6, b6, by omega⟩
            case measure => simp [intOf]; omega
        · obtain rfl : j = m := by omega
          have HTk : Hid (L.take j = L) := List.take_of_length_le (by rw [Hm.out]; exact Nat.le_refl _)
          rw [HTk.out] at HQ
          go_wp2_with fail
          go_roundw
          case rel => exact ⟨a + 1, growL l v L Q, A6, c6, by go_num, by rw [HTk.out], HSn2, by rw [HTk.out]; exact HQ, HB4, hb4, by omega⟩
          case measure => simp [intOf]; omega
    · obtain rfl : a = Q.length := by omega
      have HF2 := Lib.hid (HS.out.done (Nat.le_refl _))
      go_wp2_with fail
      go_ret
      exact ⟨by rw [HF.out, HF2.out]; rfl, hb⟩
end Go.Proofs.YtjndopogjiacpaaDoor
