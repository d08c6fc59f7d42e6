/- SpecReached EndsPlain RoundAt ImplReached Reduction Reduce Trace World LawReduce, one behind the other. -/
import Derived.Test.YtjndopogjiacpaaDoorBfs
import Derived.Test.YtjndopogjiacpaaDoorSpecReduce
import Derived.Test.YtjndopogjiacpaaDoorStrs
import Derived.Test.YtjndopogjiacpaaDoorRunSteps
import Derived.Test.YtjndopogjiacpaaDoorOrder
import Derived.Test.YtjndopogjiacpaaDoorWait
import Derived.Test.YtjndopogjiacpaaDoorCollect
import Derived.Test.YtjndopogjiacpaaDoorBase
import Derived.Test.YtjndopogjiacpaaDoorCards
import Derived.Test.YtjndopogjiacpaaDoorTie
import Derived.Deep.DeepHandedRow
import Derived.Deep.DeepWitnessRowRef
import Derived.Lib.LaidTab
import Derived.Stop.LaidErr
import Derived.OpenVars
import Derived.Test.YtjndopogjiacpaaDoorDrawnAll
import Derived.Test.YtjndopogjiacpaaDoorFirst
namespace Go.Proofs.YtjndopogjiacpaaDoor
open Go.RowKit

theorem hasW_step (Q : List ByteArray) (j : Nat) (x y : ByteArray) (h : Q[j]? = some x) : hasW (Q.take (j + 1)) y = (hasW (Q.take j) y || decide (x = y)) := by
  rw [take_step Q j x h, hasW, hasW, List.any_append]; simp
theorem hasW_yes (Q : List ByteArray) (j : Nat) (y : ByteArray) (h : Q[j]? = some y) : hasW Q y = true := (hasW_iff Q y).2 (List.mem_of_getElem? h)
set_option maxHeartbeats 400000 in
theorem specHas (A : Option Addr) (m c B : Nat) (Q : List ByteArray) (y : ByteArray) (w : World) (h : Own B w (.slice A m c) 1 m (strs Q)) :
    Calls Tryd.prog 69 #[.slice A m c, .string y] w fun e w' => e = .returned (.bool (hasW Q y)) ∧ w = w' := by
  have hmax := h.bound
  unfold maxLen at hmax
  have hl : Q.length = m := by have := h.1; rw [strs_length] at this; omega
  have Hl := Lib.hid hl
  have HO := Lib.hid h
  clear h hl
  go_enter Tryd.func69, Tryd.ntmps69
  go_wp2_with fail
  go_loopw [9] (fun i wr => ∃ j : Nat, j ≤ m ∧ i = .int .i64 j ∧ Hid (hasW (Q.take j) y = false) ∧ wr = w) (fun i _ => m - (intOf i).toNat)
  case atStart => exact ⟨0, Nat.zero_le _, rfl, rfl, rfl⟩
  case round =>
    obtain ⟨j, hj, rfl, HN, rfl⟩ := hrel
    by_cases hlt : j < m
    · obtain ⟨g, off, rfl, -, hg, hcell⟩ := HO.out.str (by omega)
      obtain ⟨x, hx, x0, -⟩ := hcell j hlt
      have Hst := Lib.hid (hasW_step Q j x y hx)
      have Hx := Lib.hid hx
      clear hcell hx
      by_cases hxy : x = y
      · subst hxy
        have He := Lib.hid (hasW_yes Q j x Hx.out)
        go_wp2_with fail
        go_ret
        exact ⟨ret_bool He.out.symm, rfl⟩
      · have hd : (x.toList == y.toList) = false := toList_ne hxy
        have HN2 : Hid (hasW (Q.take (j + 1)) y = false) := by show _ = _; rw [Hst.out, HN.out]; simp [hxy]
        clear hxy
        go_wp2_with fail
        go_roundw
        case rel => exact ⟨j + 1, by omega, by go_num, HN2, trivial⟩
        case measure => simp [intOf]; omega
    · have He : Hid (hasW Q y = false) := by
        have h1 := HN.out
        rw [List.take_of_length_le (by rw [Hl.out]; omega)] at h1
        exact h1
      go_wp2_with fail
      go_ret
      exact ⟨ret_bool He.out.symm, rfl⟩

theorem rows_apart {w : World} {b1 b2 : Nat} {e1 e2 : TypeId} {s1 s2 n1 n2 : Nat} {v1 v2 : Value} {x1 x2 : List Value} (h1 : w.ownsRow b1 e1 s1 v1 n1 x1) (h2 : w.ownsRow b2 e2 s2 v2 n2 x2) (hne : e1 ≠ e2) : v1.ownBlock = none ∨ v1.ownBlock ≠ v2.ownBlock := by
  rcases h1.2 with ⟨rfl, _⟩ | ⟨g, cap, cur, rfl, _, hg, _⟩
  · exact .inl rfl
  · right
    rcases h2.2 with ⟨rfl, _⟩ | ⟨g', cap', cur', rfl, _, hg', _⟩
    · simp [Value.ownBlock]
    · intro e
      obtain rfl : g = g' := by simpa [Value.ownBlock] using e
      rw [hg] at hg'
      injection hg' with hg'
      injection hg' with _ h _
      exact hne h
theorem heldB3 {W W1 : World} {p1 p2 p3 : Addr} {a1 a2 a3 : Value} {B : Nat} {w : World} (h : W.cell? p1 = some a1 ∧ W.cell? p2 = some a2 ∧ W.cell? p3 = some a3 ∧ Below B w W) (hb : Below W.heap.size W W1) (hB : B ≤ W.heap.size)
    (h1 : p1.block < W.heap.size) (h2 : p2.block < W.heap.size) (h3 : p3.block < W.heap.size) :
    W1.cell? p1 = some a1 ∧ W1.cell? p2 = some a2 ∧ W1.cell? p3 = some a3 ∧ Below B w W1 :=
  ⟨(hb.cell h1).trans h.1, (hb.cell h2).trans h.2.1, (hb.cell h3).trans h.2.2.1, h.2.2.2.trans (hb.mono hB)⟩

set_option maxRecDepth 100000 in
set_option maxHeartbeats 2000000 in
theorem specCountReached (k : Int) (A : Option Addr) (n c B : Nat) (l : List R) (s : ByteArray) (w : World) (h : Own B w (.slice A n c) 2 n (rulesC l)) (hsm : smallR l) (hs : s.size ≤ 1048576) :
    Calls Tryd.prog 47 #[.agg #[.int .i64 k, .slice A n c], .string s] w fun e w' => e = .returned (.int .i64 (countS k l s)) ∧ Below w.heap.size w w' := by
  obtain ⟨i0, hi, hz0, hz1, hz2⟩ := info_parts infoStr
  have HO := Lib.hid h
  clear h
  go_enter Tryd.func47, Tryd.ntmps47
  go_wp2_with fail
  refine (specOk k A n c B l s _ (HO.out.below (bel1 _ _)) hsm hs).mono ?_
  rintro e w1 ⟨rfl, hb1⟩
  have b1 := (bel1 w _).trans (hb1.mono (by simp))
  have HB1 := Lib.hid ((Blk.new1 w _ _).below hb1 (by simp))
  clear hb1
  cases h1 : canRed k l s
  · have HF := Lib.hid (countS_no1 h1)
    clear h1
    go_wp2_with fail
    go_ret
    exact ⟨by rw [HF.out]; rfl, b1⟩
  by_cases h8 : ¬ s.size ≤ 8
  · have HF := Lib.hid (countS_no2 (k := k) (l := l) h8)
    clear h1
    go_wp2_with fail
    go_ret
    exact ⟨by rw [HF.out]; rfl, b1⟩
  have h8' : s.size ≤ 8 := by omega
  have HF := Lib.hid (countS_yes h1 h8')
  have HS0 := Lib.hid (SearchAt.start h1 h8')
  have hwl := HB1.out.lt
  clear h1 h8
  go_wp2_with fail
  have HW0 : Hid ((w1.alloc (.cells #[.string s] 9)).ownsRow w1.heap.size 9 1 (.slice (some ⟨w1.heap.size, 0, none⟩) 1 1) [s].length (strs [s])) :=
    ⟨rfl, Or.inr ⟨w1.heap.size, 1, _, rfl, Nat.le_refl _, heap_alloc_new w1 _, Nat.le_refl _, by unfold maxLen; omega, rfl, rfl⟩⟩
  have b2 := b1.alloc b1.size (.cells #[.string s] 9)
  have HB2 := Lib.hid (HB1.out.alloc (.cells #[.string s] 9))
  have hln : w1.heap.size ≤ (w1.alloc (.cells #[.string s] 9)).heap.size := by simp
  generalize w1.alloc (.cells #[.string s] 9) = w2 at *
  go_loopw [5, 6] (fun v i wr => ∃ (a : Nat) (Q : List ByteArray) (A5 : Option Addr) (c5 : Nat), i = .int .i64 a ∧ v = .slice A5 Q.length c5 ∧ Hid (SearchAt k l s Q a) ∧ Hid (wr.ownsRow w1.heap.size 9 1 v Q.length (strs Q)) ∧ Hid (Blk wr w.heap.size 25 #[.int .i64 k, .slice A n c]) ∧ Below w.heap.size w wr ∧ w1.heap.size ≤ wr.heap.size) (fun _ i _ => 87381 - (intOf i).toNat)
  case atStart => exact ⟨0, [s], _, _, rfl, rfl, HS0, HW0, HB2, b2, hln⟩
  case round =>
    obtain ⟨a, Q, A5, c5, rfl, rfl, HS, HW, HB, hb, hbs⟩ := hrel
    have hQl := HS.out.good.len
    have hal := HS.out.le
    have hQw := Lib.hid (fun v hv => HS.out.good.word v hv)
    obtain ⟨q0, q1, -, -, ql⟩ := HB.out.two
    by_cases hlt : a < Q.length
    · obtain ⟨g, off, hA, -, hg, hcell⟩ := (Own.of_row HW.out).str (by omega)
      subst hA
      obtain ⟨v, hv, x0, -⟩ := hcell a hlt
      have Hv := Lib.hid hv
      have hvw := HS.out.good.word v (List.mem_of_getElem? hv)
      have Hvc := Lib.hid hvw.1
      have hv8 := hvw.2
      have HSn := Lib.hid (HS.out.next hv)
      clear hcell hv hvw
      have hvs : v.size ≤ 1048576 := by omega
      have hst0 := stepsOf_yes (k := k) v (canRed_rules Hvc.out)
      have Hsp := Lib.hid (fun (W : World) (hO : Own B W (.slice A n c) 2 n (rulesC l)) => by have := specStepsRow k A n c B l v W hO hsm hvs; rw [hst0] at this; exact this)
      have HLs := Lib.hid (fun x (hx : x ∈ stepsD l v 0) => (mem_stepsD l v 0 x).1 hx)
      have HSn2 : Hid (SearchAt k l s (growL l v (stepsD l v 0) Q) (a + 1)) := HSn
      clear hst0 HSn
      generalize stepsD l v 0 = L at *
      generalize hm : L.length = m at *
      have Hm := Lib.hid hm
      have HGd := Lib.hid (fun j => GoodQ.growL Hvc.out hv8 (L.take j) Q (fun x hx => HLs.out x (List.mem_of_mem_take hx)) HS.out.good)
      have HPr := Lib.hid (fun j => pre_get (growL_pre l v (L.take j) Q) Hv.out)
      clear hm
      go_wp2_with fail
      obtain ⟨w0, rfl⟩ : ∃ x : World, x = wr := ⟨_, rfl⟩
      go_region_held3 (fun w' => w'.cell? ⟨w.heap.size, 0, none⟩ = some (.int .i64 k) ∧ w'.cell? ⟨w.heap.size, 1, none⟩ = some (.slice A n c) ∧ w'.cell? ⟨g, off + a, none⟩ = some (.string v) ∧ Below w0.heap.size w0 w')
        (first | exact ⟨q0, q1, x0, (Below.refl _ w0).drew⟩ | exact heldB3 (by assumption) hb3 (Nat.le_refl _) ql ql hg)
        ((go_at_call 27; refine (Hsp.out _ (HO.out.below hb.drew)).mono ?_; rintro e w3 ⟨v3, rfl, o3, hb3⟩; obtain ⟨A3, c3, rfl⟩ := (Own.of_row o3).form))
      have hS := (‹_ ∧ _ ∧ _ ∧ Below w0.heap.size w0 w3›).2.2.2
      have hmax := (Own.of_row o3).bound
      unfold maxLen at hmax
      have O3 := Lib.hid o3
      have b3 := hb.trans (hS.mono hb.size)
      have HB3 := Lib.hid (HB.out.below hS HB.out.lt)
      have HW3 := Lib.hid (ownsRow_below HW.out hS)
      have hs3 := hS.size
      clear hS o3 HB HW hb q0 q1 ql hb3 x0 hg
      have O3' : Hid (w3.ownsRow w0.heap.size 37 2 (.slice A3 m c3) m (stepsC L)) := O3
      clear O3
      go_wp2_with fail
      go_loopw [5, 35] (fun q i wx => ∃ (j : Nat) (A6 : Option Addr) (c6 : Nat), i = .int .i64 j ∧ j ≤ m ∧ q = .slice A6 (growL l v (L.take j) Q).length c6 ∧ Hid (wx.ownsRow w1.heap.size 9 1 q (growL l v (L.take j) Q).length (strs (growL l v (L.take j) Q))) ∧ Hid (wx.ownsRow w0.heap.size 37 2 (.slice A3 m c3) m (stepsC L)) ∧ Hid (Blk wx w.heap.size 25 #[.int .i64 k, .slice A n c]) ∧ Below w.heap.size w wx ∧ w0.heap.size ≤ wx.heap.size) (fun _ i _ => m - (intOf i).toNat)
      case atStart => exact ⟨0, _, _, rfl, Nat.zero_le _, rfl, HW3, O3', HB3, b3, hs3⟩
      case round =>
        obtain ⟨j, A6, c6, rfl, hj, rfl, HQ, HX, HB4, hb4, hs4⟩ := hrel
        have hql := (HGd.out j).len
        by_cases hjm : j < m
        · obtain ⟨g4, off4, hA4, -, hg4, hcell4⟩ := (Own.of_row HQ.out).str (List.length_pos_of_mem (List.mem_of_getElem? (HPr.out j)))
          subst hA4
          obtain ⟨v', hv', x0, -⟩ := hcell4 a (List.getElem?_eq_some_iff.1 (HPr.out j)).1
          obtain rfl : v' = v := by rw [HPr.out j] at hv'; exact (Option.some.inj hv').symm
          clear hcell4 hv'
          obtain ⟨g5, off5, c5', hv5⟩ := (Own.of_row HX.out).formR (by omega)
          obtain ⟨rfl, rfl⟩ : A3 = some ⟨g5, off5, none⟩ ∧ c3 = c5' := by injection hv5 with a _ b; exact ⟨a, b⟩
          clear hv5
          obtain ⟨-, hg5, ⟨si, sp⟩, hr, y0, y1, -, -⟩ := (Own.of_row HX.out).step hjm
          have hstep := HLs.out _ (List.mem_of_getElem? hr)
          obtain ⟨ha1, ha2, ha3, ha4⟩ := step_props Hvc.out hstep
          have Hap : Hid (applyS k l v' (si, sp) = ((afterS l v' (si, sp)).1, true)) := by show _ = _; rw [apply_step Hvc.out hstep]; exact ha1
          have HGr : Hid (growL l v' (L.take (j + 1)) Q = grow1 (growL l v' (L.take j) Q) (afterS l v' (si, sp)).1) := by show _ = _; rw [take_step L j _ hr, growL_snoc]
          clear hr hstep ha1 ha2 ha3 ha4
          have hgd1 := (HGd.out (j + 1)).len
          have hai := (List.getElem?_eq_some_iff.1 (HPr.out j)).1
          rw [HGr.out] at hgd1
          have Hgd1 := Lib.hid hgd1
          generalize hy : (afterS l v' (si, sp)).1 = y at *
          have hbs4 := hb4.size
          have b5 := hb4.alloc hbs4 (.cells #[.int .i64 si, .int .i64 sp] 37)
          have HQ5 := Lib.hid (HQ.out.alloc (.cells #[.int .i64 si, .int .i64 sp] 37))
          have HX5 := Lib.hid (HX.out.alloc (.cells #[.int .i64 si, .int .i64 sp] 37))
          have HB5 := Lib.hid (HB4.out.alloc (.cells #[.int .i64 si, .int .i64 sp] 37))
          obtain ⟨q0, q1, -, -, ql⟩ := HB5.out.two
          obtain ⟨z0, z1, -, -, zl⟩ := (Blk.new1 wr #[.int .i64 si, .int .i64 sp] 37).two
          have x1 := (World.cell?_of_block (w := wr) (a := ⟨g4, off4 + a, none⟩) (Below.heap_alloc wr (.cells #[.int .i64 si, .int .i64 sp] 37) g4 hg4)).trans x0
          have hg5' : g4 < (wr.alloc (.cells #[.int .i64 si, .int .i64 sp] 37)).heap.size := by simp; omega
          have hs5 : w0.heap.size ≤ (wr.alloc (.cells #[.int .i64 si, .int .i64 sp] 37)).heap.size := by simp; omega
          clear hgd1 HQ HX HB4 hb4 x0 hg4 hbs4 hy
          go_wp2_with fail
          generalize wr.alloc (.cells #[.int .i64 si, .int .i64 sp] 37) = w5 at *
          go_region_held3 (fun w' => w'.cell? ⟨w.heap.size, 0, none⟩ = some (.int .i64 k) ∧ w'.cell? ⟨w.heap.size, 1, none⟩ = some (.slice A n c) ∧ w'.cell? ⟨g4, off4 + a, none⟩ = some (.string v') ∧ w'.cell? ⟨wr.heap.size, 0, none⟩ = some (.int .i64 si) ∧ w'.cell? ⟨wr.heap.size, 1, none⟩ = some (.int .i64 sp) ∧ Below w5.heap.size w5 w')
            (first | exact ⟨q0, q1, x1, z0, z1, (Below.refl _ w5).drew⟩ | exact held5_keep (by assumption) hb6 (Nat.le_refl _) ql ql hg5' zl zl)
            ((go_at_call 34; refine (specApplyStep k A n c B l v' si sp _ (HO.out.below b5.drew) hsm hvs).mono ?_; rw [Hap.out]; rintro e w6 ⟨rfl, hb6⟩))
          have hS := (‹_ ∧ _ ∧ _ ∧ _ ∧ _ ∧ Below w5.heap.size w5 w6›).2.2.2.2.2
          have b6 := b5.trans (hS.mono b5.size)
          have HQ6 := Lib.hid (ownsRow_below HQ5.out hS)
          have HX6 := Lib.hid (ownsRow_below HX5.out hS)
          have HB6 := Lib.hid (HB5.out.below hS HB5.out.lt)
          have hs6 := hS.size
          clear hS hb6 HQ5 HX5 HB5 b5 q0 q1 ql z0 z1 zl x1 hg5'
          have hH := Lib.hid (specHas (some ⟨g4, off4, none⟩) _ c6 _ (growL l v' (L.take j) Q) y w6 (Own.of_row HQ6.out))
          go_wp2_with fail
          refine hH.out.mono ?_
          rintro e w7 ⟨rfl, rfl⟩
          clear hH
          cases hh : hasW (growL l v' (L.take j) Q) y
          · have HGr2 : Hid (growL l v' (L.take (j + 1)) Q = growL l v' (L.take j) Q ++ [y]) := by show _ = _; rw [HGr.out, grow1, hh]; rfl
            have hq1 : (growL l v' (L.take j) Q).length + 1 ≤ 87381 := by have := Hgd1.out; rw [grow1, hh] at this; simpa using this
            have hw16 := b6.size
            clear hh HGr Hgd1
            go_wp2_with (at_builtin; refine wpList_append_own _ rfl _ _ 76 rfl w1.heap.size 9 i0 (.string ⟨#[]⟩) 1 16 Tryd.underlying76 hi hz0 hz1 hz2 rfl (by decide) _ _ _ rfl (HQ6.out.alloc _) ⟨w6.heap.size, 0, none⟩ 1 1 [.string y] rfl rfl ?c1 ?c2 ?c3 ?c4 ?c5 ?_)
            case c1 =>
              intro j u hj
              match j, hj with
              | 0, hj => simp at hj; subst hj; simp [Addr.add]
            case c2 => intro u hu; simp at hu; subst hu; rfl
            case c3 => unfold maxLen; omega
            case c4 => omega
            case c5 => simp; omega
            intro v9 w9 hown' hgrow _
            have hown2 : w9.ownsRow w1.heap.size 9 1 v9 (growL l v' (L.take (j + 1)) Q).length (strs (growL l v' (L.take (j + 1)) Q)) := by
              rw [HGr2.out, List.length_append]
              have e : strs (growL l v' (L.take j) Q ++ [y]) = strs (growL l v' (L.take j) Q) ++ [Value.string y] := by simp [strs]
              rw [e]; exact hown'
            have HX9 := Lib.hid ((HX6.out.alloc (.cells #[.string y] 9)).kept hgrow (rows_apart HX6.out HQ6.out (by decide)))
            have HB9 : Hid (Blk w9 w.heap.size 25 #[.int .i64 k, .slice A n c]) := (grown_block HQ6.out hgrow (by omega) (by omega)).trans HB6.out
            have b9 : Below w.heap.size w w9 := grown_one HQ6.out hgrow b6 (by omega) (by omega)
            have hs9 := hgrow.size
            simp at hs9
            obtain ⟨g9, o9, c9, hv9⟩ := (Own.of_row hown2).formR (by rw [HGr2.out]; simp)
            subst hv9
            have HQ9 := Lib.hid hown2
            clear hown' hown2 hgrow HQ6 HX6 HB6 b6
            go_wp2_with fail
            go_roundw
            case rel => exact ⟨j + 1, _, _, by go_num, by omega, rfl, HQ9, HX9, HB9, b9, by omega⟩
            case measure => simp [intOf]; omega
          · have HGr2 : Hid (growL l v' (L.take (j + 1)) Q = growL l v' (L.take j) Q) := by show _ = _; rw [HGr.out, grow1, hh]; rfl
            have HQ7 : Hid (w6.ownsRow w1.heap.size 9 1 (.slice (some ⟨g4, off4, none⟩) (growL l v' (L.take j) Q).length c6) (growL l v' (L.take (j + 1)) Q).length (strs (growL l v' (L.take (j + 1)) Q))) := by
              show World.ownsRow _ _ _ _ _ _ _; rw [HGr2.out]; exact HQ6.out
            clear hh
            go_wp2_with fail
            go_roundw
            case rel => exact ⟨j + 1, _, _, by go_num, by omega, by rw [HGr2.out], HQ7, HX6, HB6, b6, by omega⟩
            case measure => simp [intOf]; omega
        · obtain rfl : j = m := by omega
          have HTk : Hid (L.take j = L) := List.take_of_length_le (by rw [Hm.out]; exact Nat.le_refl _)
          rw [HTk.out] at HQ
          go_wp2_with fail
          go_roundw
          case rel => exact ⟨a + 1, growL l v L Q, A6, c6, by go_num, by rw [HTk.out], HSn2, by rw [HTk.out]; exact HQ, HB4, hb4, by omega⟩
          case measure => simp [intOf]; omega
    · obtain rfl : a = Q.length := by omega
      have HF2 := Lib.hid (HS.out.done (Nat.le_refl _))
      go_wp2_with fail
      go_ret
      exact ⟨by rw [HF.out, HF2.out]; rfl, hb⟩
end Go.Proofs.YtjndopogjiacpaaDoor

namespace Go.Proofs.YtjndopogjiacpaaDoor
open Go.RowKit

theorem form_props {k : Int} {l : List R} {d : Int} : ∀ (N : Nat) (s : ByteArray), canRed k l s = true → rank s ≤ N →
    (stepsD l (formOf l d s) d).head? = none ∧ canRed k l (formOf l d s) = true ∧ (formOf l d s = s ∨ lessS (formOf l d s) s = true)
  | N, s, h, hN => by
    cases hh : (stepsD l s d).head? with
    | none => rw [formOf_none hh]; exact ⟨hh, h, .inl rfl⟩
    | some x =>
      have hx := head_step hh
      have hr := step_rank h hx
      obtain ⟨_, h2, h3, _⟩ := step_props h hx
      rw [formOf_some h hh]
      cases N with
      | zero => omega
      | succ N =>
        obtain ⟨a, b, c⟩ := form_props (d := d) N _ h2 (by omega)
        refine ⟨a, b, .inr ?_⟩
        rcases c with c | c
        · rw [c]; exact h3
        · exact lessS_trans _ _ _ c h3
theorem steps_none {l : List R} {s : ByteArray} {d : Int} (e : Int) (h : (stepsD l s d).head? = none) : stepsD l s e = [] := by
  rw [List.head?_eq_none_iff] at h
  cases hh : stepsD l s e with
  | nil => rfl
  | cons x r =>
    have h1 := (mem_stepsD l s e x).1 (by rw [hh]; exact List.mem_cons_self ..)
    have h2 := (mem_stepsD l s d x).2 h1
    rw [h] at h2; cases h2
theorem form_reduced {k : Int} {l : List R} {s : ByteArray} (d : Int) (h : canRed k l s = true) : reducedS k l (formOf l d s) = true := by
  obtain ⟨a, b, _⟩ := form_props (d := d) _ s h (Nat.le_refl _)
  rw [reducedS, b, steps_none 0 a]; rfl
theorem form_steps {k : Int} {l : List R} {s : ByteArray} (d : Int) (h : canRed k l s = true) : stepsOf k l (formOf l d s) = [] := by
  obtain ⟨a, b, _⟩ := form_props (d := d) _ s h (Nat.le_refl _)
  rw [stepsOf_yes _ (canRed_rules b), steps_none 0 a]
theorem form_less {k : Int} {l : List R} {s : ByteArray} (d : Int) (h : canRed k l s = true) : lessS s (formOf l d s) = false := by
  obtain ⟨_, _, c⟩ := form_props (d := d) _ s h (Nat.le_refl _)
  rcases c with c | c
  · rw [c]; exact lessS_irrefl s
  · exact lessS_asymm _ _ c
theorem form_size {k : Int} {l : List R} {s : ByteArray} (d : Int) (h : canRed k l s = true) : (formOf l d s).size ≤ s.size := by
  obtain ⟨_, _, c⟩ := form_props (d := d) _ s h (Nat.le_refl _)
  rcases c with c | c
  · rw [c]; exact Nat.le_refl _
  · exact lessS_size c
/-- No first step, or a step, a longer trace and another word. -/
theorem form_cases {k : Int} {l : List R} {s : ByteArray} (h : canRed k l s = true) :
    ((stepsD l s 0).head?.isSome = false ∧ (stepsD l s 1).head?.isSome = false ∧ traceOf l s = [] ∧ formOf l 0 s = s) ∨
    ((stepsD l s 0).head?.isSome = true ∧ (stepsD l s 1).head?.isSome = true ∧ 0 < (traceOf l s).length ∧ formOf l 0 s ≠ s) := by
  cases hh : (stepsD l s 0).head? with
  | none => refine .inl ⟨rfl, ?_, traceOf_none hh, formOf_none hh⟩; rw [steps_none 1 hh]; rfl
  | some x =>
    refine .inr ⟨rfl, ?_, ?_, fun e => ?_⟩
    · cases h1 : (stepsD l s 1).head? with
      | some y => rfl
      | none => rw [steps_none 0 h1] at hh; cases hh
    · rw [traceOf_some h hh, List.length_cons]; omega
    · have hx := head_step hh
      obtain ⟨_, h2, h3, _⟩ := step_props h hx
      rw [formOf_some h hh] at e
      obtain ⟨_, _, c⟩ := form_props (d := 0) _ _ h2 (Nat.le_refl _)
      have h4 : lessS s s = true := by
        rcases c with c | c
        · rw [← c] at h3; rwa [e] at h3
        · have := lessS_trans _ _ _ c h3; rwa [e] at this
      rw [lessS_irrefl] at h4; cases h4
theorem run_trace {k : Int} {l : List R} : ∀ (N : Nat) (s : ByteArray), canRed k l s = true → rank s ≤ N → runS k l s (traceOf l s) = (formOf l 0 s, true)
  | N, s, h, hN => by
    cases hh : (stepsD l s 0).head? with
    | none => rw [traceOf_none hh, formOf_none hh]; rfl
    | some x =>
      have hx := head_step hh
      have hr := step_rank h hx
      obtain ⟨h1, h2, h3, _⟩ := step_props h hx
      rw [traceOf_some h hh, formOf_some h hh]
      cases N with
      | zero => omega
      | succ N =>
        have := run_trace N _ h2 (by omega)
        rw [runS, apply_step h hx, h1]
        exact this
theorem runs_trace {k : Int} {l : List R} {s : ByteArray} (h : canRed k l s = true) (hl : (traceOf l s).length ≤ 1000) : runsS k l s (traceOf l s) = (formOf l 0 s, true) := by
  rw [runsS, if_pos hl, run_trace _ s h (Nat.le_refl _)]
theorem bfs_good {k : Int} {l : List R} : ∀ (f : Nat) (Q : List ByteArray) (a : Nat), GoodQ k l Q → GoodQ k l (bfs l f Q a) ∧ Q.length ≤ (bfs l f Q a).length
  | 0, Q, a, h => ⟨h, Nat.le_refl _⟩
  | f + 1, Q, a, h => by
    cases hv : Q[a]? with
    | none => rw [bfs, hv]; exact ⟨h, Nat.le_refl _⟩
    | some v =>
      rw [bfs_step hv]
      have hw := h.word v (List.mem_of_getElem? hv)
      have h1 := GoodQ.growL hw.1 hw.2 (stepsD l v 0) Q (fun x hx => (mem_stepsD l v 0 x).1 hx) h
      have h2 := (growL_pre l v (stepsD l v 0) Q).length_le
      obtain ⟨a1, a2⟩ := bfs_good f (grow l Q v) (a + 1) h1
      exact ⟨a1, Nat.le_trans h2 a2⟩
theorem count_range {k : Int} {l : List R} {s : ByteArray} (h : canRed k l s = true) (h8 : s.size ≤ 8) : 1 ≤ countS k l s ∧ countS k l s ≤ 100000 := by
  rw [countS_yes h h8]
  obtain ⟨a, b⟩ := bfs_good 87381 [s] 0 (GoodQ.one h h8)
  have := a.len
  rw [List.length_singleton] at b
  omega
end Go.Proofs.YtjndopogjiacpaaDoor

namespace Go.Proofs.YtjndopogjiacpaaDoor
open Go.RowKit Go.Shelf

theorem Wait.form {W : World} {g : Nat} {v : Value} {Q : List ByteArray} (h : Wait W g v Q) : ∃ off c m, Q.length = m ∧ v = .slice (some ⟨g, off, none⟩) m c := by
  obtain ⟨off, c, cur, h1, _⟩ := h
  exact ⟨off, c, _, rfl, h1⟩
theorem Wait.cells {W : World} {g : Nat} {v : Value} {Q : List ByteArray} (h : Wait W g v Q) : ∃ cs t f, W.heap[g]? = some (.cells cs t f) := by
  obtain ⟨off, c, cur, _, _, _, hg, _⟩ := h
  exact ⟨_, _, _, hg⟩
theorem SetM.obj {W : World} {b : Nat} {Q : List ByteArray} (h : SetM W b Q) : ∃ o : Obj, W.heap[b]? = some o ∧ o.isCells = false ∧ o ≠ .deferred (some []) := by
  obtain ⟨D, ⟨es, clock, hb, _⟩, _⟩ := h
  exact ⟨_, hb, rfl, by intro e; cases e⟩

/-- The blocks of a search: k's box, the map, its box, the waiting words' box, the word's box; what was laid then. -/
structure Spots (B0 Mb Rb Wb nb g top : Nat) : Prop where
  a : B0 < Mb
  b : Mb < Rb
  c : Rb < Wb
  d : Wb < nb
  e : nb < top
  f : Mb < g
  h : g < nb
  gr : g ≠ Rb
  gw : g ≠ Wb

/-- A round of the search under way: the steps xs are taken. -/
structure RoundAt (k : Int) (A : Option Addr) (n c : Nat) (l : List R) (y0 : ByteArray) (Q : List ByteArray) (a : Nat) (Ds : List Nat) (w : World) (Mb Rb Wb nb g top : Nat) (xs : List ST) (g' : Nat) (X : World) : Prop where
  m : SetM X Mb (growL l y0 xs Q)
  r : Blk X Rb 75 #[.map (some Mb)]
  wt : ∃ vw, Blk X Wb 76 #[vw] ∧ Wait X g' vw ((growL l y0 xs Q).drop (a + 1))
  gg : g' = g ∨ top ≤ g'
  nw : Blk X nb 9 #[.string y0]
  sy : Blk X w.heap.size 25 #[.int .i64 k, .slice A n c]
  ds : ∀ D ∈ Ds, X.heap[D]? = some (.deferred (some []))
  sz : top ≤ X.heap.size
  bl : Below w.heap.size w X

theorem RoundAt.kept {k : Int} {A : Option Addr} {n c : Nat} {l : List R} {y0 : ByteArray} {Q : List ByteArray} {a : Nat} {Ds : List Nat} {w : World} {Mb Rb Wb nb g top : Nat} {xs : List ST} {g' : Nat} {X Y : World} {row : Option Nat}
    (h : RoundAt k A n c l y0 Q a Ds w Mb Rb Wb nb g top xs g' X) (hp : Spots w.heap.size Mb Rb Wb nb g top) (hD : ∀ D ∈ Ds, D < top) (hg : X.grownBy Y row) (hr : ∀ r, row = some r → top ≤ r ∧ ∃ o : Obj, X.heap[r]? = some o ∧ o.isCells = false) :
    RoundAt k A n c l y0 Q a Ds w Mb Rb Wb nb g top xs g' Y := by
  obtain ⟨h1, h2, h3, h4, h5, h6, h7, h8, h9⟩ := hp
  have hn : ∀ j, j < top → some j ≠ row := fun j hj e => by have := (hr j e.symm).1; omega
  refine ⟨h.m.kept hg (hn _ (by omega)), blk_kept h.r hg (fun r e => (hr r e).2), ?_, h.gg, blk_kept h.nw hg (fun r e => (hr r e).2), blk_kept h.sy hg (fun r e => (hr r e).2), fun D hd => ?_, Nat.le_trans h.sz hg.size, ?_⟩
  · obtain ⟨vw, w1, w2⟩ := h.wt
    exact ⟨vw, blk_kept w1 hg (fun r e => (hr r e).2), wait_kept w2 hg (fun r e => (hr r e).2)⟩
  · have := h.ds D hd
    exact (hg.block D (Array.getElem?_eq_some_iff.1 this).1 (hn D (hD D hd))).trans this
  · exact h.bl.grown hg h.bl.size (fun k e => by have := (hr k e).1; omega)

/-- What a round turns: the map, the waiting words, their box. -/
theorem RoundAt.turn {k : Int} {A : Option Addr} {n c : Nat} {l : List R} {y0 : ByteArray} {Q : List ByteArray} {a : Nat} {Ds : List Nat} {w : World} {Mb Rb Wb nb g top : Nat} {xs xs' : List ST} {g' g2 : Nat} {X Y : World}
    (h : RoundAt k A n c l y0 Q a Ds w Mb Rb Wb nb g top xs g' X) (hp : Spots w.heap.size Mb Rb Wb nb g top) (ht : Turn [Mb, g', Wb] X Y) (hm : SetM Y Mb (growL l y0 xs' Q))
    (hw : ∃ vw, Blk Y Wb 76 #[vw] ∧ Wait Y g2 vw ((growL l y0 xs' Q).drop (a + 1))) (hgg : g2 = g ∨ top ≤ g2) : RoundAt k A n c l y0 Q a Ds w Mb Rb Wb nb g top xs' g2 Y := by
  obtain ⟨h1, h2, h3, h4, h5, h6, h7, h8, h9⟩ := hp
  have hgg1 := h.gg
  obtain ⟨vw, hw1, hw2⟩ := h.wt
  have nm : ∀ j, j ≠ Mb → j ≠ g' → j ≠ Wb → j ∉ [Mb, g', Wb] := fun j a b c => by simp [a, b, c]
  refine ⟨hm, ht.blk h.r (nm _ (by omega) (by omega) (by omega)), hw, hgg, ht.blk h.nw (nm _ (by omega) (by omega) (by omega)), ht.blk h.sy (nm _ (by omega) (by omega) (by omega)), fun D hd => ?_, Nat.le_trans h.sz ht.size, ?_⟩
  · have hD := h.ds D hd
    refine ht.obj hD (nm _ (fun e => ?_) (fun e => ?_) (fun e => ?_))
    · obtain ⟨o, ho, _, hne⟩ := h.m.obj
      subst e
      rw [hD] at ho; injection ho with ho; exact hne ho.symm
    · obtain ⟨cs, t, f, hc⟩ := hw2.cells
      subst e
      rw [hD] at hc; cases hc
    · unfold Blk at hw1
      subst e
      rw [hD] at hw1; cases hw1
  · refine h.bl.trans (ht.below (fun b hb => ?_) h.bl.size)
    simp at hb
    omega
theorem RoundAt.keeps {k : Int} {A : Option Addr} {n c : Nat} {l : List R} {y0 : ByteArray} {Q : List ByteArray} {a : Nat} {Ds : List Nat} {w : World} {Mb Rb Wb nb g top : Nat} {xs : List ST} {g' : Nat} {X Y : World}
    (h : RoundAt k A n c l y0 Q a Ds w Mb Rb Wb nb g top xs g' X) (hp : Spots w.heap.size Mb Rb Wb nb g top) (ht : Turn [Mb, g', Wb] X Y) : KeepsFrom top X Y ∧ Keeps (fun j => j < top ∧ j ∉ [Mb, g, Wb]) X Y := by
  obtain ⟨h1, h2, h3, h4, h5, h6, h7, h8, h9⟩ := hp
  have hgg1 := h.gg
  have hsz := h.sz
  obtain ⟨vw, hw1, hw2⟩ := h.wt
  refine ⟨ht.keepsFrom (fun b hb => ?_), ht.keeps (fun j hj => ?_)⟩
  · simp at hb
    rcases hb with rfl | rfl | rfl
    · exact .inl (by omega)
    · exact .inr hw2.cells
    · exact .inl (by omega)
  · obtain ⟨hj1, hj2⟩ := hj
    simp at hj2 ⊢
    omega
theorem RoundAt.below {k : Int} {A : Option Addr} {n c : Nat} {l : List R} {y0 : ByteArray} {Q : List ByteArray} {a : Nat} {Ds : List Nat} {w : World} {Mb Rb Wb nb g top : Nat} {xs : List ST} {g' : Nat} {X Y : World}
    (h : RoundAt k A n c l y0 Q a Ds w Mb Rb Wb nb g top xs g' X) (hp : Spots w.heap.size Mb Rb Wb nb g top) (hb : Below X.heap.size X Y) : RoundAt k A n c l y0 Q a Ds w Mb Rb Wb nb g top xs g' Y := by
  obtain ⟨vw, w1, w2⟩ := h.wt
  exact h.turn hp (turn_below hb) (h.m.below hb) ⟨vw, w1.below hb w1.lt, w2.turn (S := []) (turn_below hb) (by simp)⟩ h.gg
theorem growL_len {k : Int} {l : List R} {y0 : ByteArray} {Q : List ByteArray} (hv : canRed k l y0 = true) (h8 : y0.size ≤ 8) (hg : GoodQ k l Q) (pre : List (StepAt l y0)) : (growL l y0 (vals pre) Q).length ≤ 87381 :=
  (GoodQ.growL hv h8 (vals pre) Q (fun x hx => by obtain ⟨y, _, rfl⟩ := List.mem_map.1 hx; exact y.2) hg).len
end Go.Proofs.YtjndopogjiacpaaDoor

namespace Go.Proofs.YtjndopogjiacpaaDoor
open Go.RowKit Go.Shelf
attribute [local go_sem] Oper.semAt_some

set_option maxRecDepth 100000 in
set_option maxHeartbeats 2000000 in
theorem implCountReached (k : Int) (A : Option Addr) (n c B : Nat) (l : List R) (s : ByteArray) (w : World) (h : Own B w (.slice A n c) 2 n (rulesC l)) (hsm : smallR l) (hs : s.size ≤ 1048576) (hlet : Let w) :
    Calls Tryd.prog 24 #[.agg #[.int .i64 k, .slice A n c], .string s] w fun e w' => e = .returned (.int .i64 (countS k l s)) ∧ Below w.heap.size w w' := by
  have HO := Lib.hid h
  have Hlen := Lib.hid h.rlen
  have HL := Lib.hid (fun (w' : World) (hb : Below w.heap.size w w') => hlet.keep hb (Nat.le_refl _))
  clear h hlet
  refine (callsIn_wide (n := 6)).1 ?_
  refine callsIn_of_wp_marks Tryd.func24 rfl trivial ?_ rfl
  simp only [Tryd.ntmps24, List.size_toArray, List.length_cons, List.length_nil, Nat.reduceAdd, Nat.reduceSub, Array.replicate_succ, Array.replicate_zero, List.push_toArray, List.append_toArray, List.nil_append, List.cons_append]
  gi_wp2_with fail
  refine ⟨trivial, (callsIn_wide.2 (canReduce_any k A n c B l s _ (HO.out.below (bel1 _ _)) hsm hs (HL.out _ (bel1 _ _)))).mono ?_⟩
  rintro e w1 ⟨rfl, hb1⟩
  have b1 := (bel1 w _).trans (hb1.mono (by simp))
  have HB1 := Lib.hid ((Blk.new1 w _ _).below hb1 (by simp))
  clear hb1
  cases h1 : canRed k l s
  · have HF := Lib.hid (countS_no1 h1)
    clear h1
    gi_wp2_with fail
    refine ⟨.int .i64 (-1), ?_, by rw [HF.out], b1⟩
    simp [results, Tryd.f24, go_sem]
  by_cases h8 : ¬ s.size ≤ 8
  · have HF := Lib.hid (countS_no2 (k := k) (l := l) h8)
    clear h1
    gi_wp2_with fail
    refine ⟨.int .i64 (-1), ?_, by rw [HF.out], b1⟩
    simp [results, Tryd.f24, go_sem]
  have h8' : s.size ≤ 8 := by omega
  have HF := Lib.hid (countS_yes h1 h8')
  have HS0 := Lib.hid (SearchAt.start h1 h8')
  have hn12 : n ≤ 12 := by rw [← Hlen.out]; exact rulesOk_len (canRed_rules h1)
  clear h1 h8
  have hmm := @run_makeMap Tryd.prog
  have hsm8 : s.size ≤ maxLen := by unfold maxLen; omega
  obtain ⟨w2, hrun2, hM2, hg2⟩ := (SetM.made w1).add s hsm8 rfl (by unfold maxLen; simp)
  rw [List.nil_append] at hM2
  gi_wp2_with fail
  have hMR : w1.heap.size < w2.heap.size := hM2.lt
  have hwM : w.heap.size < w1.heap.size := HB1.out.lt
  have b2 : Below w1.heap.size w1 w2 := (bel1 w1 (.map #[] 0)).grown hg2 (by simp) (fun k e => by injection e with e; omega)
  have b3 : Below w.heap.size w (((w2.alloc (.cells #[.map (some w1.heap.size)] 75)).alloc (.cells #[.string s] 9)).alloc (.cells #[.slice (some ⟨w2.heap.size + 1, 0, none⟩) 1 1] 76)) :=
    b1.trans ((b2.trans ((bel3 w2 _ _ _).mono (by omega))).mono (by omega))
  have HB3 := Lib.hid ((((HB1.out.below b2 HB1.out.lt).alloc (.cells #[.map (some w1.heap.size)] 75)).alloc (.cells #[.string s] 9)).alloc (.cells #[.slice (some ⟨w2.heap.size + 1, 0, none⟩) 1 1] 76))
  have HR3 := Lib.hid (((Blk.new1 w2 #[.map (some w1.heap.size)] 75).alloc (.cells #[.string s] 9)).alloc (.cells #[.slice (some ⟨w2.heap.size + 1, 0, none⟩) 1 1] 76))
  have HW3 := Lib.hid (Blk.new3 w2 (.cells #[.map (some w1.heap.size)] 75) (.cells #[.string s] 9) #[.slice (some ⟨w2.heap.size + 1, 0, none⟩) 1 1] 76)
  have HQ3 : Hid (Wait (((w2.alloc (.cells #[.map (some w1.heap.size)] 75)).alloc (.cells #[.string s] 9)).alloc (.cells #[.slice (some ⟨w2.heap.size + 1, 0, none⟩) 1 1] 76)) (w2.heap.size + 1) (.slice (some ⟨w2.heap.size + 1, 0, none⟩) 1 1) [s]) :=
    ⟨0, 1, #[.string s], rfl, Nat.le_refl _, by unfold maxLen; omega, (Blk.new2 w2 _ #[.string s] 9).alloc _, by simp, fun j y hj => by
      match j, hj with
      | 0, hj => simp at hj; subst hj; rfl⟩
  have HM3 := Lib.hid (hM2.below (bel3 w2 (.cells #[.map (some w1.heap.size)] 75) (.cells #[.string s] 9) (.cells #[.slice (some ⟨w2.heap.size + 1, 0, none⟩) 1 1] 76)))
  clear hrun2 hg2 hM2 b2 HB1
  generalize ((w2.alloc (.cells #[.map (some w1.heap.size)] 75)).alloc (.cells #[.string s] 9)).alloc (.cells #[.slice (some ⟨w2.heap.size + 1, 0, none⟩) 1 1] 76) = w3 at *
  clear b1
  generalize w1.heap.size = Mb at *
  generalize w2.heap.size = Rb at *
  clear w1 w2
  obtain ⟨Wb, hWb⟩ : ∃ x, x = Rb + 1 + 1 := ⟨_, rfl⟩
  rw [← hWb] at HW3 ⊢
  have hRW : Rb < Wb := by omega
  have hRW2 : Rb + 1 < Wb := by omega
  clear hWb
  refine wpIn_loop (fun a' W => ∃ (Q : List ByteArray) (a : Nat) (Ds : List Nat) (g : Nat) (v : Value), (Hid (SearchAt k l s Q a) ∧ Ds.length = a ∧ Hid (SetM W Mb Q) ∧ Hid (Blk W Rb 75 #[.map (some Mb)]) ∧ Hid (Blk W Wb 76 #[v]) ∧ Hid (Wait W g v (Q.drop a)) ∧ Mb < g ∧ Hid (Blk W w.heap.size 25 #[.int .i64 k, .slice A n c]) ∧ Below w.heap.size w W ∧ Hid (Ds.Nodup ∧ ∀ D ∈ Ds, w.heap.size ≤ D ∧ W.heap[D]? = some (.deferred (some [])))) ∧
    ∃ u7 u8 u9 u10 u25 u26 u27 u28 u29 u30 u31 u32 u33 u34 u35 u36 u37 u38 u39 u40 u41 u42 u43 u44 u45 u46 u47 u48 u49 u50 u51 u52 u53 : Value, a' = { tmps := #[.agg #[.int .i64 k, .slice A n c], .string s, .pointer (some ⟨w.heap.size, 0, none⟩), undef, .int .i64 0, .pointer (some ⟨Rb, 0, none⟩), .pointer (some ⟨Wb, 0, none⟩), u7, u8, u9, u10, .agg #[.int .i64 k, .slice A n c], .string s, .bool true, .bool false, .bool false, .string s, .int .i64 s.size, .bool (decide (8 < (s.size : Int))), .bool (decide (8 < (s.size : Int))), .map (some Mb), .string s, .map (some Mb), .string s, .slice (some ⟨Rb + 1, 0, none⟩) 1 1, u25, u26, u27, u28, u29, u30, u31, u32, u33, u34, u35, u36, u37, u38, u39, u40, u41, u42, u43, u44, u45, u46, u47, u48, u49, u50, u51, u52, u53, undef, undef], defers := Ds.map markD }) (fun a' _ => 87381 - a'.defers.length) ?start ?round
  case start => exact ⟨[s], 0, [], Rb + 1, _, ⟨HS0, rfl, HM3, HR3, HW3, HQ3, by omega, HB3, b3, List.nodup_nil, fun D hD => by cases hD⟩, _, _, _, _, _, _, _, _, _, _, _, _, _, _, _, _, _, _, _, _, _, _, _, _, _, _, _, _, _, _, _, _, _, rfl⟩
  case round =>
    rintro a' W ⟨Q, a, Ds, g, v, ⟨HS, hDl, HM, HR, HW, HQ, hg, HB, hb, HD⟩, u7, u8, u9, u10, u25, u26, u27, u28, u29, u30, u31, u32, u33, u34, u35, u36, u37, u38, u39, u40, u41, u42, u43, u44, u45, u46, u47, u48, u49, u50, u51, u52, u53, rfl⟩
    have hbs := hb.size
    have hQl := HS.out.good.len
    by_cases hlt : a < Q.length
    · obtain ⟨y0, hy0⟩ : ∃ y, Q[a]? = some y := ⟨_, List.getElem?_eq_getElem hlt⟩
      have hq := HQ.out
      rw [drop_step Q a y0 hy0] at hq
      obtain ⟨off, c9, m, hmq, rfl, hlc, hcm, hc0, o9, hsl, hq2⟩ := hq.head
      have HY := Lib.hid hy0
      have hQd : m ≤ 87381 := by rw [← hmq]; simp; omega
      have HMQ := Lib.hid hmq
      have T1 := (turn_below (S := [Wb]) (bel1 W (.cells #[.string y0] 9))).trans (turn_set _ Wb 0 (.slice (some ⟨g, o9, none⟩) m (c9 - 1)) (List.mem_singleton.2 rfl))
      have HWa := HW.out.alloc (.cells #[.string y0] 9)
      have z0 := HW.out.cell 0
      have z1 := HWa.cell 0
      have zf := HWa.frozen 0
      have N1 := Lib.hid ((Blk.new1 W #[.string y0] 9).far (p := ⟨Wb, 0, none⟩) (by have := HW.out.lt; simp; omega) (.slice (some ⟨g, o9, none⟩) m (c9 - 1)))
      have W1' := Lib.hid (HWa.set_ 0 (.slice (some ⟨g, o9, none⟩) m (c9 - 1)))
      have HB1 := Lib.hid ((HB.out.alloc (.cells #[.string y0] 9)).far (p := ⟨Wb, 0, none⟩) (by have := HM.out.lt; simp; omega) (.slice (some ⟨g, o9, none⟩) m (c9 - 1)))
      have hwl := HS.out.good.word y0 (List.mem_of_getElem? HY.out)
      have hcan := Lib.hid hwl.1
      have hy8 : y0.size ≤ 8 := hwl.2
      have hys : y0.size ≤ 1048576 := by omega
      have HSz1 := Lib.hid (show ((W.alloc (.cells #[.string y0] 9)).setCell ⟨Wb, 0, none⟩ (.slice (some ⟨g, o9, none⟩) m (c9 - 1))).heap.size = W.heap.size + 1 by simp [World.size_setCell])
      have HT1 := Lib.hid T1
      obtain ⟨q0, q1, -, -, ql⟩ := HB1.out.two
      have n0 := N1.out.cell 0
      unfold maxLen at hcm
      clear hwl T1
      clear hy0 hq HQ hmq
      gi_wp2_with fail
      clear q0 q1 ql n0 z0 z1 zf HWa hc0 hsl
      generalize (W.alloc (.cells #[.string y0] 9)).setCell ⟨Wb, 0, none⟩ (.slice (some ⟨g, o9, none⟩) m (c9 - 1)) = W1 at *
      refine ⟨trivial, (callsIn_wide.2 (stepsFrom_any k A n c y0 0 _)).mono ?_⟩
      rintro e w4 ⟨rfl, hw4⟩
      gi_wp2_with fail
      have hsz1 := HSz1.out
      have hsz4 : w4.heap.size = W1.heap.size + 3 := by rw [hw4]; simp
      have b4 : Below W1.heap.size W1 w4 := by rw [hw4]; exact bel3 _ _ _ _
      have T4 := HT1.out.trans (turn_below b4)
      have hWbW := HW.out.lt
      have hMbW := HM.out.lt
      have hRbW := HR.out.lt
      have hgW := hq2.lt
      have hSp : Spots w.heap.size Mb Rb Wb W.heap.size g w4.heap.size := ⟨hwM, hMR, hRW, hWbW, by omega, hg, hgW, hq2.apart HR.out (by decide), hq2.apart HW.out (by decide)⟩
      have HSp := Lib.hid hSp
      have hDlt : ∀ D ∈ Ds, D < w4.heap.size := fun D hD => by
        have := (Array.getElem?_eq_some_iff.1 (HD.out.2 D hD).2).1
        omega
      have HDlt := Lib.hid hDlt
      have hR0 : RoundAt k A n c l y0 Q a Ds w Mb Rb Wb W.heap.size g w4.heap.size [] g w4 := by
        refine ⟨T4.setM HM.out (by simp; omega), T4.blk HR.out (by simp; omega), ⟨_, W1'.out.below b4 (by omega), ?_⟩, .inl rfl, N1.out.below b4 (by omega), HB1.out.below b4 (by omega), fun D hD => ?_, Nat.le_refl _, hb.trans (T4.below (fun b hb => by simp at hb; omega) hbs)⟩
        · exact hq2.turn T4 (by simp; exact hq2.apart HW.out (by decide))
        · refine T4.obj (HD.out.2 D hD).2 (fun e => ?_)
          simp at e
          subst e
          have h1 := (HD.out.2 D hD).2
          have h2 := HW.out
          unfold Blk at h2
          rw [h1] at h2; cases h2
      have hS : SeqAt l y0 0 W1.heap.size (W1.heap.size + 1) (W1.heap.size + 2) (fun j => j < w4.heap.size ∧ j ∉ [Mb, g, Wb]) w4 := by
        have nm : ∀ j, W.heap.size ≤ j ∨ j < Mb → j < w4.heap.size → j < w4.heap.size ∧ j ∉ [Mb, g, Wb] := fun j h1 h2 => ⟨h2, by simp; omega⟩
        refine ⟨⟨k, A, n, c, B, ?_, HO.out.below hR0.bl, hn12, fun hn => nm _ ?_ ?_⟩, ?_, ?_, nm _ (by omega) (by omega), nm _ (by omega) (by omega), nm _ (by omega) (by omega)⟩
        · rw [hw4]; exact ((Blk.new1 _ _ _).alloc _).alloc _
        · have := (HO.out.blk_lt hn).2; omega
        · have := (HO.out.blk_lt hn).2; omega
        · rw [hw4]; exact (Blk.new2 _ _ _ _).alloc _
        · rw [hw4]; exact Blk.new3 _ _ _ _ _
      have e0 : ((W1.alloc (.cells #[.int .i64 k, .slice A n c] 25)).alloc (.cells #[.string y0] 9)).alloc (.cells #[.int .i64 0] 67) = w4 := hw4.symm
      rw [e0]
      clear e0 hw4 N1 W1' HB1 HT1 T4 b4 hq2 HM HR HW HB
      have HR0 := Lib.hid hR0
      clear hR0 hSp hDlt
      refine wpIn_rangeFunc_ownH rfl (by omega) (gf := 83) (lb := #[.pointer (some ⟨W1.heap.size + 1, 0, none⟩), .pointer (some ⟨W1.heap.size + 2, 0, none⟩), .pointer (some ⟨W1.heap.size, 0, none⟩)]) rfl trivial (enters_of Tryd.func83 (by kernel_rfl) rfl)
        (steps_stops 5 (by omega) l y0 0 hys _ _ _ _ w4 hS (fun _ h => h.1)) keeps_t (keeps_b (fun _ h => h.1)) (Below.refl _ _) (fun _ => rfl)
        (fun pre X => ∃ g', RoundAt k A n c l y0 Q a Ds w Mb Rb Wb W.heap.size g w4.heap.size (vals pre) g' X)
        (fun _ _ _ => False)
        (fun _ _ _ _ h hg hr => by obtain ⟨g', h⟩ := h; exact ⟨g', h.kept HSp.out HDlt.out hg hr⟩)
        (fun _ _ _ _ _ hs _ _ => hs)
        ⟨g, HR0.out⟩
        (fun x a' X => ∃ Bx, w4.heap.size ≤ Bx ∧ Blk X Bx 37 #[.int .i64 x.1.1, .int .i64 x.1.2] ∧ ∃ u9 u10 u25 u26 u27 u28 u29 u30 u31 u32 u33 u34 u35 u36 u37 u38 u39 u40 u41 u42 u43 u44 u45 u46 u47 u48 u49 u50 u51 u52 u53 : Value, a' = { tmps := #[.agg #[.int .i64 k, .slice A n c], .string s, .pointer (some ⟨w.heap.size, 0, none⟩), undef, .int .i64 0, .pointer (some ⟨Rb, 0, none⟩), .pointer (some ⟨Wb, 0, none⟩), .pointer (some ⟨W.heap.size, 0, none⟩), .pointer (some ⟨Bx, 0, none⟩), u9, u10, .agg #[.int .i64 k, .slice A n c], .string s, .bool true, .bool false, .bool false, .string s, .int .i64 s.size, .bool (decide (8 < (s.size : Int))), .bool (decide (8 < (s.size : Int))), .map (some Mb), .string s, .map (some Mb), .string s, .slice (some ⟨Rb + 1, 0, none⟩) 1 1, u25, u26, u27, u28, u29, u30, u31, u32, u33, u34, u35, u36, u37, u38, u39, u40, u41, u42, u43, u44, u45, u46, u47, u48, u49, u50, u51, u52, u53, undef, undef], defers := [] })
        (fun x a' _ _ _ _ h hg hr => by obtain ⟨Bx, h1, h2, h3⟩ := h; exact ⟨Bx, h1, blk_kept h2 hg (fun r e => (hr r e).2), h3⟩)
        ?assign ?body ?done ?stop
      case assign =>
        rintro lp pre x X K ⟨g', R⟩ hK
        gi_wp2_with fail
        have hXs := R.sz
        have b := bel1 X (.cells #[.int .i64 x.1.1, .int .i64 x.1.2] 37)
        exact hK _ _ (keepsFrom_below b) (keeps_of b (fun j hj => by have := hj.1; omega)) ⟨g', R.below HSp.out b⟩ ⟨X.heap.size, hXs, Blk.new1 _ _ _, _, _, _, _, _, _, _, _, _, _, _, _, _, _, _, _, _, _, _, _, _, _, _, _, _, _, _, _, _, _, _, rfl⟩
      case body =>
        rintro lp pre ⟨x, hx⟩ a' X hl hr ⟨g', R⟩ ⟨Bx, hB, hX, u9, u10, u25, u26, u27, u28, u29, u30, u31, u32, u33, u34, u35, u36, u37, u38, u39, u40, u41, u42, u43, u44, u45, u46, u47, u48, u49, u50, u51, u52, u53, rfl⟩ hlt2
        obtain ⟨ii, pp, rfl, hi, hp, rr, hrr, hat⟩ := isStepB_parts hx
        obtain ⟨hs1, hs2, -, hs4⟩ := step_props hcan.out hx
        have HA := Lib.hid (growL_snoc l y0 (vals pre) ((ii : Int), (pp : Int)) Q)
        have HL5 := Lib.hid (growL_len hcan.out hy8 HS.out.good (pre ++ [⟨_, hx⟩]))
        have HV := Lib.hid (vals_snoc pre (⟨_, hx⟩ : StepAt l y0))
        have HL4 := Lib.hid (growL_len hcan.out hy8 HS.out.good pre)
        have HLa : Hid (a + 1 ≤ (growL l y0 (vals pre) Q).length) := by
          have h1 := (growL_pre l y0 (vals pre) Q).length_le
          show _ ≤ _; omega
        have hrs := hsm rr (List.mem_of_getElem? hrr)
        generalize hyv : (afterS l y0 ((ii : Int), (pp : Int))).1 = y at *
        have HR5 := Lib.hid R
        obtain ⟨q0, q1, -, -, ql⟩ := R.sy.two
        have n0 := R.nw.cell 0
        dsimp only at hX
        obtain ⟨x0, x1, -, -, xl⟩ := hX.two
        have Hs1 := Lib.hid hs1
        have Hrr := Lib.hid hrr
        clear hs1 R hat hrr
        gi_wp2_with fail
        refine ⟨trivial, ((callsIn_wide.2 (afterStep_any k A n c B l y0 ii pp rr _ (HO.out.below HR5.out.bl) Hrr.out hrs hys (by omega))).inRound lp).mono ?_⟩
        rintro e X1 ⟨rfl, hX1⟩
        rw [Hs1.out]
        dsimp only
        have HR6 := Lib.hid (HR5.out.below HSp.out hX1)
        have HT1 := Lib.hid (turn_below (S := [Mb, g', Wb]) hX1)
        clear q0 q1 ql n0 x0 x1 xl hX1
        have r0 := HR6.out.r.cell 0
        have hyl : y.size ≤ maxLen := by unfold maxLen; omega
        have hlk := HR6.out.m.lookup y hyl
        cases hbb : hasW (growL l y0 (vals pre) Q) y
        · rw [hbb] at hlk
          obtain ⟨X2, hrun2, hM2, hg2⟩ := HR6.out.m.add y hyl hbb (by have := HL4.out; unfold maxLen; omega)
          have hgr : Hid (growL l y0 (vals pre ++ [((ii : Int), (pp : Int))]) Q = growL l y0 (vals pre) Q ++ [y]) := by show _ = _; rw [HA.out, grow1, hbb]; rfl
          obtain ⟨vw, hw1, hw2⟩ := HR6.out.wt
          have hgWb := hw2.apart hw1 (by decide)
          have hgMb : g' ≠ Mb := by
            have h1 := HSp.out.f
            have h2 := HSp.out.h
            have h3 := HSp.out.e
            rcases HR5.out.gg with h | h <;> omega
          have hWM : Wb ≠ Mb := by omega
          have TM := turn_grown (S := [Mb]) hg2 (by simp)
          have HT2 := Lib.hid (TM.mono (S' := [Mb, g', Wb]) (by simp))
          have k2 := Lib.hid (TM.blk hw1 (by simpa using hWM))
          have hq3 := Lib.hid ((hw2.turn TM (by simpa using hgMb)).turn (S := []) (turn_below (bel1 X2 (.cells #[.string y] 9))) (by simp))
          have HM2 := Lib.hid hM2
          have w0 := k2.out.cell 0
          have r2 := (TM.blk HR6.out.r (by have := HSp.out.b; simp; omega)).cell 0
          have hql : ((growL l y0 (vals pre) Q).drop (a + 1)).length + 1 ≤ 87381 := by
            have h1 := HL4.out
            have h2 := HLa.out
            simp; omega
          have HQL := Lib.hid hql
          have HgW := Lib.hid hgWb
          have HgM := Lib.hid hgMb
          clear hbb hg2 hw1 hw2 hM2 TM hql hgWb hgMb
          gi_wp2_with (gi_at_builtin; refine wpListIn_append_wait (y := y) _ rfl _ _ rfl hq3.out HQL.out rfl rfl ?c2 ?_)
          case c2 => exact (Blk.new1 X2 #[.string y] 9).cell 0
          intro v4 X4 g4 hq4 T4 hg4
          have HQ4 := Lib.hid hq4
          have HT4 := Lib.hid T4
          have HG4 := Lib.hid hg4
          obtain ⟨o4, c4, m4, hm4, rfl⟩ := hq4.form
          have k4 := Lib.hid (T4.blk (k2.out.alloc (.cells #[.string y] 9)) (by have := HgW.out; simp; omega))
          have y1 := k4.out.cell 0
          have yf := k4.out.frozen 0
          clear hq4 T4 hg4 hm4
          gi_wp2_with fail
          have T := HT2.out.trans ((turn_below (bel1 X2 (.cells #[.string y] 9))).trans ((HT4.out.mono (by simp)).trans (turn_set X4 Wb 0 (.slice (some ⟨g4, o4, none⟩) m4 c4) (by simp))))
          have TB := (HT4.out.mono (S' := [g', Wb]) (by simp)).trans (turn_set X4 Wb 0 (.slice (some ⟨g4, o4, none⟩) m4 c4) (by simp))
          obtain ⟨kk1, kk2⟩ := HR5.out.keeps HSp.out (HT1.out.trans T)
          refine ⟨kk1, kk2, g4, ?_⟩
          rw [HV.out]
          have h4 := HQ4.out
          have hgW4 := h4.apart k4.out (by decide)
          refine HR6.out.turn HSp.out T ?_ ⟨_, k4.out.set_ 0 _, ?_⟩ ?_
          · rw [hgr.out]
            exact TB.setM (HM2.out.below (bel1 X2 _)) (by have := HgM.out; simp; omega)
          · rw [hgr.out, List.drop_append_of_le_length HLa.out]
            exact h4.turn (turn_set (S := [Wb]) _ _ _ _ (by simp)) (by simpa using hgW4)
          · rcases HG4.out with rfl | h
            · exact HR5.out.gg
            · have h1 := HR6.out.sz
              have h2 := HT2.out.size
              try simp at h
              exact .inr (by omega)
        · rw [hbb] at hlk
          have hgr : Hid (growL l y0 (vals pre ++ [((ii : Int), (pp : Int))]) Q = growL l y0 (vals pre) Q) := by show _ = _; rw [HA.out, grow1, hbb]; rfl
          clear hbb
          gi_wp2_with fail
          obtain ⟨kk1, kk2⟩ := HR5.out.keeps HSp.out HT1.out
          refine ⟨kk1, kk2, g', ?_⟩
          rw [HV.out]
          exact HR6.out.turn HSp.out (Turn.refl _ _) (by rw [hgr.out]; exact HR6.out.m) (by rw [hgr.out]; exact HR6.out.wt) HR6.out.gg
      case done =>
        rintro Dn ys X hDn hys ⟨g', R⟩ hK
        gi_wp2_with fail
        have R1 := R
        rw [show vals ys = stepsD l y0 0 from hys] at R1
        obtain ⟨vw, k1, k2⟩ := R1.wt
        have hs1 := HSp.out.a
        have hs2 := HSp.out.b
        have hs3 := HSp.out.c
        have hs4 := HSp.out.d
        have hs5 := HSp.out.e
        have hs6 := HSp.out.f
        refine ⟨⟨grow l Q y0, a + 1, Dn :: Ds, g', vw, ⟨HS.out.next HY.out, by simp [hDl], R1.m, R1.r, k1, k2, ?_, R1.sy, R1.bl, ?_⟩, _, _, _, _, _, _, _, _, _, _, _, _, _, _, _, _, _, _, _, _, _, _, _, _, _, _, _, _, _, _, _, _, _, rfl⟩, ?_⟩
        · rcases R1.gg with h | h <;> omega
        · exact ⟨List.nodup_cons.2 ⟨fun hm => by have := HDlt.out Dn hm; omega, HD.out.1⟩, fun D hD => by
            rcases List.mem_cons.1 hD with rfl | hD
            · exact ⟨by omega, hK⟩
            · exact ⟨(HD.out.2 D hD).1, R1.ds D hD⟩⟩
        · show 87381 - (_ :: Ds.map markD).length < 87381 - (Ds.map markD).length
          rw [List.length_cons, List.length_map, hDl]
          omega
      case stop =>
        rintro D cc pre X hD _ h _
        exact h.elim
    · have hla : a = Q.length := by have := HS.out.le; omega
      have hq := HQ.out
      rw [hla, List.drop_length] at hq
      obtain ⟨o9, c9, m9, hm9, rfl⟩ := hq.form
      rw [List.length_nil] at hm9
      subst hm9
      have hlen := fun ty => HM.out.len ty
      have z0 := HW.out.cell 0
      have r0 := HR.out.cell 0
      clear hq HQ hla
      gi_wp2_with fail
      refine leaves_marks (v := .int .i64 Q.length) (fun w' => ?_) Ds W HD.out.1 hbs HD.out.2 (fun w' hw => ⟨?_, hb.trans hw⟩)
      · simp [results, Tryd.f24, go_sem]
      · rw [HF.out, HS.out.done (by omega)]
end Go.Proofs.YtjndopogjiacpaaDoor

namespace Go.Proofs.YtjndopogjiacpaaDoor
open Go.RowKit Go.Shelf
attribute [local go_sem] Oper.semAt_some

set_option maxHeartbeats 400000 in
theorem reduction_any (k : Int) (A : Option Addr) (n c : Nat) (s : ByteArray) (d : Int) (w : World) :
    Calls Tryd.prog 53 #[.agg #[.int .i64 k, .slice A n c], .string s, .int .i64 d] w fun e w' =>
      e = .returned (.func (.func 80) #[] #[.pointer (some ⟨w.heap.size + 1, 0, none⟩), .pointer (some ⟨w.heap.size, 0, none⟩), .pointer (some ⟨w.heap.size + 2, 0, none⟩)]) ∧
      w' = ((w.alloc (.cells #[.int .i64 k, .slice A n c] 25)).alloc (.cells #[.string s] 9)).alloc (.cells #[.int .i64 d] 67) := by
  go_enter Tryd.func53, Tryd.ntmps53
  go_wp2_with fail
  go_ret
  exact ⟨rfl, rfl⟩

set_option maxRecDepth 100000 in
set_option maxHeartbeats 2000000 in
theorem reduction1_in (m : Nat) (hm : 1 ≤ m) (k kk : Int) (A : Option Addr) (n c B : Nat) (l : List R) (s : ByteArray) (d : Int) (hcan : canRed kk l s = true) (hsm : smallR l) (hn12 : n ≤ 12) (bs bw bd lp : Nat) (D : Nat → Prop) (J Jx : List (ST × ByteArray) → World → Prop)
    (hY : ∀ pre x W, J pre W → pre.length < (redsOf l d s).length → YieldAt Fence.wide (m - 1) Tryd.prog lp #[stepV x.1, .string x.2] W fun e W' =>
      (e = .returned (.bool true) ∧ J (pre ++ [x]) W' ∧ Keeps D W W') ∨ (e = .returned (.bool false) ∧ Jx (pre ++ [x]) W'))
    (W : World) (hJ : AbidesFrom W.heap.size J) (hD : ∀ k, D k → k < W.heap.size) (h1 : Blk W bs 25 #[.int .i64 k, .slice A n c]) (h2 : Blk W bw 9 #[.string s]) (h3 : Blk W bd 67 #[.int .i64 d]) (g1 : D bs) (g3 : D bd)
    (hO : Own B W (.slice A n c) 2 n (rulesC l)) (hOn : 0 < n → D (blockOf A)) (h0 : J [] W) :
    CallsIn Fence.wide m Tryd.prog 80 #[.func (.yield lp) #[] #[], .pointer (some ⟨bw, 0, none⟩), .pointer (some ⟨bs, 0, none⟩), .pointer (some ⟨bd, 0, none⟩)] W fun e W' => (∃ v, e = .returned v) ∧
      ((∃ ys, ys = redsOf l d s ∧ J ys W') ∨ (∃ pre, pre <+: redsOf l d s ∧ Jx pre W')) := by
  have hw0 := h2.cell 0
  have hc0 := canRed_size hcan
  refine callsIn_of_wp Tryd.func80 rfl trivial ?_ rfl
  simp only [Tryd.ntmps80, List.size_toArray, List.length_cons, List.length_nil, Nat.reduceAdd, Nat.reduceSub, Array.replicate_succ, Array.replicate_zero, List.push_toArray, List.append_toArray, List.nil_append, List.cons_append]
  gi_wp2
  gi_loopw [5] (fun v wr => ∃ (cur : ByteArray) (pre : List (ST × ByteArray)), v = .string cur ∧ cur.size ≤ 1048576 ∧ Hid (canRed kk l cur = true) ∧ Hid (redsOf l d s = pre ++ redsOf l d cur) ∧ Keeps D W wr ∧ J pre wr)
    (fun v _ => rankV v)
  case atStart =>
    exact ⟨s, [], rfl, by omega, hcan, rfl, Keeps.refl _ _, h0⟩
  case round =>
    obtain ⟨cur, pre, rfl, hcs, HC, HP, hb, hJs⟩ := hrel
    have hsz := hb.size
    obtain ⟨q0, q1, -, -, ql⟩ := (h1.keeps hb g1).two
    have hd0 := (h3.keeps hb g3).cell 0
    gi_wp2_with fail
    refine ⟨trivial, (callsIn_wide.2 (nextStep_any k A n c B l cur d _ hcs hn12 (hO.under hb hOn))).mono ?_⟩
    rintro e w1 ⟨rfl, hb1⟩
    have hJ1 := abides_below hJ hJs hb1
    have b1 := hb.trans (keeps_of hb1 (fun k hk => by have := hD k hk; omega))
    clear hb1 hJs hb q0 q1 ql hd0
    have hsz1 := b1.size
    rcases head_cases l cur d with hh | ⟨i, p, hh, hx⟩
    · rw [hh]
      have HP2 : Hid (pre = redsOf l d s) := by show _ = _; rw [HP.out, redsOf_none hh, List.append_nil]
      have hJ2 := Lib.hid (fun o => abides_below hJ hJ1 (bel1 w1 o))
      clear hh
      dsimp only [Option.getD_none, Option.isSome_none]
      gi_wp2_with fail
      refine bodyPost_ret (results_none rfl _ _ _) rfl ?_
      exact ⟨⟨_, rfl⟩, .inl ⟨pre, HP2.out, hJ2.out _⟩⟩
    · rw [hh]
      obtain ⟨ha1, ha2, ha3, ha4⟩ := step_props HC.out hx
      have Hrk := Lib.hid (step_rank HC.out hx)
      have HP2 : Hid (redsOf l d s = (pre ++ [(((i : Int), (p : Int)), (afterS l cur ((i : Int), (p : Int))).1)]) ++ redsOf l d (afterS l cur ((i : Int), (p : Int))).1) := by
        show _ = _; rw [HP.out, redsOf_some HC.out hh, List.append_assoc]; rfl
      have HC2 := Lib.hid ha2
      have Ha1 := Lib.hid ha1
      obtain ⟨i', p', e, hi, hp, r, hr, -⟩ := isStepB_parts hx
      obtain ⟨e1, e2⟩ : (i : Int) = i' ∧ (p : Int) = p' := by injection e with a b; exact ⟨a, b⟩
      obtain rfl : i = i' := by omega
      obtain rfl : p = p' := by omega
      have Hr := Lib.hid hr
      have hrs := Lib.hid (hsm r (List.mem_of_getElem? hr))
      clear hh hx ha1 ha2 ha3 e e1 e2 hr
      have hJ2 := abides_below hJ hJ1 (bel1 w1 (.cells #[.int .i64 i, .int .i64 p] 37))
      have b2 := b1.trans (keeps_of (bel1 w1 (.cells #[.int .i64 i, .int .i64 p] 37)) (fun k hk => by have := hD k hk; omega))
      have HX2 := Lib.hid (Blk.new1 w1 #[.int .i64 i, .int .i64 p] 37)
      obtain ⟨q0, q1, -, -, ql⟩ := (h1.keeps b2 g1).two
      obtain ⟨x0, x1, -, -, xl⟩ := HX2.out.two
      clear hJ1 b1
      dsimp only [Option.getD_some, Option.isSome_some]
      gi_wp2_with fail
      generalize w1.alloc (.cells #[.int .i64 i, .int .i64 p] 37) = w2 at *
      refine ⟨trivial, (callsIn_wide.2 (afterStep_any k A n c B l cur i p r _ (hO.under b2 hOn) Hr.out hrs.out hcs (by omega))).mono ?_⟩
      rintro e w3 ⟨rfl, hb3⟩
      rw [Ha1.out]
      have hsz2 := b2.size
      have hJ3 := abides_below hJ hJ2 hb3
      have b3 := b2.trans (keeps_of hb3 (fun k hk => by have := hD k hk; omega))
      obtain ⟨y0, y1, -, -, yl⟩ := (HX2.out.below hb3 HX2.out.lt).two
      clear hb3 hJ2 HX2 b2 q0 q1 ql x0 x1 xl Ha1
      generalize (afterS l cur ((i : Int), (p : Int))).1 = y at *
      have hlen : pre.length < (redsOf l d s).length := by rw [HP2.out]; simp
      obtain ⟨fn, tmps, assign, body, hy, hR⟩ := hY pre (((i : Int), (p : Int)), y) w3 hJ3 hlen
      have hsz3 := b3.size
      clear hlen
      dsimp only at hy
      gi_wp2_with fail
      refine hR.mono ?_
      rintro e w6 (⟨rfl, hJ6, hk6⟩ | ⟨rfl, hJx6⟩)
      · have b6 := b3.trans hk6
        gi_wp2_with fail
        go_roundw
        case rel => exact ⟨y, _, rfl, by omega, HC2, HP2, b6, hJ6⟩
        case measure => exact Hrk.out
      · gi_wp2_with fail
        refine bodyPost_ret (results_none rfl _ _ _) rfl ?_
        exact ⟨⟨_, rfl⟩, .inr ⟨_, ⟨_, HP2.out.symm⟩, hJx6⟩⟩

theorem reds_stops (m : Nat) (hm : 1 ≤ m) (kk : Int) (l : List R) (s : ByteArray) (d : Int) (hcan : canRed kk l s = true) (hsm : smallR l) (bs bw bd : Nat) (D : Nat → Prop) (w : World) (h : SeqAt l s d bs bw bd D w) (hD : ∀ k, D k → k < w.heap.size) :
    SeqStopsK Fence.wide m Tryd.prog 80 #[.pointer (some ⟨bw, 0, none⟩), .pointer (some ⟨bs, 0, none⟩), .pointer (some ⟨bd, 0, none⟩)] (fun x : ST × ByteArray => #[stepV x.1, .string x.2]) (Keeps D) (fun ys => ys = redsOf l d s) (fun pre => pre <+: redsOf l d s) (redsOf l d s).length w := by
  intro lp J Jx W hW hJ _ hY h0
  have h' := h.keeps (keeps_of hW hD)
  obtain ⟨k, A, n, c, B, h1, h2, h3, h4⟩ := h'.sys
  exact reduction1_in m hm k kk A n c B l s d hcan hsm h3 bs bw bd lp D J Jx hY W hJ (fun k hk => by have := hD k hk; have := hW.size; omega) h1 h'.str h'.dir h'.g1 h'.g3 h2 h4 h0
end Go.Proofs.YtjndopogjiacpaaDoor

namespace Go.Proofs.YtjndopogjiacpaaDoor
open Go.RowKit Go.Shelf
attribute [local go_sem] Oper.semAt_some

theorem lastOf_snoc (s : ByteArray) (pre : List (ST × ByteArray)) (x : ST × ByteArray) : lastOf s (pre ++ [x]) = x.2 := by rw [lastOf]; simp
set_option maxRecDepth 100000 in
set_option maxHeartbeats 2000000 in
theorem lastWord_any (k : Int) (A : Option Addr) (n c B : Nat) (l : List R) (s : ByteArray) (d : Int) (w : World) (h : Own B w (.slice A n c) 2 n (rulesC l)) (hsm : smallR l) (hs : s.size ≤ 1048576) (hlet : Let w) :
    Calls Tryd.prog 51 #[.agg #[.int .i64 k, .slice A n c], .string s, .int .i64 d] w fun e w' => e = .returned (.tuple #[.string (formS k l s d).1, .bool (formS k l s d).2]) ∧ Below w.heap.size w w' := by
  have HO := Lib.hid h
  have Hlen := Lib.hid h.rlen
  have HL := Lib.hid (fun (w' : World) (hb : Below w.heap.size w w') => hlet.keep hb (Nat.le_refl _))
  clear h hlet
  refine (callsIn_wide (n := 6)).1 ?_
  refine callsIn_of_wp_marks Tryd.func51 rfl trivial ?_ rfl
  simp only [Tryd.ntmps51, List.size_toArray, List.length_cons, List.length_nil, Nat.reduceAdd, Nat.reduceSub, Array.replicate_succ, Array.replicate_zero, List.push_toArray, List.append_toArray, List.nil_append, List.cons_append]
  gi_wp2_with fail
  refine ⟨trivial, (callsIn_wide.2 (canReduce_any k A n c B l s _ (HO.out.below (bel1 _ _)) hsm hs (HL.out _ (bel1 _ _)))).mono ?_⟩
  rintro e w1 ⟨rfl, hb1⟩
  have b1 := (bel1 w _).trans (hb1.mono (by simp))
  have HB1 := Lib.hid ((Blk.new1 w _ _).below hb1 (by simp))
  obtain ⟨q0, q1, -, -, ql⟩ := HB1.out.two
  clear hb1
  cases h1 : canRed k l s
  · have HF : Hid (formS k l s d = (⟨#[]⟩, false)) := by show _ = _; rw [formS, h1]; rfl
    clear h1
    gi_wp2_with fail
    refine ⟨.tuple #[.string ⟨#[]⟩, .bool false], ?_, ret_sb HF.out.symm, b1⟩
    simp [results, Tryd.f51, go_sem]
  · have HF : Hid (formS k l s d = (formOf l d s, true)) := by show _ = _; rw [formS, if_pos h1]
    have Hcan := Lib.hid h1
    have hn12 : n ≤ 12 := by rw [← Hlen.out]; exact rulesOk_len (canRed_rules h1)
    clear h1
    have b2 := b1.alloc b1.size (.cells #[.string s] 9)
    have HB2 := Lib.hid (HB1.out.alloc (.cells #[.string s] 9))
    have HS2 := Lib.hid (Blk.new1 w1 #[.string s] 9)
    clear q0 q1 ql
    obtain ⟨q0, q1, -, -, ql⟩ := HB2.out.two
    gi_wp2_with fail
    refine ⟨trivial, (callsIn_wide.2 (reduction_any k A n c s d _)).mono ?_⟩
    rintro e w3 ⟨rfl, hw3⟩
    gi_wp2_with fail
    clear q0 q1 ql
    have hsz : w3.heap.size = w1.heap.size + 4 := by rw [hw3]; simp
    have R3 : Blk w3 w1.heap.size 9 #[.string s] := by rw [hw3]; exact ((HS2.out.alloc _).alloc _).alloc _
    have b3 : Below w.heap.size w w3 := by rw [hw3]; exact b2.trans ((bel3 _ _ _ _).mono b2.size)
    have hws1 := b1.size
    have hS : SeqAt l s d (w1.heap.size + 1) (w1.heap.size + 1 + 1) (w1.heap.size + 1 + 2) (fun k => k < w3.heap.size ∧ k ≠ w1.heap.size) w3 := by
      refine ⟨⟨k, A, n, c, B, ?_, HO.out.below b3, hn12, fun hn => ?_⟩, ?_, ?_, ⟨by omega, by omega⟩, ⟨by omega, by omega⟩, ⟨by omega, by omega⟩⟩
      · rw [hw3]; exact ((Blk.new2 _ _ _ _).alloc _).alloc _
      · have := (HO.out.blk_lt hn).2; exact ⟨by omega, by omega⟩
      · rw [hw3]; exact (Blk.new3 _ _ _ _ _).alloc _
      · rw [hw3]; exact Blk.new4 _ _ _ _ _ _
    have e0 : (((w1.alloc (.cells #[.string s] 9)).alloc (.cells #[.int .i64 k, .slice A n c] 25)).alloc (.cells #[.string s] 9)).alloc (.cells #[.int .i64 d] 67) = w3 := hw3.symm
    rw [e0]
    clear e0 hw3 b2 HB2 HS2
    refine wpIn_rangeFunc_ownG rfl (by omega) (gf := 80) (lb := #[.pointer (some ⟨w1.heap.size + 1 + 1, 0, none⟩), .pointer (some ⟨w1.heap.size + 1, 0, none⟩), .pointer (some ⟨w1.heap.size + 1 + 2, 0, none⟩)]) rfl trivial (enters_of Tryd.func80 (by kernel_rfl) rfl)
      (reds_stops 5 (by omega) k l s d Hcan.out hsm _ _ _ _ w3 hS (fun _ h => h.1)) keeps_t (keeps_b (fun _ h => h.1)) (Below.refl _ _) (fun _ => rfl)
      (fun pre W => Blk W w1.heap.size 9 #[.string (lastOf s pre)] ∧ Below w.heap.size w W)
      (fun _ _ _ => False)
      (OwnFrom.and (fun _ _ _ _ h hg hr => blk_kept h hg (fun r e => (hr r e).2)) (ownFrom_below (Nat.le_refl _) (by omega)))
      (fun _ _ _ _ _ hs _ _ => hs)
      ⟨R3, b3⟩
      (fun x => { tmps := #[.agg #[.int .i64 k, .slice A n c], .string s, .int .i64 d, .pointer (some ⟨w.heap.size, 0, none⟩), undef, undef, .string ⟨#[]⟩, .bool false, .pointer (some ⟨w1.heap.size, 0, none⟩), undef, .string x.2, .agg #[.int .i64 k, .slice A n c], .string s, .bool true, .bool false, .string s, .agg #[.int .i64 k, .slice A n c], .string s, .int .i64 d, .func (.func 80) #[] #[.pointer (some ⟨w1.heap.size + 1 + 1, 0, none⟩), .pointer (some ⟨w1.heap.size + 1, 0, none⟩), .pointer (some ⟨w1.heap.size + 1 + 2, 0, none⟩)], stepV x.1, .string x.2, undef, undef], defers := [] })
      ?assign ?body ?done ?stop
    case assign =>
      intro lp x W K hK
      gi_wp2_with fail
      exact hK
    case body =>
      rintro lp pre x W ⟨h2, h4⟩ hlt
      have z0 := h2.cell 0
      have zf := h2.frozen 0
      gi_wp2_with fail
      refine ⟨(KeepsOthers.setCell _ _ _).from _, ⟨by simp [World.size_setCell], fun j hj => Below.heap_setCell _ _ _ _ hj.2⟩, ?_, h4.setCell (by show w.heap.size ≤ w1.heap.size; omega) _⟩
      rw [lastOf_snoc]
      exact h2.set_ 0 (.string x.2)
    case done =>
      rintro D ys W hD rfl ⟨h2, h4⟩ hK
      have z0 := h2.cell 0
      have hws := h4.size
      gi_wp2_with fail
      refine ⟨by simp, .inl ⟨_, _, rfl, run_takeDeferred hK, ?_⟩⟩
      refine ⟨.tuple #[.string (lastOf s (redsOf l d s)), .bool true], ?_, by rw [HF.out]; rfl, h4.trans (belowK_b (w := w) (Nat.le_refl _) _ D _ _ (by omega) hK rfl rfl)⟩
      simp [results, Tryd.f51, go_sem]
    case stop =>
      rintro D c pre W hD _ h _
      exact h.elim

set_option maxHeartbeats 800000 in
theorem implNormalForm (k : Int) (A : Option Addr) (n c B : Nat) (l : List R) (s : ByteArray) (w : World) (h : Own B w (.slice A n c) 2 n (rulesC l)) (hsm : smallR l) (hs : s.size ≤ 1048576) (hlet : Let w) :
    Calls Tryd.prog 16 #[.agg #[.int .i64 k, .slice A n c], .string s] w fun e w' => e = .returned (.tuple #[.string (formS k l s 0).1, .bool (formS k l s 0).2]) ∧ Below w.heap.size w w' := by
  have HO := Lib.hid h
  have HL := Lib.hid (fun (w' : World) (hb : Below w.heap.size w w') => hlet.keep hb (Nat.le_refl _))
  clear h hlet
  go_enter Tryd.func16, Tryd.ntmps16
  go_wp2_with fail
  refine (lastWord_any k A n c B l s 0 _ (HO.out.below (bel1 _ _)) hsm hs (HL.out _ (bel1 _ _))).mono ?_
  rintro e w1 ⟨rfl, hb1⟩
  have b1 := (bel1 w _).trans (hb1.mono (by simp))
  clear hb1
  obtain ⟨rr, hrr⟩ : ∃ rr, formS k l s 0 = rr := ⟨_, rfl⟩
  have HF := Lib.hid hrr
  rw [hrr]
  clear hrr
  obtain ⟨r1, r2⟩ := rr
  go_wp2_with fail
  go_ret2
  exact ⟨ret_sb HF.out.symm, b1⟩
set_option maxHeartbeats 800000 in
theorem implFarForm (k : Int) (A : Option Addr) (n c B : Nat) (l : List R) (s : ByteArray) (w : World) (h : Own B w (.slice A n c) 2 n (rulesC l)) (hsm : smallR l) (hs : s.size ≤ 1048576) (hlet : Let w) :
    Calls Tryd.prog 17 #[.agg #[.int .i64 k, .slice A n c], .string s] w fun e w' => e = .returned (.tuple #[.string (formS k l s 1).1, .bool (formS k l s 1).2]) ∧ Below w.heap.size w w' := by
  have HO := Lib.hid h
  have HL := Lib.hid (fun (w' : World) (hb : Below w.heap.size w w') => hlet.keep hb (Nat.le_refl _))
  clear h hlet
  go_enter Tryd.func17, Tryd.ntmps17
  go_wp2_with fail
  refine (lastWord_any k A n c B l s 1 _ (HO.out.below (bel1 _ _)) hsm hs (HL.out _ (bel1 _ _))).mono ?_
  rintro e w1 ⟨rfl, hb1⟩
  have b1 := (bel1 w _).trans (hb1.mono (by simp))
  clear hb1
  obtain ⟨rr, hrr⟩ : ∃ rr, formS k l s 1 = rr := ⟨_, rfl⟩
  have HF := Lib.hid hrr
  rw [hrr]
  clear hrr
  obtain ⟨r1, r2⟩ := rr
  go_wp2_with fail
  go_ret2
  exact ⟨ret_sb HF.out.symm, b1⟩
end Go.Proofs.YtjndopogjiacpaaDoor

namespace Go.Proofs.YtjndopogjiacpaaDoor
open Go.RowKit Go.Shelf
attribute [local go_sem] Oper.semAt_some

def firsts (pre : List (ST × ByteArray)) : List ST := pre.map (·.1)
theorem firsts_snoc (pre : List (ST × ByteArray)) (x : ST × ByteArray) : firsts (pre ++ [x]) = firsts pre ++ [x.1] := by simp [firsts]
set_option maxRecDepth 100000 in
set_option maxHeartbeats 2000000 in
theorem implTraceOf (k : Int) (A : Option Addr) (n c B : Nat) (l : List R) (s : ByteArray) (w : World) (h : Own B w (.slice A n c) 2 n (rulesC l)) (hsm : smallR l) (hs : s.size ≤ 1048576) (hlet : Let w) :
    Calls Tryd.prog 18 #[.agg #[.int .i64 k, .slice A n c], .string s] w fun e w' => ∃ v, e = .returned (.tuple #[v, .bool (canRed k l s)]) ∧ Own w.heap.size w' v 2 (traceS k l s).length (stepsC (traceS k l s)) ∧ Below w.heap.size w w' := by
  obtain ⟨i0, hi, hz0, hz1, hz2⟩ := infoR_parts infoStep
  have HO := Lib.hid h
  have Hlen := Lib.hid h.rlen
  have HL := Lib.hid (fun (w' : World) (hb : Below w.heap.size w w') => hlet.keep hb (Nat.le_refl _))
  clear h hlet
  refine (callsIn_wide (n := 6)).1 ?_
  refine callsIn_of_wp_marks Tryd.func18 rfl trivial ?_ rfl
  simp only [Tryd.ntmps18, List.size_toArray, List.length_cons, List.length_nil, Nat.reduceAdd, Nat.reduceSub, Array.replicate_succ, Array.replicate_zero, List.push_toArray, List.append_toArray, List.nil_append, List.cons_append]
  gi_wp2_with fail
  refine ⟨trivial, (callsIn_wide.2 (canReduce_any k A n c B l s _ (HO.out.below (bel1 _ _)) hsm hs (HL.out _ (bel1 _ _)))).mono ?_⟩
  rintro e w1 ⟨rfl, hb1⟩
  have b1 := (bel1 w _).trans (hb1.mono (by simp))
  have HB1 := Lib.hid ((Blk.new1 w _ _).below hb1 (by simp))
  obtain ⟨q0, q1, -, -, ql⟩ := HB1.out.two
  clear hb1
  cases h1 : canRed k l s
  · have HF : Hid (traceS k l s = []) := by show _ = _; rw [traceS, h1]; rfl
    have Hc := Lib.hid h1
    clear h1
    gi_wp2_with fail
    refine ⟨.tuple #[.slice none 0 0, .bool false], ?_, .slice none 0 0, by rw [Hc.out], by rw [HF.out]; exact Own.none_, b1⟩
    simp [results, Tryd.f18, go_sem]
  · have HF : Hid (traceS k l s = traceOf l s) := by show _ = _; rw [traceS, if_pos h1]
    have Hcan := Lib.hid h1
    have hn12 : n ≤ 12 := by rw [← Hlen.out]; exact rulesOk_len (canRed_rules h1)
    have htl := traceOf_len h1
    have hrl : (redsOf l 0 s).length ≤ 5726623060 := by rw [traceOf, List.length_map] at htl; exact htl
    clear h1 htl
    have b2 := b1.alloc b1.size (.cells #[.slice none 0 0] 30)
    have HB2 := Lib.hid (HB1.out.alloc (.cells #[.slice none 0 0] 30))
    have HS2 := Lib.hid (Blk.new1 w1 #[.slice none 0 0] 30)
    clear q0 q1 ql
    obtain ⟨q0, q1, -, -, ql⟩ := HB2.out.two
    gi_wp2_with fail
    refine ⟨trivial, (callsIn_wide.2 (reduction_any k A n c s 0 _)).mono ?_⟩
    rintro e w3 ⟨rfl, hw3⟩
    gi_wp2_with fail
    clear q0 q1 ql
    have hsz : w3.heap.size = w1.heap.size + 4 := by rw [hw3]; simp
    have R3 : Blk w3 w1.heap.size 30 #[.slice none 0 0] := by rw [hw3]; exact ((HS2.out.alloc _).alloc _).alloc _
    have b3 : Below w.heap.size w w3 := by rw [hw3]; exact b2.trans ((bel3 _ _ _ _).mono b2.size)
    have hws1 := b1.size
    have hS : SeqAt l s 0 (w1.heap.size + 1) (w1.heap.size + 1 + 1) (w1.heap.size + 1 + 2) (fun k => k < w3.heap.size ∧ k ≠ w1.heap.size) w3 := by
      refine ⟨⟨k, A, n, c, B, ?_, HO.out.below b3, hn12, fun hn => ?_⟩, ?_, ?_, ⟨by omega, by omega⟩, ⟨by omega, by omega⟩, ⟨by omega, by omega⟩⟩
      · rw [hw3]; exact ((Blk.new2 _ _ _ _).alloc _).alloc _
      · have := (HO.out.blk_lt hn).2; exact ⟨by omega, by omega⟩
      · rw [hw3]; exact (Blk.new3 _ _ _ _ _).alloc _
      · rw [hw3]; exact Blk.new4 _ _ _ _ _ _
    have e0 : (((w1.alloc (.cells #[.slice none 0 0] 30)).alloc (.cells #[.int .i64 k, .slice A n c] 25)).alloc (.cells #[.string s] 9)).alloc (.cells #[.int .i64 0] 67) = w3 := hw3.symm
    rw [e0]
    clear e0 hw3 b2 HB2 HS2
    refine wpIn_rangeFunc_ownH rfl (by omega) (gf := 80) (lb := #[.pointer (some ⟨w1.heap.size + 1 + 1, 0, none⟩), .pointer (some ⟨w1.heap.size + 1, 0, none⟩), .pointer (some ⟨w1.heap.size + 1 + 2, 0, none⟩)]) rfl trivial (enters_of Tryd.func80 (by kernel_rfl) rfl)
      (reds_stops 5 (by omega) k l s 0 Hcan.out hsm _ _ _ _ w3 hS (fun _ h => h.1)) keeps_t (keeps_b (fun _ h => h.1)) (Below.refl _ _) (fun _ => rfl)
      (fun pre W => (w3.heap.size ≤ W.heap.size ∧ ∃ v, Blk W w1.heap.size 30 #[v] ∧ W.ownsRow w3.heap.size 37 2 v pre.length (stepsC (firsts pre))) ∧ Below w.heap.size w W)
      (fun _ _ _ => False)
      (OwnFrom.and (fun _ _ _ _ h hg hr => ⟨Nat.le_trans h.1 hg.size, by obtain ⟨v, h1, h2⟩ := h.2; exact ⟨v, blk_kept h1 hg (fun r e => (hr r e).2), row_kept h2 hg (fun r e => (hr r e).2)⟩⟩) (ownFrom_below (Nat.le_refl _) (by omega)))
      (fun _ _ _ _ _ hs _ _ => hs)
      ⟨⟨Nat.le_refl _, _, R3, World.ownsRow_nil _ _ _ _⟩, b3⟩
      (fun x a' W => ∃ Bx, w3.heap.size ≤ Bx ∧ Blk W Bx 37 #[.int .i64 x.1.1, .int .i64 x.1.2] ∧ a' = { tmps := #[.agg #[.int .i64 k, .slice A n c], .string s, .pointer (some ⟨w.heap.size, 0, none⟩), undef, .slice none 0 0, .bool false, .pointer (some ⟨w1.heap.size, 0, none⟩), .pointer (some ⟨Bx, 0, none⟩), .agg #[.int .i64 k, .slice A n c], .string s, .bool true, .bool false, .agg #[.int .i64 k, .slice A n c], .string s, .func (.func 80) #[] #[.pointer (some ⟨w1.heap.size + 1 + 1, 0, none⟩), .pointer (some ⟨w1.heap.size + 1, 0, none⟩), .pointer (some ⟨w1.heap.size + 1 + 2, 0, none⟩)], stepV x.1, .string x.2, undef, undef, undef, undef, undef], defers := [] })
      (fun x a' _ _ _ _ h hg hr => by obtain ⟨Bx, h1, h2, h3⟩ := h; exact ⟨Bx, h1, blk_kept h2 hg (fun r e => (hr r e).2), h3⟩)
      ?assign ?body ?done ?stop
    case assign =>
      rintro lp pre x W K ⟨⟨hws, v, h2, h3⟩, h4⟩ hK
      gi_wp2_with fail
      have hWs := h4.size
      have b := bel1 W (.cells #[.int .i64 x.1.1, .int .i64 x.1.2] 37)
      exact hK _ _ (keepsFrom_below b) (keeps_of b (fun k hk => by have := hk.1; omega)) ⟨⟨by simp; omega, v, h2.alloc _, h3.alloc _⟩, h4.trans (b.mono hWs)⟩ ⟨W.heap.size, by omega, Blk.new1 _ _ _, rfl⟩
    case body =>
      rintro lp pre x a' W hl hr ⟨⟨hws, v, h2, h3⟩, h4⟩ ⟨Bx, hB, hX, rfl⟩ hlt
      obtain ⟨x0, x1, -, -, xl⟩ := hX.two
      have z0 := h2.cell 0
      gi_wp2_with (gi_at_builtin; refine wpListIn_append_own _ rfl _ _ 30 rfl w3.heap.size 37 i0 (.agg #[.int .i64 0, .int .i64 0]) 2 16 Tryd.underlying30 hi hz0 hz1 hz2 rfl (by decide) _ _ _ rfl (h3.alloc _) ⟨W.heap.size, 0, none⟩ 1 1 [.int .i64 x.1.1, .int .i64 x.1.2] rfl rfl ?c1 ?c2 ?c3 ?c4 ?c5 ?_)
      case c1 =>
        intro j u hj
        match j, hj with
        | 0, hj => simp at hj; subst hj; simp [Addr.add]
        | 1, hj => simp at hj; subst hj; simp [Addr.add]
      case c2 => intro u hu; simp at hu; rcases hu with rfl | rfl <;> rfl
      case c3 => unfold maxLen; omega
      case c4 => omega
      case c5 => simp; omega
      intro v' w6 hown' hgrow _
      have hown2 : w6.ownsRow w3.heap.size 37 2 v' (pre.length + 1) (stepsC (firsts (pre ++ [x]))) := by
        rw [firsts_snoc, stepsC_append, hsz]
        exact hown'
      obtain ⟨r1, r2, r3, r4, r5, r6⟩ := box_appended (D := fun k => k < w3.heap.size ∧ k ≠ w1.heap.size) h2 (by omega) hws h3 hown2 hgrow (fun k hk => hk)
      obtain ⟨g4, o4, c4, hv4⟩ := (Own.of_row hown2).formR (by omega)
      subst hv4
      have y0 := r1.cell 0
      have yf := r1.frozen 0
      gi_wp2_with fail
      exact ⟨r4.from _, r5, ⟨by have := r6.size; omega, _, r2, by rw [List.length_append]; exact r3⟩, h4.trans (r6.mono (by omega))⟩
    case done =>
      rintro D ys W hD rfl ⟨⟨hws, v, h2, h3⟩, h4⟩ hK
      have z0 := h2.cell 0
      gi_wp2_with fail
      refine ⟨by simp, .inl ⟨_, _, rfl, run_takeDeferred hK, ?_⟩⟩
      have hg := grownBy_putObj' W D (.deferred none)
      refine ⟨.tuple #[v, .bool true], ?_, v, by rw [Hcan.out], ?_, h4.trans (belowK_b (w := w) (Nat.le_refl _) _ D _ _ (by omega) hK rfl rfl)⟩
      · simp [results, Tryd.f18, go_sem]
      · have h5 := row_kept h3 hg (fun r e => by cases e; exact ⟨_, hK, rfl⟩)
        have h6 := (Own.of_row h5).mono (B' := w.heap.size) (by omega)
        rw [HF.out, traceOf, List.length_map]
        exact h6
    case stop =>
      rintro D c pre W hD _ h _
      exact h.elim
theorem traceS_bound (k : Int) (l : List R) (s : ByteArray) : (traceS k l s).length ≤ 5726623060 := by
  unfold traceS
  split
  · rename_i hk
    exact traceOf_len hk
  · simp
end Go.Proofs.YtjndopogjiacpaaDoor

namespace Go.Proofs.YtjndopogjiacpaaDoor
open Go.RowKit Go.WideShapes Go.ChangeShapes
theorem trodVars_len {H : Type} {enc : TypeId × Value → H} {P : Program} {w : World} {sp : Nat → Bool} : ∀ {ns : List String} {gs : List (DataW H)} {ps : List MemPlace}, DataW.TrodVars enc P w sp ns gs ps → gs.length = ns.length
  | [], [], _, _ => rfl
  | [], _ :: _, _, h => h.elim
  | _ :: _, [], _, h => h.elim
  | _ :: _, _ :: _, _, h => by
    obtain ⟨g, t, cs, fuel, p, q, h1, h2, h3, h4, hs, e⟩ := h
    simp [trodVars_len hs]
theorem vars_len1 {α : Type} {gs : List α} (h : gs.length = 1) : ∃ a, gs = [a] := List.length_eq_one_iff.1 h
theorem vars_len2 {α : Type} {gs : List α} (h : gs.length = 2) : ∃ a b, gs = [a, b] := by
  match gs, h with
  | [a, b], _ => exact ⟨a, b, rfl⟩
theorem vars_len3 {α : Type} {gs : List α} (h : gs.length = 3) : ∃ a b c, gs = [a, b, c] := by
  match gs, h with
  | [a, b, c], _ => exact ⟨a, b, c, rfl⟩
theorem vars_len4 {α : Type} {gs : List α} (h : gs.length = 4) : ∃ a b c d, gs = [a, b, c, d] := by
  match gs, h with
  | [a, b, c, d], _ => exact ⟨a, b, c, d, rfl⟩
theorem vars_len5 {α : Type} {gs : List α} (h : gs.length = 5) : ∃ a b c d e, gs = [a, b, c, d, e] := by
  match gs, h with
  | [a, b, c, d, e], _ => exact ⟨a, b, c, d, e, rfl⟩
theorem vars_len6 {α : Type} {gs : List α} (h : gs.length = 6) : ∃ a b c d e f, gs = [a, b, c, d, e, f] := by
  match gs, h with
  | [a, b, c, d, e, f], _ => exact ⟨a, b, c, d, e, f, rfl⟩
/-- A LAW's END where her row takes package variables: it returned true, and below the old heap's end nothing has turned. -/
theorem law_postV {H : Type} {enc : TypeId × Value → H} {P : Program} {f : Func} {s : ChangeSpec} {W W' : World} {args : Array Value} {ds gs : List (DataW H)} {before : List MemPlace} {tb : TypeId}
    (hW : DataW.Whole enc P f.params.toList s.vars false W args.toList ds gs before) (hfn : s.fn H (ds ++ gs) = { results := [.lit (.bool true)], args := ds, vars := gs })
    (hres : f.resultTypes = #[tb]) (hbool : P.underlying tb = some .bool) (hl : laidOutB P = true) (hread : f.params.toList.all (fun t => P.readableRec t && decide (t < P.types.size)) = true) (hvr : varsRowed P s.vars = true)
    (hb : Below W.heap.size W W') : s.post enc P f false true false false W args (.bool true) W' := by
  have hlt : ∀ p ∈ before, p.block < W.heap.size := fun p hp => hW.lt p hp
  have hW' := hW
  obtain ⟨p, q, hA0, hV, rfl, hfz, hnd⟩ := hW
  refine ⟨ds, gs, p ++ q, [], p, q, hW', ?_, ?_, ?_, ?_, fun h => by cases h⟩
  · rw [hfn, hres]
    exact trodAll_cons_mk (shut_bool hbool _) trodAll_mk0
  · rw [hfn]
    exact trodAll_below hl hb _ _ _ _ hread hA0 (fun x hx => hlt x (List.mem_append_left _ hx))
  · rw [hfn]
    exact Below.trodVars hl hb hvr hV
  · exact World.keptBut_mono (fun x hx => ⟨hx, by rcases List.mem_append.1 hx with h | h; exact Or.inr (Or.inl h); exact Or.inr (Or.inr h)⟩) (hb.frame (· ∈ p ++ q))
noncomputable def laidWorld (os : Os) : World :=
  let w0 := World.holding Tryd.prog os ⟨#[], #[], []⟩
  let put (h : Array Obj) (g : Nat) (cs : Array Value) : Array Obj := h.modify g fun
    | .cells _ t frozen => .cells cs t frozen
    | o => o
  let h0 := put w0.heap 0 #[.int .u8 97, .int .u8 98, .int .u8 99, .int .u8 100]
  { w0 with heap := h0 }
end Go.Proofs.YtjndopogjiacpaaDoor

namespace Go.Proofs.YtjndopogjiacpaaDoor.fnReduce
open Go.Joins Go.ChangeShapes Go.WideShapes Go.ChangeAt Go.RowKit

theorem system_letters {k : Int} {l : List R} (h : systemOk k l = true) : 1 ≤ k ∧ k ≤ 4 := by
  simp only [systemOk, rulesOk, inK, Bool.and_eq_true, decide_eq_true_eq] at h
  exact h.1.1.1
theorem system_small {k : Int} {l : List R} (h : systemOk k l = true) : smallR l := fun r hr => by
  simp only [systemOk, Bool.and_eq_true] at h
  have := rulesOk_mem h.1 hr
  omega
theorem trace_few {k : Int} {l : List R} {s : ByteArray} (h : canRed k l s = true) (xs : List ST) (he : traceOf l s = xs) : xs.length ≤ 5726623060 := he ▸ traceOf_len h

set_option maxRecDepth 100000 in
set_option maxHeartbeats 2500000 in
theorem walk (A : Option Addr) (n c : Nat) (w : World) (h : InB w A n c) (hL : Let w) :
    Calls Tryd.prog 3 #[.slice A n c] w fun e w' => e = .returned (.bool true) ∧ Below w.heap.size w w' := by
  have HL := Lib.hid (fun (w' : World) (hb : Below w.heap.size w w') => hL.keep hb (Nat.le_refl _))
  have hc : n ≤ maxLen := by have := h.1; have := h.2.1; omega
  unfold maxLen at hc
  clear hL
  by_cases hbig : 1048576 < n
  · go_enter Tryd.func3, Tryd.ntmps3
    go_wp2_with fail
    go_ret
    exact ⟨rfl, Below.refl _ _⟩
  have hn : n ≤ 1048576 := Nat.le_of_not_lt hbig
  have H := Lib.hid h
  clear h
  go_enter Tryd.func3, Tryd.ntmps3
  go_wp2_with fail
  refine (MakeSystem_any A n c 0 _ H.out hn (by omega)).mono ?_
  rintro e w1 ⟨k, l, v, rfl, hO, hsys, hb1⟩
  obtain ⟨A1, c1, rfl⟩ := hO.form
  obtain ⟨hk1, hk4⟩ := system_letters hsys
  obtain ⟨kk, rfl⟩ : ∃ kk : Nat, k = kk := ⟨k.toNat, by omega⟩
  have hm := hO.bound
  unfold maxLen at hm
  have HB2 := Lib.hid (Blk.new1 w1 #[.int .i64 (kk : Int), .slice A1 l.length c1] 25)
  have b2 := hb1.alloc hb1.size (.cells #[.int .i64 (kk : Int), .slice A1 l.length c1] 25)
  have HO2 := Lib.hid (hO.below (bel1 w1 (.cells #[.int .i64 (kk : Int), .slice A1 l.length c1] 25)))
  have Hsys := Lib.hid hsys
  clear hO hsys hb1
  have hkk := HB2.out.two.1
  go_wp2_with fail
  generalize w1.alloc (.cells #[.int .i64 (kk : Int), .slice A1 l.length c1] 25) = w2 at *
  refine (MakeWord_any A n c 40 kk 8 _ (H.out.keep b2) hn (by omega) (by omega) (by omega) (by omega)).mono ?_
  rintro e w3 ⟨s, rfl, hwr, hs8, hb3⟩
  have hwo : wordOk kk s = true := by rw [wordOk_yes kk s (by omega)]; exact hwr
  have hcan : canRed kk l s = true := by rw [canRed, Hsys.out, hwo]; rfl
  have b3 := b2.trans (hb3.mono b2.size)
  have HB3 := Lib.hid (HB2.out.below hb3 HB2.out.lt)
  have HO3 := Lib.hid (HO2.out.below hb3)
  have hs : s.size ≤ 1048576 := by omega
  have hx8 := form_size 0 hcan
  have hy8 := form_size 1 hcan
  have hxr := form_reduced 0 hcan
  have hyr := form_reduced 1 hcan
  have hxl := form_less 0 hcan
  have hyl := form_less 1 hcan
  have hxs := form_steps 0 hcan
  have hfc := form_cases hcan
  have hrt := fun h => runs_trace hcan h
  have hcr := count_range hcan hs8
  have hf0 : formS kk l s 0 = (formOf l 0 s, true) := if_pos hcan
  have hf1 : formS kk l s 1 = (formOf l 1 s, true) := if_pos hcan
  have htr : traceS kk l s = traceOf l s := if_pos hcan
  have hsd : ∀ d, (sideStep kk l s d).2 = (stepsD l s d).head?.isSome := fun d => by rw [sideStep, if_pos (canRed_rules hcan)]
  have htl := traceOf_len hcan
  have Hsm := Lib.hid (system_small Hsys.out)
  have HTr := Lib.hid htr
  have Hcan := Lib.hid hcan
  have HF0 := Lib.hid hf0
  have HF1 := Lib.hid hf1
  clear hkk hwr hb3 hcan hwo htr hf0 hf1 HB2 HO2 b2
  generalize formOf l 0 s = x at *
  generalize formOf l 1 s = y at *
  generalize traceOf l s = tr at *
  have HXr := Lib.hid hxr
  have HYr := Lib.hid hyr
  have HXl := Lib.hid hxl
  have HYl := Lib.hid hyl
  have HXs := Lib.hid hxs
  have Hfc := Lib.hid hfc
  have Hrt := Lib.hid hrt
  have Hcr := Lib.hid hcr
  have Hsd := Lib.hid hsd
  clear hxr hyr hxl hyl hxs hfc hrt hcr hsd
  obtain ⟨q0, q1, -, -, ql⟩ := HB3.out.two
  go_wp2_with fail
  refine (implNormalForm kk A1 _ c1 _ l s _ HO3.out Hsm.out hs (HL.out _ b3)).mono ?_
  rw [HF0.out]
  rintro e w4 ⟨rfl, hb4⟩
  have b4 := b3.trans (hb4.mono b3.size)
  have HB4 := Lib.hid (HB3.out.below hb4 HB3.out.lt)
  have HO4 := Lib.hid (HO3.out.below hb4)
  clear q0 q1 ql hb4 HB3 HO3
  obtain ⟨q0, q1, -, -, ql⟩ := HB4.out.two
  go_wp2_with fail
  refine (implFarForm kk A1 _ c1 _ l s _ HO4.out Hsm.out hs (HL.out _ b4)).mono ?_
  rw [HF1.out]
  rintro e w5 ⟨rfl, hb5⟩
  have b5 := b4.trans (hb5.mono b4.size)
  have HB5 := Lib.hid (HB4.out.below hb5 HB4.out.lt)
  have HO5 := Lib.hid (HO4.out.below hb5)
  clear q0 q1 ql hb5 HB4 HO4
  obtain ⟨q0, q1, -, -, ql⟩ := HB5.out.two
  go_wp2_with fail
  refine (implTraceOf kk A1 _ c1 _ l s _ HO5.out Hsm.out hs (HL.out _ b5)).mono ?_
  rw [HTr.out, Hcan.out]
  rintro e w6 ⟨v6, rfl, hO6, hb6⟩
  obtain ⟨A6, c6, rfl⟩ := hO6.form
  have b6 := b5.trans (hb6.mono b5.size)
  have HB6 := Lib.hid (HB5.out.below hb6 HB5.out.lt)
  have HO6 := Lib.hid (HO5.out.below hb6)
  have HX6 := Lib.hid hO6
  clear q0 q1 ql hb6 hO6 HB5 HO5
  obtain ⟨q0, q1, -, -, ql⟩ := HB6.out.two
  go_wp2_with fail
  refine (implIsReduced kk A1 _ c1 _ l x _ HO6.out Hsm.out (by omega) (HL.out _ b6)).mono ?_
  rw [HXr.out]
  rintro e w7 ⟨rfl, hb7⟩
  have b7 := b6.trans (hb7.mono b6.size)
  have HB7 := Lib.hid (HB6.out.below hb7 HB6.out.lt)
  have HO7 := Lib.hid (HO6.out.below hb7)
  have HX7 := Lib.hid (HX6.out.below hb7)
  clear q0 q1 ql hb7 HB6 HO6 HX6
  obtain ⟨q0, q1, -, -, ql⟩ := HB7.out.two
  go_wp2_with fail
  refine (implIsReduced kk A1 _ c1 _ l y _ HO7.out Hsm.out (by omega) (HL.out _ b7)).mono ?_
  rw [HYr.out]
  rintro e w8 ⟨rfl, hb8⟩
  have b8 := b7.trans (hb8.mono b7.size)
  have HB8 := Lib.hid (HB7.out.below hb8 HB7.out.lt)
  have HO8 := Lib.hid (HO7.out.below hb8)
  have HX8 := Lib.hid (HX7.out.below hb8)
  clear q0 q1 ql hb8 HB7 HO7 HX7
  obtain ⟨q0, q1, -, -, ql⟩ := HB8.out.two
  go_wp2_with fail
  refine (implIsLess s x _).mono ?_
  rw [HXl.out]
  rintro e w' ⟨rfl, rfl⟩
  go_wp2_with fail
  refine (implIsLess s y _).mono ?_
  rw [HYl.out]
  rintro e w' ⟨rfl, rfl⟩
  rcases Hfc.out with ⟨p0, p1, rfl, rfl⟩ | ⟨p0, p1, htp, hxn⟩
  · have P0 := Lib.hid p0
    have P1 := Lib.hid p1
    have Hr9 := Lib.hid (Hrt.out (Nat.zero_le _))
    clear p0 p1 Hfc Hrt
    clear HTr
    go_wp2_with fail
    refine (implRunSteps kk A1 A6 _ c1 _ _ c6 _ l x [] _ HO8.out Hsm.out hs HX8.out (HL.out _ b8)).mono ?_
    rw [Hr9.out]
    rintro e w9 ⟨rfl, hb9⟩
    have b9 := b8.trans (hb9.mono b8.size)
    have HB9 := Lib.hid (HB8.out.below hb9 HB8.out.lt)
    have HO9 := Lib.hid (HO8.out.below hb9)
    clear q0 q1 ql hb9 HB8 HO8 HX8
    obtain ⟨q0, q1, -, -, ql⟩ := HB9.out.two
    go_wp2_with fail
    refine (implFirstStep kk A1 _ c1 _ l x _ HO9.out Hsm.out hs (HL.out _ b9)).mono ?_
    rw [Hsd.out 0, P0.out]
    generalize (sideStep kk l x 0).1 = f1
    obtain ⟨fa, fb⟩ := f1
    rintro e w10 ⟨rfl, hb10⟩
    have b10 := (b9.trans (hb10.mono b9.size)).alloc (Nat.le_trans b9.size hb10.size) (.cells #[.int .i64 fa, .int .i64 fb] 37)
    have HB10 := Lib.hid ((HB9.out.below hb10 HB9.out.lt).alloc (.cells #[.int .i64 fa, .int .i64 fb] 37))
    have HO10 := Lib.hid ((HO9.out.below hb10).below (bel1 w10 (.cells #[.int .i64 fa, .int .i64 fb] 37)))
    clear q0 q1 ql hb10 HB9 HO9
    obtain ⟨q0, q1, -, -, ql⟩ := HB10.out.two
    go_wp2_with fail
    generalize w10.alloc (.cells #[.int .i64 fa, .int .i64 fb] 37) = w11 at *
    refine (implLastStep kk A1 _ c1 _ l x _ HO10.out Hsm.out hs (HL.out _ b10)).mono ?_
    rw [Hsd.out 1, P1.out]
    generalize (sideStep kk l x 1).1 = f2
    obtain ⟨ga, gb⟩ := f2
    rintro e w12 ⟨rfl, hb12⟩
    have b12 := (b10.trans (hb12.mono b10.size)).alloc (Nat.le_trans b10.size hb12.size) (.cells #[.int .i64 ga, .int .i64 gb] 37)
    have HB12 := Lib.hid ((HB10.out.below hb12 HB10.out.lt).alloc (.cells #[.int .i64 ga, .int .i64 gb] 37))
    have HO12 := Lib.hid ((HO10.out.below hb12).below (bel1 w12 (.cells #[.int .i64 ga, .int .i64 gb] 37)))
    clear q0 q1 ql hb12 HB10 HO10
    obtain ⟨q0, q1, -, -, ql⟩ := HB12.out.two
    go_wp2_with fail
    generalize w12.alloc (.cells #[.int .i64 ga, .int .i64 gb] 37) = w13 at *
    refine (implCountReached kk A1 _ c1 _ l x _ HO12.out Hsm.out hs (HL.out _ b12)).mono ?_
    have hcn := Hcr.out
    generalize countS kk l x = cn at *
    obtain ⟨hc0, hc9⟩ := hcn
    rintro e w14 ⟨rfl, hb14⟩
    have b14 := b12.trans (hb14.mono b12.size)
    have HB14 := Lib.hid (HB12.out.below hb14 HB12.out.lt)
    have HO14 := Lib.hid (HO12.out.below hb14)
    clear q0 q1 ql hb14 HB12 HO12
    obtain ⟨q0, q1, -, -, ql⟩ := HB14.out.two
    go_wp2_with fail
    refine (implStepsOf kk A1 _ c1 _ l x _ HO14.out Hsm.out (by omega) (HL.out _ b14)).mono ?_
    rw [HXs.out]
    rintro e w15 ⟨v15, rfl, hO15, hb15⟩
    obtain ⟨A15, c15, rfl⟩ := hO15.form
    have b15 := b14.trans (hb15.mono b14.size)
    clear hb15 hO15
    go_wp2_with fail
    go_ret
    exact ⟨rfl, b15⟩
  · have hd : (x.toList == s.toList) = false := toList_ne hxn
    clear hxn
    by_cases hle : tr.length ≤ 1000
    · have P0 := Lib.hid p0
      have P1 := Lib.hid p1
      have Hr9 := Lib.hid (Hrt.out hle)
      clear p0 p1 Hfc Hrt
      generalize tr.length = m9 at *
      have hm0 : (((m9 : Nat) : Int) == 0) = false := beq_eq_false_iff_ne.2 (by omega)
      go_wp2_with fail
      refine (implRunSteps kk A1 A6 _ c1 _ _ c6 _ l s tr _ HO8.out Hsm.out hs HX8.out (HL.out _ b8)).mono ?_
      rw [Hr9.out]
      rintro e w9 ⟨rfl, hb9⟩
      have b9 := b8.trans (hb9.mono b8.size)
      have HB9 := Lib.hid (HB8.out.below hb9 HB8.out.lt)
      have HO9 := Lib.hid (HO8.out.below hb9)
      clear q0 q1 ql hb9 HB8 HO8 HX8
      obtain ⟨q0, q1, -, -, ql⟩ := HB9.out.two
      go_wp2_with fail
      refine (implFirstStep kk A1 _ c1 _ l s _ HO9.out Hsm.out hs (HL.out _ b9)).mono ?_
      rw [Hsd.out 0, P0.out]
      generalize (sideStep kk l s 0).1 = f1
      obtain ⟨fa, fb⟩ := f1
      rintro e w10 ⟨rfl, hb10⟩
      have b10 := (b9.trans (hb10.mono b9.size)).alloc (Nat.le_trans b9.size hb10.size) (.cells #[.int .i64 fa, .int .i64 fb] 37)
      have HB10 := Lib.hid ((HB9.out.below hb10 HB9.out.lt).alloc (.cells #[.int .i64 fa, .int .i64 fb] 37))
      have HO10 := Lib.hid ((HO9.out.below hb10).below (bel1 w10 (.cells #[.int .i64 fa, .int .i64 fb] 37)))
      clear q0 q1 ql hb10 HB9 HO9
      obtain ⟨q0, q1, -, -, ql⟩ := HB10.out.two
      go_wp2_with fail
      generalize w10.alloc (.cells #[.int .i64 fa, .int .i64 fb] 37) = w11 at *
      refine (implLastStep kk A1 _ c1 _ l s _ HO10.out Hsm.out hs (HL.out _ b10)).mono ?_
      rw [Hsd.out 1, P1.out]
      generalize (sideStep kk l s 1).1 = f2
      obtain ⟨ga, gb⟩ := f2
      rintro e w12 ⟨rfl, hb12⟩
      have b12 := (b10.trans (hb12.mono b10.size)).alloc (Nat.le_trans b10.size hb12.size) (.cells #[.int .i64 ga, .int .i64 gb] 37)
      have HB12 := Lib.hid ((HB10.out.below hb12 HB10.out.lt).alloc (.cells #[.int .i64 ga, .int .i64 gb] 37))
      have HO12 := Lib.hid ((HO10.out.below hb12).below (bel1 w12 (.cells #[.int .i64 ga, .int .i64 gb] 37)))
      clear q0 q1 ql hb12 HB10 HO10
      obtain ⟨q0, q1, -, -, ql⟩ := HB12.out.two
      go_wp2_with fail
      generalize w12.alloc (.cells #[.int .i64 ga, .int .i64 gb] 37) = w13 at *
      refine (implCountReached kk A1 _ c1 _ l s _ HO12.out Hsm.out hs (HL.out _ b12)).mono ?_
      have hcn := Hcr.out
      generalize countS kk l s = cn at *
      obtain ⟨hc0, hc9⟩ := hcn
      rintro e w14 ⟨rfl, hb14⟩
      have b14 := b12.trans (hb14.mono b12.size)
      have HB14 := Lib.hid (HB12.out.below hb14 HB12.out.lt)
      have HO14 := Lib.hid (HO12.out.below hb14)
      clear q0 q1 ql hb14 HB12 HO12
      obtain ⟨q0, q1, -, -, ql⟩ := HB14.out.two
      go_wp2_with fail
      refine (implStepsOf kk A1 _ c1 _ l x _ HO14.out Hsm.out (by omega) (HL.out _ b14)).mono ?_
      rw [HXs.out]
      rintro e w15 ⟨v15, rfl, hO15, hb15⟩
      obtain ⟨A15, c15, rfl⟩ := hO15.form
      have b15 := b14.trans (hb15.mono b14.size)
      clear hb15 hO15
      go_wp2_with fail
      go_ret
      exact ⟨rfl, b15⟩
    · clear p0 p1 Hfc Hrt
      generalize tr.length = m9 at *
      have hm0 : (((m9 : Nat) : Int) == 0) = false := beq_eq_false_iff_ne.2 (by omega)
      go_wp2_with fail
      go_ret
      exact ⟨rfl, b8⟩
set_option maxRecDepth 100000 in
theorem contract (H : Type) (enc : TypeId × Value → H) (W : World) (base : Nat) (args : Array Value) (ds gs : List (DataW H)) (before : List MemPlace)
    (hval : ∀ (j : Nat) t v, Tryd.f3.params[j]? = some t → args[j]? = some v → Value.okWide Tryd.prog W .any base t v)
    (hW : DataW.Whole enc Tryd.prog Tryd.f3.params.toList Rows.fnReduceSpec.vars false W args.toList ds gs before) (hL : laidMetH Tryd.prog Rows.fnReduceRow.laid W) :
    Calls Tryd.prog 3 args W fun e W' => ∃ v, e = .returned v ∧ Rows.fnReduceSpec.post enc Tryd.prog Tryd.f3 false true false false W args v W' := by
  have hW' := hW
  have hL' : laidMet Tryd.prog [("loop.example/g03201/impl.letters", Rows.laid_loop_example_g03201_impl_letters)] W := hL
  obtain ⟨p, q, hA0, hV, rfl, hfz, hnd⟩ := hW
  obtain ⟨g0, rfl⟩ := vars_len1 (trodVars_len hV)
  have hA : DataW.TrodAll enc Tryd.prog W 0 (fun _ => true) true Tryd.f3.params.toList args.toList ds p := hA0
  rw [Tryd.params3] at hA hval
  obtain ⟨v0, vs0, d0, ds0, p0, q0, hargs, rfl, rfl, h0, r0⟩ := trodAll_cons hA
  obtain ⟨rfl, rfl, rfl⟩ := trodAll_nil r0
  obtain rfl : args = #[v0] := by first | exact Array.toList_inj.1 hargs | exact Array.toList_inj.1 hargs.symm | (cases args; simp_all)
  obtain ⟨A0, n0, c0, rfl, B0⟩ := open_bytes Tryd.underlying22 Tryd.underlying5 (by kernel_rfl) (hval 0 22 v0 rfl rfl) h0
  refine (walk A0 n0 c0 W B0 (let_of hL')).mono fun e W' ⟨he, hb⟩ => ?_
  subst he
  exact ⟨_, rfl, law_postV hW' rfl rfl Tryd.underlying4 laidOut (by kernel_rfl) (by kernel_rfl) hb⟩

theorem laid_met (os : Os) : laidMet Tryd.prog Rows.fnReduceRow.laid ((laidWorld os).forCall (fun _ _ => 0) ⟨#[], #[.slice none 0 0], []⟩).memory :=
  laidMet_of_run' 8 (by kernel_rfl) (by kernel_rfl)
theorem reads (os : Os) {H : Type} (enc : TypeId × Value → H) : ∃ places, DataW.whole enc Tryd.prog ((laidWorld os).forCall (fun _ _ => 0) ⟨#[], #[.slice none 0 0], []⟩).memory Tryd.f3.params.toList Rows.fnReduceSpec.vars false (#[.slice none 0 0] : Array Value).toList 8 = some ([.nil], [Rows.laid_loop_example_g03201_impl_letters], places) :=
  ⟨MemPlace.row ⟨0, 0, none⟩ 4, by kernel_rfl⟩
set_option maxRecDepth 100000 in
theorem lifted (os : Os) (started : os.Started) (H : Type) (enc : TypeId × Value → H) (F : Stop.Interp) :
    ReturnsInHanded {} Tryd.checked os 3 .any ((OpenSpec.ofChange Rows.fnReduceSpec).preRow enc Tryd.prog Tryd.f3 Rows.fnReduceRow.domain false Rows.fnReduceRow.laid) (((OpenSpec.ofChange Rows.fnReduceSpec).at F).post enc Tryd.prog Tryd.f3 false true false false) := by
  obtain ⟨places, hx⟩ := reads os enc
  refine returnsInHanded_of_row (C := Tryd.checked) (s := OpenSpec.ofChange Rows.fnReduceSpec) own started (by kernel_rfl) Tryd.func3
    (witness_row_at (enc := enc) (C := Tryd.checked) false (laidWorld os) #[.slice none 0 0] rfl (by kernel_rfl) (by kernel_rfl) (by kernel_rfl)
      (OpenSpec.preRow_of_cond 8 hx (by kernel_rfl) (fun k hk => by cases hk) (by kernel_rfl) (laid_met os))) ?_
  intro W base args ds gs before hval hW _ _ _ hL _ _
  exact contract H enc W base args ds gs before hval hW hL
theorem said : Rows.FnReduceSaid :=
  OpenClaim.holds_of_cond 3 Tryd.f3 rfl rfl rfl rfl rfl rfl rfl ⟨rfl, rfl, rfl, rfl, rfl⟩ rfl rfl rfl rfl rfl (by kernel_rfl) Tryd.func3 (by kernel_rfl)
    (of_decide_eq_true (by kernel_rfl)) (by unfold Func.isWrapper; first | (rw [if_pos (by decide +kernel)]; kernel_rfl) | (rw [if_neg (by decide +kernel)]; exact ⟨rfl, rfl⟩))
    (fun os started H enc _ F => by rw [OpenClaim.pre_eq_preRow]; exact lifted os started H enc F)
theorem plain (f : FuncId) (fn : Func) (hf : Tryd.pinned.checked.prog.funcNamed Rows.fnReduceRow.func = some f) (hfn : Tryd.pinned.checked.prog.funcs[f]? = some fn) :
    false = Tryd.pinned.checked.prog.looks [] ∧ ∀ (j : Nat) t, fn.params[j]? = some t → Tryd.pinned.checked.prog.wantsStandIn t = false := by
  obtain rfl : f = 3 := Option.some.inj ((show Tryd.prog.funcNamed Rows.fnReduceRow.func = some 3 by kernel_rfl).symm.trans hf) |>.symm
  obtain rfl : fn = Tryd.f3 := (Option.some.inj (Tryd.func3.symm.trans hfn)).symm
  refine ⟨by kernel_rfl, fun j t ht => ?_⟩
  rw [Tryd.params3] at ht
  match j, ht with
  | 0, ht => (simp at ht; subst ht; exact (show Tryd.prog.wantsStandIn 22 = false by kernel_rfl))
  | n + 1, ht => simp at ht
theorem proved : Rows.FnReduceCardSaid :=
  Claim7.holds_tied_plain_at .later [] _ _ _ _ said (fun _ h => by cases h) (by kernel_rfl) (fun _ h => by cases h) fnReduce_row_tie rfl ⟨rfl, rfl⟩ (by kernel_rfl) rfl plain (by kernel_rfl)
end Go.Proofs.YtjndopogjiacpaaDoor.fnReduce

