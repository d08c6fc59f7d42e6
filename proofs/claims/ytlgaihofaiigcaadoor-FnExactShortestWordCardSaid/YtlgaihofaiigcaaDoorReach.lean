/- The program's search for the values of all words: reached. -/
import Derived.Test.YtlgaihofaiigcaaDoorSrchPlain
import Derived.Test.YtlgaihofaiigcaaDoorImplMean
import Derived.Test.YtlgaihofaiigcaaDoorImplSub
import Derived.Test.YtlgaihofaiigcaaDoorLengthened
namespace Go.Proofs.YtlgaihofaiigcaaDoor
open Go.RowKit

def wordQ (Q : List VW) : List ByteArray := Q.map fun v => bytesOf v.2
theorem wordQ_length (Q : List VW) : (wordQ Q).length = Q.length := by simp [wordQ]
theorem wordQ_snoc (Q : List VW) (z : Nat) (u : List UInt8) : wordQ (Q ++ [(z, u)]) = wordQ Q ++ [bytesOf u] := by simp [wordQ]
theorem valQ_length (Q : List VW) : (valQ Q).length = Q.length := by simp [valQ]
theorem bytesOf_snoc (u : List UInt8) (c : UInt8) : bytesOf (u ++ [c]) = bytesOf u ++ ⟨#[c]⟩ := by
  apply ByteArray.ext
  simp [bytesOf]
theorem bytesOf_size (u : List UInt8) : (bytesOf u).size = u.length := by simp [bytesOf, ByteArray.size]
theorem rows_apart {w : World} {base base' : Nat} {e e' : TypeId} {s s' : Nat} {v v' : Value} {k k' : Nat} {xs xs' : List Value} (h : w.ownsRow base e s v k xs) (h' : w.ownsRow base' e' s' v' k' xs') (ht : e ≠ e') : v.ownBlock = none ∨ v.ownBlock ≠ v'.ownBlock := by
  rcases h.2 with ⟨rfl, _⟩ | ⟨g, cap, cur, rfl, hg, hh, r⟩
  · left; simp [Value.ownBlock]
  · right
    rcases h'.2 with ⟨rfl, _⟩ | ⟨g', cap', cur', rfl, hg', hh', r'⟩
    · simp [Value.ownBlock]
    · intro x
      simp only [Value.ownBlock, Option.some.injEq] at x
      subst x
      rw [hh] at hh'
      simp only [Option.some.injEq, Obj.cells.injEq] at hh'
      exact ht hh'.2.1
/-- The rows of a search. -/
structure SrchAt (B : Nat) (w : World) (vv vw : Value) (Q : List VW) : Prop where
  vs : w.ownsRow B 3 1 vv Q.length (ints (nints (valQ Q)))
  ws : w.ownsRow B 9 1 vw Q.length (strs (wordQ Q))
section
variable {B : Nat} {w w' : World} {vv vw : Value} {Q : List VW}
theorem SrchAt.below (h : SrchAt B w vv vw Q) (hb : Below w.heap.size w w') : SrchAt B w' vv vw Q := ⟨row_below h.vs hb, row_below h.ws hb⟩
/-- The value and the word of place j. -/
theorem SrchAt.at_ (h : SrchAt B w vv vw Q) {j x : Nat} {u : List UInt8} (hj : Q[j]? = some (x, u)) :
    ∃ g1 o1 c1 g2 o2 c2, vv = .slice (some ⟨g1, o1, none⟩) Q.length c1 ∧ vw = .slice (some ⟨g2, o2, none⟩) Q.length c2 ∧ j < Q.length ∧ w.cell? ⟨g1, o1 + j, none⟩ = some (.int .i64 (x : Int)) ∧ w.cell? ⟨g2, o2 + j, none⟩ = some (.string (bytesOf u)) := by
  have hlt : j < Q.length := (List.getElem?_eq_some_iff.1 hj).1
  obtain ⟨g1, o1, c1, e1, -, -, x1⟩ := row_nat h.vs (j := j) (x := x) (by simp [valQ, hj])
  have hw := Own.of_row h.ws
  obtain ⟨g2, o2, c2, e2⟩ := hw.formR (by omega)
  subst e2
  obtain ⟨g3, o3, e3, -, -, hc⟩ := hw.str (by omega)
  obtain ⟨rfl, rfl⟩ : g2 = g3 ∧ o2 = o3 := by injection e3 with e3; injection e3 with a b; exact ⟨a, b⟩
  obtain ⟨s, hs, x2, -⟩ := hc j hlt
  simp only [wordQ, List.getElem?_map, hj, Option.map_some, Option.some.injEq] at hs
  subst hs
  exact ⟨g1, o1, c1, g2, o2, c2, e1, rfl, hlt, x1, x2⟩
end
theorem srch_next {w w6 w9 : World} {v9 : Value} {A6 : Option Addr} {g2 o2 d2 c6 z k : Nat} {u : List UInt8} {s : ByteArray} {Q2 Q3 : List VW} (hV : w6.ownsRow w.heap.size 3 1 (.slice A6 (Q2.length + 1) c6) (Q2.length + 1) (ints (nints (valQ Q2 ++ [z]))))
    (hR : (w6.alloc (.cells #[.string s] 9)).drew.ownsRow w.heap.size 9 1 (.slice (some ⟨g2, o2, none⟩) Q2.length d2) Q2.length (strs (wordQ Q2)))
    (hown9 : w9.ownsRow w.heap.size 9 1 v9 (Q2.length + 1) (strs (wordQ Q2) ++ [.string s]))
    (hgrow9 : (w6.alloc (.cells #[.string s] 9)).drew.grownBy w9 (Value.slice (some ⟨g2, o2, none⟩) Q2.length d2).ownBlock) (hb6 : Below w.heap.size w w6) (hbs6 : w.heap.size ≤ w6.heap.size)
    (hw : bytesOf (u ++ [UInt8.ofNat (97 + k)]) = s) (hq : Q3 = Q2 ++ [(z, u ++ [UInt8.ofNat (97 + k)])]) : SrchAt w.heap.size w9 (.slice A6 (Q2.length + 1) c6) v9 Q3 ∧ Below w.heap.size w w9 := by
  have hV9 : w9.ownsRow w.heap.size 3 1 (.slice A6 (Q2.length + 1) c6) (Q2.length + 1) (ints (nints (valQ Q2 ++ [z]))) :=
    World.ownsRow.kept (ownsRow_below hV (bel1 w6 _).drew) hgrow9 (rows_apart (ownsRow_below hV (bel1 w6 _).drew) hR (by decide))
  have hb9 : Below w.heap.size w w9 := (hb6.trans ((bel1 w6 (.cells #[.string s] 9)).drew.mono hbs6)).grown hgrow9 (by simp; omega) (fun j hj => by have := ownsRow_ge hR hj.symm; omega)
  refine ⟨?_, hb9⟩
  subst hq
  refine ⟨?_, ?_⟩
  · rw [List.length_append, List.length_singleton, valQ_snoc]; exact hV9
  · rw [List.length_append, List.length_singleton, wordQ_snoc, hw]; simpa [strs] using hown9
theorem letter_utf8 (q : Nat) (h : q < 4) : Utf8.encode (97 + (q : Int)) = ⟨#[UInt8.ofNat (97 + q)]⟩ := by
  match q, h with
  | 0, _ => decide +kernel
  | 1, _ => decide +kernel
  | 2, _ => decide +kernel
  | 3, _ => decide +kernel
set_option maxRecDepth 100000 in
set_option maxHeartbeats 3200000 in
theorem reached_any (g N B m c : Nat) (A : Option Addr) (xs : List Int) (I : List Nat) (w : World) (h : Means B w (.slice A m c) g N xs I) (hT : TabOk N xs) (hI : ∀ i ∈ I, i < N) (hI4 : I.length ≤ 4) (hmI : m = I.length) (hlet : Let w) :
    Calls Tryd.prog 55 #[.slice A m c] w fun e w' => ∃ vv vw, e = .returned (.tuple #[vv, vw]) ∧ SrchAt w.heap.size w' vv vw (srch N xs I) ∧ Below w.heap.size w w' := by
  obtain ⟨i0, hi0, hz0, hz1, hz2⟩ := infoR_parts infoInt
  obtain ⟨j0, hj0, jz0, jz1, jz2⟩ := infoR_parts infoStr
  have HF := Lib.hid (fun (w' : World) (hb : Below w.heap.size w w') => h.below hb)
  have HL := Lib.hid (fun (w' : World) (hb : Below w.heap.size w w') => hlet.keep hb (Nat.le_refl _))
  have HT := Lib.hid hT
  have HI := Lib.hid hI
  have HmI := Lib.hid hmI
  have h40 := hT.hi
  have hm4 : m ≤ 4 := by omega
  clear h hT hI hlet hmI
  go_enter Tryd.func55, Tryd.ntmps55
  go_wp2_with fail
  have b0 := bel2 w (.cells #[.int .i64 0] 3) (.cells #[.string ⟨#[]⟩] 9)
  have HS0 : Hid (SrchAt w.heap.size ((w.alloc (.cells #[.int .i64 0] 3)).alloc (.cells #[.string ⟨#[]⟩] 9)) (.slice (some ⟨w.heap.size, 0, none⟩) 1 1) (.slice (some ⟨w.heap.size + 1, 0, none⟩) 1 1) (srchTo N xs I 0)) := by
    refine ⟨row_below (row_new w #[.int .i64 0] 1 3 rfl (by unfold maxLen; omega)) (bel1 _ _), ?_⟩
    have h2 := row_new (w.alloc (.cells #[.int .i64 0] 3)) #[.string ⟨#[]⟩] 1 9 rfl (by unfold maxLen; omega)
    rw [World.size_alloc] at h2
    exact row_mono h2 (by omega)
  generalize (w.alloc (.cells #[.int .i64 0] 3)).alloc (.cells #[.string ⟨#[]⟩] 9) = w0 at *
  go_loopw [4, 5, 6] (fun vv vw n' wr => ∃ a : Nat, n' = .int .i64 a ∧ a ≤ (srchTo N xs I a).length ∧ Hid (SrchAt w.heap.size wr vv vw (srchTo N xs I a)) ∧ Below w.heap.size w wr) (fun _ _ n' _ => N - (intOf n').toNat)
  case atStart => exact ⟨0, rfl, Nat.zero_le _, HS0, b0⟩
  case round =>
    obtain ⟨a, rfl, ha, HS, hb⟩ := hrel
    have Hgood := Lib.hid (srchTo_good (a := a) HT.out HI.out)
    have hlen := Hgood.out.len
    obtain ⟨A1, c1, e1⟩ := (Own.of_row HS.out.vs).form
    obtain ⟨A2, c2, e2⟩ := (Own.of_row HS.out.ws).form
    subst e1 e2
    by_cases hlt : a < (srchTo N xs I a).length
    · obtain ⟨x, u, hx⟩ : ∃ x u, (srchTo N xs I a)[a]? = some (x, u) := ⟨(srchTo N xs I a)[a].1, (srchTo N xs I a)[a].2, List.getElem?_eq_getElem hlt⟩
      have Hx := Lib.hid hx
      have Hst := Lib.hid (srchTo_step hx)
      have HxN := Lib.hid (Hgood.out.lt _ (List.mem_of_getElem? hx))
      have Hul := Lib.hid (Hgood.out.ln _ _ hx)
      have HSr : Hid (SrchAt w.heap.size wr (.slice A1 (srchTo N xs I a).length c1) (.slice A2 (srchTo N xs I a).length c2) (prodTo N xs I (srchTo N xs I a) x u 0)) := HS
      have Hgd := Lib.hid (fun k => Hgood.out.row HT.out HI.out hx k)
      have Hpre := Lib.hid (fun k => prodTo_pre (N := N) (xs := xs) (I := I) (srchTo N xs I a) x u k)
      clear hx HS
      generalize srchTo N xs I a = Q at *
      go_wp2_with fail
      go_loopw [4, 5, 20] (fun vv vw i' wr => ∃ k : Nat, i' = .int .i64 k ∧ k ≤ m ∧ Hid (SrchAt w.heap.size wr vv vw (prodTo N xs I Q x u k)) ∧ Below w.heap.size w wr) (fun _ _ i' _ => m - (intOf i').toNat)
      case atStart => exact ⟨0, rfl, Nat.zero_le _, HSr, hb⟩
      case round =>
        clear HSr hb
        obtain ⟨k, rfl, hk, HS, hb⟩ := hrel
        have hbs := hb.size
        by_cases hkl : k < m
        · obtain ⟨i, hi⟩ : ∃ i, I[k]? = some i := ⟨I[k]'(by have := HmI.out; omega), List.getElem?_eq_getElem _⟩
          have HiN := Lib.hid (HI.out i (List.mem_of_getElem? hi))
          have Hps := Lib.hid (show prodTo N xs I Q x u (k + 1) = addV (prodTo N xs I Q x u k) (tmul N xs x i) (u ++ [UInt8.ofNat (97 + k)]) by rw [prodTo, List.getD_eq_getElem?_getD, hi, Option.getD_some])
          obtain ⟨qb, off, bm, b, rfl, -, hjm, x0, hM, hP, hB⟩ := (HF.out _ hb).at_ hi
          have hgd := Hgd.out k
          have hlen2 := hgd.len
          have hQx : (prodTo N xs I Q x u k)[a]? = some (x, u) := by
            obtain ⟨t, e⟩ := Hpre.out k
            rw [e, List.getElem?_append_left hlt]; exact Hx.out
          have hpre2 := Hpre.out k
          generalize prodTo N xs I Q x u k = Q2 at *
          obtain ⟨g1, o1, d1, g2, o2, d2, e1, e2, hal, x1, x2⟩ := HS.out.at_ hQx
          subst e1 e2
          obtain ⟨z, hz⟩ : ∃ z, tmul N xs x i = z := ⟨_, rfl⟩
          have HMF := Lib.hid (meanF_any bm b g N x i xs wr hM hP hB HT.out HxN.out HiN.out)
          rw [hz] at HMF Hps
          have HzN : Hid (z < N) := by rw [← hz]; exact HT.out.lt HxN.out HiN.out
          clear hM hP hB hi hz hQx hgd
          go_wp2_with fail
          refine HMF.out.mono ?_
          rintro e w2 ⟨rfl, p, hw2⟩
          have hbw2 : Below wr.heap.size wr w2 := by rw [hw2]; exact below_drewN (Below.refl _ _) p
          have HS2 := Lib.hid (HS.out.below hbw2)
          have hb2 := hb.trans (hbw2.mono hbs)
          clear hw2 HS x0 x1 x2 HMF hbw2 hb
          go_wp2_with fail
          refine (containsInt_any _ _ d1 _ z (valQ Q2) _ (Own.of_row HS2.out.vs)).mono ?_
          rintro e w3 ⟨rfl, hbw3⟩
          have HS3 := Lib.hid (HS2.out.below hbw3)
          have hb3 := hb2.trans (hbw3.mono hb2.size)
          have hbs3 := hb3.size
          clear hbw3 HS2 hb2
          by_cases hmem : z ∈ valQ Q2
          · have hmb : memB (valQ Q2) z = true := decide_eq_true hmem
            have HX : Hid (SrchAt w.heap.size w3 (.slice (some ⟨g1, o1, none⟩) Q2.length d1) (.slice (some ⟨g2, o2, none⟩) Q2.length d2) (prodTo N xs I Q x u (k + 1))) := by
              show SrchAt _ _ _ _ _
              rw [Hps.out, addV, if_pos hmem]; exact HS3.out
            rw [hmb]
            clear hmem hmb HS3
            go_wp2_with fail
            go_roundw
            case rel => exact ⟨k + 1, by go_num, by omega, HX, hb3⟩
            case measure => simp [intOf]; omega
          · have hmb : memB (valQ Q2) z = false := decide_eq_false hmem
            have Hnx := Lib.hid (show prodTo N xs I Q x u (k + 1) = Q2 ++ [(z, u ++ [UInt8.ofNat (97 + k)])] by rw [Hps.out, addV, if_neg hmem])
            have Hn2 := Lib.hid (Hgd.out (k + 1))
            rw [Hnx.out] at Hn2
            have hlen3 : Q2.length + 1 ≤ N := by have := Hn2.out.len; simpa using this
            have hub : (bytesOf u).size ≤ 40 := by rw [bytesOf_size]; have := Hul.out; omega
            obtain ⟨bb, hbs, hbx, hcv⟩ := letter_text k (by omega)
            have Hw := Lib.hid (show bytesOf (u ++ [UInt8.ofNat (97 + k)]) = bytesOf u ++ bb by rw [bytesOf_snoc, hbx])
            have HQx : Hid (Q2[a]? = some (x, u)) := by
              show _ = _
              have hX := Hx.out
              obtain ⟨t2, e2⟩ := hpre2
              rw [e2, List.getElem?_append_left hlt]; exact hX
            have e8 : Utf8.encode (IntKind.i32.wrap (97 + (k : Int))) = bb := by rw [IntWalk.i32_in _ ⟨by omega, by omega⟩, letter_utf8 k (by omega), hbx]
            have e9 : ¬ (9223372036854775807 < (bytesOf u).size + 1) := by omega
            rw [hmb]
            clear hmem hmb hbx
            go_wp2_with (at_builtin; refine wpList_append_own _ rfl _ _ 22 rfl w.heap.size 3 i0 (.int .i64 0) 1 8 Tryd.underlying22 hi0 hz0 hz1 hz2 rfl (by decide) _ _ _ rfl (HS3.out.vs.alloc _) ⟨w3.heap.size, 0, none⟩ 1 1 [.int .i64 (z : Int)] rfl rfl ?c1 ?c2 ?c3 ?c4 ?c5 ?_)
            case c1 => intro j v hj; match j, hj with | 0, hj => (simp at hj; subst hj; simp [Addr.add])
            case c2 => intro v hv; simp at hv; subst hv; rfl
            case c3 => unfold maxLen; omega
            case c4 => omega
            case c5 => simp; omega
            intro v' w6 hown' hgrow _
            have HV6 : Hid (w6.ownsRow w.heap.size 3 1 v' (Q2.length + 1) (ints (nints (valQ Q2 ++ [z])))) := by
              show World.ownsRow _ _ _ _ _ _ _
              rw [nints_snoc]; simpa [ints] using hown'
            have HW6 : Hid (w6.ownsRow w.heap.size 9 1 (.slice (some ⟨g2, o2, none⟩) Q2.length d2) Q2.length (strs (wordQ Q2))) :=
              World.ownsRow.kept (HS3.out.ws.alloc _) hgrow (rows_apart HS3.out.ws HS3.out.vs (by decide))
            have hb6 : Below w.heap.size w w6 := grown_one HS3.out.vs hgrow hb3 (Nat.le_refl _) hbs3
            have hbs6 := hb6.size
            obtain ⟨A6, c6, e6⟩ := (Own.of_row HV6.out).form
            subst e6
            clear hown' hgrow HS3
            obtain ⟨g3, o3, e3, -, -, hcell⟩ := (Own.of_row HW6.out).str (by omega)
            obtain ⟨rfl, rfl⟩ : g2 = g3 ∧ o2 = o3 := by injection e3 with e3; injection e3 with a b; exact ⟨a, b⟩
            obtain ⟨s6, hs6, x2, -⟩ := hcell a hal
            simp only [wordQ, List.getElem?_map, HQx.out, Option.map_some, Option.some.injEq] at hs6
            subst hs6
            have hc := (HL.out _ hb6).cell k (by omega)
            have HR8 : Hid ((w6.alloc (.cells #[.string (bytesOf u ++ bb)] 9)).drew.ownsRow w.heap.size 9 1 (.slice (some ⟨g2, o2, none⟩) Q2.length d2) Q2.length (strs (wordQ Q2))) := ownsRow_below HW6.out (bel1 w6 _).drew
            have hnews : ∀ i y, [Value.string (bytesOf u ++ bb)][i]? = some y → (w6.alloc (.cells #[.string (bytesOf u ++ bb)] 9)).drew.cell? ((⟨w6.heap.size, 0, none⟩ : Addr).add i) = some y := fun i y hy => by
              match i, hy with
              | 0, hy => simp at hy; subst hy; exact (Blk.new1 w6 _ _).cell 0
            have hone : ∀ y ∈ [Value.string (bytesOf u ++ bb)], y.oneCell' = true := fun y hy => by simp at hy; subst hy; rfl
            have hk0 : (0 : Int) ≤ (k : Int) := by omega
            have hk4 : (k : Int) < 4 := by omega
            have ha0 : (0 : Int) ≤ (a : Int) := by omega
            have hal2 : (a : Int) < (Q2.length : Int) := by omega
            clear hcell e3
            go_wp2_with fail
            go_region_law (refine (id ?_); rw [if_pos (by simp [Region.wanted])]; refine wp_append_lies _ (.tmp 39) (.tmp 50) 79 rfl w.heap.size 9 j0 (.string ⟨#[]⟩) 1 16 Tryd.underlying79 hj0 jz0 jz1 jz2 rfl (by omega) (.slice (some ⟨g2, o2, none⟩) Q2.length d2) Q2.length (strs (wordQ Q2)) (by first | rfl | simp [Act.eval, Act.put]) HR8.out ⟨w6.heap.size, 0, none⟩ 1 1 [.string (bytesOf u ++ bb)] (by first | rfl | simp [Act.eval, Act.put]) rfl hnews hone (by omega) (by unfold maxLen; omega) (by omega) (by simp; omega) (w6.heap.size + 1) (by simp) ?_; intro g9 c9 w9 hown9 hgrow9 hat9 hlt9)
            all_goals (have HX9 := srch_next HV6.out HR8.out hown9 hgrow9 hb6 hbs6 Hw.out Hnx.out)
            all_goals obtain ⟨HX9, hb9⟩ := HX9
            all_goals (have HX9 := Lib.hid HX9)
            all_goals clear hown9 hgrow9 hat9 hlt9 HV6 HW6 HR8 hb6
            all_goals go_wp2_with fail
            all_goals go_roundw
            all_goals first
              | exact ⟨k + 1, by go_num, by omega, HX9, hb9⟩
              | (simp [intOf]; omega)
        · obtain rfl : m = k := by omega
          have HX : Hid (SrchAt w.heap.size wr u4 u5 (srchTo N xs I (a + 1))) := by
            show SrchAt _ _ _ _ _
            rw [Hst.out, ← HmI.out]; exact HS.out
          have hln : a + 1 ≤ (srchTo N xs I (a + 1)).length := by
            rw [Hst.out]
            obtain ⟨t2, e2⟩ := Hpre.out I.length
            rw [e2, List.length_append]; omega
          go_wp2_with fail
          go_roundw
          case rel => exact ⟨a + 1, by go_num, hln, HX, hb⟩
          case measure => simp [intOf]; omega
    · have He := Lib.hid (srch_eq (N := N) (xs := xs) (I := I) (a := a) (by omega) (by omega))
      generalize srchTo N xs I a = Q at *
      go_wp2_with fail
      go_ret2
      exact ⟨_, _, rfl, by rw [He.out]; exact HS.out, hb⟩
end Go.Proofs.YtlgaihofaiigcaaDoor
