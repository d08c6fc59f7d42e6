/- The model's ReachedBy, ShortestWord. -/
import Derived.Test.YtlgaihofaiigcaaDoorSpecMean
import Derived.Test.YtlgaihofaiigcaaDoorSpecSub
import Derived.Test.YtlgaihofaiigcaaDoorImplSrch
import Derived.Test.YtlgaihofaiigcaaDoorOneByte
namespace Go.Proofs.YtlgaihofaiigcaaDoor
open Go.RowKit

theorem one_byte_on {P : Program} {src dst e : TypeId} (hs : P.underlying src = some (.slice e)) (he : P.underlying e = some (.int .u8)) (hd : P.underlying dst = some .string) (w : World) (g : Nat) (n : Int) (h0 : 0 ≤ n) (h1 : n < 256) (hc : w.cell? ⟨g, 0, none⟩ = some (.int .u8 n)) :
    (convert src dst (.slice (some ⟨g, 0, none⟩) 1 1)).run P w = .ok (.string ⟨#[UInt8.ofNat n.toNat]⟩) w := by
  exact run_convert_bytes_back (P := P) w src dst e ⟨g, 0, none⟩ 1 [UInt8.ofNat n.toNat] hs he hd (fun j hj => by
    obtain rfl : j = 0 := by simpa using hj
    have hn : ((UInt8.ofNat n.toNat).toNat : Int) = n := by
      rw [UInt8.toNat_ofNat']; omega
    have e0 : (⟨g, 0, none⟩ : Addr).add 0 = ⟨g, 0, none⟩ := rfl
    rw [e0, hc]
    show _ = some (Value.int .u8 ((UInt8.ofNat n.toNat).toNat : Int))
    rw [hn])
/-- A row of n strings. -/
def sl (n : Nat) (f : Nat → ByteArray) : List Value := (List.range n).map fun j => .string (f j)
theorem sl_length (n : Nat) (f : Nat → ByteArray) : (sl n f).length = n := by simp [sl]
theorem sl_get {n : Nat} {f : Nat → ByteArray} {j : Nat} (h : j < n) : (sl n f)[j]? = some (.string (f j)) := by simp [sl, h]
theorem sl_set (n : Nat) (f : Nat → ByteArray) (i : Nat) (b : ByteArray) : (sl n f).set i (.string b) = sl n (fun j => if j = i then b else f j) := by
  apply List.ext_getElem?
  intro j
  rw [List.getElem?_set]
  by_cases hj : j < n
  · by_cases e : i = j
    · subst e; rw [if_pos rfl, if_pos (by rw [sl_length]; exact hj), sl_get hj]; simp
    · rw [if_neg e, sl_get hj, sl_get hj, if_neg (by omega)]
  · have h1 : (sl n f)[j]? = none := List.getElem?_eq_none (by rw [sl_length]; omega)
    have h2 : (sl n (fun j => if j = i then b else f j))[j]? = none := List.getElem?_eq_none (by rw [sl_length]; omega)
    by_cases e : i = j
    · subst e; rw [if_pos rfl, if_neg (by rw [sl_length]; exact hj), h2]
    · rw [if_neg e, h1, h2]
theorem sl_congr {n : Nat} {f g : Nat → ByteArray} (h : ∀ j, j < n → f j = g j) : sl n f = sl n g := by
  apply List.map_congr_left
  intro j hj
  rw [h j (by simpa using hj)]
/-- Block b is a row of n strings. -/
def Wrds (w : World) (b n : Nat) (f : Nat → ByteArray) : Prop := Blk w b 9 (sl n f).toArray
theorem Wrds.new (w : World) (n : Nat) : Wrds (w.alloc (.cells (madeCells #[.string ⟨#[]⟩] n) 9)) w.heap.size n (fun _ => ⟨#[]⟩) := by
  have e : madeCells #[Value.string ⟨#[]⟩] n = (sl n (fun _ => ⟨#[]⟩)).toArray := by
    apply Array.ext
    · simp [madeCells, sl]
    · intro i h1 h2; simp [madeCells, sl, Nat.mod_one]
  unfold Wrds; rw [e]; exact Blk.new1 _ _ _
section
variable {w w' : World} {b n : Nat} {f : Nat → ByteArray}
theorem Wrds.lt (h : Wrds w b n f) : b < w.heap.size := Blk.lt h
theorem Wrds.cell (h : Wrds w b n f) {j : Nat} (hj : j < n) : w.cell? ⟨b, j, none⟩ = some (.string (f j)) ∧ w.frozen? ⟨b, j, none⟩ = false := by
  refine ⟨(Blk.cell h j).trans ?_, Blk.frozen h j⟩
  rw [List.getElem?_toArray, sl_get hj]
theorem Wrds.set_ (h : Wrds w b n f) (i : Nat) (v : ByteArray) : Wrds (w.setCell ⟨b, i, none⟩ (.string v)) b n (fun j => if j = i then v else f j) := by
  have h2 := Blk.set_ h i (.string v)
  rwa [List.setIfInBounds_toArray, sl_set] at h2
theorem Wrds.congr {f' : Nat → ByteArray} (h : Wrds w b n f) (e : ∀ j, j < n → f j = f' j) : Wrds w b n f' := by
  unfold Wrds at h ⊢; rwa [sl_congr e] at h
theorem Wrds.below (h : Wrds w b n f) (hb : Below w.heap.size w w') : Wrds w' b n f := (hb.block b h.lt).trans h
theorem Wrds.far (h : Wrds w b n f) {p : Addr} (hp : b ≠ p.block) (u : Value) : Wrds (w.setCell p u) b n f := Blk.far h hp u
theorem Bits.far {f : Nat → Bool} (h : Bits w b n f) {p : Addr} (hp : b ≠ p.block) (u : Value) : Bits (w.setCell p u) b n f := Blk.far h hp u
theorem Wrds.own (h : Wrds w b n f) (hn : n ≤ maxLen) {B : Nat} (hB : B ≤ b) : Own B w (.slice (some ⟨b, 0, none⟩) n n) 1 n (sl n f) := by
  refine ⟨by rw [sl_length]; omega, _, n, rfl, Nat.le_refl _, hn, fun _ => ⟨b, 0, rfl, hB, h.lt, fun j hj => ?_⟩⟩
  rw [sl_length] at hj
  rw [Nat.zero_add, sl_get hj]
  exact h.cell hj
end
theorem run_makeStrs (u : World) (n : Nat) (hn : n ≤ 1048576) : (Instr.makeSlice 79 (.int .i64 (n : Int)) (.int .i64 (n : Int))).run Tryd.prog u =
      .ok (.slice (some ⟨u.heap.size, 0, none⟩) n n) (u.alloc (.cells (madeCells #[.string ⟨#[]⟩] n) 9)) := by
  obtain ⟨i0, hi, hz0, hz1, hz2⟩ := infoR_parts infoStr
  have h := run_make (P := Tryd.prog) u 79 9 i0 (.string ⟨#[]⟩) Tryd.underlying79 hi hz0 .i64 .i64 (n : Int) (n : Int) (by omega) (Int.le_refl _) (by rw [hz2]; omega) (by omega)
  simpa [hz1, Value.cells] using h
/-- The words by their values. -/
def wordF (Q : List VW) (i : Nat) : ByteArray := ((wordAt Q i).map bytesOf).getD ⟨#[]⟩
theorem wordF_start (i : Nat) : wordF [(0, [])] i = ⟨#[]⟩ := by
  unfold wordF wordAt
  by_cases h : i = 0
  · subst h; rfl
  · have : ((0 : Nat) == i) = false := by simp; omega
    simp [this]
theorem wordF_at {N : Nat} {Q : List VW} (h : Good N Q) {j x : Nat} {u : List UInt8} (hj : Q[j]? = some (x, u)) : wordF Q x = bytesOf u := by
  unfold wordF
  rw [(wordAt_at h hj).2]; rfl
theorem wordF_add {Q : List VW} {z : Nat} {u : List UInt8} (hz : z ∉ valQ Q) (j : Nat) : wordF (Q ++ [(z, u)]) j = if j = z then bytesOf u else wordF Q j := by
  unfold wordF wordAt
  rw [List.find?_append]
  by_cases e : j = z
  · subst e
    rw [if_pos rfl]
    have h1 : Q.find? (fun v => v.1 == j) = none := by
      rw [List.find?_eq_none]
      intro v hv e
      rw [beq_iff_eq] at e
      exact hz (e ▸ List.mem_map_of_mem (f := (·.1)) hv)
    rw [h1]; simp
  · rw [if_neg e]
    have h2 : ([(z, u)] : List VW).find? (fun v => v.1 == j) = none := by
      have : (z == j) = false := by simp; omega
      simp [this]
    rw [h2, Option.or_none]
theorem memB_add {Q : List VW} {z : Nat} {u : List UInt8} (j : Nat) : memB (valQ (Q ++ [(z, u)])) j = if j = z then true else memB (valQ Q) j := by
  unfold memB
  rw [valQ_snoc]
  by_cases e : j = z
  · subst e; rw [if_pos rfl]; simp
  · rw [if_neg e, decide_eq_decide]; simp [e]
/-- The rows of the model's search, from block b on: words, marks, queue. -/
structure Srch (w : World) (b N : Nat) (v : Value) (Q : List VW) : Prop where
  ws : Wrds w b N (wordF Q)
  bs : Bits w (b + 1) N (memB (valQ Q))
  qs : w.ownsRow (b + 2) 3 1 v Q.length (ints (nints (valQ Q)))
theorem Srch.below {w w' : World} {b N : Nat} {v : Value} {Q : List VW} (h : Srch w b N v Q) (hb : Below w.heap.size w w') : Srch w' b N v Q := ⟨h.ws.below hb, h.bs.below hb, row_below h.qs hb⟩
set_option maxRecDepth 100000 in
set_option maxHeartbeats 3200000 in
theorem l11Words_any (N : Nat) (A E : Option Addr) (n c m d B D : Nat) (xs : List Int) (I : List Nat) (w : World) (h : Own B w (.slice A n c) 1 n (ints xs)) (hE : Own D w (.slice E m d) 1 m (ints (nints I))) (hT : TabOk N xs) (hI : ∀ i ∈ I, i < N) (hI4 : I.length ≤ 4) :
    Calls Tryd.prog 53 #[tabV N A n c, .slice E m d] w fun e w' => (∃ b, e = .returned (.tuple #[.slice (some ⟨b, 0, none⟩) N N, .slice (some ⟨b + 1, 0, none⟩) N N]) ∧ w.heap.size ≤ b ∧ Wrds w' b N (wordF (srch N xs I)) ∧ Bits w' (b + 1) N (memB (valQ (srch N xs I)))) ∧ Below w.heap.size w w' := by
  obtain ⟨i0, hi0, hz0, hz1, hz2⟩ := infoR_parts infoInt
  have HO := Lib.hid (fun (w' : World) (hb : Below w.heap.size w w') => h.below hb)
  have HE := Lib.hid (fun (w' : World) (hb : Below w.heap.size w w') => hE.below hb)
  have HmI := Lib.hid (show m = I.length by have := hE.ilen; rw [nints_length] at this; omega)
  have HT := Lib.hid hT
  have HI := Lib.hid hI
  have h1 := hT.lo
  have h40 := hT.hi
  have hm4 : m ≤ 4 := by have := HmI.out; omega
  have hmk := fun u => run_makeStrs u N (by omega)
  have hmk2 := fun u => run_makeBools u N (by omega)
  clear h hE hT hI
  have b1 := bel1 w (.cells #[.int .i64 (N : Int), .slice A n c] 28)
  have X1 := Lib.hid (Blk.new1 w #[.int .i64 (N : Int), .slice A n c] 28)
  have hs1 : (w.alloc (.cells #[.int .i64 (N : Int), .slice A n c] 28)).heap.size = w.heap.size + 1 := by simp
  obtain ⟨q0, q1, -, -, ql⟩ := X1.out.two
  go_enter Tryd.func53, Tryd.ntmps53
  have W2 := Lib.hid (Wrds.new (w.alloc (.cells #[.int .i64 (N : Int), .slice A n c] 28)) N)
  rw [hs1] at W2
  have hs2 : ((w.alloc (.cells #[.int .i64 (N : Int), .slice A n c] 28)).alloc (.cells (madeCells #[.string ⟨#[]⟩] N) 9)).heap.size = w.heap.size + 2 := by simp
  have B3 := Lib.hid (Bits.new ((w.alloc (.cells #[.int .i64 (N : Int), .slice A n c] 28)).alloc (.cells (madeCells #[.string ⟨#[]⟩] N) 9)) N)
  rw [hs2] at B3
  obtain ⟨c2, c3⟩ := B3.out.cell (j := 0) (by omega)
  go_wp2_with fail
  clear c2 c3 B3 hmk hmk2 q0 q1
  have b2 := b1.alloc (by omega) (.cells (madeCells #[.string ⟨#[]⟩] N) 9)
  have X2 := Lib.hid (X1.out.alloc (.cells (madeCells #[.string ⟨#[]⟩] N) 9))
  generalize (w.alloc (.cells #[.int .i64 (N : Int), .slice A n c] 28)).alloc (.cells (madeCells #[.string ⟨#[]⟩] N) 9) = w2 at *
  clear b1 X1 hs1
  have B3 := Lib.hid (Bits.new0 w2 N)
  rw [hs2] at B3
  have W3 := Lib.hid (W2.out.below (bel1 w2 (.cells ((madeCells #[.bool false] N).setIfInBounds 0 (.bool true)) 4)))
  have b3 := b2.alloc (by omega) (.cells ((madeCells #[.bool false] N).setIfInBounds 0 (.bool true)) 4)
  have X3 := Lib.hid (X2.out.alloc (.cells ((madeCells #[.bool false] N).setIfInBounds 0 (.bool true)) 4))
  have hs3 : (w2.alloc (.cells ((madeCells #[.bool false] N).setIfInBounds 0 (.bool true)) 4)).heap.size = w.heap.size + 3 := by simp [hs2]
  generalize w2.alloc (.cells ((madeCells #[.bool false] N).setIfInBounds 0 (.bool true)) 4) = w3 at *
  clear b2 X2 W2 hs2
  have R4 := Lib.hid (row_new w3 #[.int .i64 0] 1 3 rfl (by unfold maxLen; omega))
  rw [hs3] at R4
  have B4 := Lib.hid (B3.out.below (bel1 w3 (.cells #[.int .i64 0] 3)))
  have W4 := Lib.hid (W3.out.below (bel1 w3 (.cells #[.int .i64 0] 3)))
  have b4 := b3.alloc (by omega) (.cells #[.int .i64 0] 3)
  have X4 := Lib.hid (X3.out.alloc (.cells #[.int .i64 0] 3))
  have hs4 : (w3.alloc (.cells #[.int .i64 0] 3)).heap.size = w.heap.size + 4 := by simp [hs3]
  generalize w3.alloc (.cells #[.int .i64 0] 3) = w4 at *
  clear b3 X3 W3 B3 hs3
  have HS0 : Hid (Srch w4 (w.heap.size + 1) N (.slice (some ⟨w.heap.size + 3, 0, none⟩) 1 1) (srchTo N xs I 0)) :=
    ⟨W4.out.congr (fun j _ => (wordF_start j).symm), B4.out, R4.out⟩
  clear W4 B4 R4
  go_loopw [8, 9] (fun v n' wr => ∃ a : Nat, n' = .int .i64 a ∧ a ≤ (srchTo N xs I a).length ∧ Hid (Srch wr (w.heap.size + 1) N v (srchTo N xs I a)) ∧ Hid (Blk wr w.heap.size 28 #[.int .i64 (N : Int), .slice A n c]) ∧ Below w.heap.size w wr) (fun _ n' _ => N - (intOf n').toNat)
  case atStart => exact ⟨0, rfl, Nat.zero_le _, HS0, X4, b4⟩
  case round =>
    obtain ⟨a, rfl, ha, HS, HX, hb⟩ := hrel
    have Hgood := Lib.hid (srchTo_good (a := a) HT.out HI.out)
    have hlen := Hgood.out.len
    obtain ⟨A1, c1, e1⟩ := (Own.of_row HS.out.qs).form
    subst e1
    by_cases hlt : a < (srchTo N xs I a).length
    · obtain ⟨x, u, hx⟩ : ∃ x u, (srchTo N xs I a)[a]? = some (x, u) := ⟨(srchTo N xs I a)[a].1, (srchTo N xs I a)[a].2, List.getElem?_eq_getElem hlt⟩
      have Hx := Lib.hid hx
      have Hst := Lib.hid (srchTo_step hx)
      have HxN := Lib.hid (Hgood.out.lt _ (List.mem_of_getElem? hx))
      have Hul := Lib.hid (Hgood.out.ln _ _ hx)
      have HSr : Hid (Srch wr (w.heap.size + 1) N (.slice A1 (srchTo N xs I a).length c1) (prodTo N xs I (srchTo N xs I a) x u 0)) := HS
      have Hgd := Lib.hid (fun k => Hgood.out.row HT.out HI.out hx k)
      have Hpre := Lib.hid (fun k => prodTo_pre (N := N) (xs := xs) (I := I) (srchTo N xs I a) x u k)
      obtain ⟨g0, o0, d0, e0, -, -, x0⟩ := row_nat HS.out.qs (j := a) (x := x) (by simp [valQ, hx])
      injection e0 with e0 _ e3
      subst e0 e3
      clear hx HS
      generalize srchTo N xs I a = Q at *
      go_wp2_with fail
      clear x0
      go_loopw [8, 35] (fun v i' wr => ∃ k : Nat, i' = .int .i64 k ∧ k ≤ m ∧ Hid (Srch wr (w.heap.size + 1) N v (prodTo N xs I Q x u k)) ∧ Hid (Blk wr w.heap.size 28 #[.int .i64 (N : Int), .slice A n c]) ∧ Below w.heap.size w wr) (fun _ i' _ => m - (intOf i').toNat)
      case atStart => exact ⟨0, rfl, Nat.zero_le _, HSr, HX, hb⟩
      case round =>
        clear HSr hb HX
        obtain ⟨k, rfl, hk, HS, HX, hb⟩ := hrel
        have hbs := hb.size
        by_cases hkl : k < m
        · obtain ⟨i, hi⟩ : ∃ i, I[k]? = some i := ⟨I[k]'(by have := HmI.out; omega), List.getElem?_eq_getElem _⟩
          have HiN := Lib.hid (HI.out i (List.mem_of_getElem? hi))
          have Hps := Lib.hid (show prodTo N xs I Q x u (k + 1) = addV (prodTo N xs I Q x u k) (tmul N xs x i) (u ++ [UInt8.ofNat (97 + k)]) by rw [prodTo, List.getD_eq_getElem?_getD, hi, Option.getD_some])
          obtain ⟨qb, off, rfl, hjm, x0⟩ := (HE.out _ hb).natI hi
          have hgd := Hgd.out k
          have Hgd2 := Lib.hid hgd
          have hlen2 := hgd.len
          have hQx : (prodTo N xs I Q x u k)[a]? = some (x, u) := by
            obtain ⟨t, e⟩ := Hpre.out k
            rw [e, List.getElem?_append_left hlt]; exact Hx.out
          have HQx := Lib.hid hQx
          generalize prodTo N xs I Q x u k = Q2 at *
          obtain ⟨A5, c5, e5⟩ := (Own.of_row HS.out.qs).form
          subst e5
          obtain ⟨z, hz⟩ : ∃ z, tmul N xs x i = z := ⟨_, rfl⟩
          have HTM := Lib.hid (fun (w' : World) (hb' : Below w.heap.size w w') => l08Times_any N x i A n c B xs w' (HO.out _ hb') HT.out HxN.out HiN.out)
          rw [hz] at HTM Hps
          have HzN : Hid (z < N) := by rw [← hz]; exact HT.out.lt HxN.out HiN.out
          have hzN := HzN.out
          have hxN := HxN.out
          obtain ⟨q0, q1, -, -, ql⟩ := HX.out.two
          clear hi hz hQx hgd
          go_wp2_with fail
          refine (HTM.out _ hb).mono ?_
          rintro e w5 ⟨rfl, hb5⟩
          have HS5 := Lib.hid (HS.out.below hb5)
          have HX5 := Lib.hid (HX.out.below hb5 HX.out.lt)
          have hb5w := hb.trans (hb5.mono hbs)
          have hbs5 := hb5w.size
          obtain ⟨y0, y1⟩ := HS5.out.bs.cell hzN
          clear HS HX hb5 q0 q1 ql x0 hb
          by_cases hmem : z ∈ valQ Q2
          · have hmb : memB (valQ Q2) z = true := decide_eq_true hmem
            have HY : Hid (Srch w5 (w.heap.size + 1) N (.slice A5 Q2.length c5) (prodTo N xs I Q x u (k + 1))) := by
              show Srch _ _ _ _ _
              rw [Hps.out, addV, if_pos hmem]; exact HS5.out
            rw [hmb] at y0
            clear hmem hmb HS5
            go_wp2_with fail
            go_roundw
            case rel => exact ⟨k + 1, by go_num, by omega, HY, HX5, hb5w⟩
            case measure => simp [intOf]; omega
          · have hmb : memB (valQ Q2) z = false := decide_eq_false hmem
            have Hnx := Lib.hid (show prodTo N xs I Q x u (k + 1) = Q2 ++ [(z, u ++ [UInt8.ofNat (97 + k)])] by rw [Hps.out, addV, if_neg hmem])
            have Hmem := Lib.hid hmem
            have Hn2 := Lib.hid (Hgd.out (k + 1))
            rw [Hnx.out] at Hn2
            have hlen3 : Q2.length + 1 ≤ N := by have := Hn2.out.len; simpa using this
            have hub : (bytesOf u).size ≤ 40 := by rw [bytesOf_size]; have := Hul.out; omega
            have Hw := Lib.hid (bytesOf_snoc u (UInt8.ofNat (97 + k)))
            have HwF := Lib.hid (wordF_at Hgd2.out HQx.out)
            rw [hmb] at y0
            have hbl1 := HS5.out.bs.lt
            have W6 := Lib.hid (HS5.out.ws.far (p := ⟨w.heap.size + 1 + 1, z, none⟩) (by show w.heap.size + 1 ≠ w.heap.size + 1 + 1; omega) (.bool true))
            have B6 := Lib.hid (HS5.out.bs.set_ z true)
            have Q6 := Lib.hid (row_set HS5.out.qs (p := ⟨w.heap.size + 1 + 1, z, none⟩) (by show w.heap.size + 1 + 1 < w.heap.size + 1 + 2; omega) (.bool true))
            have X6 := Lib.hid (HX5.out.far (p := ⟨w.heap.size + 1 + 1, z, none⟩) (by show w.heap.size ≠ w.heap.size + 1 + 1; omega) (.bool true))
            have hb6 : Below w.heap.size w (w5.setCell ⟨w.heap.size + 1 + 1, z, none⟩ (.bool true)) := hb5w.setCell (by show w.heap.size ≤ w.heap.size + 1 + 1; omega) _
            have hbs6 := hb6.size
            clear hmem hmb HS5 HX5 hb5w
            go_wp2_with fail
            generalize w5.setCell ⟨w.heap.size + 1 + 1, z, none⟩ (.bool true) = w6 at *
            have hs6 : w.heap.size + 1 + 1 < w6.heap.size := B6.out.lt
            have hs61 : w.heap.size + 1 < w6.heap.size := by omega
            have hbn : Below w6.heap.size w6 (w6.alloc (.cells #[.int .u8 (97 + (k : Int))] 5)).drew := (bel1 w6 _).drew
            have hcv := one_byte_on (P := Tryd.prog) Tryd.underlying108 Tryd.underlying5 Tryd.underlying9 (w6.alloc (.cells #[.int .u8 (97 + (k : Int))] 5)).drew w6.heap.size (97 + (k : Int)) (by omega) (by omega) ((Blk.new1 w6 _ _).cell 0)
            have hub8 : (UInt8.ofNat (97 + (k : Int)).toNat) = UInt8.ofNat (97 + k) := by congr 1
            rw [hub8] at hcv
            obtain ⟨f1, -⟩ := W6.out.cell hxN
            obtain ⟨f2, f3⟩ := W6.out.cell hzN
            obtain ⟨f4, -⟩ := (W6.out.below hbn).cell hxN
            obtain ⟨f5, f6⟩ := (W6.out.below hbn).cell hzN
            rw [HwF.out] at f1 f4
            have e5 : IntKind.i64.wrap (97 + (k : Int)) = 97 + (k : Int) := IntWalk.i64_in _ ⟨by omega, by omega⟩
            have e6 : IntKind.u8.wrap (97 + (k : Int)) = 97 + (k : Int) := IntWalk.u8_in _ ⟨by omega, by omega⟩
            have g0 : (0 : Int) ≤ (x : Int) := by omega
            have g1 : (x : Int) < (N : Int) := by omega
            have g2 : (0 : Int) ≤ (z : Int) := by omega
            have g3 : (z : Int) < (N : Int) := by omega
            have hone1 : (⟨#[UInt8.ofNat (97 + k)]⟩ : ByteArray).size = 1 := rfl
            have e9 : ¬ (9223372036854775807 < (bytesOf u).size + (⟨#[UInt8.ofNat (97 + k)]⟩ : ByteArray).size) := by omega
            generalize hbb : (⟨#[UInt8.ofNat (97 + k)]⟩ : ByteArray) = bb at *
            go_region
            have hbd := (bel1 (w6.setCell ⟨w.heap.size + 1, z, none⟩ (.string (bytesOf u ++ bb))) (.cells #[.int .u8 (97 + (k : Int))] 5)).drew
            have hsz7 : (w6.setCell ⟨w.heap.size + 1, z, none⟩ (.string (bytesOf u ++ bb))).heap.size = w6.heap.size := World.size_setCell ..
            have W7 := Lib.hid ((W6.out.set_ z (bytesOf u ++ bb)).below hbd)
            have B7 := Lib.hid ((B6.out.far (p := ⟨w.heap.size + 1, z, none⟩) (by show w.heap.size + 1 + 1 ≠ w.heap.size + 1; omega) (.string (bytesOf u ++ bb))).below hbd)
            have Q7 := Lib.hid (row_below (row_set Q6.out (p := ⟨w.heap.size + 1, z, none⟩) (by show w.heap.size + 1 < w.heap.size + 1 + 2; omega) (.string (bytesOf u ++ bb))) hbd)
            have X7 := Lib.hid ((X6.out.far (p := ⟨w.heap.size + 1, z, none⟩) (by show w.heap.size ≠ w.heap.size + 1; omega) (.string (bytesOf u ++ bb))).below hbd (by rw [hsz7]; exact X6.out.lt))
            have hb7 := (hb6.setCell (p := ⟨w.heap.size + 1, z, none⟩) (by show w.heap.size ≤ w.heap.size + 1; omega) (.string (bytesOf u ++ bb))).trans (hbd.mono (by rw [hsz7]; exact hbs6))
            have hbs7 := hb7.size
            generalize ((w6.setCell ⟨w.heap.size + 1, z, none⟩ (.string (bytesOf u ++ bb))).alloc (.cells #[.int .u8 (97 + (k : Int))] 5)).drew = w7 at *
            have hlo : w.heap.size + 1 + 2 ≤ w7.heap.size := by have := (Own.of_row Q7.out).blk_lt (by have := (List.getElem?_eq_some_iff.1 HQx.out).1; omega); omega
            clear hbd hsz7 W6 B6 Q6 X6 hb6 f1 f2 f3 f4 f5 f6 hbn hcv
            go_wp2_with (at_builtin; refine wpList_append_own _ rfl _ _ 22 rfl (w.heap.size + 1 + 2) 3 i0 (.int .i64 0) 1 8 Tryd.underlying22 hi0 hz0 hz1 hz2 rfl (by decide) _ _ _ rfl (Q7.out.alloc _) ⟨w7.heap.size, 0, none⟩ 1 1 [.int .i64 (z : Int)] rfl rfl ?c1 ?c2 ?c3 ?c4 ?c5 ?_)
            case c1 => intro j v hj; match j, hj with | 0, hj => (simp at hj; subst hj; simp [Addr.add])
            case c2 => intro v hv; simp at hv; subst hv; rfl
            case c3 => unfold maxLen; omega
            case c4 => omega
            case c5 => simp; omega
            intro v' w8 hown' hgrow _
            have hkeep : ∀ b, b < w.heap.size + 1 + 2 → w8.heap[b]? = w7.heap[b]? := fun b hb => grown_block Q7.out hgrow hb hlo
            have HY : Hid (Srch w8 (w.heap.size + 1) N v' (prodTo N xs I Q x u (k + 1))) := by
              show Srch _ _ _ _ _
              rw [Hnx.out]
              refine ⟨?_, ?_, ?_⟩
              · have hWx : Wrds w8 (w.heap.size + 1) N _ := (hkeep _ (by omega)).trans W7.out
                exact hWx.congr (fun j _ => by rw [wordF_add Hmem.out, Hw.out])
              · exact (B7.out.keep (hkeep _ (by omega))).congr (fun j _ => (memB_add j).symm)
              · rw [List.length_append, List.length_singleton, valQ_snoc, nints_snoc]; simpa [ints] using hown'
            have HX8 : Hid (Blk w8 w.heap.size 28 #[.int .i64 (N : Int), .slice A n c]) := (hkeep _ (by omega)).trans X7.out
            have hb8 : Below w.heap.size w w8 := grown_one Q7.out hgrow hb7 (by omega) hlo
            clear hown' hgrow hkeep W7 B7 Q7 X7 hb7
            go_wp2_with fail
            go_roundw
            case rel => exact ⟨k + 1, by go_num, by omega, HY, HX8, hb8⟩
            case measure => simp [intOf]; omega
        · obtain rfl : m = k := by omega
          have HY : Hid (Srch wr (w.heap.size + 1) N u8 (srchTo N xs I (a + 1))) := by
            show Srch _ _ _ _ _
            rw [Hst.out, ← HmI.out]; exact HS.out
          have hln : a + 1 ≤ (srchTo N xs I (a + 1)).length := by
            rw [Hst.out]
            obtain ⟨t2, e2⟩ := Hpre.out I.length
            rw [e2, List.length_append]; omega
          go_wp2_with fail
          go_roundw
          case rel => exact ⟨a + 1, by go_num, hln, HY, HX, hb⟩
          case measure => simp [intOf]; omega
    · have He := Lib.hid (srch_eq (N := N) (xs := xs) (I := I) (a := a) (by omega) (by omega))
      generalize srchTo N xs I a = Q at *
      go_wp2_with fail
      go_ret2
      exact ⟨⟨_, rfl, by omega, by rw [He.out]; exact HS.out.ws, by rw [He.out]; exact HS.out.bs⟩, hb⟩
theorem seenB_mem (N : Nat) (xs : List Int) (I : List Nat) : seenB N xs I = memB (valQ (srch N xs I)) := by
  funext i
  unfold seenB memB
  by_cases h : i ∈ valQ (srch N xs I)
  · rw [cdec_yes h, decide_eq_true h]
  · rw [cdec_no h, decide_eq_false h]
set_option maxRecDepth 100000 in
set_option maxHeartbeats 800000 in
theorem specReachedBy (q : Int) (A E : Option Addr) (n c m d B D : Nat) (xs es : List Int) (w : World) (h : Own B w (.slice A n c) 1 n (ints xs)) (hE : Own D w (.slice E m d) 1 m (ints es)) (hn : n ≤ 1048576) :
    Calls Tryd.prog 29 #[tabV q A n c, .slice E m d] w fun e w' => ∃ v, e = .returned v ∧ Own w.heap.size w' v 1 (reachedBy q xs es).length (ints (reachedBy q xs es)) ∧ Below w.heap.size w w' := by
  have HO := Lib.hid (fun (w' : World) (hb : Below w.heap.size w w') => h.below hb)
  have HE := Lib.hid (fun (w' : World) (hb : Below w.heap.size w w') => hE.below hb)
  clear h hE
  go_enter Tryd.func29, Tryd.ntmps29
  go_wp2_with fail
  refine (specImagesOk q A E n c m d B D xs es _ (HO.out _ (bel1 _ _)) (HE.out _ (bel1 _ _)) hn).mono ?_
  rintro e w1 ⟨rfl, hb1⟩
  have b1 := (bel1 w _).trans (hb1.mono (by simp))
  have X1 := Lib.hid ((Blk.new1 w _ _).below hb1 (by simp))
  obtain ⟨q0, q1, -, -, ql⟩ := X1.out.two
  clear hb1
  cases hi : imagesOk q xs es
  · have He := Lib.hid (reachedBy_no hi)
    clear hi
    go_wp2_with fail
    go_ret
    exact ⟨_, rfl, by rw [He.out]; exact Own.none_, b1⟩
  obtain ⟨N, I, rfl, hI⟩ := imagesOk_iff hi
  have HI := Lib.hid hI
  have He := Lib.hid (reachedBy_yes hI)
  have h40 := hI.tab.hi
  obtain rfl := hI.eq
  clear hi hI
  go_wp2_with fail
  refine (l11Words_any N A E n c m d B D xs I _ (HO.out _ b1) (HE.out _ b1) HI.out.tab HI.out.lt HI.out.hi).mono ?_
  rintro e w2 ⟨⟨b, rfl, hb, hW, hB⟩, hb2⟩
  have b2 := b1.trans (hb2.mono b1.size)
  have hbs := b1.size
  rw [← seenB_mem] at hB
  have HB := Lib.hid (hB.own (by unfold maxLen; omega) (B := w.heap.size) (by omega))
  clear hb2 hB hW
  go_wp2_with fail
  refine (l09List_any _ N N w.heap.size (seenB N xs I) _ HB.out (by omega)).mono ?_
  rintro e w3 ⟨v3, rfl, o3, hb3⟩
  rw [← He.out] at o3
  have b3 := b2.trans (hb3.mono b2.size)
  have hbs2 := b2.size
  have O3 := Lib.hid (o3.mono hbs2)
  obtain ⟨A3, c3, rfl⟩ := o3.form
  clear hb3 o3
  go_wp2_with fail
  go_ret
  exact ⟨_, rfl, O3.out, b3⟩
set_option maxRecDepth 100000 in
set_option maxHeartbeats 800000 in
theorem specShortestWord (q : Int) (A E : Option Addr) (n c m d B D : Nat) (xs es : List Int) (i : Int) (w : World) (h : Own B w (.slice A n c) 1 n (ints xs)) (hE : Own D w (.slice E m d) 1 m (ints es)) (hn : n ≤ 1048576) :
    Calls Tryd.prog 31 #[tabV q A n c, .slice E m d, .int .i64 i] w fun e w' => e = .returned (.tuple #[.string (shortestW q xs es i).1, .bool (shortestW q xs es i).2]) ∧ Below w.heap.size w w' := by
  have HO := Lib.hid (fun (w' : World) (hb : Below w.heap.size w w') => h.below hb)
  have HE := Lib.hid (fun (w' : World) (hb : Below w.heap.size w w') => hE.below hb)
  clear h hE
  go_enter Tryd.func31, Tryd.ntmps31
  go_wp2_with fail
  refine (specImagesOk q A E n c m d B D xs es _ (HO.out _ (bel1 _ _)) (HE.out _ (bel1 _ _)) hn).mono ?_
  rintro e w1 ⟨rfl, hb1⟩
  have b1 := (bel1 w _).trans (hb1.mono (by simp))
  have X1 := Lib.hid ((Blk.new1 w _ _).below hb1 (by simp))
  obtain ⟨q0, q1, -, -, ql⟩ := X1.out.two
  clear hb1
  cases hi : imagesOk q xs es
  · have He := Lib.hid (shortestW_no (i := i) hi)
    clear hi
    go_wp2_with fail
    go_ret2
    exact ⟨ret_sbW He.out, b1⟩
  obtain ⟨N, I, rfl, hI⟩ := imagesOk_iff hi
  have HI := Lib.hid hI
  have h40 := hI.tab.hi
  obtain rfl := hI.eq
  clear hi hI
  by_cases hiN : 0 ≤ i ∧ i ≤ (N : Int) - 1
  · obtain ⟨x, rfl⟩ : ∃ x : Nat, i = x := ⟨i.toNat, by omega⟩
    have hxN : x < N := by omega
    have hx1 : (x : Int) ≤ (N : Int) - 1 := hiN.2
    clear hiN
    go_wp2_with fail
    refine (l01In_yes _ _ _ _ (by omega) hx1).mono ?_
    rintro e w2 ⟨rfl, rfl⟩
    go_wp2_with fail
    refine (l11Words_any N A E n c m d B D xs I _ (HO.out _ b1) (HE.out _ b1) HI.out.tab HI.out.lt HI.out.hi).mono ?_
    rintro e w3 ⟨⟨b, rfl, hb, hW, hB⟩, hb3⟩
    have b3 := b1.trans (hb3.mono b1.size)
    obtain ⟨y0, -⟩ := hB.cell hxN
    obtain ⟨z0, -⟩ := hW.cell hxN
    clear hb3 hB hW q0 q1 ql
    by_cases hmem : x ∈ valQ (srch N xs I)
    · have hmb : memB (valQ (srch N xs I)) x = true := decide_eq_true hmem
      rw [hmb] at y0
      obtain ⟨u, j, hj⟩ : ∃ u j, (srch N xs I)[j]? = some (x, u) := by
        obtain ⟨v, hv, rfl⟩ := List.mem_map.1 hmem
        obtain ⟨j, hj⟩ := List.getElem?_of_mem hv
        exact ⟨v.2, j, hj⟩
      rw [wordF_at (srch_good HI.out.tab HI.out.lt) hj] at z0
      have hus : (bytesOf u).size = u.length := bytesOf_size u
      have hul : u.length ≤ 40 := by
        have h1 := (srch_good HI.out.tab HI.out.lt).ln _ _ hj
        have h2 := (srch_good HI.out.tab HI.out.lt).len
        have h3 := (List.getElem?_eq_some_iff.1 hj).1
        dsimp only at h1
        omega
      by_cases hu : u.length ≤ 16
      · have He := Lib.hid (shortestW_yes HI.out hj hu)
        clear hj hmem hmb
        generalize bytesOf u = ub at *
        have hu2 : ub.size ≤ 16 := by omega
        go_wp2_with fail
        go_ret2
        exact ⟨ret_sbW He.out, b3⟩
      · have He := Lib.hid (shortestW_long HI.out hj (by omega))
        clear hj hmem hmb
        generalize bytesOf u = ub at *
        have hu2 : ¬ ub.size ≤ 16 := by omega
        go_wp2_with fail
        go_ret2
        exact ⟨ret_sbW He.out, b3⟩
    · have hmb : memB (valQ (srch N xs I)) x = false := decide_eq_false hmem
      rw [hmb] at y0
      have He := Lib.hid (shortestW_none HI.out hxN hmem)
      clear hmem hmb z0
      go_wp2_with fail
      go_ret2
      exact ⟨ret_sbW He.out, b3⟩
  · have He := Lib.hid (shortestW_out (q := N) (xs := xs) (es := nints I) (i := i) (by omega))
    have Hr := Lib.hid (show i < 0 ∨ (N : Int) - 1 < i by omega)
    clear hiN
    go_wp2_with fail
    refine (l01In_no _ _ _ _ Hr.out).mono ?_
    rintro e w2 ⟨rfl, rfl⟩
    go_wp2_with fail
    go_ret2
    exact ⟨ret_sbW He.out, b1⟩
end Go.Proofs.YtlgaihofaiigcaaDoor
