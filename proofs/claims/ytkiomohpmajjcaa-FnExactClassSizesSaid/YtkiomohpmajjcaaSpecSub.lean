/- The model's least subgroup. -/
import Derived.Test.YtkiomohpmajjcaaGroupInv
import Derived.Test.YtkiomohpmajjcaaSpecRegular
namespace Go.Proofs.Ytkiomohpmajjcaa
open Go.RowKit

def memB (Q : List Nat) (y : Nat) : Bool := decide (y ∈ Q)
/-- Block b is a row of n bools. -/
def Bits (w : World) (b n : Nat) (f : Nat → Bool) : Prop := Blk w b 4 (bl n f).toArray
theorem Bits.new (w : World) (n : Nat) : Bits (w.alloc (.cells (madeCells #[.bool false] n) 4)) w.heap.size n (fun _ => false) := by
  have e : madeCells #[Value.bool false] n = (bl n (fun _ => false)).toArray := by
    apply Array.ext
    · simp [madeCells, bl]
    · intro i h1 h2; simp [madeCells, bl, Nat.mod_one]
  unfold Bits; rw [e]; exact Blk.new1 _ _ _
theorem Bits.new0 (w : World) (n : Nat) : Bits (w.alloc (.cells ((madeCells #[.bool false] n).setIfInBounds 0 (.bool true)) 4)) w.heap.size n (memB [0]) := by
  have e : madeCells #[Value.bool false] n = (bl n (fun _ => false)).toArray := by
    apply Array.ext
    · simp [madeCells, bl]
    · intro i h1 h2; simp [madeCells, bl, Nat.mod_one]
  unfold Bits
  rw [e, List.setIfInBounds_toArray, bl_set, bl_congr (g := memB [0]) (fun j _ => by simp [memB])]
  exact Blk.new1 _ _ _
section
variable {w w' : World} {b n : Nat} {f : Nat → Bool}
theorem Bits.lt (h : Bits w b n f) : b < w.heap.size := Blk.lt h
theorem Bits.cell (h : Bits w b n f) {j : Nat} (hj : j < n) : w.cell? ⟨b, j, none⟩ = some (.bool (f j)) ∧ w.frozen? ⟨b, j, none⟩ = false := by
  refine ⟨(Blk.cell h j).trans ?_, Blk.frozen h j⟩
  rw [List.getElem?_toArray, bl_get hj]
theorem Bits.set_ (h : Bits w b n f) (i : Nat) (v : Bool) : Bits (w.setCell ⟨b, i, none⟩ (.bool v)) b n (fun j => if j = i then v else f j) := by
  have h2 := Blk.set_ h i (.bool v)
  rwa [List.setIfInBounds_toArray, bl_set] at h2
theorem Bits.congr {f' : Nat → Bool} (h : Bits w b n f) (e : ∀ j, j < n → f j = f' j) : Bits w b n f' := by
  unfold Bits at h ⊢; rwa [bl_congr e] at h
theorem Bits.keep (h : Bits w b n f) (hk : w'.heap[b]? = w.heap[b]?) : Bits w' b n f := hk.trans h
theorem Bits.below (h : Bits w b n f) (hb : Below w.heap.size w w') : Bits w' b n f := h.keep (hb.block b h.lt)
theorem Bits.own (h : Bits w b n f) (hn : n ≤ maxLen) {B : Nat} (hB : B ≤ b) : Own B w (.slice (some ⟨b, 0, none⟩) n n) 1 n (bl n f) := by
  refine ⟨by rw [bl_length]; omega, _, n, rfl, Nat.le_refl _, hn, fun _ => ⟨b, 0, rfl, hB, h.lt, fun j hj => ?_⟩⟩
  rw [bl_length] at hj
  rw [Nat.zero_add, bl_get hj]
  exact h.cell hj
theorem row_set {base : Nat} {e : TypeId} {size : Nat} {v : Value} {k : Nat} {xs : List Value} (h : w.ownsRow base e size v k xs) {p : Addr} (hp : p.block < base) (u : Value) : (w.setCell p u).ownsRow base e size v k xs := by
  obtain ⟨h1, h2⟩ := h
  refine ⟨h1, ?_⟩
  rcases h2 with h2 | ⟨g, cap, cur, rfl, hg, hh, r⟩
  · exact .inl h2
  · exact .inr ⟨g, cap, cur, rfl, hg, (Below.heap_setCell w p u g (by omega)).trans hh, r⟩
end
theorem held3_keep {W W1 : World} {g g' o o' q : Nat} {a b a' : Value} {B : Nat} {w : World} (h : W.cell? ⟨g, o, none⟩ = some a ∧ W.cell? ⟨g, q, none⟩ = some b ∧ W.cell? ⟨g', o', none⟩ = some a' ∧ Below B w W) (hb : Below W.heap.size W W1) (hB : B ≤ w.heap.size) (hg : g < w.heap.size) (hg' : g' < w.heap.size) :
    W1.cell? ⟨g, o, none⟩ = some a ∧ W1.cell? ⟨g, q, none⟩ = some b ∧ W1.cell? ⟨g', o', none⟩ = some a' ∧ Below B w W1 := by
  obtain ⟨h1, h2, h3, h5⟩ := h
  have hs := h5.size
  exact ⟨(hb.cell (by show g < _; omega)).trans h1, (hb.cell (by show g < _; omega)).trans h2, (hb.cell (by show g' < _; omega)).trans h3, h5.trans (hb.mono (by omega))⟩
/-- The cell of a number in a row. -/
theorem row_nat {w : World} {B : Nat} {e : TypeId} {v : Value} {n : Nat} {Q : List Nat} (h : w.ownsRow B e 1 v n (ints (nints Q))) {j x : Nat} (hj : Q[j]? = some x) :
    ∃ g off c, v = .slice (some ⟨g, off, none⟩) n c ∧ j < n ∧ g < w.heap.size ∧ w.cell? ⟨g, off + j, none⟩ = some (.int .i64 (x : Nat)) := by
  have ho := Own.of_row h
  have hl := ho.ilen
  rw [nints_length] at hl
  have hlt : j < n := by have := (List.getElem?_eq_some_iff.1 hj).1; omega
  obtain ⟨g, off, c, rfl⟩ := ho.formR (by omega)
  obtain ⟨s, hs, hx⟩ := ho.iget hlt
  rw [nints_get hj] at hs
  obtain rfl := Option.some.inj hs
  exact ⟨g, off, c, rfl, hlt, (ho.blk_lt (by omega)).2, hx⟩
theorem Own.nat {w : World} {D m d : Nat} {E : Option Addr} {G : List Nat} (h : Own D w (.slice E m d) 1 m (ints (nints G))) {k x : Nat} (hk : G[k]? = some x) :
    ∃ g off, E = some ⟨g, off, none⟩ ∧ k < m ∧ w.cell? ⟨g, off + k, none⟩ = some (.int .i64 (x : Nat)) := by
  have hl := h.ilen
  rw [nints_length] at hl
  have hlt : k < m := by have := (List.getElem?_eq_some_iff.1 hk).1; omega
  obtain ⟨g, off, c0, hv⟩ := h.formR (by omega)
  obtain ⟨rfl, rfl⟩ : E = some ⟨g, off, none⟩ ∧ d = c0 := by injection hv with a _ b; exact ⟨a, b⟩
  obtain ⟨s, hs, hx⟩ := h.iget hlt
  rw [nints_get hk] at hs
  obtain rfl := Option.some.inj hs
  exact ⟨g, off, rfl, hlt, hx⟩
set_option maxRecDepth 100000 in
set_option maxHeartbeats 1600000 in
theorem l10Sub_any (N : Nat) (A E : Option Addr) (n c m d B D : Nat) (xs : List Int) (G : List Nat) (w : World) (h : Own B w (.slice A n c) 1 n (ints xs)) (hE : Own D w (.slice E m d) 1 m (ints (nints G))) (hT : TabOk N xs) (hG : ∀ g ∈ G, g < N) :
    Calls Try.prog 47 #[tabV N A n c, .slice E m d] w fun e w' => ∃ v, e = .returned v ∧ Own w.heap.size w' v 1 N (bl N (genB N xs G)) ∧ Below w.heap.size w w' := by
  obtain ⟨i0, hi0, hz0, hz1, hz2⟩ := infoR_parts infoInt
  have hml := hE.ilen
  rw [nints_length] at hml
  have hmx := hE.bound
  unfold maxLen at hmx
  have HO := Lib.hid (fun (w' : World) (hb : Below w.heap.size w w') => h.below hb)
  have HE := Lib.hid (fun (w' : World) (hb : Below w.heap.size w w') => hE.below hb)
  have HT := Lib.hid hT
  have HG := Lib.hid hG
  have h1 := hT.lo
  have h40 := hT.hi
  have hmk := fun u => run_makeBools u N (by omega)
  have Hml := Lib.hid hml
  clear h hE hT hG hml
  have b1 := bel1 w (.cells #[.int .i64 (N : Int), .slice A n c] 28)
  have X1 := Lib.hid (Blk.new1 w #[.int .i64 (N : Int), .slice A n c] 28)
  have hs1 : (w.alloc (.cells #[.int .i64 (N : Int), .slice A n c] 28)).heap.size = w.heap.size + 1 := by simp
  obtain ⟨q0, q1, -, -, ql⟩ := X1.out.two
  go_enter Try.func47, Try.ntmps47
  have B2 := Lib.hid (Bits.new (w.alloc (.cells #[.int .i64 (N : Int), .slice A n c] 28)) N)
  rw [hs1] at B2
  obtain ⟨c2, c3⟩ := B2.out.cell (j := 0) (by omega)
  go_wp2_with fail
  clear c2 c3 B2 hmk q0 q1
  have B2 := Lib.hid (Bits.new0 (w.alloc (.cells #[.int .i64 (N : Int), .slice A n c] 28)) N)
  rw [hs1] at B2
  have b2 := b1.alloc (by omega) (.cells ((madeCells #[.bool false] N).setIfInBounds 0 (.bool true)) 4)
  have X2 := Lib.hid (X1.out.alloc (.cells ((madeCells #[.bool false] N).setIfInBounds 0 (.bool true)) 4))
  have hs2 : ((w.alloc (.cells #[.int .i64 (N : Int), .slice A n c] 28)).alloc (.cells ((madeCells #[.bool false] N).setIfInBounds 0 (.bool true)) 4)).heap.size = w.heap.size + 2 := by simp
  generalize (w.alloc (.cells #[.int .i64 (N : Int), .slice A n c] 28)).alloc (.cells ((madeCells #[.bool false] N).setIfInBounds 0 (.bool true)) 4) = w2 at *
  clear b1 X1 hs1
  have R3 := Lib.hid (row_new w2 #[.int .i64 0] 1 3 rfl (by unfold maxLen; omega))
  rw [hs2] at R3
  have B3 := Lib.hid (B2.out.below (bel1 w2 (.cells #[.int .i64 0] 3)))
  have X3 := Lib.hid (X2.out.alloc (.cells #[.int .i64 0] 3))
  have b3 := b2.alloc (by omega) (.cells #[.int .i64 0] 3)
  have hs3 : (w2.alloc (.cells #[.int .i64 0] 3)).heap.size = w.heap.size + 3 := by simp [hs2]
  generalize w2.alloc (.cells #[.int .i64 0] 3) = w3 at *
  clear B2 X2 b2 hs2
  rw [show w.heap.size + 1 + 1 = w.heap.size + 2 by omega]
  go_loopw [6, 7] (fun v i' wr => ∃ (Q : List Nat) (a : Nat), i' = .int .i64 a ∧ a ≤ Q.length ∧ Hid (wr.ownsRow (w.heap.size + 2) 3 1 v Q.length (ints (nints Q))) ∧ Hid (Bits wr (w.heap.size + 1) N (memB Q)) ∧ Hid (Reach N xs G Q a) ∧ Hid (Blk wr w.heap.size 28 #[.int .i64 (N : Int), .slice A n c]) ∧ Below w.heap.size w wr) (fun _ i' _ => N - (intOf i').toNat)
  case atStart => exact ⟨[0], 0, rfl, Nat.zero_le _, R3, B3, Reach.start G, X3, b3⟩
  case round =>
    obtain ⟨Q, a, rfl, ha, HR, HB, HQ, HX, hb⟩ := hrel
    have hQN := HQ.out.len HT.out HG.out
    have hbB := HB.out.lt
    have hbs := hb.size
    obtain ⟨A9, c9, hv⟩ := (Own.of_row HR.out).form
    subst hv
    by_cases hlt : a < Q.length
    · obtain ⟨x, hx⟩ : ∃ x, Q[a]? = some x := ⟨Q[a], List.getElem?_eq_getElem hlt⟩
      have HRA := Lib.hid (HQ.out.enter hx)
      clear hx HQ
      go_wp2_with fail
      go_loopw [6, 25] (fun v i' wr' => ∃ (Q : List Nat) (k : Nat), i' = .int .i64 k ∧ k ≤ m ∧ a < Q.length ∧ Hid (wr'.ownsRow (w.heap.size + 2) 3 1 v Q.length (ints (nints Q))) ∧ Hid (Bits wr' (w.heap.size + 1) N (memB Q)) ∧ Hid (ReachAt N xs G Q a x k) ∧ Hid (Blk wr' w.heap.size 28 #[.int .i64 (N : Int), .slice A n c]) ∧ Below w.heap.size w wr') (fun _ i' _ => m - (intOf i').toNat)
      case atStart => exact ⟨Q, 0, rfl, Nat.zero_le _, hlt, HR, HB, HRA, HX, hb⟩
      case round =>
        clear hQN hbB hbs HR HB HX hb HRA ha hlt
        obtain ⟨Q, k, rfl, hk, hlt, HR, HB, HRA, HX, hb⟩ := hrel
        have hQN := HRA.out.toReach.len HT.out HG.out
        have hbB := HB.out.lt
        have hbs := hb.size
        by_cases hkl : k < m
        · obtain ⟨y, hy⟩ : ∃ y, G[k]? = some y := ⟨G[k]'(by have := Hml.out; omega), List.getElem?_eq_getElem _⟩
          have hyN := HG.out y (List.mem_of_getElem? hy)
          have hxN := (HRA.out.toReach.sound x (List.mem_of_getElem? HRA.out.at_)).lt HT.out HG.out
          obtain ⟨ge, eo, rfl, -, x1⟩ := (HE.out _ hb).nat hy
          obtain ⟨g2, off2, c2, hv2, -, hg2, x2⟩ := row_nat HR.out HRA.out.at_
          have Hy := Lib.hid hy
          subst hv2
          obtain ⟨q0, q1, -, -, ql2⟩ := HX.out.two
          have hD0 : Below wr.heap.size wr wr.drew := (Below.refl _ wr).drew
          have HW := Lib.hid (fun (w' : World) (hS : w'.cell? ⟨w.heap.size, 0, none⟩ = some (.int .i64 N) ∧ w'.cell? ⟨w.heap.size, 1, none⟩ = some (.slice A n c) ∧ w'.cell? ⟨g2, off2 + a, none⟩ = some (.int .i64 (x : Nat)) ∧ Below wr.heap.size wr w') => HO.out _ (hb.trans (hS.2.2.2.mono hbs)))
          clear hy
          go_wp2_with fail
          go_region_held3 (fun w' => w'.cell? ⟨w.heap.size, 0, none⟩ = some (.int .i64 N) ∧ w'.cell? ⟨w.heap.size, 1, none⟩ = some (.slice A n c) ∧ w'.cell? ⟨g2, off2 + a, none⟩ = some (.int .i64 (x : Nat)) ∧ Below wr.heap.size wr w')
            (first | exact ⟨q0, q1, x2, hD0⟩ | exact held3_keep (by assumption) hb9 (Nat.le_refl _) ql2 hg2)
            ((go_at_call 50; refine (l08Times_any N _ _ A n c B xs _ (HW.out _ (by assumption)) HT.out (by assumption) (by assumption)).mono ?_; rintro e w9 ⟨rfl, hb9⟩))
          have hS := (‹_ ∧ _ ∧ _ ∧ Below wr.heap.size wr w9›).2.2.2
          have hb3 := hb.trans (hS.mono hbs)
          have hbs3 := hb3.size
          have HR3 := Lib.hid (row_below HR.out hS)
          have HB3 := Lib.hid (HB.out.below hS)
          have HX3 := Lib.hid (HX.out.below hS HX.out.lt)
          have hzN := HT.out.lt hxN hyN
          obtain ⟨z, hz⟩ : ∃ z, tmul N xs x y = z := ⟨_, rfl⟩
          rw [hz] at hzN
          have Hz := Lib.hid hz
          rw [hz]
          have hsb := HB3.out.lt
          obtain ⟨x4, x5⟩ := HB3.out.cell hzN
          clear hS hb9 q0 q1 x1 x2 hz HR HB HX
          generalize g2 = g3 at *
          cases hm : memB Q z
          · rw [hm] at x4
            have HRA1 := Lib.hid (HRA.out.new Hy.out (by rw [Hz.out]; unfold memB at hm; simpa using hm))
            rw [Hz.out] at HRA1
            have HB4 := Lib.hid ((HB3.out.set_ z true).congr (f' := memB (Q ++ [z])) (fun j _ => by simp [memB]; grind))
            have HR4 := Lib.hid (row_set HR3.out (p := ⟨w.heap.size + 1, z, none⟩) (by show w.heap.size + 1 < _; omega) (.bool true))
            have HX4 := Lib.hid (HX3.out.far (p := ⟨w.heap.size + 1, z, none⟩) (by show w.heap.size ≠ w.heap.size + 1; omega) (.bool true))
            have hb4 := hb3.setCell (p := ⟨w.heap.size + 1, z, none⟩) (by show _ ≤ w.heap.size + 1; omega) (.bool true)
            have hs4 : (w9.setCell ⟨w.heap.size + 1, z, none⟩ (.bool true)).heap.size = w9.heap.size := by simp [World.setCell]
            have hQN1 := HRA1.out.toReach.len HT.out HG.out
            rw [List.length_append, List.length_singleton] at hQN1
            have Hm := Lib.hid hm
            clear hm HB3 HR3 HX3
            have Hml2 := Lib.hid (nints_snoc Q z)
            have HQl : Hid ((Q ++ [z]).length = Q.length + 1) := by show _ = _; simp
            go_wp2_with (at_builtin; refine wpList_append_own _ rfl _ _ 22 rfl (w.heap.size + 2) 3 i0 (.int .i64 0) 1 8 Try.underlying22 hi0 hz0 hz1 hz2 rfl (by decide) _ _ _ rfl (HR4.out.alloc _) ⟨w9.heap.size, 0, none⟩ 1 1 [.int .i64 (z : Int)] rfl rfl ?c1 ?c2 ?c3 ?c4 ?c5 ?_)
            case c1 => intro j u hj; match j, hj with | 0, hj => (simp at hj; subst hj; have hcc := (Blk.new1 (w9.setCell ⟨w.heap.size + 1, z, none⟩ (.bool true)) #[.int .i64 (z : Int)] 3).cell 0; rw [hs4] at hcc; simpa [Addr.add] using hcc)
            case c2 => intro u hu; simp at hu; subst hu; rfl
            case c3 => unfold maxLen; omega
            case c4 => omega
            case c5 => simp [World.setCell]; omega
            intro v' w6 hown' hgrow _
            have HX6 : Hid (w6.ownsRow (w.heap.size + 2) 3 1 v' (Q ++ [z]).length (ints (nints (Q ++ [z])))) := by
              show World.ownsRow _ _ _ _ _ _ _
              rw [Hml2.out, HQl.out]; simpa [ints] using hown'
            have hbw6 : Below w.heap.size w w6 := grown_one HR4.out hgrow hb4 (by omega) (by omega)
            have HB6 := Lib.hid (HB4.out.keep (grown_block HR4.out hgrow (show w.heap.size + 1 < w.heap.size + 2 by omega) (by omega)))
            have HXX : Hid (Blk w6 w.heap.size 28 #[.int .i64 (N : Int), .slice A n c]) := (grown_block HR4.out hgrow (show w.heap.size < w.heap.size + 2 by omega) (by omega)).trans HX4.out
            have hlq : a < (Q ++ [z]).length := by rw [HQl.out]; omega
            clear hown' hgrow HR4 HB4 HX4
            go_wp2_with fail
            go_roundw
            case rel => exact ⟨Q ++ [z], k + 1, by go_num, by omega, hlq, HX6, HB6, HRA1, HXX, hbw6⟩
            case measure => simp [intOf]; omega
          · rw [hm] at x4
            have HRA1 := Lib.hid (HRA.out.old Hy.out (by rw [Hz.out]; unfold memB at hm; simpa using hm))
            clear hm
            go_wp2_with fail
            go_roundw
            case rel => exact ⟨Q, k + 1, by go_num, by omega, hlt, HR3, HB3, HRA1, HX3, hb3⟩
            case measure => simp [intOf]; omega
        · obtain rfl : m = k := by omega
          have HQ1 := HRA
          rw [← Hml.out] at HQ1
          have HQ2 := Lib.hid HQ1.out.next
          clear HQ1
          go_wp2_with fail
          go_roundw
          case rel => exact ⟨Q, a + 1, by go_num, by omega, HR, HB, HQ2, HX, hb⟩
          case measure => simp [intOf]; omega
    · obtain rfl : Q.length = a := by omega
      have HBf := Lib.hid (HB.out.congr (f' := genB N xs G) (fun j _ => by
        have h2 := HQ.out.whole j
        unfold memB genB
        by_cases hj : j ∈ Q
        · rw [decide_eq_true hj, cdec_yes (h2.1 hj)]
        · rw [decide_eq_false hj, cdec_no (fun h => hj (h2.2 h))]))
      go_wp2_with fail
      go_ret
      exact ⟨_, rfl, HBf.out.own (by unfold maxLen; omega) (by omega), hb⟩
end Go.Proofs.Ytkiomohpmajjcaa
