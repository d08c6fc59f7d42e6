/- The listing of reduced words: isTooLow, visit. -/
import Derived.Test.YtjecadpofkblnaaDoorRoom
import Derived.Test.YtjecadpofkblnaaDoorListPlain
import Derived.Test.YtjecadpofkblnaaDoorStepsFrom
import Derived.ControlIn
namespace Go.Proofs.YtjecadpofkblnaaDoor
open Go.RowKit Go.Maps Go.Shelf

/-- A beginning b before all words from s on. -/
def lowS (s b : ByteArray) : Bool := Op.bytesLess b.toList (s.extract 0 (min s.size b.size)).toList
set_option maxHeartbeats 400000 in
theorem tooLow_any (gX : Nat) (s b : ByteArray) (w : World) (hX : w.cell? ⟨gX, 2, none⟩ = some (.string s)) :
    Calls Tryd.prog 94 #[.pointer (some ⟨gX, 0, none⟩), .string b] w fun y w' => y = .returned (.bool (lowS s b)) ∧ ∃ m, w' = w.drewN m := by
  by_cases hlt : b.size < s.size
  · have Hlow : Hid (lowS s b = Op.bytesLess b.toList (s.extract 0 b.size).toList) := by show _ = _; unfold lowS; rw [Nat.min_eq_right (Nat.le_of_lt hlt)]
    have h1 : (b.size : Int) < (s.size : Int) := by omega
    have h2 : (b.size : Int) ≤ (s.size : Int) := by omega
    go_enter Tryd.func94, Tryd.ntmps94
    go_wp2_with fail
    go_quiet (fail)
    all_goals go_wp2_with fail
    go_ret
    exact ⟨ret_bool Hlow.out.symm, _, rfl⟩
  · have Hlow : Hid (lowS s b = Op.bytesLess b.toList s.toList) := by show _ = _; unfold lowS; rw [Nat.min_eq_left (Nat.le_of_not_lt hlt)]; simp
    have h1 : ¬ (b.size : Int) < (s.size : Int) := by omega
    go_enter Tryd.func94, Tryd.ntmps94
    go_wp2_with fail
    go_quiet (fail)
    all_goals go_wp2_with fail
    go_ret
    exact ⟨ret_bool Hlow.out.symm, _, rfl⟩
/-- Block b is a variable that holds an end. -/
def EndB (W : World) (b : Nat) : Prop := ∃ cs, W.heap[b]? = some (.cells cs 97 (0, 0))
/-- The blocks of D, and variables that hold ends, lie as they lay. -/
structure KeepE (D : Nat → Prop) (W W' : World) : Prop where
  size : W.heap.size ≤ W'.heap.size
  block : ∀ b, D b ∨ EndB W b → W'.heap[b]? = W.heap[b]?
theorem KeepE.refl (D : Nat → Prop) (W : World) : KeepE D W W := ⟨Nat.le_refl _, fun _ _ => rfl⟩
theorem KeepE.trans {D : Nat → Prop} {X Y Z : World} (h : KeepE D X Y) (k : KeepE D Y Z) : KeepE D X Z :=
  ⟨Nat.le_trans h.size k.size, fun b hb => (k.block b (hb.imp id (fun ⟨cs, hc⟩ => ⟨cs, (h.block b (.inr ⟨cs, hc⟩)).trans hc⟩))).trans (h.block b hb)⟩
theorem keepE_t {D : Nat → Prop} {A B C : World} (h : KeepE D A B) (k : KeepE D B C) : KeepE D A C := h.trans k
theorem keepE_b {D : Nat → Prop} {w : World} (hD : ∀ k, D k → k < w.heap.size) (W : World) (l : Nat) (o o' : Obj) (hl : w.heap.size ≤ l) (h : W.heap[l]? = some o) (hc : o.isCells = false) (_ : o.isWalk = false) : KeepE D W (W.putObj l o') :=
  ⟨(grownBy_putObj' W l o').size, fun b hb => World.putObj_heap_other (fun e => by
    subst e
    rcases hb with hb | ⟨cs, hb⟩
    · have := hD b hb; omega
    · rw [h] at hb; injection hb with hb; subst hb; cases hc)⟩
theorem keepE_of {D : Nat → Prop} {W W' : World} (h : Below W.heap.size W W') (hD : ∀ k, D k → k < W.heap.size) : KeepE D W W' :=
  ⟨h.size, fun b hb => h.block b (hb.elim (hD b) (fun ⟨_, hc⟩ => (Array.getElem?_eq_some_iff.1 hc).1))⟩
theorem KeepE.blk {D : Nat → Prop} {W W' : World} (hk : KeepE D W W') {g : Nat} {t : TypeId} {cs : Array Value} (h : Blk W g t cs) (hg : D g) : Blk W' g t cs := (hk.block g (.inl hg)).trans h
theorem KeepE.end_ {D : Nat → Prop} {W W' : World} (hk : KeepE D W W') {g : Nat} {cs : Array Value} (h : Blk W g 97 cs) : Blk W' g 97 cs := (hk.block g (.inr ⟨cs, h⟩)).trans h
/-- What visit needs of a world: the listing at gX, of the words of n letters from s on. -/
structure ListAt (l : List R) (k gX gL mA gR n : Nat) (s : ByteArray) (Q : List E) (D : Nat → Prop) (W : World) : Prop where
  obj : Blk W gX 113 #[.pointer (some ⟨gL, 0, none⟩), .int .i64 n, .string s, .map (some gR)]
  lang : ∃ v, Blk W gL 101 #[.int .i64 k, v, .map (some mA)]
  aft : ∃ c, MapOf moveK W mA c (aftV (aftQ l k Q))
  room : ∃ c, MapOf endK W gR c (roomM l k Q (n + 1))
  abc : ∀ j : Nat, j < 4 → W.cell? ⟨0, j, none⟩ = some (.int .u8 (97 + (j : Int)))
  dX : D gX
  dL : D gL
  dA : D mA
  dR : D gR
  dG : D 0
theorem ListAt.keep {l : List R} {k gX gL mA gR n : Nat} {s : ByteArray} {Q : List E} {D : Nat → Prop} {W W' : World} (h : ListAt l k gX gL mA gR n s Q D W) (hk : KeepE D W W') : ListAt l k gX gL mA gR n s Q D W' := by
  obtain ⟨h1, ⟨v, h2⟩, ⟨c, h3⟩, ⟨c', h4⟩, h5, d1, d2, d3, d4, d5⟩ := h
  exact ⟨hk.blk h1 d1, ⟨v, hk.blk h2 d2⟩, ⟨c, h3.same moveK (hk.block _ (.inl d3))⟩, ⟨c', h4.same endK (hk.block _ (.inl d4))⟩,
    fun j hj => (World.cell?_of_block (w := W) (a := ⟨0, j, none⟩) (hk.block _ (.inl d5))).trans (h5 j hj), d1, d2, d3, d4, d5⟩
theorem roomM_some {l : List R} {k n : Nat} {Q : List E} {e : E} (he : e ∈ Q) : roomM l k Q (n + 1) e = some (.int .i64 (roomOf l k n e)) := by
  unfold roomM; rw [if_pos ⟨he, Nat.succ_pos n⟩]; rfl
theorem listAt_pre (l : List R) (k : Nat) (low : ByteArray → Bool) (r : Nat) (u : ByteArray) (e : E) (j : Nat) : ∀ d, listAt l k low r u e j <+: listAt l k low r u e (j + d)
  | 0 => List.prefix_refl _
  | d + 1 => by
    refine (listAt_pre l k low r u e j d).trans ?_
    rw [← Nat.add_assoc]
    show listAt l k low r u e (j + d) <+: listAt l k low r u e (j + d + 1)
    unfold listAt
    rw [List.range_succ, List.flatMap_append]
    exact List.prefix_append _ _

set_option maxRecDepth 100000 in
set_option maxHeartbeats 4000000 in
theorem visit_in (m : Nat) (hm : 1 ≤ m) (l : List R) (k gX gL mA gR n : Nat) (s : ByteArray) (Q : List E) (D : Nat → Prop) (lp : Nat) (L : List ByteArray) (J Jx : List ByteArray → World → Prop) (hk4 : k ≤ 4) (hn : n ≤ 1000) (hl : ∀ r ∈ l, r.1.size ≤ 8) (h12 : l.length ≤ 12) (hQ : Ends l k Q)
    (hY : ∀ pre x W, J pre W → pre.length < L.length → YieldAt Fence.wide (m - 1) Tryd.prog lp #[.string x] W fun e W' =>
      (e = .returned (.bool true) ∧ J (pre ++ [x]) W' ∧ KeepE D W W') ∨ (e = .returned (.bool false) ∧ Jx (pre ++ [x]) W'))
    (W0 : World) (hJ : AbidesFrom W0.heap.size J) (hD : ∀ b, D b → b < W0.heap.size) (h0 : ListAt l k gX gL mA gR n s Q D W0) :
    ∀ (r : Nat) (u : ByteArray) (e : E) (pre : List ByteArray) (W : World), u.size + r = n → e ∈ Q → pre ++ listTo l k (lowS s) r u e <+: L → KeepE D W0 W → J pre W →
      CallsIn Fence.wide m Tryd.prog 68 #[.pointer (some ⟨gX, 0, none⟩), .string u, endV e, .func (.yield lp) #[] #[]] W fun y W' =>
        (y = .returned (.bool true) ∧ J (pre ++ listTo l k (lowS s) r u e) W' ∧ KeepE D W W') ∨ (y = .returned (.bool false) ∧ ∃ p, p <+: L ∧ Jx p W') := by
  have HQ := Lib.hid hQ
  have Hl := Lib.hid hl
  have H12 := Lib.hid h12
  clear hQ hl h12
  intro r
  induction r with
  | zero =>
    intro u e pre W hu he hpre hb hJp
    have b1 := bel1 W (.cells #[.int .i64 e.1, .int .i64 e.2] 97)
    have hJ1 := abides_below hJ hJp b1
    have hbW := keepE_of (D := D) b1 (fun b hd => by have := hD b hd; have := hb.size; omega)
    have hb1 := hb.trans hbW
    have HX := Lib.hid (h0.keep hb1).obj
    have x1 := HX.out.cell 1
    have e1 : ((u.size : Int) == (n : Int)) = true := by simp; omega
    have hlen : pre.length < L.length := by have := hpre.length_le; rw [List.length_append] at this; simp [listTo] at this; omega
    have Hpre := Lib.hid hpre
    clear hpre
    obtain ⟨fn, tmps, assign, body, hy, hR⟩ := hY pre u _ hJ1 hlen
    refine callsIn_of_wp Tryd.func68 rfl trivial ?_ rfl
    simp only [Tryd.ntmps68, List.size_toArray, List.length_cons, List.length_nil, Nat.reduceAdd, Nat.reduceSub, Array.replicate_succ, Array.replicate_zero, List.push_toArray, List.append_toArray, List.nil_append, List.cons_append]
    gi_wp2_with fail
    refine hR.mono ?_
    rintro y w6 (⟨rfl, hJ6, hk6⟩ | ⟨rfl, hJx6⟩)
    · have HJ6 := Lib.hid hJ6
      have HK6 := Lib.hid (hbW.trans hk6)
      gi_wp2_with fail
      go_ret
      exact .inl ⟨rfl, HJ6.out, HK6.out⟩
    · have HJ6 := Lib.hid hJx6
      gi_wp2_with fail
      go_ret
      exact .inr ⟨rfl, _, Hpre.out, HJ6.out⟩
  | succ r ih =>
    intro u e pre W hu he hpre hb hJp
    have hoe : okE e := (HQ.out.good e he).lt Hl.out H12.out
    have b1 := bel1 W (.cells #[.int .i64 e.1, .int .i64 e.2] 97)
    have hJ1 := abides_below hJ hJp b1
    have HBW := Lib.hid (keepE_of (D := D) b1 (fun b hd => by have := hD b hd; have := hb.size; omega))
    have hb1 := hb.trans HBW.out
    have HEb := Lib.hid (Blk.new1 W #[.int .i64 e.1, .int .i64 e.2] 97)
    have HA1 := h0.keep hb1
    have x0 := HA1.obj.cell 0
    have x1 := HA1.obj.cell 1
    obtain ⟨vL, hvL⟩ := HA1.lang
    have g0 := hvL.cell 0
    have e1 : ((u.size : Int) == (n : Int)) = false := by simp; omega
    have Hu := Lib.hid hu
    have hun : u.size ≤ 1000 := by omega
    have He := Lib.hid he
    have Hpre := Lib.hid hpre
    have hsz1 := hb.size
    clear hpre hu he hJp b1 hvL
    refine callsIn_wide.2 ?_
    go_enter Tryd.func68, Tryd.ntmps68
    go_wp2_with fail
    clear x0 x1 g0 e1 HA1
    have HB1 := Lib.hid hb1
    clear hb1 hb
    generalize W.heap.size = eb at *
    generalize W.alloc (.cells #[.int .i64 e.1, .int .i64 e.2] 97) = W1 at *
    go_loopw [30] (fun i wr => ∃ j : Nat, i = .int .i64 j ∧ j ≤ k ∧ Hid (KeepE D W1 wr) ∧ J (pre ++ listAt l k (lowS s) r u e j) wr) (fun i _ => k - (intOf i).toNat)
    case atStart => exact ⟨0, rfl, Nat.zero_le _, KeepE.refl _ _, by simpa [listAt] using hJ1⟩
    case round =>
      clear hJ1
      obtain ⟨j, rfl, hj, HK, hJr⟩ := hrel
      by_cases hlt : j < k
      · have HA := Lib.hid (h0.keep (HB1.out.trans HK.out))
        have HEr := Lib.hid (HK.out.end_ HEb.out)
        have hsr := (HB1.out.trans HK.out).size
        obtain ⟨u5, v5, cc5, hv5, hn5⟩ := after_form (aftQ l k Q e j)
        rw [aftQ_at He.out hlt] at hn5
        have Hn5 := Lib.hid hn5
        obtain ⟨vL, hvL⟩ := HA.out.lang
        obtain ⟨cA, hmA⟩ := HA.out.aft
        have glX : gX < wr.heap.size := HA.out.obj.lt
        have glL : gL < wr.heap.size := hvL.lt
        have ebr : eb < wr.heap.size := HEr.out.lt
        have hlk : ∀ w', Below wr.heap.size wr w' → (Instr.lookup 99 (.map (some mA)) (.agg #[.int .i64 e.1, .int .i64 e.2, .int .u8 (97 + (j : Int))]) true).run Tryd.prog w' = .ok (.tuple #[.agg #[.int .i64 u5, .int .i64 v5], .bool cc5]) w' := fun w' hw => by
          have := (hmA.below moveK hw (hmA.lt moveK)).look_ok moveK (mt := 99) (et := 97) Tryd.underlying99 (zeroEnd w') (x := (e, j)) ⟨hoe, by omega⟩
          rw [look_after, hv5] at this
          exact this
        have hcl := HA.out.abc j (by omega)
        have glt : 0 < wr.heap.size := World.block_lt_of_cell? wr _ hcl
        have HSt : Hid (∀ w', Below wr.heap.size wr w' → w'.cell? ⟨gX, 0, none⟩ = some (.pointer (some ⟨gL, 0, none⟩)) ∧ w'.cell? ⟨gL, 2, none⟩ = some (.map (some mA)) ∧ w'.cell? ⟨eb, 0, none⟩ = some (.int .i64 e.1) ∧ w'.cell? ⟨eb, 1, none⟩ = some (.int .i64 e.2) ∧ w'.cell? ⟨0, j, none⟩ = some (.int .u8 (97 + (j : Int))) ∧ (Instr.lookup 99 (.map (some mA)) (.agg #[.int .i64 e.1, .int .i64 e.2, .int .u8 (97 + (j : Int))]) true).run Tryd.prog w' = .ok (.tuple #[.agg #[.int .i64 u5, .int .i64 v5], .bool cc5]) w' ∧ Below wr.heap.size wr w') :=
          fun w' hw => ⟨(hw.cell glX).trans (HA.out.obj.cell 0), (hw.cell glL).trans (hvL.cell 2), (hw.cell ebr).trans (HEr.out.cell 0), (hw.cell ebr).trans (HEr.out.cell 1), (hw.cell glt).trans hcl, hlk w' hw, hw⟩
        have hj0 : (0 : Int) ≤ (j : Int) := by omega
        have hj4 : (j : Int) < 4 := by omega
        have c0' : Below wr.heap.size wr wr.drew := (Below.refl _ wr).drew
        clear hlk hcl hvL hmA hv5 hn5
        go_wp2_with fail
        go_cut [10, 11] from 33 to 49 (fun s9 s10 wx => ∃ (d : Nat), s9 = .pointer (some ⟨d, 0, none⟩) ∧ s10 = .bool cc5 ∧ Hid (Blk wx d 97 #[.int .i64 u5, .int .i64 v5]) ∧ Hid (Below wr.heap.size wr wx))
        case first =>
          go_region_held3 (fun w' => w'.cell? ⟨gX, 0, none⟩ = some (.pointer (some ⟨gL, 0, none⟩)) ∧ w'.cell? ⟨gL, 2, none⟩ = some (.map (some mA)) ∧ w'.cell? ⟨eb, 0, none⟩ = some (.int .i64 e.1) ∧ w'.cell? ⟨eb, 1, none⟩ = some (.int .i64 e.2) ∧ w'.cell? ⟨0, j, none⟩ = some (.int .u8 (97 + (j : Int))) ∧ (Instr.lookup 99 (.map (some mA)) (.agg #[.int .i64 e.1, .int .i64 e.2, .int .u8 (97 + (j : Int))]) true).run Tryd.prog w' = .ok (.tuple #[.agg #[.int .i64 u5, .int .i64 v5], .bool cc5]) w' ∧ Below wr.heap.size wr w')
            (first | exact HSt.out _ c0' | exact HSt.out _ (c0'.alloc c0'.size _) | exact HSt.out _ (((c0'.alloc c0'.size _).setCell c0'.size _).setCell c0'.size _))
            (fail)
          all_goals go_wp2_with fail
          all_goals go_meet
          all_goals exact ⟨_, rfl, rfl, Blk.new1 _ _ _, (bel1 wr _).drew⟩
        case rest =>
          obtain ⟨d, rfl, rfl, HDd, HW⟩ := hcut
          have hJc := abides_below hJ hJr HW.out
          have HKc := Lib.hid (HK.out.trans (keepE_of HW.out (fun b hd => by have := hD b hd; omega)))
          have HAc := Lib.hid (h0.keep (HB1.out.trans HKc.out))
          have y0 := HAc.out.abc j (by omega)
          obtain ⟨bb, hbs, hbx, hcv⟩ := letter_text j (by omega)
          have Hbb := Lib.hid (show u ++ bb = ext1 u j by unfold ext1; rw [hbx])
          clear hbx HSt c0' HW hJr HA HK HEr
          have hxs : (ext1 u j).size = u.size + 1 := ext1_size u j
          have HSZ := Lib.hid hxs
          have hxb : (ext1 u j).size ≤ 1001 := by omega
          have hsc := (HB1.out.trans HKc.out).size
          clear hxs
          go_wp2_with fail
          clear y0 hcv
          rw [Hbb.out]
          cases cc5
          · have hJn := Lib.hid (show J (pre ++ listAt l k (lowS s) r u e (j + 1)) wc by rw [listAt_none Hn5.out]; exact hJc)
            go_quiet (fail)
            all_goals go_wp2_with fail
            have hJn2 := abides_below hJ hJn.out (below_drewN (Below.refl _ _) nq)
            have HKn : Hid (KeepE D W1 (wc.drewN nq)) := ⟨HKc.out.size, HKc.out.block⟩
            go_roundw
            case rel => exact ⟨j + 1, by go_num, by omega, HKn, hJn2⟩
            case measure => simp [intOf]; omega
          · have Hn6 : Hid (nxtS l e j = some (u5, v5)) := Hn5
            have hm5 : (u5, v5) ∈ Q := HQ.out.next e j _ He.out hlt Hn6.out
            have ho5 : okE (u5, v5) := (HQ.out.good _ hm5).lt Hl.out H12.out
            have hrle := roomOf_le l k (u5, v5) n
            have hriff := roomOf_iff l k (u5, v5) n r (by have := Hu.out; omega)
            obtain ⟨cR, hmR⟩ := HAc.out.room
            have hlr : ∀ q, (Instr.lookup 110 (.map (some gR)) (.agg #[.int .i64 u5, .int .i64 v5]) false).run Tryd.prog (wc.drewN q) = .ok (.int .i64 (roomOf l k n (u5, v5))) (wc.drewN q) := fun q => by
              have := (hmR.below endK (below_drewN (Below.refl _ wc) q) (hmR.lt endK)).look endK (mt := 110) (et := 3) Tryd.underlying110 (zeroInt _) (x := (u5, v5)) ho5
              rw [roomM_some hm5] at this
              exact this
            have d0 : wc.cell? ⟨d, 0, none⟩ = some (.int .i64 u5) := HDd.out.cell 0
            have d1 : wc.cell? ⟨d, 1, none⟩ = some (.int .i64 v5) := HDd.out.cell 1
            have x1 : wc.cell? ⟨gX, 1, none⟩ = some (.int .i64 n) := HAc.out.obj.cell 1
            have x3 : wc.cell? ⟨gX, 3, none⟩ = some (.map (some gR)) := HAc.out.obj.cell 3
            have HTL := Lib.hid (fun q => tooLow_any gX s (ext1 u j) (wc.drewN q) (HAc.out.obj.cell 2))
            have Hm5 := Lib.hid hm5
            generalize hRM : roomOf l k n (u5, v5) = RM at *
            have HRM := Lib.hid hRM
            clear hRM hm5 hmR
            by_cases hc : r ≤ RM
            · have e2 : decide (((ext1 u j).size : Int) + (RM : Int) < (n : Int)) = false := by simp; have := HSZ.out; have := Hu.out; omega
              have hp := hriff.1 hc
              have Hp := Lib.hid hp
              clear hc hriff hp
              cases hlow : lowS s (ext1 u j)
              · have Htake := Lib.hid (listAt_take (low := lowS s) (u := u) Hn6.out Hp.out hlow)
                rw [hlow] at HTL
                have hpre2 : (pre ++ listAt l k (lowS s) r u e j) ++ listTo l k (lowS s) r (ext1 u j) (u5, v5) <+: L := by
                  have h1 := listAt_pre l k (lowS s) r u e (j + 1) (k - (j + 1))
                  rw [show j + 1 + (k - (j + 1)) = k by omega, ← listTo_succ] at h1
                  rw [List.append_assoc, ← Htake.out]
                  exact ((List.prefix_append_right_inj _).2 h1).trans Hpre.out
                have Hpre2 := Lib.hid hpre2
                clear hlow hpre2
                go_quiet ((go_at_call 94; exact Calls.quiet_of (HTL.out _)))
                go_wp2_with fail
                have hJn2 := abides_below hJ hJc (below_drewN (Below.refl _ _) nq)
                have HKn : Hid (KeepE D W1 (wc.drewN nq)) := ⟨HKc.out.size, HKc.out.block⟩
                refine (callsIn_wide.1 (ih (ext1 u j) (u5, v5) _ (wc.drewN nq) (by have := HSZ.out; have := Hu.out; omega) Hm5.out Hpre2.out (HB1.out.trans HKn.out) hJn2)).mono ?_
                rintro y w6 (⟨rfl, hJ6, hk6⟩ | ⟨rfl, hJx6⟩)
                · rw [List.append_assoc, ← Htake.out] at hJ6
                  have HK6 := Lib.hid (HKn.out.trans hk6)
                  go_wp2_with fail
                  go_roundw
                  case rel => exact ⟨j + 1, by go_num, by omega, HK6, hJ6⟩
                  case measure => simp [intOf]; omega
                · have HJ6 := Lib.hid hJx6
                  go_wp2_with fail
                  go_ret
                  exact .inr ⟨rfl, HJ6.out⟩
              · have hJn := Lib.hid (show J (pre ++ listAt l k (lowS s) r u e (j + 1)) wc by rw [listAt_skip Hn6.out (fun h => by rw [hlow] at h; cases h.2)]; exact hJc)
                rw [hlow] at HTL
                clear hlow
                go_quiet ((go_at_call 94; exact Calls.quiet_of (HTL.out _)))
                all_goals go_wp2_with fail
                have hJn2 := abides_below hJ hJn.out (below_drewN (Below.refl _ _) nq)
                have HKn : Hid (KeepE D W1 (wc.drewN nq)) := ⟨HKc.out.size, HKc.out.block⟩
                go_roundw
                case rel => exact ⟨j + 1, by go_num, by omega, HKn, hJn2⟩
                case measure => simp [intOf]; omega
            · have e2 : decide (((ext1 u j).size : Int) + (RM : Int) < (n : Int)) = true := by simp; have := HSZ.out; have := Hu.out; omega
              have hJn := Lib.hid (show J (pre ++ listAt l k (lowS s) r u e (j + 1)) wc by rw [listAt_skip Hn6.out (fun h => hc (hriff.2 h.1))]; exact hJc)
              clear hc hriff
              go_quiet (fail)
              all_goals go_wp2_with fail
              have hJn2 := abides_below hJ hJn.out (below_drewN (Below.refl _ _) nq)
              have HKn : Hid (KeepE D W1 (wc.drewN nq)) := ⟨HKc.out.size, HKc.out.block⟩
              go_roundw
              case rel => exact ⟨j + 1, by go_num, by omega, HKn, hJn2⟩
              case measure => simp [intOf]; omega
      · obtain rfl : k = j := by omega
        have HJn := Lib.hid hJr
        rw [← listTo_succ] at HJn
        go_wp2_with fail
        go_ret
        exact .inl ⟨rfl, HJn.out, HBW.out.trans HK.out⟩
end Go.Proofs.YtjecadpofkblnaaDoor
