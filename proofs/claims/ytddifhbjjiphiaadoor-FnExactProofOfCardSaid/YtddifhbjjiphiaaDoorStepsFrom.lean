/- The iterator over steps: stepsFrom, and what its value gives. -/
import Derived.RangeFuncNested
import Derived.RangeFuncBound
import Derived.RangeFuncCalls
import Derived.RangeFuncLeaves
import Derived.Shelf.Abstract
import Derived.Shelf.RegionOpen
import Derived.WalkKit
import Derived.OwnWalkIn
import Derived.TacticsInMore
import Derived.LoopNIn
import Derived.LoopIn
import Derived.Test.YtddifhbjjiphiaaDoorApply
namespace Go.Proofs.YtddifhbjjiphiaaDoor
open Go.RowKit Go.Shelf
attribute [local go_sem] Oper.semAt_some

/-- A step that is there. -/
abbrev StepAt (l : List R) (s : ByteArray) := { x : ST // isStepB l s x = true }
def vals {l : List R} {s : ByteArray} (xs : List (StepAt l s)) : List ST := xs.map (·.1)
theorem vals_snoc {l : List R} {s : ByteArray} (xs : List (StepAt l s)) (x : StepAt l s) : vals (xs ++ [x]) = vals xs ++ [x.1] := by simp [vals]

set_option maxHeartbeats 400000 in
theorem place_any (d : Int) (s : ByteArray) (i : Nat) (w : World) (hs : s.size ≤ 1048576) (hi : i < s.size) :
    Calls Tryd.prog 91 #[.int .i64 d, .string s, .int .i64 i] w fun e w' => e = .returned (.int .i64 (placeD d s.size i)) ∧ w = w' := by
  by_cases hd : d = 1
  · subst hd
    have He : (placeD 1 s.size i : Int) = (s.size : Int) - 1 - i := by rw [placeD, if_pos rfl]; omega
    rw [He]
    clear He
    go_enter Tryd.func91, Tryd.ntmps91
    go_wp2_with fail
    go_ret
    exact ⟨rfl, rfl⟩
  · have He : (placeD d s.size i : Int) = i := by rw [placeD, if_neg hd]
    rw [He]
    clear He
    go_enter Tryd.func91, Tryd.ntmps91
    go_wp2_with fail
    go_ret
    exact ⟨rfl, rfl⟩

set_option maxHeartbeats 400000 in
theorem stepsFrom_any (k : Int) (A : Option Addr) (n c : Nat) (s : ByteArray) (d : Int) (w : World) :
    Calls Tryd.prog 88 #[.agg #[.int .i64 k, .slice A n c], .string s, .int .i64 d] w fun e w' =>
      e = .returned (.func (.func 90) #[] #[.pointer (some ⟨w.heap.size + 1, 0, none⟩), .pointer (some ⟨w.heap.size + 2, 0, none⟩), .pointer (some ⟨w.heap.size, 0, none⟩)]) ∧
      w' = ((w.alloc (.cells #[.int .i64 k, .slice A n c] 32)).alloc (.cells #[.string s] 9)).alloc (.cells #[.int .i64 d] 106) := by
  go_enter Tryd.func88, Tryd.ntmps88
  go_wp2_with fail
  go_ret
  exact ⟨rfl, rfl⟩

theorem grown_of_below {w w' : World} (h : Below w.heap.size w w') : w.grownBy w' none := ⟨h.os, h.tape, h.output, h.size, fun k hk _ => h.block k hk⟩
theorem abides_below {β : Type} {B : Nat} {J : β → World → Prop} (hJ : AbidesFrom B J) {x : β} {w w' : World} (h : J x w) (hb : Below w.heap.size w w') : J x w' :=
  hJ x w w' none h (grown_of_below hb) (fun _ e => by cases e)

theorem rowTo_pre (l : List R) (s : ByteArray) (i j : Nat) : ∀ e, rowTo l s i j <+: rowTo l s i (j + e)
  | 0 => List.prefix_refl _
  | e + 1 => (rowTo_pre l s i j e).trans (List.prefix_append _ _)
theorem rowsTo_pre (l : List R) (s : ByteArray) (d : Int) (i : Nat) : ∀ e, rowsTo l s d i <+: rowsTo l s d (i + e)
  | 0 => List.prefix_refl _
  | e + 1 => (rowsTo_pre l s d i e).trans (List.prefix_append _ _)
theorem steps_pre (l : List R) (s : ByteArray) (d : Int) (q j : Nat) (hq : q < s.size) (hj : j ≤ l.length) : rowsTo l s d q ++ rowTo l s (placeD d s.size q) j <+: stepsD l s d := by
  have h1 := rowsTo_pre l s d (q + 1) (s.size - (q + 1))
  rw [show q + 1 + (s.size - (q + 1)) = s.size by omega] at h1
  refine List.IsPrefix.trans ?_ h1
  rw [rowsTo]
  have h2 := rowTo_pre l s (placeD d s.size q) j (l.length - j)
  rw [show j + (l.length - j) = l.length by omega] at h2
  exact (List.prefix_append_right_inj _).2 h2
/-- What an iterator asks of a round: the blocks of D lie as they lay. -/
structure Keeps (D : Nat → Prop) (W W' : World) : Prop where
  size : W.heap.size ≤ W'.heap.size
  block : ∀ k, D k → W'.heap[k]? = W.heap[k]?
theorem Keeps.refl (D : Nat → Prop) (W : World) : Keeps D W W := ⟨Nat.le_refl _, fun _ _ => rfl⟩
theorem Keeps.trans {D : Nat → Prop} {X Y Z : World} (h : Keeps D X Y) (k : Keeps D Y Z) : Keeps D X Z := ⟨Nat.le_trans h.size k.size, fun i hi => (k.block i hi).trans (h.block i hi)⟩
theorem keeps_t {D : Nat → Prop} {A B C : World} (h : Keeps D A B) (k : Keeps D B C) : Keeps D A C := h.trans k
theorem keeps_b {D : Nat → Prop} {w : World} (hD : ∀ k, D k → k < w.heap.size) (W : World) (l : Nat) (o o' : Obj) (hl : w.heap.size ≤ l) (h : W.heap[l]? = some o) (_ : o.isCells = false) (_ : o.isWalk = false) : Keeps D W (W.putObj l o') :=
  ⟨(grownBy_putObj' W l o').size, fun k hk => by have h1 := hD k hk; have h2 := (Array.getElem?_eq_some_iff.1 h).1; exact (grownBy_putObj' W l o').block k (by omega) (fun e => by injection e; omega)⟩
theorem keeps_of {D : Nat → Prop} {n : Nat} {W W' : World} (h : Below n W W') (hD : ∀ k, D k → k < n) : Keeps D W W' := ⟨h.size, fun k hk => h.block k (hD k hk)⟩
theorem Blk.keeps {D : Nat → Prop} {W W' : World} {g : Nat} {t : TypeId} {cs : Array Value} (h : Blk W g t cs) (hk : Keeps D W W') (hg : D g) : Blk W' g t cs := (hk.block g hg).trans h
theorem Own.under {B n m c : Nat} {D : Nat → Prop} {w w' : World} {A : Option Addr} {xs : List Value} (h : Own B w (.slice A n c) m n xs) (hb : Keeps D w w') (hA : 0 < n → D (blockOf A)) : Own B w' (.slice A n c) m n xs := by
  obtain ⟨h1, A9, c9, hv, hc, hm, h2⟩ := h
  obtain ⟨rfl, rfl⟩ : A = A9 ∧ c = c9 := by injection hv with a _ b; exact ⟨a, b⟩
  refine ⟨h1, A, c, rfl, hc, hm, fun hn => ?_⟩
  obtain ⟨g, off, e, hg, hlt, r⟩ := h2 hn
  have hb1 : blockOf A = g := by rw [e]; rfl
  have hh := hb.block g (by rw [← hb1]; exact hA hn)
  exact ⟨g, off, e, hg, Nat.lt_of_lt_of_le hlt hb.size, fun j hj => ⟨(World.cell?_of_block (w := w) (a := ⟨g, off + j, none⟩) hh).trans (r j hj).1, (World.frozen?_of_block (w := w) (a := ⟨g, off + j, none⟩) hh).trans (r j hj).2⟩⟩

set_option maxRecDepth 100000 in
set_option maxHeartbeats 2000000 in
theorem stepsFrom1_in (m : Nat) (hm : 1 ≤ m) (k : Int) (A : Option Addr) (n c B : Nat) (l : List R) (s : ByteArray) (d : Int) (hs : s.size ≤ 1048576) (hn12 : n ≤ 12) (bs bw bd lp : Nat) (D : Nat → Prop) (J Jx : List (StepAt l s) → World → Prop)
    (hY : ∀ pre x W, J pre W → pre.length < (stepsD l s d).length → YieldAt Fence.wide (m - 1) Tryd.prog lp #[stepV x.1] W fun e W' =>
      (e = .returned (.bool true) ∧ J (pre ++ [x]) W' ∧ Keeps D W W') ∨ (e = .returned (.bool false) ∧ Jx (pre ++ [x]) W'))
    (W : World) (hJ : AbidesFrom W.heap.size J) (hD : ∀ k, D k → k < W.heap.size) (h1 : Blk W bs 32 #[.int .i64 k, .slice A n c]) (h2 : Blk W bw 9 #[.string s]) (h3 : Blk W bd 106 #[.int .i64 d]) (g1 : D bs) (g2 : D bw) (g3 : D bd)
    (hO : Own B W (.slice A n c) 2 n (rulesC l)) (hOn : 0 < n → D (blockOf A)) (h0 : J [] W) :
    CallsIn Fence.wide m Tryd.prog 90 #[.func (.yield lp) #[] #[], .pointer (some ⟨bw, 0, none⟩), .pointer (some ⟨bd, 0, none⟩), .pointer (some ⟨bs, 0, none⟩)] W fun e W' => (∃ v, e = .returned v) ∧
      ((∃ ys, vals ys = stepsD l s d ∧ J ys W') ∨ (∃ pre, vals pre <+: stepsD l s d ∧ Jx pre W')) := by
  have hw0 := h2.cell 0
  refine callsIn_of_wp Tryd.func90 rfl trivial ?_ rfl
  simp only [Tryd.ntmps90, List.size_toArray, List.length_cons, List.length_nil, Nat.reduceAdd, Nat.reduceSub, Array.replicate_succ, Array.replicate_zero, List.push_toArray, List.append_toArray, List.nil_append, List.cons_append]
  gi_wp2
  gi_loopw [11] (fun i wr => ∃ (q : Nat) (pre : List (StepAt l s)), i = .int .i64 q ∧ q ≤ s.size ∧ Hid (vals pre = rowsTo l s d q) ∧ Keeps D W wr ∧ J pre wr)
    (fun i _ => s.size - (intOf i).toNat)
  case atStart =>
    exact ⟨0, [], rfl, Nat.zero_le _, rfl, Keeps.refl _ _, h0⟩
  case round =>
    obtain ⟨q, pre, rfl, hq, HP, hb, hJs⟩ := hrel
    have hw1 := (h2.keeps hb g2).cell 0
    have hd1 := (h3.keeps hb g3).cell 0
    have hs1 := (h1.keeps hb g1).cell 1
    have hsz := hb.size
    by_cases hqs : q < s.size
    · gi_wp2_with fail
      refine ⟨trivial, (callsIn_wide.2 (place_any d s q _ hs hqs)).mono ?_⟩
      rintro e w' ⟨rfl, rfl⟩
      gi_wp2_with fail
      generalize hp : placeD d s.size q = p at *
      have hpl : p ≤ s.size := by rw [← hp]; unfold placeD; split <;> omega
      have Hp := Lib.hid hp
      clear hp hw1 hd1 hs1
      obtain ⟨w0, rfl⟩ : ∃ x : World, x = wr := ⟨_, rfl⟩
      gi_loopw [21] (fun i wx => ∃ (j : Nat) (pre : List (StepAt l s)), i = .int .i64 j ∧ j ≤ n ∧ Hid (vals pre = rowsTo l s d q ++ rowTo l s p j) ∧ Keeps D W wx ∧ J pre wx) (fun i _ => n - (intOf i).toNat)
      case atStart => exact ⟨0, pre, rfl, Nat.zero_le _, by show _ = _; rw [rowTo, List.append_nil]; exact HP.out, hb, hJs⟩
      case round =>
        clear hJs HP pre
        obtain ⟨j, pre, rfl, hj, HP, hb2, hJs⟩ := hrel
        have hsz2 := hb2.size
        have hw2 := (h2.keeps hb2 g2).cell 0
        by_cases hlt : j < n
        · have HO2 := hO.under hb2 hOn
          obtain ⟨g, off, c0, hv⟩ := HO2.formR (by omega)
          obtain ⟨rfl, rfl⟩ : A = some ⟨g, off, none⟩ ∧ c = c0 := by injection hv with a _ b; exact ⟨a, b⟩
          clear hv
          obtain ⟨-, hgl, ⟨u, v⟩, hr, x0, x1, -, -⟩ := HO2.rule hlt
          have Hr := Lib.hid hr
          clear hr HO2
          have b3 := bel1 wr (.cells #[.string u, .string v] 63)
          have hw3 := ((h2.keeps hb2 g2).alloc (.cells #[.string u, .string v] 63)).cell 0
          clear hw2
          gi_wp2_with fail
          have hJ3 := abides_below hJ hJs b3
          have b4 := hb2.trans (keeps_of b3 (fun k hk => by have := hD k hk; omega))
          clear x0 x1 hw3 hJs b3
          generalize wr.alloc (.cells #[.string u, .string v] 63) = w3 at *
          refine ⟨trivial, (callsIn_wide.2 (beginsAt_any u v s p _ hpl)).mono ?_⟩
          rintro e w4 ⟨rfl, hb4⟩
          have hJ4 := abides_below hJ hJ3 hb4
          have b5 := b4.trans (keeps_of hb4 (fun k hk => by have := hD k hk; have := b4.size; omega))
          clear hJ3 b4 hb4
          have Hst := rowTo_step l s p j _ Hr.out
          have hjl : j < l.length := (List.getElem?_eq_some_iff.1 Hr.out).1
          cases hat : atP s u p
          · have HP2 : Hid (vals pre = rowsTo l s d q ++ rowTo l s p (j + 1)) := by show _ = _; rw [Hst, hat, if_neg (by simp), List.append_nil]; exact HP.out
            clear hat Hst
            gi_wp2_with fail
            refine ⟨fun _ h => (by cases h), ?_⟩
            gi_wp2_with fail
            go_roundw
            case rel => exact ⟨j + 1, pre, by go_num, by omega, HP2, b5, hJ4⟩
            case measure => simp [intOf]; omega
          · have hpre : rowsTo l s d q ++ rowTo l s p (j + 1) <+: stepsD l s d := by rw [← Hp.out]; exact steps_pre l s d q (j + 1) hqs (by omega)
            have hx : isStepB l s ((j : Int), (p : Int)) = true := by
              rw [← mem_stepsD l s d]
              refine hpre.subset ?_
              rw [Hst, hat, if_pos rfl]; simp
            have hv : vals (pre ++ [(⟨_, hx⟩ : StepAt l s)]) = rowsTo l s d q ++ rowTo l s p (j + 1) := by rw [vals_snoc, HP.out, Hst, hat, if_pos rfl, List.append_assoc]
            have HV := Lib.hid hv
            have Hpre := Lib.hid hpre
            have hlen : pre.length < (stepsD l s d).length := by
              have h1 := hpre.length_le
              rw [← hv] at h1
              simp [vals] at h1
              omega
            obtain ⟨fn, tmps, assign, body, hy, hR⟩ := hY pre ⟨_, hx⟩ w4 hJ4 hlen
            have hs5 := b5.size
            clear hat Hst hv hpre hlen
            dsimp only at hy
            gi_wp2_with fail
            refine hR.mono ?_
            rintro e w6 (⟨rfl, hJ6, hk6⟩ | ⟨rfl, hJx6⟩)
            · have b6 := b5.trans hk6
              gi_wp2_with fail
              go_roundw
              case rel => exact ⟨j + 1, _, by go_num, by omega, HV, b6, hJ6⟩
              case measure => simp [intOf]; omega
            · gi_wp2_with fail
              refine bodyPost_ret (results_none rfl _ _ _) rfl ?_
              exact ⟨⟨_, rfl⟩, .inr ⟨_, by rw [HV.out]; exact Hpre.out, hJx6⟩⟩
        · obtain rfl : j = n := by omega
          have HP3 : Hid (vals pre = rowsTo l s d (q + 1)) := by show _ = _; rw [rowsTo, Hp.out, hO.rlen]; exact HP.out
          gi_wp2_with fail
          go_roundw
          case rel => exact ⟨q + 1, pre, by go_num, by omega, HP3, hb2, hJs⟩
          case measure => simp [intOf]; omega
    · obtain rfl : q = s.size := by omega
      gi_wp2_with fail
      go_end0
      exact ⟨⟨_, rfl⟩, .inl ⟨pre, HP.out, hJs⟩⟩

/-- What stepsFrom's value needs of a world. -/
structure SeqAt (l : List R) (s : ByteArray) (d : Int) (bs bw bd : Nat) (D : Nat → Prop) (W : World) : Prop where
  sys : ∃ k A n c B, Blk W bs 32 #[.int .i64 k, .slice A n c] ∧ Own B W (.slice A n c) 2 n (rulesC l) ∧ n ≤ 12 ∧ (0 < n → D (blockOf A))
  str : Blk W bw 9 #[.string s]
  dir : Blk W bd 106 #[.int .i64 d]
  g1 : D bs
  g2 : D bw
  g3 : D bd
theorem SeqAt.keeps {l : List R} {s : ByteArray} {d : Int} {bs bw bd : Nat} {D : Nat → Prop} {W W' : World} (h : SeqAt l s d bs bw bd D W) (hb : Keeps D W W') : SeqAt l s d bs bw bd D W' := by
  obtain ⟨k, A, n, c, B, h1, h2, h3, h4⟩ := h.sys
  exact ⟨⟨k, A, n, c, B, h1.keeps hb h.g1, h2.under hb h4, h3, h4⟩, h.str.keeps hb h.g2, h.dir.keeps hb h.g3, h.g1, h.g2, h.g3⟩
theorem steps_stops (m : Nat) (hm : 1 ≤ m) (l : List R) (s : ByteArray) (d : Int) (hs : s.size ≤ 1048576) (bs bw bd : Nat) (D : Nat → Prop) (w : World) (h : SeqAt l s d bs bw bd D w) (hD : ∀ k, D k → k < w.heap.size) :
    SeqStopsK Fence.wide m Tryd.prog 90 #[.pointer (some ⟨bw, 0, none⟩), .pointer (some ⟨bd, 0, none⟩), .pointer (some ⟨bs, 0, none⟩)] (fun x : StepAt l s => #[stepV x.1]) (Keeps D) (fun ys => vals ys = stepsD l s d) (fun pre => vals pre <+: stepsD l s d) (stepsD l s d).length w := by
  intro lp J Jx W hW hJ _ hY h0
  have h' := h.keeps (keeps_of hW hD)
  obtain ⟨k, A, n, c, B, h1, h2, h3, h4⟩ := h'.sys
  exact stepsFrom1_in m hm k A n c B l s d hs h3 bs bw bd lp D J Jx hY W hJ (fun k hk => by have := hD k hk; have := hW.size; omega) h1 h'.str h'.dir h'.g1 h'.g2 h'.g3 h2 h4 h0
end Go.Proofs.YtddifhbjjiphiaaDoor
