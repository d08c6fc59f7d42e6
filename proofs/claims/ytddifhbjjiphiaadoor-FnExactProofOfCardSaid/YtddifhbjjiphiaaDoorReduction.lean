/- The iterator over a reduction: reduction, and what its value gives. -/
import Derived.Test.YtddifhbjjiphiaaDoorSpecReduce
namespace Go.Proofs.YtddifhbjjiphiaaDoor
open Go.RowKit Go.Shelf
attribute [local go_sem] Oper.semAt_some

set_option maxHeartbeats 400000 in
theorem reduction_any (k : Int) (A : Option Addr) (n c : Nat) (s : ByteArray) (d : Int) (w : World) :
    Calls Tryd.prog 72 #[.agg #[.int .i64 k, .slice A n c], .string s, .int .i64 d] w fun e w' =>
      e = .returned (.func (.func 82) #[] #[.pointer (some ⟨w.heap.size + 1, 0, none⟩), .pointer (some ⟨w.heap.size, 0, none⟩), .pointer (some ⟨w.heap.size + 2, 0, none⟩)]) ∧
      w' = ((w.alloc (.cells #[.int .i64 k, .slice A n c] 32)).alloc (.cells #[.string s] 9)).alloc (.cells #[.int .i64 d] 106) := by
  go_enter Tryd.func72, Tryd.ntmps72
  go_wp2_with fail
  go_ret
  exact ⟨rfl, rfl⟩

set_option maxRecDepth 100000 in
set_option maxHeartbeats 2000000 in
theorem reduction1_in (m : Nat) (hm : 1 ≤ m) (k kk : Int) (A : Option Addr) (n c B : Nat) (l : List R) (s : ByteArray) (d : Int) (hcan : canRed kk l s = true) (hsm : smallR l) (hn12 : n ≤ 12) (bs bw bd lp : Nat) (D : Nat → Prop) (J Jx : List (ST × ByteArray) → World → Prop)
    (hY : ∀ pre x W, J pre W → pre.length < (redsOf l d s).length → YieldAt Fence.wide (m - 1) Tryd.prog lp #[stepV x.1, .string x.2] W fun e W' =>
      (e = .returned (.bool true) ∧ J (pre ++ [x]) W' ∧ Keeps D W W') ∨ (e = .returned (.bool false) ∧ Jx (pre ++ [x]) W'))
    (W : World) (hJ : AbidesFrom W.heap.size J) (hD : ∀ k, D k → k < W.heap.size) (h1 : Blk W bs 32 #[.int .i64 k, .slice A n c]) (h2 : Blk W bw 9 #[.string s]) (h3 : Blk W bd 106 #[.int .i64 d]) (g1 : D bs) (g3 : D bd)
    (hO : Own B W (.slice A n c) 2 n (rulesC l)) (hOn : 0 < n → D (blockOf A)) (h0 : J [] W) :
    CallsIn Fence.wide m Tryd.prog 82 #[.func (.yield lp) #[] #[], .pointer (some ⟨bw, 0, none⟩), .pointer (some ⟨bs, 0, none⟩), .pointer (some ⟨bd, 0, none⟩)] W fun e W' => (∃ v, e = .returned v) ∧
      ((∃ ys, ys = redsOf l d s ∧ J ys W') ∨ (∃ pre, pre <+: redsOf l d s ∧ Jx pre W')) := by
  have hw0 := h2.cell 0
  have hc0 := canRed_size hcan
  refine callsIn_of_wp Tryd.func82 rfl trivial ?_ rfl
  simp only [Tryd.ntmps82, List.size_toArray, List.length_cons, List.length_nil, Nat.reduceAdd, Nat.reduceSub, Array.replicate_succ, Array.replicate_zero, List.push_toArray, List.append_toArray, List.nil_append, List.cons_append]
  gi_wp2
  gi_loopw [5] (fun v wr => ∃ (cur : ByteArray) (pre : List (ST × ByteArray)), v = .string cur ∧ cur.size ≤ 1048576 ∧ Hid (canRed kk l cur = true) ∧ Hid (redsOf l d s = pre ++ redsOf l d cur) ∧ Keeps D W wr ∧ J pre wr)
    (fun v _ => rankV v)
  case atStart =>
    exact ⟨s, [], rfl, by omega, hcan, rfl, Keeps.refl _ _, h0⟩
  case round =>
    obtain ⟨cur, pre, rfl, hcs, HC, HP, hb, hJs⟩ := hrel
    have hsz := hb.size
    obtain ⟨q0, q1, -, -, ql⟩ := (h1.keeps hb g1).two
    have hd0 := (h3.keeps hb g3).cell 0
    gi_wp2_with fail
    refine ⟨trivial, (callsIn_wide.2 (nextStep_any k A n c B l cur d _ hcs hn12 (hO.under hb hOn))).mono ?_⟩
    rintro e w1 ⟨rfl, hb1⟩
    have hJ1 := abides_below hJ hJs hb1
    have b1 := hb.trans (keeps_of hb1 (fun k hk => by have := hD k hk; omega))
    clear hb1 hJs hb q0 q1 ql hd0
    have hsz1 := b1.size
    rcases head_cases l cur d with hh | ⟨i, p, hh, hx⟩
    · rw [hh]
      have HP2 : Hid (pre = redsOf l d s) := by show _ = _; rw [HP.out, redsOf_none hh, List.append_nil]
      have hJ2 := Lib.hid (fun o => abides_below hJ hJ1 (bel1 w1 o))
      clear hh
      dsimp only [Option.getD_none, Option.isSome_none]
      gi_wp2_with fail
      refine bodyPost_ret (results_none rfl _ _ _) rfl ?_
      exact ⟨⟨_, rfl⟩, .inl ⟨pre, HP2.out, hJ2.out _⟩⟩
    · rw [hh]
      obtain ⟨ha1, ha2, ha3, ha4⟩ := step_props HC.out hx
      have Hrk := Lib.hid (step_rank HC.out hx)
      have HP2 : Hid (redsOf l d s = (pre ++ [(((i : Int), (p : Int)), (afterS l cur ((i : Int), (p : Int))).1)]) ++ redsOf l d (afterS l cur ((i : Int), (p : Int))).1) := by
        show _ = _; rw [HP.out, redsOf_some HC.out hh, List.append_assoc]; rfl
      have HC2 := Lib.hid ha2
      have Ha1 := Lib.hid ha1
      obtain ⟨i', p', e, hi, hp, r, hr, -⟩ := isStepB_parts hx
      obtain ⟨e1, e2⟩ : (i : Int) = i' ∧ (p : Int) = p' := by injection e with a b; exact ⟨a, b⟩
      obtain rfl : i = i' := by omega
      obtain rfl : p = p' := by omega
      have Hr := Lib.hid hr
      have hrs := Lib.hid (hsm r (List.mem_of_getElem? hr))
      clear hh hx ha1 ha2 ha3 e e1 e2 hr
      have hJ2 := abides_below hJ hJ1 (bel1 w1 (.cells #[.int .i64 i, .int .i64 p] 102))
      have b2 := b1.trans (keeps_of (bel1 w1 (.cells #[.int .i64 i, .int .i64 p] 102)) (fun k hk => by have := hD k hk; omega))
      have HX2 := Lib.hid (Blk.new1 w1 #[.int .i64 i, .int .i64 p] 102)
      obtain ⟨q0, q1, -, -, ql⟩ := (h1.keeps b2 g1).two
      obtain ⟨x0, x1, -, -, xl⟩ := HX2.out.two
      clear hJ1 b1
      dsimp only [Option.getD_some, Option.isSome_some]
      gi_wp2_with fail
      generalize w1.alloc (.cells #[.int .i64 i, .int .i64 p] 102) = w2 at *
      refine ⟨trivial, (callsIn_wide.2 (afterStep_any k A n c B l cur i p r _ (hO.under b2 hOn) Hr.out hrs.out hcs (by omega))).mono ?_⟩
      rintro e w3 ⟨rfl, hb3⟩
      rw [Ha1.out]
      have hsz2 := b2.size
      have hJ3 := abides_below hJ hJ2 hb3
      have b3 := b2.trans (keeps_of hb3 (fun k hk => by have := hD k hk; omega))
      obtain ⟨y0, y1, -, -, yl⟩ := (HX2.out.below hb3 HX2.out.lt).two
      clear hb3 hJ2 HX2 b2 q0 q1 ql x0 x1 xl Ha1
      generalize (afterS l cur ((i : Int), (p : Int))).1 = y at *
      have hlen : pre.length < (redsOf l d s).length := by rw [HP2.out]; simp
      obtain ⟨fn, tmps, assign, body, hy, hR⟩ := hY pre (((i : Int), (p : Int)), y) w3 hJ3 hlen
      have hsz3 := b3.size
      clear hlen
      dsimp only at hy
      gi_wp2_with fail
      refine hR.mono ?_
      rintro e w6 (⟨rfl, hJ6, hk6⟩ | ⟨rfl, hJx6⟩)
      · have b6 := b3.trans hk6
        gi_wp2_with fail
        go_roundw
        case rel => exact ⟨y, _, rfl, by omega, HC2, HP2, b6, hJ6⟩
        case measure => exact Hrk.out
      · gi_wp2_with fail
        refine bodyPost_ret (results_none rfl _ _ _) rfl ?_
        exact ⟨⟨_, rfl⟩, .inr ⟨_, ⟨_, HP2.out.symm⟩, hJx6⟩⟩

theorem reds_stops (m : Nat) (hm : 1 ≤ m) (kk : Int) (l : List R) (s : ByteArray) (d : Int) (hcan : canRed kk l s = true) (hsm : smallR l) (bs bw bd : Nat) (D : Nat → Prop) (w : World) (h : SeqAt l s d bs bw bd D w) (hD : ∀ k, D k → k < w.heap.size) :
    SeqStopsK Fence.wide m Tryd.prog 82 #[.pointer (some ⟨bw, 0, none⟩), .pointer (some ⟨bs, 0, none⟩), .pointer (some ⟨bd, 0, none⟩)] (fun x : ST × ByteArray => #[stepV x.1, .string x.2]) (Keeps D) (fun ys => ys = redsOf l d s) (fun pre => pre <+: redsOf l d s) (redsOf l d s).length w := by
  intro lp J Jx W hW hJ _ hY h0
  have h' := h.keeps (keeps_of hW hD)
  obtain ⟨k, A, n, c, B, h1, h2, h3, h4⟩ := h'.sys
  exact reduction1_in m hm k kk A n c B l s d hcan hsm h3 bs bw bd lp D J Jx hY W hJ (fun k hk => by have := hD k hk; have := hW.size; omega) h1 h'.str h'.dir h'.g1 h'.g3 h2 h4 h0
end Go.Proofs.YtddifhbjjiphiaaDoor
