/- ListPlain Visit WordsOf ImplList NextPlain SpecSeek SpecNextR ImplNextR LawNextReduced, one behind the other. -/
import Derived.Test.YtjecadpofkblnaaDoorRoomPlain
import Derived.Test.YtjecadpofkblnaaDoorRoom
import Derived.Test.YtjecadpofkblnaaDoorStepsFrom
import Derived.ControlIn
import Derived.Maps.AppendAt
import Derived.Test.YtjecadpofkblnaaDoorCollect
import Derived.Test.YtjecadpofkblnaaDoorImplGrowth
import Derived.Test.YtjecadpofkblnaaDoorReduced
import Derived.Test.YtjecadpofkblnaaDoorOrder
import Derived.Test.YtjecadpofkblnaaDoorSpecCount
import Derived.Test.YtjecadpofkblnaaDoorOneByte
import Derived.Test.YtjecadpofkblnaaDoorLess
import Derived.Test.YtjecadpofkblnaaDoorNextStep
import Derived.Test.YtjecadpofkblnaaDoorArgs
import Derived.Test.YtjecadpofkblnaaDoorWorld
import Derived.Deep.RegionHeld3
namespace Go.Proofs.YtjecadpofkblnaaDoor
open Go.RowKit

/-- The reduced words with one letter behind u. -/
def kidTo (l : List R) (u : ByteArray) (j : Nat) : List ByteArray := (List.range j).flatMap fun x => if hitS l (ext1 u x) then [] else [ext1 u x]
theorem kidTo_hit {l : List R} {u : ByteArray} {j : Nat} (h : hitS l (ext1 u j) = true) : kidTo l u (j + 1) = kidTo l u j := by
  unfold kidTo; rw [List.range_succ, List.flatMap_append, List.flatMap_singleton, if_pos h, List.append_nil]
theorem kidTo_new {l : List R} {u : ByteArray} {j : Nat} (h : hitS l (ext1 u j) = false) : kidTo l u (j + 1) = kidTo l u j ++ [ext1 u j] := by
  unfold kidTo; rw [List.range_succ, List.flatMap_append, List.flatMap_singleton, if_neg (by rw [h]; simp)]
theorem kidTo_len (l : List R) (u : ByteArray) : ∀ j, (kidTo l u j).length ≤ j
  | 0 => Nat.le_refl 0
  | j + 1 => by
    have := kidTo_len l u j
    cases h : hitS l (ext1 u j)
    · rw [kidTo_new h, List.length_append]; simp; omega
    · rw [kidTo_hit h]; omega
def kids (l : List R) (k : Nat) (L : List ByteArray) : List ByteArray := L.flatMap fun u => kidTo l u k
theorem kids_take {l : List R} {k a : Nat} {L : List ByteArray} {u : ByteArray} (h : L[a]? = some u) : kids l k (L.take (a + 1)) = kids l k (L.take a) ++ kidTo l u k := by
  have hk := (List.getElem?_eq_some_iff.1 h).1
  have he := (List.getElem?_eq_some_iff.1 h).2
  unfold kids
  rw [List.take_succ_eq_append_getElem hk, he, List.flatMap_append, List.flatMap_singleton]
theorem kids_len (l : List R) (k : Nat) : ∀ L : List ByteArray, (kids l k L).length ≤ L.length * k
  | [] => by simp [kids]
  | u :: L => by
    have h1 := kids_len l k L
    have h2 := kidTo_len l u k
    unfold kids at h1 ⊢
    rw [List.flatMap_cons, List.length_append, List.length_cons, Nat.add_mul]; omega
/-- .. and with n letters, level by level. -/
def lvl (l : List R) (k : Nat) : Nat → List ByteArray
  | 0 => [⟨#[]⟩]
  | n + 1 => kids l k (lvl l k n)
/-- .. with r letters behind u, one behind the other. -/
def dfs (l : List R) (k : Nat) : Nat → ByteArray → List ByteArray
  | 0, u => [u]
  | r + 1, u => (kidTo l u k).flatMap (dfs l k r)
theorem flatMap_flat {α β γ : Type} (f : α → List β) (g : β → List γ) : ∀ L : List α, (L.flatMap f).flatMap g = L.flatMap fun a => (f a).flatMap g
  | [] => rfl
  | a :: L => by simp only [List.flatMap_cons, List.flatMap_append, flatMap_flat f g L]
theorem dfs_back (l : List R) (k : Nat) : ∀ r u, dfs l k (r + 1) u = kids l k (dfs l k r u)
  | 0, u => by
    show (kidTo l u k).flatMap (fun v => [v]) = kids l k [u]
    unfold kids
    rw [List.flatMap_singleton]
    induction kidTo l u k with
    | nil => rfl
    | cons a L ih => rw [List.flatMap_cons, ih]; rfl
  | r + 1, u => by
    have h : dfs l k (r + 1 + 1) u = (kidTo l u k).flatMap (dfs l k (r + 1)) := rfl
    have h2 : dfs l k (r + 1) = fun v => kids l k (dfs l k r v) := funext fun v => dfs_back l k r v
    have h3 : dfs l k (r + 1) u = (kidTo l u k).flatMap (dfs l k r) := rfl
    rw [h, h3, h2]
    unfold kids
    rw [flatMap_flat]
theorem lvl_dfs (l : List R) (k : Nat) : ∀ n, lvl l k n = dfs l k n ⟨#[]⟩
  | 0 => rfl
  | n + 1 => by rw [dfs_back, ← lvl_dfs l k n]; rfl
/-- The end e says of u all that counts. -/
def Fits (l : List R) (u : ByteArray) (e : E) : Prop := Eqv (lefts l) u.data.toList (textE l e).data.toList
theorem fits_zero (l : List R) : Fits l ⟨#[]⟩ (0, 0) := Eqv.refl _ _
theorem fits_hit {l : List R} {u : ByteArray} {e : E} (h : Fits l u e) (x : Nat) : hitS l (ext1 u x) = hitS l (ext1 (textE l e) x) := by
  rw [hitS_ends, hitS_ends, ext1_list, ext1_list]; exact h [letC x] (by simp)
theorem fits_next {l : List R} {u : ByteArray} {e e' : E} {x : Nat} (h : Fits l u e) (hn : nxtS l e x = some e') : Fits l (ext1 u x) e' := by
  unfold nxtS at hn
  split at hn
  · cases hn
  · injection hn with hn
    subst hn
    have h1 := Eqv.snoc h (letC x)
    rw [← ext1_list, ← ext1_list] at h1
    obtain ⟨-, h2, h3⟩ := endOfS_spec l (ext1 (textE l e) x)
    exact h1.trans (eqv_lsp h2 h3)
theorem nxt_hit {l : List R} {e : E} {x : Nat} (h : hitS l (ext1 (textE l e) x) = true) : nxtS l e x = none := by unfold nxtS; rw [if_pos h]
theorem nxt_new {l : List R} {e : E} {x : Nat} (h : hitS l (ext1 (textE l e) x) = false) : ∃ e', nxtS l e x = some e' := ⟨_, by unfold nxtS; rw [if_neg (by rw [h]; simp)]⟩
theorem listTo_dfs (l : List R) (k : Nat) : ∀ (r : Nat) (u : ByteArray) (e : E), Fits l u e → listTo l k (fun _ => false) r u e = dfs l k r u
  | 0, _, _, _ => rfl
  | r + 1, u, e, h => by
    rw [listTo_succ]
    show _ = (kidTo l u k).flatMap (dfs l k r)
    have : ∀ j, listAt l k (fun _ => false) r u e j = (kidTo l u j).flatMap (dfs l k r) := by
      intro j
      induction j with
      | zero => rfl
      | succ j ih =>
        have hf := fits_hit h j
        cases hh : hitS l (ext1 (textE l e) j)
        · obtain ⟨e', hn⟩ := nxt_new hh
          have h2 := listTo_dfs l k r (ext1 u j) e' (fits_next h hn)
          rw [kidTo_new (hf.trans hh), List.flatMap_append, List.flatMap_singleton, ← ih, ← h2]
          rcases Nat.eq_zero_or_pos (cntE l k r e') with h0 | h0
          · rw [listAt_skip hn (fun h => by omega)]
            have h3 := listTo_len l k r (ext1 u j) e'
            rw [h0] at h3
            rw [List.eq_nil_of_length_eq_zero h3, List.append_nil]
          · rw [listAt_take hn h0 rfl]
        · rw [listAt_none (nxt_hit hh), kidTo_hit (hf.trans hh), ih]
    exact this k
/-- The list of the words of n letters. -/
theorem listTo_lvl (l : List R) (k n : Nat) : listTo l k (fun _ => false) n ⟨#[]⟩ (0, 0) = lvl l k n := by rw [listTo_dfs l k n _ _ (fits_zero l), lvl_dfs]
theorem lvl_len (l : List R) (k n : Nat) : (lvl l k n).length = countN l k n := by rw [← listTo_lvl, listTo_len]; rfl
theorem kidTo_size {l : List R} {u v : ByteArray} : ∀ j, v ∈ kidTo l u j → v.size = u.size + 1
  | 0, h => by simp [kidTo] at h
  | j + 1, h => by
    cases hh : hitS l (ext1 u j)
    · rw [kidTo_new hh, List.mem_append] at h
      rcases h with h | h
      · exact kidTo_size j h
      · simp at h; subst h; exact ext1_size u j
    · rw [kidTo_hit hh] at h; exact kidTo_size j h
theorem lvl_size {l : List R} {k : Nat} : ∀ n (v : ByteArray), v ∈ lvl l k n → v.size = n
  | 0, v, h => by simp [lvl] at h; subst h; rfl
  | n + 1, v, h => by
    obtain ⟨u, hu, hv⟩ := List.mem_flatMap.1 h
    rw [kidTo_size k hv, lvl_size n u hu]
theorem lvl_few (l : List R) (k : Nat) (hk : k ≤ 4) : ∀ n, (lvl l k n).length ≤ 4 ^ n
  | 0 => Nat.le_refl _
  | n + 1 => by
    have h1 := kids_len l k (lvl l k n)
    have h2 := Nat.mul_le_mul (lvl_few l k hk n) hk
    rw [Nat.pow_succ]
    exact Nat.le_trans h1 h2
theorem lvl_16 (l : List R) (k n : Nat) (hk : k ≤ 4) (hn : n ≤ 16) : (lvl l k n).length ≤ 4294967296 :=
  Nat.le_trans (lvl_few l k hk n) (Nat.le_trans (Nat.pow_le_pow_right (by omega) hn) (by decide))
theorem wr_small {c : Nat} (h : c ≤ 4294967296) : wr c = c := by unfold wr; rw [IntKind.wrap_i64]; omega
end Go.Proofs.YtjecadpofkblnaaDoor

namespace Go.Proofs.YtjecadpofkblnaaDoor
open Go.RowKit Go.Maps Go.Shelf

/-- A beginning b before all words from s on. -/
def lowS (s b : ByteArray) : Bool := Op.bytesLess b.toList (s.extract 0 (min s.size b.size)).toList
set_option maxHeartbeats 400000 in
theorem tooLow_any (gX : Nat) (s b : ByteArray) (w : World) (hX : w.cell? ⟨gX, 2, none⟩ = some (.string s)) :
    Calls Tryd.prog 94 #[.pointer (some ⟨gX, 0, none⟩), .string b] w fun y w' => y = .returned (.bool (lowS s b)) ∧ ∃ m, w' = w.drewN m := by
  by_cases hlt : b.size < s.size
  · have Hlow : Hid (lowS s b = Op.bytesLess b.toList (s.extract 0 b.size).toList) := by show _ = _; unfold lowS; rw [Nat.min_eq_right (Nat.le_of_lt hlt)]
    have h1 : (b.size : Int) < (s.size : Int) := by omega
    have h2 : (b.size : Int) ≤ (s.size : Int) := by omega
    go_enter Tryd.func94, Tryd.ntmps94
    go_wp2_with fail
    go_quiet (fail)
    all_goals go_wp2_with fail
    go_ret
    exact ⟨ret_bool Hlow.out.symm, _, rfl⟩
  · have Hlow : Hid (lowS s b = Op.bytesLess b.toList s.toList) := by show _ = _; unfold lowS; rw [Nat.min_eq_left (Nat.le_of_not_lt hlt)]; simp
    have h1 : ¬ (b.size : Int) < (s.size : Int) := by omega
    go_enter Tryd.func94, Tryd.ntmps94
    go_wp2_with fail
    go_quiet (fail)
    all_goals go_wp2_with fail
    go_ret
    exact ⟨ret_bool Hlow.out.symm, _, rfl⟩
/-- Block b is a variable that holds an end. -/
def EndB (W : World) (b : Nat) : Prop := ∃ cs, W.heap[b]? = some (.cells cs 97 (0, 0))
/-- The blocks of D, and variables that hold ends, lie as they lay. -/
structure KeepE (D : Nat → Prop) (W W' : World) : Prop where
  size : W.heap.size ≤ W'.heap.size
  block : ∀ b, D b ∨ EndB W b → W'.heap[b]? = W.heap[b]?
theorem KeepE.refl (D : Nat → Prop) (W : World) : KeepE D W W := ⟨Nat.le_refl _, fun _ _ => rfl⟩
theorem KeepE.trans {D : Nat → Prop} {X Y Z : World} (h : KeepE D X Y) (k : KeepE D Y Z) : KeepE D X Z :=
  ⟨Nat.le_trans h.size k.size, fun b hb => (k.block b (hb.imp id (fun ⟨cs, hc⟩ => ⟨cs, (h.block b (.inr ⟨cs, hc⟩)).trans hc⟩))).trans (h.block b hb)⟩
theorem keepE_t {D : Nat → Prop} {A B C : World} (h : KeepE D A B) (k : KeepE D B C) : KeepE D A C := h.trans k
theorem keepE_b {D : Nat → Prop} {w : World} (hD : ∀ k, D k → k < w.heap.size) (W : World) (l : Nat) (o o' : Obj) (hl : w.heap.size ≤ l) (h : W.heap[l]? = some o) (hc : o.isCells = false) (_ : o.isWalk = false) : KeepE D W (W.putObj l o') :=
  ⟨(grownBy_putObj' W l o').size, fun b hb => World.putObj_heap_other (fun e => by
    subst e
    rcases hb with hb | ⟨cs, hb⟩
    · have := hD b hb; omega
    · rw [h] at hb; injection hb with hb; subst hb; cases hc)⟩
theorem keepE_of {D : Nat → Prop} {W W' : World} (h : Below W.heap.size W W') (hD : ∀ k, D k → k < W.heap.size) : KeepE D W W' :=
  ⟨h.size, fun b hb => h.block b (hb.elim (hD b) (fun ⟨_, hc⟩ => (Array.getElem?_eq_some_iff.1 hc).1))⟩
theorem KeepE.blk {D : Nat → Prop} {W W' : World} (hk : KeepE D W W') {g : Nat} {t : TypeId} {cs : Array Value} (h : Blk W g t cs) (hg : D g) : Blk W' g t cs := (hk.block g (.inl hg)).trans h
theorem KeepE.end_ {D : Nat → Prop} {W W' : World} (hk : KeepE D W W') {g : Nat} {cs : Array Value} (h : Blk W g 97 cs) : Blk W' g 97 cs := (hk.block g (.inr ⟨cs, h⟩)).trans h
/-- What visit needs of a world: the listing at gX, of the words of n letters from s on. -/
structure ListAt (l : List R) (k gX gL mA gR n : Nat) (s : ByteArray) (Q : List E) (D : Nat → Prop) (W : World) : Prop where
  obj : Blk W gX 113 #[.pointer (some ⟨gL, 0, none⟩), .int .i64 n, .string s, .map (some gR)]
  lang : ∃ v, Blk W gL 101 #[.int .i64 k, v, .map (some mA)]
  aft : ∃ c, MapOf moveK W mA c (aftV (aftQ l k Q))
  room : ∃ c, MapOf endK W gR c (roomM l k Q (n + 1))
  abc : ∀ j : Nat, j < 4 → W.cell? ⟨0, j, none⟩ = some (.int .u8 (97 + (j : Int)))
  dX : D gX
  dL : D gL
  dA : D mA
  dR : D gR
  dG : D 0
theorem ListAt.keep {l : List R} {k gX gL mA gR n : Nat} {s : ByteArray} {Q : List E} {D : Nat → Prop} {W W' : World} (h : ListAt l k gX gL mA gR n s Q D W) (hk : KeepE D W W') : ListAt l k gX gL mA gR n s Q D W' := by
  obtain ⟨h1, ⟨v, h2⟩, ⟨c, h3⟩, ⟨c', h4⟩, h5, d1, d2, d3, d4, d5⟩ := h
  exact ⟨hk.blk h1 d1, ⟨v, hk.blk h2 d2⟩, ⟨c, h3.same moveK (hk.block _ (.inl d3))⟩, ⟨c', h4.same endK (hk.block _ (.inl d4))⟩,
    fun j hj => (World.cell?_of_block (w := W) (a := ⟨0, j, none⟩) (hk.block _ (.inl d5))).trans (h5 j hj), d1, d2, d3, d4, d5⟩
theorem roomM_some {l : List R} {k n : Nat} {Q : List E} {e : E} (he : e ∈ Q) : roomM l k Q (n + 1) e = some (.int .i64 (roomOf l k n e)) := by
  unfold roomM; rw [if_pos ⟨he, Nat.succ_pos n⟩]; rfl
theorem listAt_pre (l : List R) (k : Nat) (low : ByteArray → Bool) (r : Nat) (u : ByteArray) (e : E) (j : Nat) : ∀ d, listAt l k low r u e j <+: listAt l k low r u e (j + d)
  | 0 => List.prefix_refl _
  | d + 1 => by
    refine (listAt_pre l k low r u e j d).trans ?_
    rw [← Nat.add_assoc]
    show listAt l k low r u e (j + d) <+: listAt l k low r u e (j + d + 1)
    unfold listAt
    rw [List.range_succ, List.flatMap_append]
    exact List.prefix_append _ _

set_option maxRecDepth 100000 in
set_option maxHeartbeats 4000000 in
theorem visit_in (m : Nat) (hm : 1 ≤ m) (l : List R) (k gX gL mA gR n : Nat) (s : ByteArray) (Q : List E) (D : Nat → Prop) (lp : Nat) (L : List ByteArray) (J Jx : List ByteArray → World → Prop) (hk4 : k ≤ 4) (hn : n ≤ 1000) (hl : ∀ r ∈ l, r.1.size ≤ 8) (h12 : l.length ≤ 12) (hQ : Ends l k Q)
    (hY : ∀ pre x W, J pre W → pre.length < L.length → YieldAt Fence.wide (m - 1) Tryd.prog lp #[.string x] W fun e W' =>
      (e = .returned (.bool true) ∧ J (pre ++ [x]) W' ∧ KeepE D W W') ∨ (e = .returned (.bool false) ∧ Jx (pre ++ [x]) W'))
    (W0 : World) (hJ : AbidesFrom W0.heap.size J) (hD : ∀ b, D b → b < W0.heap.size) (h0 : ListAt l k gX gL mA gR n s Q D W0) :
    ∀ (r : Nat) (u : ByteArray) (e : E) (pre : List ByteArray) (W : World), u.size + r = n → e ∈ Q → pre ++ listTo l k (lowS s) r u e <+: L → KeepE D W0 W → J pre W →
      CallsIn Fence.wide m Tryd.prog 68 #[.pointer (some ⟨gX, 0, none⟩), .string u, endV e, .func (.yield lp) #[] #[]] W fun y W' =>
        (y = .returned (.bool true) ∧ J (pre ++ listTo l k (lowS s) r u e) W' ∧ KeepE D W W') ∨ (y = .returned (.bool false) ∧ ∃ p, p <+: L ∧ Jx p W') := by
  have HQ := Lib.hid hQ
  have Hl := Lib.hid hl
  have H12 := Lib.hid h12
  clear hQ hl h12
  intro r
  induction r with
  | zero =>
    intro u e pre W hu he hpre hb hJp
    have b1 := bel1 W (.cells #[.int .i64 e.1, .int .i64 e.2] 97)
    have hJ1 := abides_below hJ hJp b1
    have hbW := keepE_of (D := D) b1 (fun b hd => by have := hD b hd; have := hb.size; omega)
    have hb1 := hb.trans hbW
    have HX := Lib.hid (h0.keep hb1).obj
    have x1 := HX.out.cell 1
    have e1 : ((u.size : Int) == (n : Int)) = true := by simp; omega
    have hlen : pre.length < L.length := by have := hpre.length_le; rw [List.length_append] at this; simp [listTo] at this; omega
    have Hpre := Lib.hid hpre
    clear hpre
    obtain ⟨fn, tmps, assign, body, hy, hR⟩ := hY pre u _ hJ1 hlen
    refine callsIn_of_wp Tryd.func68 rfl trivial ?_ rfl
    simp only [Tryd.ntmps68, List.size_toArray, List.length_cons, List.length_nil, Nat.reduceAdd, Nat.reduceSub, Array.replicate_succ, Array.replicate_zero, List.push_toArray, List.append_toArray, List.nil_append, List.cons_append]
    gi_wp2_with fail
    refine hR.mono ?_
    rintro y w6 (⟨rfl, hJ6, hk6⟩ | ⟨rfl, hJx6⟩)
    · have HJ6 := Lib.hid hJ6
      have HK6 := Lib.hid (hbW.trans hk6)
      gi_wp2_with fail
      go_ret
      exact .inl ⟨rfl, HJ6.out, HK6.out⟩
    · have HJ6 := Lib.hid hJx6
      gi_wp2_with fail
      go_ret
      exact .inr ⟨rfl, _, Hpre.out, HJ6.out⟩
  | succ r ih =>
    intro u e pre W hu he hpre hb hJp
    have hoe : okE e := (HQ.out.good e he).lt Hl.out H12.out
    have b1 := bel1 W (.cells #[.int .i64 e.1, .int .i64 e.2] 97)
    have hJ1 := abides_below hJ hJp b1
    have HBW := Lib.hid (keepE_of (D := D) b1 (fun b hd => by have := hD b hd; have := hb.size; omega))
    have hb1 := hb.trans HBW.out
    have HEb := Lib.hid (Blk.new1 W #[.int .i64 e.1, .int .i64 e.2] 97)
    have HA1 := h0.keep hb1
    have x0 := HA1.obj.cell 0
    have x1 := HA1.obj.cell 1
    obtain ⟨vL, hvL⟩ := HA1.lang
    have g0 := hvL.cell 0
    have e1 : ((u.size : Int) == (n : Int)) = false := by simp; omega
    have Hu := Lib.hid hu
    have hun : u.size ≤ 1000 := by omega
    have He := Lib.hid he
    have Hpre := Lib.hid hpre
    have hsz1 := hb.size
    clear hpre hu he hJp b1 hvL
    refine callsIn_wide.2 ?_
    go_enter Tryd.func68, Tryd.ntmps68
    go_wp2_with fail
    clear x0 x1 g0 e1 HA1
    have HB1 := Lib.hid hb1
    clear hb1 hb
    generalize W.heap.size = eb at *
    generalize W.alloc (.cells #[.int .i64 e.1, .int .i64 e.2] 97) = W1 at *
    go_loopw [30] (fun i wr => ∃ j : Nat, i = .int .i64 j ∧ j ≤ k ∧ Hid (KeepE D W1 wr) ∧ J (pre ++ listAt l k (lowS s) r u e j) wr) (fun i _ => k - (intOf i).toNat)
    case atStart => exact ⟨0, rfl, Nat.zero_le _, KeepE.refl _ _, by simpa [listAt] using hJ1⟩
    case round =>
      clear hJ1
      obtain ⟨j, rfl, hj, HK, hJr⟩ := hrel
      by_cases hlt : j < k
      · have HA := Lib.hid (h0.keep (HB1.out.trans HK.out))
        have HEr := Lib.hid (HK.out.end_ HEb.out)
        have hsr := (HB1.out.trans HK.out).size
        obtain ⟨u5, v5, cc5, hv5, hn5⟩ := after_form (aftQ l k Q e j)
        rw [aftQ_at He.out hlt] at hn5
        have Hn5 := Lib.hid hn5
        obtain ⟨vL, hvL⟩ := HA.out.lang
        obtain ⟨cA, hmA⟩ := HA.out.aft
        have glX : gX < wr.heap.size := HA.out.obj.lt
        have glL : gL < wr.heap.size := hvL.lt
        have ebr : eb < wr.heap.size := HEr.out.lt
        have hlk : ∀ w', Below wr.heap.size wr w' → (Instr.lookup 99 (.map (some mA)) (.agg #[.int .i64 e.1, .int .i64 e.2, .int .u8 (97 + (j : Int))]) true).run Tryd.prog w' = .ok (.tuple #[.agg #[.int .i64 u5, .int .i64 v5], .bool cc5]) w' := fun w' hw => by
          have := (hmA.below moveK hw (hmA.lt moveK)).look_ok moveK (mt := 99) (et := 97) Tryd.underlying99 (zeroEnd w') (x := (e, j)) ⟨hoe, by omega⟩
          rw [look_after, hv5] at this
          exact this
        have hcl := HA.out.abc j (by omega)
        have glt : 0 < wr.heap.size := World.block_lt_of_cell? wr _ hcl
        have HSt : Hid (∀ w', Below wr.heap.size wr w' → w'.cell? ⟨gX, 0, none⟩ = some (.pointer (some ⟨gL, 0, none⟩)) ∧ w'.cell? ⟨gL, 2, none⟩ = some (.map (some mA)) ∧ w'.cell? ⟨eb, 0, none⟩ = some (.int .i64 e.1) ∧ w'.cell? ⟨eb, 1, none⟩ = some (.int .i64 e.2) ∧ w'.cell? ⟨0, j, none⟩ = some (.int .u8 (97 + (j : Int))) ∧ (Instr.lookup 99 (.map (some mA)) (.agg #[.int .i64 e.1, .int .i64 e.2, .int .u8 (97 + (j : Int))]) true).run Tryd.prog w' = .ok (.tuple #[.agg #[.int .i64 u5, .int .i64 v5], .bool cc5]) w' ∧ Below wr.heap.size wr w') :=
          fun w' hw => ⟨(hw.cell glX).trans (HA.out.obj.cell 0), (hw.cell glL).trans (hvL.cell 2), (hw.cell ebr).trans (HEr.out.cell 0), (hw.cell ebr).trans (HEr.out.cell 1), (hw.cell glt).trans hcl, hlk w' hw, hw⟩
        have hj0 : (0 : Int) ≤ (j : Int) := by omega
        have hj4 : (j : Int) < 4 := by omega
        have c0' : Below wr.heap.size wr wr.drew := (Below.refl _ wr).drew
        clear hlk hcl hvL hmA hv5 hn5
        go_wp2_with fail
        go_cut [10, 11] from 33 to 49 (fun s9 s10 wx => ∃ (d : Nat), s9 = .pointer (some ⟨d, 0, none⟩) ∧ s10 = .bool cc5 ∧ Hid (Blk wx d 97 #[.int .i64 u5, .int .i64 v5]) ∧ Hid (Below wr.heap.size wr wx))
        case first =>
          go_region_held3 (fun w' => w'.cell? ⟨gX, 0, none⟩ = some (.pointer (some ⟨gL, 0, none⟩)) ∧ w'.cell? ⟨gL, 2, none⟩ = some (.map (some mA)) ∧ w'.cell? ⟨eb, 0, none⟩ = some (.int .i64 e.1) ∧ w'.cell? ⟨eb, 1, none⟩ = some (.int .i64 e.2) ∧ w'.cell? ⟨0, j, none⟩ = some (.int .u8 (97 + (j : Int))) ∧ (Instr.lookup 99 (.map (some mA)) (.agg #[.int .i64 e.1, .int .i64 e.2, .int .u8 (97 + (j : Int))]) true).run Tryd.prog w' = .ok (.tuple #[.agg #[.int .i64 u5, .int .i64 v5], .bool cc5]) w' ∧ Below wr.heap.size wr w')
            (first | exact HSt.out _ c0' | exact HSt.out _ (c0'.alloc c0'.size _) | exact HSt.out _ (((c0'.alloc c0'.size _).setCell c0'.size _).setCell c0'.size _))
            (fail)
          all_goals go_wp2_with fail
          all_goals go_meet
          all_goals exact ⟨_, rfl, rfl, Blk.new1 _ _ _, (bel1 wr _).drew⟩
        case rest =>
          obtain ⟨d, rfl, rfl, HDd, HW⟩ := hcut
          have hJc := abides_below hJ hJr HW.out
          have HKc := Lib.hid (HK.out.trans (keepE_of HW.out (fun b hd => by have := hD b hd; omega)))
          have HAc := Lib.hid (h0.keep (HB1.out.trans HKc.out))
          have y0 := HAc.out.abc j (by omega)
          obtain ⟨bb, hbs, hbx, hcv⟩ := letter_text j (by omega)
          have Hbb := Lib.hid (show u ++ bb = ext1 u j by unfold ext1; rw [hbx])
          clear hbx HSt c0' HW hJr HA HK HEr
          have hxs : (ext1 u j).size = u.size + 1 := ext1_size u j
          have HSZ := Lib.hid hxs
          have hxb : (ext1 u j).size ≤ 1001 := by omega
          have hsc := (HB1.out.trans HKc.out).size
          clear hxs
          go_wp2_with fail
          clear y0 hcv
          rw [Hbb.out]
          cases cc5
          · have hJn := Lib.hid (show J (pre ++ listAt l k (lowS s) r u e (j + 1)) wc by rw [listAt_none Hn5.out]; exact hJc)
            go_quiet (fail)
            all_goals go_wp2_with fail
            have hJn2 := abides_below hJ hJn.out (below_drewN (Below.refl _ _) nq)
            have HKn : Hid (KeepE D W1 (wc.drewN nq)) := ⟨HKc.out.size, HKc.out.block⟩
            go_roundw
            case rel => exact ⟨j + 1, by go_num, by omega, HKn, hJn2⟩
            case measure => simp [intOf]; omega
          · have Hn6 : Hid (nxtS l e j = some (u5, v5)) := Hn5
            have hm5 : (u5, v5) ∈ Q := HQ.out.next e j _ He.out hlt Hn6.out
            have ho5 : okE (u5, v5) := (HQ.out.good _ hm5).lt Hl.out H12.out
            have hrle := roomOf_le l k (u5, v5) n
            have hriff := roomOf_iff l k (u5, v5) n r (by have := Hu.out; omega)
            obtain ⟨cR, hmR⟩ := HAc.out.room
            have hlr : ∀ q, (Instr.lookup 110 (.map (some gR)) (.agg #[.int .i64 u5, .int .i64 v5]) false).run Tryd.prog (wc.drewN q) = .ok (.int .i64 (roomOf l k n (u5, v5))) (wc.drewN q) := fun q => by
              have := (hmR.below endK (below_drewN (Below.refl _ wc) q) (hmR.lt endK)).look endK (mt := 110) (et := 3) Tryd.underlying110 (zeroInt _) (x := (u5, v5)) ho5
              rw [roomM_some hm5] at this
              exact this
            have d0 : wc.cell? ⟨d, 0, none⟩ = some (.int .i64 u5) := HDd.out.cell 0
            have d1 : wc.cell? ⟨d, 1, none⟩ = some (.int .i64 v5) := HDd.out.cell 1
            have x1 : wc.cell? ⟨gX, 1, none⟩ = some (.int .i64 n) := HAc.out.obj.cell 1
            have x3 : wc.cell? ⟨gX, 3, none⟩ = some (.map (some gR)) := HAc.out.obj.cell 3
            have HTL := Lib.hid (fun q => tooLow_any gX s (ext1 u j) (wc.drewN q) (HAc.out.obj.cell 2))
            have Hm5 := Lib.hid hm5
            generalize hRM : roomOf l k n (u5, v5) = RM at *
            have HRM := Lib.hid hRM
            clear hRM hm5 hmR
            by_cases hc : r ≤ RM
            · have e2 : decide (((ext1 u j).size : Int) + (RM : Int) < (n : Int)) = false := by simp; have := HSZ.out; have := Hu.out; omega
              have hp := hriff.1 hc
              have Hp := Lib.hid hp
              clear hc hriff hp
              cases hlow : lowS s (ext1 u j)
              · have Htake := Lib.hid (listAt_take (low := lowS s) (u := u) Hn6.out Hp.out hlow)
                rw [hlow] at HTL
                have hpre2 : (pre ++ listAt l k (lowS s) r u e j) ++ listTo l k (lowS s) r (ext1 u j) (u5, v5) <+: L := by
                  have h1 := listAt_pre l k (lowS s) r u e (j + 1) (k - (j + 1))
                  rw [show j + 1 + (k - (j + 1)) = k by omega, ← listTo_succ] at h1
                  rw [List.append_assoc, ← Htake.out]
                  exact ((List.prefix_append_right_inj _).2 h1).trans Hpre.out
                have Hpre2 := Lib.hid hpre2
                clear hlow hpre2
                go_quiet ((go_at_call 94; exact Calls.quiet_of (HTL.out _)))
                go_wp2_with fail
                have hJn2 := abides_below hJ hJc (below_drewN (Below.refl _ _) nq)
                have HKn : Hid (KeepE D W1 (wc.drewN nq)) := ⟨HKc.out.size, HKc.out.block⟩
                refine (callsIn_wide.1 (ih (ext1 u j) (u5, v5) _ (wc.drewN nq) (by have := HSZ.out; have := Hu.out; omega) Hm5.out Hpre2.out (HB1.out.trans HKn.out) hJn2)).mono ?_
                rintro y w6 (⟨rfl, hJ6, hk6⟩ | ⟨rfl, hJx6⟩)
                · rw [List.append_assoc, ← Htake.out] at hJ6
                  have HK6 := Lib.hid (HKn.out.trans hk6)
                  go_wp2_with fail
                  go_roundw
                  case rel => exact ⟨j + 1, by go_num, by omega, HK6, hJ6⟩
                  case measure => simp [intOf]; omega
                · have HJ6 := Lib.hid hJx6
                  go_wp2_with fail
                  go_ret
                  exact .inr ⟨rfl, HJ6.out⟩
              · have hJn := Lib.hid (show J (pre ++ listAt l k (lowS s) r u e (j + 1)) wc by rw [listAt_skip Hn6.out (fun h => by rw [hlow] at h; cases h.2)]; exact hJc)
                rw [hlow] at HTL
                clear hlow
                go_quiet ((go_at_call 94; exact Calls.quiet_of (HTL.out _)))
                all_goals go_wp2_with fail
                have hJn2 := abides_below hJ hJn.out (below_drewN (Below.refl _ _) nq)
                have HKn : Hid (KeepE D W1 (wc.drewN nq)) := ⟨HKc.out.size, HKc.out.block⟩
                go_roundw
                case rel => exact ⟨j + 1, by go_num, by omega, HKn, hJn2⟩
                case measure => simp [intOf]; omega
            · have e2 : decide (((ext1 u j).size : Int) + (RM : Int) < (n : Int)) = true := by simp; have := HSZ.out; have := Hu.out; omega
              have hJn := Lib.hid (show J (pre ++ listAt l k (lowS s) r u e (j + 1)) wc by rw [listAt_skip Hn6.out (fun h => hc (hriff.2 h.1))]; exact hJc)
              clear hc hriff
              go_quiet (fail)
              all_goals go_wp2_with fail
              have hJn2 := abides_below hJ hJn.out (below_drewN (Below.refl _ _) nq)
              have HKn : Hid (KeepE D W1 (wc.drewN nq)) := ⟨HKc.out.size, HKc.out.block⟩
              go_roundw
              case rel => exact ⟨j + 1, by go_num, by omega, HKn, hJn2⟩
              case measure => simp [intOf]; omega
      · obtain rfl : k = j := by omega
        have HJn := Lib.hid hJr
        rw [← listTo_succ] at HJn
        go_wp2_with fail
        go_ret
        exact .inl ⟨rfl, HJn.out, HBW.out.trans HK.out⟩
end Go.Proofs.YtjecadpofkblnaaDoor

namespace Go.Proofs.YtjecadpofkblnaaDoor
open Go.RowKit Go.Maps Go.Shelf
attribute [local go_sem] Oper.semAt_some

/-- What the value of words needs of a world. -/
structure WordsAt (l : List R) (k bx n : Nat) (s : ByteArray) (D : Nat → Prop) (W : World) : Prop where
  at_ : ∃ gX gL mA gR Q, Blk W bx 109 #[.pointer (some ⟨gX, 0, none⟩)] ∧ ListAt l k gX gL mA gR n s Q D W ∧ Ends l k Q
  dB : D bx
theorem WordsAt.keep {l : List R} {k bx n : Nat} {s : ByteArray} {D : Nat → Prop} {W W' : World} (h : WordsAt l k bx n s D W) (hk : KeepE D W W') : WordsAt l k bx n s D W' := by
  obtain ⟨⟨gX, gL, mA, gR, Q, h1, h2, h3⟩, d⟩ := h
  exact ⟨⟨gX, gL, mA, gR, Q, hk.blk h1 d, h2.keep hk, h3⟩, d⟩
theorem ListAt.weak {l : List R} {k gX gL mA gR n : Nat} {s : ByteArray} {Q : List E} {D D' : Nat → Prop} {W : World} (h : ListAt l k gX gL mA gR n s Q D W) (hD : ∀ b, b < W.heap.size → D b → D' b) : ListAt l k gX gL mA gR n s Q D' W := by
  obtain ⟨h1, ⟨v, h2⟩, ⟨c, h3⟩, ⟨c', h4⟩, h5, d1, d2, d3, d4, d5⟩ := h
  exact ⟨h1, ⟨v, h2⟩, ⟨c, h3⟩, ⟨c', h4⟩, h5, hD _ h1.lt d1, hD _ h2.lt d2, hD _ (h3.lt moveK) d3, hD _ (h4.lt endK) d4, hD _ (World.block_lt_of_cell? W _ (h5 0 (by omega))) d5⟩
theorem WordsAt.weak {l : List R} {k bx n : Nat} {s : ByteArray} {D D' : Nat → Prop} {W : World} (h : WordsAt l k bx n s D W) (hD : ∀ b, b < W.heap.size → D b → D' b) : WordsAt l k bx n s D' W := by
  obtain ⟨⟨gX, gL, mA, gR, Q, h1, h2, h3⟩, d⟩ := h
  exact ⟨⟨gX, gL, mA, gR, Q, h1, h2.weak hD, h3⟩, hD _ h1.lt d⟩
set_option maxRecDepth 100000 in
set_option maxHeartbeats 1600000 in
theorem words_any (k : Nat) (l : List R) (b0 gL mA c0 n : Nat) (s : ByteArray) (Q : List E) (w : World) (hl : ∀ r ∈ l, r.1.size ≤ 8) (h12 : l.length ≤ 12) (hk : k ≤ 4) (hQ : Ends l k Q) (hlet : Let w) (hL : LangS w b0 gL mA k c0 Q (aftQ l k Q)) (hn : n ≤ 1000) :
    Calls Tryd.prog 37 #[.pointer (some ⟨gL, 0, none⟩), .int .i64 n, .string s] w fun y w' => ∃ bx, y = .returned (.func (.func 67) #[] #[.pointer (some ⟨bx, 0, none⟩)]) ∧ WordsAt l k bx n s (· < w'.heap.size) w' ∧ Below w.heap.size w w' := by
  have HL := Lib.hid hL
  have HQ := Lib.hid hQ
  have HT := Lib.hid (fun (w' : World) (hb : Below w.heap.size w w') => hlet.keep hb (Nat.le_refl _))
  have HR := Lib.hid (room_any k l b0 gL mA c0 n Q w hl h12 hk hQ hlet hL hn)
  clear hL hQ hlet hl h12
  go_enter Tryd.func37, Tryd.ntmps37
  go_wp2_with fail
  refine HR.out.mono ?_
  rintro y w1 ⟨gR, rfl, hgR, hM, hb1⟩
  have HM := Lib.hid hM
  have HB1 := Lib.hid hb1
  clear hM hb1
  go_wp2_with fail
  go_ret
  have b2 := bel2 w1 (.cells #[.pointer (some ⟨gL, 0, none⟩), .int .i64 n, .string s, .map (some gR)] 113) (.cells #[.pointer (some ⟨w1.heap.size, 0, none⟩)] 109)
  have b3 := HB1.out.trans (b2.mono HB1.out.size)
  have X1 := (Blk.new1 w1 #[.pointer (some ⟨gL, 0, none⟩), .int .i64 n, .string s, .map (some gR)] 113).alloc (.cells #[.pointer (some ⟨w1.heap.size, 0, none⟩)] 109)
  have X2 := Blk.new2 w1 (.cells #[.pointer (some ⟨gL, 0, none⟩), .int .i64 n, .string s, .map (some gR)] 113) #[.pointer (some ⟨w1.heap.size, 0, none⟩)] 109
  have hM2 := HM.out.below endK b2 (HM.out.lt endK)
  have hT2 := HT.out _ b3
  obtain ⟨⟨A2, cap, hblk, -⟩, hmap, -, -⟩ := HL.out.below b3
  generalize (w1.alloc (.cells #[.pointer (some ⟨gL, 0, none⟩), .int .i64 n, .string s, .map (some gR)] 113)).alloc (.cells #[.pointer (some ⟨w1.heap.size, 0, none⟩)] 109) = w2 at *
  exact ⟨w1.heap.size + 1, rfl, ⟨⟨w1.heap.size, gL, mA, gR, Q, X2, ⟨X1, ⟨_, hblk⟩, ⟨_, hmap⟩, ⟨_, hM2⟩, fun j hj => hT2.cell j hj, X1.lt, hblk.lt, hmap.lt moveK, hM2.lt endK, World.block_lt_of_cell? w2 _ (hT2.cell 0 (by omega))⟩, HQ.out⟩, X2.lt⟩, b3⟩
set_option maxRecDepth 100000 in
set_option maxHeartbeats 800000 in
theorem words_stops (m : Nat) (hm : 1 ≤ m) (l : List R) (k bx n : Nat) (s : ByteArray) (D : Nat → Prop) (w : World) (hk4 : k ≤ 4) (hn : n ≤ 1000) (hl : ∀ r ∈ l, r.1.size ≤ 8) (h12 : l.length ≤ 12) (h : WordsAt l k bx n s D w) (hD : ∀ b, D b → b < w.heap.size) :
    SeqStopsK Fence.wide m Tryd.prog 67 #[.pointer (some ⟨bx, 0, none⟩)] (fun x : ByteArray => #[.string x]) (KeepE D) (fun ys => ys = listTo l k (lowS s) n ⟨#[]⟩ (0, 0)) (fun pre => pre <+: listTo l k (lowS s) n ⟨#[]⟩ (0, 0)) (listTo l k (lowS s) n ⟨#[]⟩ (0, 0)).length w := by
  intro lp J Jx W hW hJ _ hY h0
  have h' := h.keep (keepE_of hW hD)
  obtain ⟨⟨gX, gL, mA, gR, Q, hb, hA, hQ⟩, -⟩ := h'
  have x0 := hb.cell 0
  have hz := hQ.zero
  have HV := Lib.hid (visit_in m hm l k gX gL mA gR n s Q D lp _ J Jx hk4 hn hl h12 hQ hY W hJ (fun b hd => by have := hD b hd; have := hW.size; omega) hA n ⟨#[]⟩ (0, 0) [] W (by show 0 + n = n; omega) hz (List.prefix_refl _) (KeepE.refl _ _) h0)
  clear hY hb hA hQ hz h
  refine callsIn_of_wp Tryd.func67 rfl trivial ?_ rfl
  simp only [Tryd.ntmps67, List.size_toArray, List.length_cons, List.length_nil, Nat.reduceAdd, Nat.reduceSub, Array.replicate_succ, Array.replicate_zero, List.push_toArray, List.append_toArray, List.nil_append, List.cons_append]
  gi_wp2_with fail
  refine ⟨trivial, (callsIn_wide.2 (callsIn_wide.1 HV.out)).mono ?_⟩
  rintro y w1 (⟨rfl, hJ1, -⟩ | ⟨rfl, p, hp, hJx⟩)
  · have HJ := Lib.hid hJ1
    clear hJ1
    gi_wp2_with fail
    go_end0
    exact ⟨⟨_, rfl⟩, .inl ⟨_, rfl, HJ.out⟩⟩
  · have HJ := Lib.hid hJx
    have Hp := Lib.hid hp
    clear hJx hp
    gi_wp2_with fail
    go_end0
    exact ⟨⟨_, rfl⟩, .inr ⟨p, Hp.out, HJ.out⟩⟩
/-- A variable's box B holds a slice whose row lies beyond; behind an append and the store back: variables that hold ends lie as they lay. -/
theorem boxE_appended {W w1 : World} {base B : Nat} {t e : TypeId} {size : Nat} {v v' : Value} {k : Nat} {xs : List Value} {tmp : Obj} {D : Nat → Prop} (hv : Blk W B t #[v]) (ht : t ≠ 97) (he : e ≠ 97) (hB : B < base) (hb : base ≤ W.heap.size)
    (hrow : W.ownsRow base e size v k xs) (hgrow : (W.alloc tmp).grownBy w1 v.ownBlock) (hD : ∀ k, D k → k < base ∧ k ≠ B) : KeepE D W (w1.setCell ⟨B, 0, none⟩ v') := by
  have hsz : W.heap.size ≤ w1.heap.size := by have := hgrow.size; simp at this; omega
  refine ⟨by simp [World.size_setCell]; omega, fun b hbb => ?_⟩
  have key : b < W.heap.size ∧ b ≠ B ∧ some b ≠ v.ownBlock := by
    rcases hbb with hd | ⟨cs, hc⟩
    · obtain ⟨h1, h2⟩ := hD b hd
      refine ⟨by omega, h2, fun e1 => ?_⟩
      have := (hrow.lt b e1.symm).1
      omega
    · refine ⟨(Array.getElem?_eq_some_iff.1 hc).1, fun e1 => ?_, fun e1 => ?_⟩
      · subst e1
        unfold Blk at hv
        rw [hc] at hv; injection hv with hv; injection hv with _ h2; exact ht h2.symm
      · rcases hrow.2 with ⟨rfl, _⟩ | ⟨g, cap, cur, rfl, _, hgb, _⟩
        · simp [Value.ownBlock] at e1
        · have e2 : b = g := by simpa [Value.ownBlock] using e1
          subst e2
          rw [hc] at hgb; injection hgb with hgb; injection hgb with _ h2; exact he h2.symm
  obtain ⟨k1, k2, k3⟩ := key
  exact (Below.heap_setCell w1 ⟨B, 0, none⟩ v' b k2).trans ((hgrow.block b (by simp; omega) k3).trans (Below.heap_alloc W tmp b k1))
set_option maxRecDepth 100000 in
set_option maxHeartbeats 2000000 in
theorem appendWords_any (l : List R) (k bx n : Nat) (s : ByteArray) (L : List ByteArray) (w : World) (hk4 : k ≤ 4) (hn : n ≤ 1000) (hl : ∀ r ∈ l, r.1.size ≤ 8) (h12 : l.length ≤ 12) (hL : listTo l k (lowS s) n ⟨#[]⟩ (0, 0) = L) (hS : WordsAt l k bx n s (· < w.heap.size) w) (hN : L.length ≤ 8589934592) :
    Calls Tryd.prog 42 #[.slice none 0 0, .func (.func 67) #[] #[.pointer (some ⟨bx, 0, none⟩)]] w fun e w' =>
      ∃ v, e = .returned v ∧ Own w.heap.size w' v 1 L.length (strs L) ∧ Below w.heap.size w w' := by
  obtain ⟨i0, hi, hz0, hz1, hz2⟩ := info_parts infoStr
  refine (callsIn_wide (n := 6)).1 ?_
  refine callsIn_of_wp_marks Tryd.func42 rfl trivial ?_ rfl
  simp only [Tryd.ntmps42, List.size_toArray, List.length_cons, List.length_nil, Nat.reduceAdd, Nat.reduceSub, Array.replicate_succ, Array.replicate_zero, List.push_toArray, List.append_toArray, List.nil_append, List.cons_append]
  gi_wp2_with fail
  have hsz : (w.alloc (.cells #[.slice none 0 0] 28)).heap.size = w.heap.size + 1 := by simp
  have R1 : Blk (w.alloc (.cells #[.slice none 0 0] 28)) w.heap.size 28 #[.slice none 0 0] := Blk.new1 _ _ _
  have b1 := bel1 w (.cells #[.slice none 0 0] 28)
  have hS1 := hS.keep (keepE_of b1 (fun _ h => h))
  generalize w.alloc (.cells #[.slice none 0 0] 28) = w1 at *
  have hst := words_stops 5 (by omega) l k bx n s (· < w.heap.size) w1 hk4 hn hl h12 hS1 (fun _ h => by show _ < w1.heap.size; omega)
  rw [hL] at hst
  refine wpIn_rangeFunc_ownH rfl (by omega) (gf := 67) (lb := #[.pointer (some ⟨bx, 0, none⟩)]) rfl trivial (enters_of Tryd.func67 (by kernel_rfl) rfl)
    hst keepE_t (keepE_b (fun _ h => by show _ < w1.heap.size; omega)) (Below.refl _ _) (fun _ => rfl)
    (fun pre W => (w.heap.size + 1 ≤ W.heap.size ∧ ∃ v, Blk W w.heap.size 28 #[v] ∧ W.ownsRow (w.heap.size + 1) 9 1 v pre.length (strs pre)) ∧ Below w.heap.size w W)
    (fun _ _ _ => False)
    (OwnFrom.and (fun _ _ _ _ h hg hr => ⟨Nat.le_trans h.1 hg.size, by obtain ⟨v, h1, h2⟩ := h.2; exact ⟨v, blk_kept h1 hg (fun r e => (hr r e).2), row_kept h2 hg (fun r e => (hr r e).2)⟩⟩) (ownFrom_below (Nat.le_refl _) (by omega)))
    (fun _ _ _ _ _ hs _ _ => hs)
    ⟨⟨by omega, _, R1, World.ownsRow_nil _ _ _ _⟩, b1⟩
    (fun x a' _ => a' = { tmps := #[.slice none 0 0, .func (.func 67) #[] #[.pointer (some ⟨bx, 0, none⟩)], .pointer (some ⟨w.heap.size, 0, none⟩), undef, .slice none 0 0, .string x, .func (.func 67) #[] #[.pointer (some ⟨bx, 0, none⟩)], .string x, undef, undef, undef, undef, undef], defers := [] })
    (fun x a' _ _ _ _ h _ _ => h)
    ?assign ?body ?done ?stop
  case assign =>
    rintro lp pre x W K ⟨⟨hws, v, h2, h3⟩, h4⟩ hK
    gi_wp2_with fail
    exact hK _ _ (KeepsFrom.refl _ _) (KeepE.refl _ _) ⟨⟨hws, v, h2, h3⟩, h4⟩ rfl
  case body =>
    rintro lp pre x a' W hl hr ⟨⟨hws, v, h2, h3⟩, h4⟩ rfl hlt
    have z0 := h2.cell 0
    gi_wp2_with (gi_at_builtin; refine wpListIn_append_own _ rfl _ _ 28 rfl (w.heap.size + 1) 9 i0 (.string ⟨#[]⟩) 1 16 Tryd.underlying28 hi hz0 hz1 hz2 rfl (by decide) _ _ _ rfl (h3.alloc _) ⟨W.heap.size, 0, none⟩ 1 1 [.string x] rfl rfl ?c1 ?c2 ?c3 ?c4 ?c5 ?_)
    case c1 =>
      intro j u hj
      match j, hj with
      | 0, hj => simp at hj; subst hj; simp [Addr.add]
    case c2 => intro u hu; simp at hu; subst hu; rfl
    case c3 => unfold maxLen; omega
    case c4 => omega
    case c5 => simp; omega
    intro v' w6 hown' hgrow _
    have hown2 : w6.ownsRow (w.heap.size + 1) 9 1 v' (pre.length + 1) (strs (pre ++ [x])) := by
      simpa [strs] using hown'
    obtain ⟨r1, r2, r3, r4, r5, r6⟩ := box_appended (D := (· < w.heap.size)) h2 (by omega) hws h3 hown2 hgrow (fun k (hk : k < _) => ⟨by omega, by omega⟩)
    have r7 := boxE_appended (v' := v') (D := (· < w.heap.size)) h2 (by decide) (by decide) (by omega) hws h3 hgrow (fun k (hk : k < _) => ⟨by omega, by omega⟩)
    obtain ⟨g4, o4, c4, hv4⟩ := (Own.of_row hown2).formR (by simp)
    subst hv4
    have y0 := r1.cell 0
    have yf := r1.frozen 0
    gi_wp2_with fail
    exact ⟨r4.from _, r7, ⟨by have := r6.size; omega, _, r2, by rw [List.length_append]; exact r3⟩, h4.trans r6⟩
  case done =>
    rintro D ys W hD rfl ⟨⟨hws, v, h2, h3⟩, h4⟩ hK
    have z0 := h2.cell 0
    gi_wp2_with fail
    refine ⟨by simp, .inl ⟨_, _, rfl, run_takeDeferred hK, ?_⟩⟩
    have hg := grownBy_putObj' W D (.deferred none)
    refine ⟨v, ?_, v, rfl, ?_, h4.trans (belowK_b (w := w) (Nat.le_refl _) _ D _ _ (by omega) hK rfl rfl)⟩
    · simp [results, Tryd.f42, go_sem]
    · have h5 := row_kept h3 hg (fun r e => by cases e; exact ⟨_, hK, rfl⟩)
      exact (Own.of_row h5).mono (by omega)
  case stop =>
    rintro D c pre W hD _ h _
    exact h.elim
set_option maxHeartbeats 800000 in
theorem collectWords_any (l : List R) (k bx n : Nat) (s : ByteArray) (L : List ByteArray) (w : World) (hk4 : k ≤ 4) (hn : n ≤ 1000) (hl : ∀ r ∈ l, r.1.size ≤ 8) (h12 : l.length ≤ 12) (hL : listTo l k (lowS s) n ⟨#[]⟩ (0, 0) = L) (hS : WordsAt l k bx n s (· < w.heap.size) w) (hN : L.length ≤ 8589934592) :
    Calls Tryd.prog 36 #[.func (.func 67) #[] #[.pointer (some ⟨bx, 0, none⟩)]] w fun e w' =>
      ∃ v, e = .returned v ∧ Own w.heap.size w' v 1 L.length (strs L) ∧ Below w.heap.size w w' := by
  have HS := Lib.hid (appendWords_any l k bx n s L w hk4 hn hl h12 hL hS hN)
  clear hS hL
  go_enter Tryd.func36, Tryd.ntmps36
  go_wp2_with fail
  refine HS.out.mono ?_
  rintro e w1 ⟨v, rfl, o1, b1⟩
  go_wp2_with fail
  go_ret
  exact ⟨v, rfl, o1, b1⟩
end Go.Proofs.YtjecadpofkblnaaDoor

namespace Go.Proofs.YtjecadpofkblnaaDoor
open Go.RowKit Go.Maps

theorem ret_vb {v : Value} {a b : Bool} (h : a = b) : Ending.returned (.tuple #[v, .bool a]) = .returned (.tuple #[v, .bool b]) := by rw [h]
/-- May the reduced words of x letters be listed? -/
def redOk (k : Int) (l : List R) (x : Int) : Bool := canC k l x && decide (countN l k.toNat x.toNat ≤ 256)
def redL (k : Int) (l : List R) (x : Int) : List ByteArray := if redOk k l x then lvl l k.toNat x.toNat else []
theorem redOk_no {k : Int} {l : List R} {x : Int} (h : canC k l x = false) : redOk k l x = false := by unfold redOk; rw [h, Bool.false_and]
theorem redOk_yes {k x : Nat} {l : List R} (h : canC k l x = true) : redOk k l x = decide (countN l k x ≤ 256) := by unfold redOk; rw [h, Bool.true_and]; rfl
theorem redL_no {k : Int} {l : List R} {x : Int} (h : redOk k l x = false) : redL k l x = [] := by unfold redL; rw [h]; rfl
theorem redL_yes {k x : Nat} {l : List R} (h : redOk k l x = true) : redL k l x = lvl l k x := by unfold redL; rw [if_pos h]; rfl
theorem redL_len (k : Int) (l : List R) (x : Int) : (redL k l x).length ≤ 256 := by
  unfold redL
  split
  · rename_i h
    unfold redOk at h
    rw [Bool.and_eq_true, decide_eq_true_eq] at h
    rw [lvl_len]; exact h.2
  · simp
theorem lowS_empty (b : ByteArray) : lowS ⟨#[]⟩ b = false := by
  unfold lowS
  have h : ((⟨#[]⟩ : ByteArray).extract 0 (min (⟨#[]⟩ : ByteArray).size b.size)).toList = [] := by
    rw [toList_data, show min (⟨#[]⟩ : ByteArray).size b.size = 0 from Nat.zero_min _, extract_beg]; rfl
  rw [h]
  cases b.toList <;> rfl
theorem listTo_empty (l : List R) (k n : Nat) : listTo l k (lowS ⟨#[]⟩) n ⟨#[]⟩ (0, 0) = lvl l k n := by
  rw [show lowS ⟨#[]⟩ = fun _ => false from funext lowS_empty]; exact listTo_lvl l k n
set_option maxRecDepth 100000 in
set_option maxHeartbeats 1600000 in
theorem implReducedWords (k : Int) (A : Option Addr) (n c B : Nat) (l : List R) (x : Int) (w : World) (h : Own B w (.slice A n c) 2 n (rulesC l)) (hsm : smallR l) (hlet : Let w) :
    Calls Tryd.prog 10 #[.agg #[.int .i64 k, .slice A n c], .int .i64 x] w fun e w' => ∃ v, e = .returned (.tuple #[v, .bool (redOk k l x)]) ∧ Own w.heap.size w' v 1 (redL k l x).length (strs (redL k l x)) ∧ Below w.heap.size w w' := by
  have HO := Lib.hid h
  have HL := Lib.hid hlet
  clear h hlet
  go_enter Tryd.func10, Tryd.ntmps10
  go_wp2_with fail
  refine (canCount_any k A n c B l x _ (HO.out.below (bel1 w _)) hsm (HL.out.keep (bel1 w _) (Nat.le_refl _))).mono ?_
  rintro e w1 ⟨rfl, hb1⟩
  have b1 := (bel1 w _).trans (hb1.mono (by simp))
  have HS1 := Lib.hid ((Blk.new1 w #[.int .i64 k, .slice A n c] 25).below hb1 (by simp))
  obtain ⟨q0, q1, -, -, ql⟩ := HS1.out.two
  clear hb1
  cases h1 : canC k l x
  · have HF := Lib.hid (redOk_no h1)
    have HG := Lib.hid (redL_no (redOk_no h1))
    clear h1
    go_wp2_with fail
    go_ret2
    exact ⟨_, ret_vb HF.out.symm, by rw [HG.out]; exact Own.none_, b1⟩
  · obtain ⟨k, x, rfl, rfl, hk1, hk4, hx, h12, hl⟩ := canC_parts h1
    have HC := Lib.hid h1
    have Hl := Lib.hid (fun r (hr : r ∈ l) => (hl r hr).1)
    have H12 := Lib.hid h12
    clear h1 hl h12
    go_wp2_with fail
    refine (languageOf_any k A n c B l w1 (HO.out.below b1) Hl.out H12.out hk4 (HL.out.keep b1 (Nat.le_refl _))).mono ?_
    rintro e w2 ⟨gL, mA, Q, rfl, hLS, hQ, hb2⟩
    have b2 := b1.trans (hb2.mono b1.size)
    have HLS := Lib.hid hLS
    have HQ := Lib.hid hQ
    clear hb2 hLS hQ q0 q1
    go_wp2_with fail
    refine (growth_any k l w1.heap.size gL mA 1000 x Q w2 Hl.out H12.out hk4 HQ.out (HL.out.keep b2 (Nat.le_refl _)) HLS.out (by omega)).mono ?_
    rintro e w3 ⟨v3, rfl, o3, hb3⟩
    have b3 := b2.trans (hb3.mono b2.size)
    have HL3 := Lib.hid (HLS.out.below hb3)
    obtain ⟨A3, c3, rfl⟩ := o3.form
    obtain ⟨g, off, hA3, -, hgl, hcell⟩ := o3.int (by omega)
    subst hA3
    obtain ⟨y, hy, x0, -⟩ := hcell x (by omega)
    rw [growL_get l k _ x (by omega)] at hy
    injection hy with hy
    subst hy
    have hcn : countN l k x ≤ 4294967296 := by rw [← lvl_len]; exact lvl_16 l k x hk4 hx
    rw [wr_small hcn] at x0
    have HE := Lib.hid (redOk_yes HC.out)
    have Hcn := Lib.hid hcn
    clear hcell o3 hb3 hcn
    by_cases hc : countN l k x ≤ 256
    · have HG := Lib.hid (redL_yes (show redOk (k : Int) l (x : Int) = true by rw [HE.out]; exact decide_eq_true hc))
      have HE2 := Lib.hid (show redOk (k : Int) l (x : Int) = true by rw [HE.out]; exact decide_eq_true hc)
      generalize countN l k x = CN at *
      go_wp2_with fail
      refine (words_any k l w1.heap.size gL mA 1000 x ⟨#[]⟩ Q w3 Hl.out H12.out hk4 HQ.out (HL.out.keep b3 (Nat.le_refl _)) HL3.out (by omega)).mono ?_
      rintro e w4 ⟨bx, rfl, hWA, hb4⟩
      have b4 := b3.trans (hb4.mono b3.size)
      have HWA := Lib.hid hWA
      clear hb4 hWA x0
      go_wp2_with fail
      refine (collectWords_any l k bx x ⟨#[]⟩ _ w4 hk4 (by omega) Hl.out H12.out (listTo_empty l k x) HWA.out (by have := lvl_16 l k x hk4 hx; omega)).mono ?_
      rintro e w5 ⟨v5, rfl, o5, hb5⟩
      have b5 := b4.trans (hb5.mono b4.size)
      have O5 := Lib.hid (o5.mono b4.size)
      obtain ⟨A5, c5, rfl⟩ := o5.form
      clear o5 hb5
      go_wp2_with fail
      go_ret2
      exact ⟨_, ret_vb HE2.out.symm, by rw [HG.out]; exact O5.out, b5⟩
    · have HE2 := Lib.hid (show redOk (k : Int) l (x : Int) = false by rw [HE.out]; exact decide_eq_false hc)
      have HG := Lib.hid (redL_no HE2.out)
      generalize countN l k x = CN at *
      go_wp2_with fail
      go_ret2
      exact ⟨_, ret_vb HE2.out.symm, by rw [HG.out]; exact Own.none_, b3⟩
end Go.Proofs.YtjecadpofkblnaaDoor

namespace Go.Proofs.YtjecadpofkblnaaDoor
open Go.RowKit

/-- What the model's search leaves out: v and r letters more are as many as s has, and v comes before the beginning of s. -/
def lowQ (s v : ByteArray) (r : Nat) : Bool := decide (v.size + r = s.size) && Op.bytesLess v.toList (s.extract 0 v.size).toList
/-- The words that it comes to, r letters behind u. -/
def seekL (l : List R) (k : Nat) (s : ByteArray) : Nat → ByteArray → List ByteArray
  | 0, u => if lessS s u then [u] else []
  | r + 1, u => (List.range k).flatMap fun j => if (hitS l (ext1 u j) || lowQ s (ext1 u j) r) then [] else seekL l k s r (ext1 u j)
def seekAt (l : List R) (k : Nat) (s : ByteArray) (r : Nat) (u : ByteArray) (j : Nat) : List ByteArray := (List.range j).flatMap fun j => if (hitS l (ext1 u j) || lowQ s (ext1 u j) r) then [] else seekL l k s r (ext1 u j)
theorem seekL_succ (l : List R) (k : Nat) (s : ByteArray) (r : Nat) (u : ByteArray) : seekL l k s (r + 1) u = seekAt l k s r u k := rfl
theorem seekAt_skip {l : List R} {k r j : Nat} {s u : ByteArray} (h : (hitS l (ext1 u j) || lowQ s (ext1 u j) r) = true) : seekAt l k s r u (j + 1) = seekAt l k s r u j := by
  unfold seekAt
  rw [List.range_succ, List.flatMap_append, List.flatMap_singleton, if_pos h, List.append_nil]
theorem seekAt_take {l : List R} {k r j : Nat} {s u : ByteArray} (h : (hitS l (ext1 u j) || lowQ s (ext1 u j) r) = false) : seekAt l k s r u (j + 1) = seekAt l k s r u j ++ seekL l k s r (ext1 u j) := by
  unfold seekAt
  rw [List.range_succ, List.flatMap_append, List.flatMap_singleton, if_neg (by rw [h]; simp)]
theorem seekAt_more (l : List R) (k : Nat) (s : ByteArray) (r : Nat) (u : ByteArray) (j : Nat) : ∀ i, ∃ M, seekAt l k s r u (j + i) = seekAt l k s r u j ++ M
  | 0 => ⟨[], by simp⟩
  | i + 1 => by
    obtain ⟨M, hM⟩ := seekAt_more l k s r u j i
    cases h : (hitS l (ext1 u (j + i)) || lowQ s (ext1 u (j + i)) r)
    · exact ⟨M ++ seekL l k s r (ext1 u (j + i)), by rw [← Nat.add_assoc, seekAt_take h, hM, List.append_assoc]⟩
    · exact ⟨M, by rw [← Nat.add_assoc, seekAt_skip h, hM]⟩
def hdS (L : List ByteArray) : ByteArray := L.headD ⟨#[]⟩
/-- The first word found at letter j is the first of all. -/
theorem seek_found {l : List R} {k r j : Nat} {s u : ByteArray} (hj : j < k) (h0 : seekAt l k s r u j = []) (h1 : (hitS l (ext1 u j) || lowQ s (ext1 u j) r) = false) (h2 : seekL l k s r (ext1 u j) ≠ []) :
    hdS (seekL l k s (r + 1) u) = hdS (seekL l k s r (ext1 u j)) ∧ seekL l k s (r + 1) u ≠ [] := by
  obtain ⟨M, hM⟩ := seekAt_more l k s r u (j + 1) (k - (j + 1))
  rw [show j + 1 + (k - (j + 1)) = k from by omega, seekAt_take h1, h0, List.nil_append] at hM
  rw [seekL_succ, hM]
  cases h : seekL l k s r (ext1 u j) with
  | nil => exact absurd h h2
  | cons a L => exact ⟨rfl, by simp⟩
theorem lowQ_low {s v : ByteArray} {r : Nat} (h : v.size + r = s.size) : lowQ s v r = lowS s v := by
  unfold lowQ lowS
  rw [decide_eq_true h, Bool.true_and, show min s.size v.size = v.size from by omega]
theorem lowQ_long {s v : ByteArray} {r : Nat} (h : s.size < v.size + r) : lowQ s v r = false := by
  unfold lowQ
  rw [decide_eq_false (by omega), Bool.false_and]
theorem listTo_sub (l : List R) (k : Nat) (low : ByteArray → Bool) : ∀ (r : Nat) (u : ByteArray) (e : E), (listTo l k low r u e).Sublist (listTo l k (fun _ => false) r u e)
  | 0, _, _ => List.Sublist.refl _
  | r + 1, u, e => by
    rw [listTo_succ, listTo_succ]
    have : ∀ j, (listAt l k low r u e j).Sublist (listAt l k (fun _ => false) r u e j) := by
      intro j
      induction j with
      | zero => exact List.Sublist.refl _
      | succ j ih =>
        cases hn : nxtS l e j with
        | none => rw [listAt_none hn, listAt_none hn]; exact ih
        | some e' =>
          rcases Nat.eq_zero_or_pos (cntE l k r e') with h0 | h0
          · rw [listAt_skip hn (fun h => by omega), listAt_skip hn (fun h => by omega)]; exact ih
          · rw [listAt_take (low := fun _ => false) hn h0 rfl]
            cases hw : low (ext1 u j)
            · rw [listAt_take hn h0 hw]
              exact List.Sublist.append ih (listTo_sub l k low r (ext1 u j) e')
            · rw [listAt_skip hn (fun h => by rw [hw] at h; cases h.2)]
              exact ih.trans (List.sublist_append_left _ _)
    exact this k
theorem listTo_none {l : List R} {k : Nat} {low : ByteArray → Bool} {r : Nat} {u : ByteArray} {e : E} (h : cntE l k r e = 0) : listTo l k low r u e = [] := by
  have h1 := (listTo_sub l k low r u e).length_le
  rw [listTo_len, h] at h1
  exact List.eq_nil_of_length_eq_zero (by omega)
/-- Words as long as s: the model's search and the program's listing. -/
theorem seek_list (l : List R) (k : Nat) (s : ByteArray) : ∀ (r : Nat) (u : ByteArray) (e : E), Fits l u e → u.size + r = s.size → seekL l k s r u = (listTo l k (lowS s) r u e).filter (lessS s)
  | 0, u, e, _, _ => by
    show (if lessS s u then [u] else []) = [u].filter (lessS s)
    cases h : lessS s u <;> simp [h]
  | r + 1, u, e, hf, hs => by
    rw [seekL_succ, listTo_succ]
    have : ∀ j, seekAt l k s r u j = (listAt l k (lowS s) r u e j).filter (lessS s) := by
      intro j
      induction j with
      | zero => rfl
      | succ j ih =>
        have hh := fits_hit hf j
        have hsz : (ext1 u j).size + r = s.size := by rw [ext1_size]; omega
        have hq := lowQ_low hsz
        cases h1 : hitS l (ext1 (textE l e) j)
        · obtain ⟨e', hn⟩ := nxt_new h1
          cases h2 : lowS s (ext1 u j)
          · rw [seekAt_take (by rw [hh, h1, hq, h2]; rfl), seek_list l k s r (ext1 u j) e' (fits_next hf hn) hsz, ih]
            rcases Nat.eq_zero_or_pos (cntE l k r e') with h0 | h0
            · rw [listAt_skip hn (fun h => by omega), listTo_none h0, List.filter_nil, List.append_nil]
            · rw [listAt_take hn h0 h2, List.filter_append]
          · rw [seekAt_skip (by rw [hq, h2, Bool.or_true]), listAt_skip hn (fun h => by rw [h2] at h; cases h.2), ih]
        · rw [seekAt_skip (by rw [hh, h1]; rfl), listAt_none (nxt_hit h1), ih]
    exact this k
/-- Longer words. -/
theorem seek_long (l : List R) (k : Nat) (s : ByteArray) : ∀ (r : Nat) (u : ByteArray), s.size < u.size + r → seekL l k s r u = dfs l k r u
  | 0, u, h => by
    show (if lessS s u then [u] else []) = [u]
    rw [if_pos (by rw [lessS_ne s u (by omega)]; exact decide_eq_true (by omega))]
  | r + 1, u, h => by
    rw [seekL_succ]
    show _ = (kidTo l u k).flatMap (dfs l k r)
    have : ∀ j, seekAt l k s r u j = (kidTo l u j).flatMap (dfs l k r) := by
      intro j
      induction j with
      | zero => rfl
      | succ j ih =>
        have hsz : s.size < (ext1 u j).size + r := by rw [ext1_size]; omega
        have hq := lowQ_long hsz
        cases h1 : hitS l (ext1 u j)
        · rw [seekAt_take (by rw [h1, hq]; rfl), kidTo_new h1, List.flatMap_append, List.flatMap_singleton, ih, seek_long l k s r _ hsz]
        · rw [seekAt_skip (by rw [h1]; rfl), kidTo_hit h1, ih]
    exact this k
theorem listTo_low {l : List R} {k : Nat} {low : ByteArray → Bool} : ∀ (r : Nat) (u : ByteArray) (e : E), low u = false → ∀ v ∈ listTo l k low r u e, low v = false ∧ v.size = u.size + r
  | 0, u, e, h, v, hv => by
    rw [show listTo l k low 0 u e = [u] from rfl, List.mem_singleton] at hv
    subst hv; exact ⟨h, rfl⟩
  | r + 1, u, e, h, v, hv => by
    rw [listTo_succ] at hv
    have : ∀ j, v ∈ listAt l k low r u e j → low v = false ∧ v.size = u.size + (r + 1) := by
      intro j
      induction j with
      | zero => intro h; simp [listAt] at h
      | succ j ih =>
        intro hv
        cases hn : nxtS l e j with
        | none => rw [listAt_none hn] at hv; exact ih hv
        | some e' =>
          by_cases h0 : 0 < cntE l k r e' ∧ low (ext1 u j) = false
          · rw [listAt_take hn h0.1 h0.2, List.mem_append] at hv
            rcases hv with hv | hv
            · exact ih hv
            · obtain ⟨a, b⟩ := listTo_low r (ext1 u j) e' h0.2 v hv
              exact ⟨a, by rw [b, ext1_size]; omega⟩
          · rw [listAt_skip hn h0] at hv; exact ih hv
    exact this k hv
/-- Of the words from s on, those behind s are those that are not s. -/
theorem list_ne {l : List R} {k : Nat} {s v : ByteArray} (h : v ∈ listTo l k (lowS s) s.size ⟨#[]⟩ (0, 0)) : lessS s v = !decide (v = s) := by
  have h0 : lowS s ⟨#[]⟩ = false := by
    unfold lowS
    rw [toList_data, toList_data, show min s.size (⟨#[]⟩ : ByteArray).size = 0 from Nat.min_zero _, extract_beg]; rfl
  obtain ⟨h1, h2⟩ := listTo_low _ _ _ h0 v h
  have h2 : v.size = s.size := by rw [h2]; exact Nat.zero_add _
  by_cases hv : v = s
  · subst hv; rw [lessS_irrefl, decide_eq_true rfl]; rfl
  · rw [decide_eq_false hv]
    cases h3 : lessS s v
    · refine absurd (lessS_total v s ?_ h3) hv
      rw [lessS_eq v s h2]
      unfold lowS at h1
      rw [toList_data, toList_data, h2, Nat.min_self, extract_beg, List.take_of_length_le (by rw [Array.length_toList]; exact Nat.le_refl _)] at h1
      exact h1
    · rfl
def nxtW (l : List R) (k : Nat) (s : ByteArray) : List ByteArray := (listTo l k (lowS s) s.size ⟨#[]⟩ (0, 0)).filter (lessS s)
def nextC (k : Int) (l : List R) (s : ByteArray) : List ByteArray := if canRed k l s then nxtW l k.toNat s ++ (if s.size < 16 then lvl l k.toNat (s.size + 1) else []) else []
theorem nextC_no {k : Int} {l : List R} {s : ByteArray} (h : canRed k l s = false) : nextC k l s = [] := by unfold nextC; rw [h]; rfl
theorem nextC_same {k : Nat} {l : List R} {s : ByteArray} (h : canRed k l s = true) (h1 : nxtW l k s ≠ []) : hdS (nextC k l s) = hdS (nxtW l k s) ∧ nextC k l s ≠ [] := by
  unfold nextC
  rw [if_pos h, Int.toNat_natCast]
  cases h2 : nxtW l k s with
  | nil => exact absurd h2 h1
  | cons a L => exact ⟨rfl, by simp⟩
theorem nextC_more {k : Nat} {l : List R} {s : ByteArray} (h : canRed k l s = true) (h1 : nxtW l k s = []) (hs : s.size < 16) : nextC k l s = lvl l k (s.size + 1) := by
  unfold nextC
  rw [if_pos h, Int.toNat_natCast, h1, if_pos hs, List.nil_append]
theorem nextC_end {k : Nat} {l : List R} {s : ByteArray} (h : canRed k l s = true) (h1 : nxtW l k s = []) (hs : ¬ s.size < 16) : nextC k l s = [] := by
  unfold nextC
  rw [if_pos h, Int.toNat_natCast, h1, if_neg hs, List.nil_append]
theorem nxtW_seek (l : List R) (k : Nat) (s : ByteArray) : seekL l k s s.size ⟨#[]⟩ = nxtW l k s := seek_list l k s _ _ _ (fits_zero l) (Nat.zero_add _)
theorem lvl_seek (l : List R) (k : Nat) (s : ByteArray) : seekL l k s (s.size + 1) ⟨#[]⟩ = lvl l k (s.size + 1) := by
  rw [seek_long l k s _ _ (by show _ < 0 + _; omega), lvl_dfs]
theorem nxtW_nil {l : List R} {k : Nat} {s : ByteArray} (h : lvl l k s.size = []) : nxtW l k s = [] ∧ lvl l k (s.size + 1) = [] := by
  constructor
  · unfold nxtW
    have h1 := (listTo_sub l k (lowS s) s.size ⟨#[]⟩ (0, 0)).length_le
    rw [listTo_lvl, h] at h1
    rw [List.eq_nil_of_length_eq_zero (Nat.le_zero.1 h1)]; rfl
  · show kids l k (lvl l k s.size) = []
    rw [h]; rfl
end Go.Proofs.YtjecadpofkblnaaDoor

namespace Go.Proofs.YtjecadpofkblnaaDoor
open Go.RowKit

/-- What a search answers for a list of words. -/
def Found (L : List ByteArray) (y : ByteArray) (b : Bool) : Prop := (b = true ∧ L ≠ [] ∧ y = hdS L) ∨ (b = false ∧ L = [])
set_option maxRecDepth 100000 in
set_option maxHeartbeats 1600000 in
theorem seek_any (k : Nat) (A : Option Addr) (n c B : Nat) (l : List R) (s : ByteArray) (hk4 : k ≤ 4) (hs : s.size ≤ 16) : ∀ (r : Nat) (u : ByteArray) (w : World), Own B w (.slice A n c) 2 n (rulesC l) → u.size + r ≤ 17 →
    Calls Tryd.prog 54 #[.agg #[.int .i64 k, .slice A n c], .string u, .int .i64 r, .string s] w fun e w' => ∃ y b, e = .returned (.tuple #[.string y, .bool b]) ∧ Found (seekL l k s r u) y b ∧ Below w.heap.size w w'
  | 0, u, w, h, hr => by
    rw [show (((0 : Nat) : Int)) = 0 from rfl]
    have HF := Lib.hid (show Found (seekL l k s 0 u) u (lessS s u) by
      unfold Found seekL
      cases h : lessS s u
      · exact .inr ⟨rfl, by simp⟩
      · exact .inl ⟨rfl, by simp, by simp [hdS]⟩)
    clear h
    go_enter Tryd.func54, Tryd.ntmps54
    go_wp2_with fail
    refine (specIsLess s u _).mono ?_
    rintro e w1 ⟨rfl, rfl⟩
    go_wp2_with fail
    go_ret2
    exact ⟨_, _, rfl, HF.out, bel1 w _⟩
  | r + 1, u, w, h, hr => by
    have HO := Lib.hid h
    have HR := Lib.hid (fun (v : ByteArray) (w' : World) (hb : Below w.heap.size w w') (hv : v.size = u.size + 1) => seek_any k A n c B l s hk4 hs r v w' (h.below hb) (by omega))
    rw [show (((r + 1 : Nat) : Int)) = (r : Int) + 1 from by omega]
    clear h
    go_enter Tryd.func54, Tryd.ntmps54
    go_wp2_with fail
    have HB0 := Lib.hid (Blk.new1 w #[.int .i64 k, .slice A n c] 25)
    have b0 := bel1 w (.cells #[.int .i64 k, .slice A n c] 25)
    generalize w.alloc (.cells #[.int .i64 k, .slice A n c] 25) = w0 at *
    rw [show ((r : Int) + 1 == 0) = false by rw [beq_eq_false_iff_ne]; omega]
    go_loopw [10] (fun i' wr => ∃ j : Nat, i' = .int .i64 j ∧ j ≤ k ∧ Hid (seekAt l k s r u j = []) ∧ Hid (Blk wr w.heap.size 25 #[.int .i64 k, .slice A n c]) ∧ Below w.heap.size w wr) (fun i' _ => k - (intOf i').toNat)
    case atStart => exact ⟨0, rfl, Nat.zero_le _, rfl, HB0, b0⟩
    case round =>
      clear HB0 b0
      obtain ⟨j, rfl, hj4, HN, HB, hb⟩ := hrel
      obtain ⟨wo, rfl⟩ : ∃ y : World, y = wr := ⟨_, rfl⟩
      have hbs := hb.size
      obtain ⟨s0, s1, -, -, sl⟩ := HB.out.two
      by_cases hlt : j < k
      · have hyw : (97 + (j : Int)) % 256 = 97 + (j : Int) := by omega
        have hcv := one_byte (P := Tryd.prog) Tryd.underlying22 Tryd.underlying5 Tryd.underlying9 wo (97 + (j : Int)) (by omega) (by omega)
        have hb97 : (97 + (j : Int)).toNat = 97 + j := by omega
        rw [hb97] at hcv
        have hsz1b : (⟨#[UInt8.ofNat (97 + j)]⟩ : ByteArray).size = 1 := rfl
        have Hb := Lib.hid (show u ++ ⟨#[UInt8.ofNat (97 + j)]⟩ = ext1 u j from rfl)
        have hvs : (ext1 u j).size = u.size + 1 := ext1_size u j
        have HB1 := Lib.hid (HB.out.alloc (.cells #[.int .u8 (97 + (j : Int))] 5))
        have hb1 := hb.alloc hbs (.cells #[.int .u8 (97 + (j : Int))] 5)
        generalize (⟨#[UInt8.ofNat (97 + j)]⟩ : ByteArray) = bb at *
        go_wp2_with fail
        clear s0 s1 sl hcv HB
        rw [Hb.out]
        generalize wo.alloc (.cells #[.int .u8 (97 + (j : Int))] 5) = w3 at *
        have hbs1 := hb1.size
        refine (specEnds_any k A n c B l (ext1 u j) w3 (HO.out.below hb1) (by omega)).mono ?_
        rintro e w4 ⟨rfl, hb4⟩
        have HB4 := Lib.hid (HB1.out.below hb4 (by have := HB1.out.lt; omega))
        have b4 := hb1.trans (hb4.mono hbs1)
        have hbs4 := b4.size
        clear hb4 HB1 hb1
        cases hh : hitS l (ext1 u j)
        · have HQ := Lib.hid (show lowQ s (ext1 u j) r = (decide ((ext1 u j).size + r = s.size) && Op.bytesLess (ext1 u j).toList (s.extract 0 (ext1 u j).size).toList) from rfl)
          have HST := Lib.hid (fun h => seekAt_skip (l := l) (k := k) (r := r) (j := j) (s := s) (u := u) h)
          have HTK := Lib.hid (fun h => seekAt_take (l := l) (k := k) (r := r) (j := j) (s := s) (u := u) h)
          have HFD := Lib.hid (fun h2 h3 => seek_found (l := l) (k := k) (r := r) (j := j) (s := s) (u := u) hlt HN.out h2 h3)
          have HH := Lib.hid hh
          clear hh
          have HRv := Lib.hid (fun (w' : World) (hb : Below w.heap.size w w') => HR.out (ext1 u j) w' hb hvs)
          have hrj : ((ext1 u j).size : Int) + ((r : Int) + 1) - 1 = (ext1 u j).size + r := by omega
          generalize hv : ext1 u j = v at *
          obtain ⟨s0, s1, -, -, sl⟩ := HB4.out.two
          by_cases hq : v.size + r = s.size
          · have hq1 : ((v.size : Int) + ((r : Int) + 1) - 1 == (s.size : Int)) = true := by rw [beq_iff_eq]; omega
            have hq2 : (v.size : Int) ≤ (s.size : Int) := by omega
            cases hl : Op.bytesLess v.toList (s.extract 0 (u.size + 1)).toList
            · have HQ0 : Hid (lowQ s v r = false) := by show _ = _; rw [HQ.out, hvs, hl, Bool.and_false]
              go_wp2_with fail
              refine (HRv.out w4 b4).mono ?_
              rintro e w5 ⟨y5, b5', rfl, hF, hb5⟩
              have HB5 := Lib.hid (HB4.out.below hb5 (by have := HB4.out.lt; omega))
              have b5 := b4.trans (hb5.mono hbs4)
              clear hb5 s0 s1 sl
              rcases hF with ⟨rfl, h6, rfl⟩ | ⟨rfl, h6⟩
              · have h7 := HFD.out (by rw [HH.out, HQ0.out]; rfl) h6
                have HF := Lib.hid (show Found (seekL l k s (r + 1) u) (hdS (seekL l k s r v)) true from .inl ⟨rfl, h7.2, h7.1.symm⟩)
                clear h7
                generalize hdS (seekL l k s r v) = y at *
                go_wp2_with fail
                go_ret2
                exact ⟨_, _, rfl, HF.out, b5⟩
              · have HN2 : Hid (seekAt l k s r u (j + 1) = []) := by show _ = _; rw [HTK.out (by rw [HH.out, HQ0.out]; rfl), HN.out, h6]; rfl
                clear h6
                go_wp2_with fail
                go_roundw
                case rel => exact ⟨j + 1, by go_num, by omega, HN2, HB5, b5⟩
                case measure => simp [intOf]; omega
            · have HN2 : Hid (seekAt l k s r u (j + 1) = []) := by
                show _ = _
                rw [HST.out (by rw [HQ.out, decide_eq_true hq, hvs, hl, Bool.true_and, Bool.or_true])]; exact HN.out
              go_wp2_with fail
              go_roundw
              case rel => exact ⟨j + 1, by go_num, by omega, HN2, HB4, b4⟩
              case measure => simp [intOf]; omega
          · have hq1 : ((v.size : Int) + ((r : Int) + 1) - 1 == (s.size : Int)) = false := by rw [beq_eq_false_iff_ne]; omega
            have HQ0 : Hid (lowQ s v r = false) := by show _ = _; rw [HQ.out, decide_eq_false hq, Bool.false_and]
            go_wp2_with fail
            refine (HRv.out w4 b4).mono ?_
            rintro e w5 ⟨y5, b5', rfl, hF, hb5⟩
            have HB5 := Lib.hid (HB4.out.below hb5 (by have := HB4.out.lt; omega))
            have b5 := b4.trans (hb5.mono hbs4)
            clear hb5 s0 s1 sl
            rcases hF with ⟨rfl, h6, rfl⟩ | ⟨rfl, h6⟩
            · have h7 := HFD.out (by rw [HH.out, HQ0.out]; rfl) h6
              have HF := Lib.hid (show Found (seekL l k s (r + 1) u) (hdS (seekL l k s r v)) true from .inl ⟨rfl, h7.2, h7.1.symm⟩)
              clear h7
              generalize hdS (seekL l k s r v) = y at *
              go_wp2_with fail
              go_ret2
              exact ⟨_, _, rfl, HF.out, b5⟩
            · have HN2 : Hid (seekAt l k s r u (j + 1) = []) := by show _ = _; rw [HTK.out (by rw [HH.out, HQ0.out]; rfl), HN.out, h6]; rfl
              clear h6
              go_wp2_with fail
              go_roundw
              case rel => exact ⟨j + 1, by go_num, by omega, HN2, HB5, b5⟩
              case measure => simp [intOf]; omega
        · have HN2 : Hid (seekAt l k s r u (j + 1) = []) := by show _ = _; rw [seekAt_skip (by rw [hh]; rfl)]; exact HN.out
          obtain ⟨s0, s1, -, -, sl⟩ := HB4.out.two
          clear hh
          go_wp2_with fail
          go_roundw
          case rel => exact ⟨j + 1, by go_num, by omega, HN2, HB4, b4⟩
          case measure => simp [intOf]; omega
      · obtain rfl : k = j := by omega
        have HF := Lib.hid (show Found (seekL l k s (r + 1) u) ⟨#[]⟩ false from .inr ⟨rfl, HN.out⟩)
        go_wp2_with fail
        go_ret2
        exact ⟨_, _, rfl, HF.out, hb⟩
end Go.Proofs.YtjecadpofkblnaaDoor

namespace Go.Proofs.YtjecadpofkblnaaDoor
open Go.RowKit

theorem countR_few {k x : Nat} {l : List R} (h : canC k l x = true) (hk : k ≤ 4) (hx : x ≤ 16) : countR k l x = (countN l k x : Nat) := by
  rw [countR_yes h, wr_small (by rw [← lvl_len]; exact lvl_16 l k x hk hx)]
theorem ret_found {L : List ByteArray} {y : ByteArray} {b : Bool} (h : (b = true ∧ L ≠ [] ∧ y = hdS L) ∨ (b = false ∧ y = ⟨#[]⟩ ∧ L = [])) : Ending.returned (.tuple #[.string y, .bool b]) = .returned (.tuple #[.string (hdS L), .bool (!L.isEmpty)]) := by
  rcases h with ⟨rfl, h, rfl⟩ | ⟨rfl, rfl, rfl⟩
  · cases L with
    | nil => exact absurd rfl h
    | cons a L => rfl
  · rfl
theorem canRed_parts {k : Int} {l : List R} {s : ByteArray} (h : canRed k l s = true) : ∃ k' : Nat, k = k' ∧ k' ≤ 4 ∧ s.size ≤ 16 ∧ (∀ x : Nat, x ≤ 16 → canC k l x = true) ∧ l.length ≤ 12 ∧ ∀ r ∈ l, r.1.size ≤ 8 ∧ 0 < r.1.size := by
  have hw := canRed_word h
  have hs : systemOk k l = true := by unfold canRed at h; rw [Bool.and_eq_true] at h; exact h.1
  have hc : ∀ x : Nat, x ≤ 16 → canC k l x = true := fun x hx => by unfold canC; rw [hs, Bool.true_and]; exact decide_eq_true (by omega)
  obtain ⟨k', x, rfl, -, -, h4, -, h12, hl⟩ := canC_parts (hc 0 (by omega))
  refine ⟨k', rfl, h4, ?_, hc, h12, hl⟩
  unfold wordOk at hw
  rw [Bool.and_eq_true, decide_eq_true_eq] at hw
  exact hw.1.2.2
set_option maxRecDepth 100000 in
set_option maxHeartbeats 1600000 in
theorem specNextReduced (k : Int) (A : Option Addr) (n c B : Nat) (l : List R) (s : ByteArray) (w : World) (h : Own B w (.slice A n c) 2 n (rulesC l)) (hsm : smallR l) (hs : s.size ≤ 1048576) :
    Calls Tryd.prog 29 #[.agg #[.int .i64 k, .slice A n c], .string s] w fun e w' => e = .returned (.tuple #[.string (hdS (nextC k l s)), .bool (!(nextC k l s).isEmpty)]) ∧ Below w.heap.size w w' := by
  have HO := Lib.hid h
  clear h
  go_enter Tryd.func29, Tryd.ntmps29
  go_wp2_with fail
  refine (specOk k A n c B l s _ (HO.out.below (bel1 w _)) hsm hs).mono ?_
  rintro e w1 ⟨rfl, hb1⟩
  have b1 := (bel1 w _).trans (hb1.mono (by simp))
  have HS1 := Lib.hid ((Blk.new1 w #[.int .i64 k, .slice A n c] 25).below hb1 (by simp))
  obtain ⟨q0, q1, -, -, ql⟩ := HS1.out.two
  clear hb1
  cases h1 : canRed k l s
  · have HF := Lib.hid (nextC_no h1)
    clear h1
    go_wp2_with fail
    go_ret2
    exact ⟨ret_found (.inr ⟨rfl, rfl, HF.out⟩), b1⟩
  · obtain ⟨k, rfl, hk4, hs16, hc, h12, hl⟩ := canRed_parts h1
    have HC := Lib.hid hc
    have HNS := Lib.hid (fun h2 => nextC_same (l := l) (s := s) h1 h2)
    have HNM := Lib.hid (fun h2 h3 => nextC_more (l := l) (s := s) h1 h2 h3)
    have HNE := Lib.hid (fun h2 h3 => nextC_end (l := l) (s := s) h1 h2 h3)
    clear h1 hl h12 hc
    go_wp2_with fail
    clear q0 q1
    go_loopw [6] (fun i' wr => ∃ i : Nat, i' = .int .i64 i ∧ i ≤ 17 ∧ Hid (i = s.size ∨ (i = s.size + 1 ∧ nxtW l k s = [])) ∧ Hid (Blk wr w.heap.size 25 #[.int .i64 k, .slice A n c]) ∧ Below w.heap.size w wr) (fun i' _ => 18 - (intOf i').toNat)
    case atStart => exact ⟨s.size, rfl, by omega, .inl rfl, HS1, b1⟩
    case round =>
      clear HS1 b1
      obtain ⟨i, rfl, hi17, HI, HB, hb⟩ := hrel
      obtain ⟨wo, rfl⟩ : ∃ y : World, y = wr := ⟨_, rfl⟩
      have hbs := hb.size
      obtain ⟨s0, s1, -, -, sl⟩ := HB.out.two
      by_cases hlt : i ≤ 16
      · go_wp2_with fail
        refine (specCountReduced k A n c B l i wo (HO.out.below hb) hsm).mono ?_
        rintro e w4 ⟨rfl, hb4⟩
        rw [countR_few (HC.out i hlt) hk4 hlt]
        have HB4 := Lib.hid (HB.out.below hb4 (by have := HB.out.lt; omega))
        have b4 := hb.trans (hb4.mono hbs)
        have hbs4 := b4.size
        clear hb4 HB hb s0 s1 sl
        obtain ⟨s0, s1, -, -, sl⟩ := HB4.out.two
        have HCN := Lib.hid (show (lvl l k i).length = countN l k i from lvl_len l k i)
        by_cases h0 : countN l k i = 0
        · have HL : Hid (nextC k l s = []) := by
            have h2 : lvl l k i = [] := List.eq_nil_of_length_eq_zero (by rw [HCN.out, h0])
            show _ = _
            rcases HI.out with e | ⟨e, e2⟩
            · subst e
              obtain ⟨a, b⟩ := nxtW_nil h2
              by_cases h16 : s.size < 16
              · rw [HNM.out a h16, b]
              · rw [HNE.out a h16]
            · rw [HNM.out e2 (by omega), ← e, h2]
          rw [h0]
          go_wp2_with fail
          go_ret2
          exact ⟨ret_found (.inr ⟨rfl, rfl, HL.out⟩), b4⟩
        · have HL : Hid (∀ y b, Found (seekL l k s i ⟨#[]⟩) y b → (b = true ∧ nextC k l s ≠ [] ∧ y = hdS (nextC k l s)) ∨ (b = false ∧ i = s.size ∧ nxtW l k s = [])) := by
            intro y b hF
            have h2 : lvl l k i ≠ [] := fun h => h0 (by rw [← HCN.out, h]; rfl)
            rcases HI.out with e | ⟨e, e2⟩
            · subst e
              rw [nxtW_seek] at hF
              rcases hF with ⟨rfl, h3, rfl⟩ | ⟨rfl, h3⟩
              · have := HNS.out h3; exact .inl ⟨rfl, this.2, this.1.symm⟩
              · exact .inr ⟨rfl, rfl, h3⟩
            · subst e
              rw [lvl_seek] at hF
              rcases hF with ⟨rfl, h3, rfl⟩ | ⟨rfl, h3⟩
              · rw [HNM.out e2 (by omega)]; exact .inl ⟨rfl, h3, rfl⟩
              · exact absurd h3 h2
          have hne : ((countN l k i : Nat) : Int) ≠ 0 := by omega
          generalize countN l k i = CN at *
          go_wp2_with fail
          refine (seek_any k A n c B l s hk4 hs16 i ⟨#[]⟩ w4 (HO.out.below b4) (by show 0 + i ≤ 17; omega)).mono ?_
          rintro e w5 ⟨y5, b5', rfl, hF, hb5⟩
          have hF := HL.out _ _ hF
          have HB5 := Lib.hid (HB4.out.below hb5 (by have := HB4.out.lt; omega))
          have b5 := b4.trans (hb5.mono hbs4)
          clear hb5 s0 s1 sl HB4
          rcases hF with ⟨rfl, h6⟩ | ⟨rfl, h6⟩
          · have H6 := Lib.hid h6
            clear h6
            go_wp2_with fail
            go_ret2
            exact ⟨ret_found (.inl ⟨rfl, H6.out⟩), b5⟩
          · have HI2 : Hid (i + 1 = s.size ∨ (i + 1 = s.size + 1 ∧ nxtW l k s = [])) := .inr ⟨by omega, h6.2⟩
            clear h6
            go_wp2_with fail
            go_roundw
            case rel => exact ⟨i + 1, by go_num, by omega, HI2, HB5, b5⟩
            case measure => simp [intOf]; omega
      · have HL : Hid (nextC k l s = []) := by
          rcases HI.out with e | ⟨e, e2⟩
          · omega
          · exact HNE.out e2 (by omega)
        go_wp2_with fail
        go_ret2
        exact ⟨ret_found (.inr ⟨rfl, rfl, HL.out⟩), hb⟩
end Go.Proofs.YtjecadpofkblnaaDoor

namespace Go.Proofs.YtjecadpofkblnaaDoor
open Go.RowKit Go.Maps Go.Shelf
attribute [local go_sem] Oper.semAt_some

theorem nxtW_stop {l : List R} {k : Nat} {s x : ByteArray} {p : List ByteArray} (h : p ++ [x] <+: listTo l k (lowS s) s.size ⟨#[]⟩ (0, 0)) (hp : ∀ y ∈ p, y = s) (hx : x ≠ s) : hdS (nxtW l k s) = x ∧ nxtW l k s ≠ [] := by
  obtain ⟨r, hr⟩ := h
  have hm : x ∈ listTo l k (lowS s) s.size ⟨#[]⟩ (0, 0) := by rw [← hr]; simp
  have h1 : lessS s x = true := by rw [list_ne hm, decide_eq_false hx]; rfl
  have h2 : p.filter (lessS s) = [] := List.filter_eq_nil_iff.2 (fun y hy => by rw [hp y hy, lessS_irrefl]; simp)
  have h3 : nxtW l k s = x :: r.filter (lessS s) := by
    unfold nxtW
    rw [← hr, List.filter_append, List.filter_append, h2, List.nil_append]
    simp [h1]
  rw [h3]; exact ⟨rfl, by simp⟩
theorem nxtW_done {l : List R} {k : Nat} {s : ByteArray} (h : ∀ y ∈ listTo l k (lowS s) s.size ⟨#[]⟩ (0, 0), y = s) : nxtW l k s = [] :=
  List.filter_eq_nil_iff.2 (fun y hy => by rw [h y hy, lessS_irrefl]; simp)
set_option maxRecDepth 100000 in
set_option maxHeartbeats 2000000 in
theorem implNextReduced (k : Int) (A : Option Addr) (n c B : Nat) (l : List R) (s : ByteArray) (w : World) (h : Own B w (.slice A n c) 2 n (rulesC l)) (hsm : smallR l) (hs : s.size ≤ 1048576) (hlet : Let w) :
    Calls Tryd.prog 14 #[.agg #[.int .i64 k, .slice A n c], .string s] w fun e w' => e = .returned (.tuple #[.string (hdS (nextC k l s)), .bool (!(nextC k l s).isEmpty)]) ∧ Below w.heap.size w w' := by
  have HO := Lib.hid h
  have HL := Lib.hid hlet
  clear h hlet
  refine (callsIn_wide (n := 6)).1 ?_
  refine callsIn_of_wp_marks Tryd.func14 rfl trivial ?_ rfl
  simp only [Tryd.ntmps14, List.size_toArray, List.length_cons, List.length_nil, Nat.reduceAdd, Nat.reduceSub, Array.replicate_succ, Array.replicate_zero, List.push_toArray, List.append_toArray, List.nil_append, List.cons_append]
  gi_wp2_with fail
  have b0 : Below w.heap.size w ((((w.alloc (.cells #[.int .i64 k, .slice A n c] 25)).alloc (.cells #[.string s] 9)).alloc (.cells #[.string ⟨#[]⟩] 9)).alloc (.cells #[.bool false] 4)) := bel4 w _ _ _ _
  have R0 : Blk ((((w.alloc (.cells #[.int .i64 k, .slice A n c] 25)).alloc (.cells #[.string s] 9)).alloc (.cells #[.string ⟨#[]⟩] 9)).alloc (.cells #[.bool false] 4)) w.heap.size 25 #[.int .i64 k, .slice A n c] := (((Blk.new1 _ _ _).alloc _).alloc _).alloc _
  have R1 : Blk ((((w.alloc (.cells #[.int .i64 k, .slice A n c] 25)).alloc (.cells #[.string s] 9)).alloc (.cells #[.string ⟨#[]⟩] 9)).alloc (.cells #[.bool false] 4)) (w.heap.size + 1) 9 #[.string s] := ((Blk.new2 _ _ _ _).alloc _).alloc _
  have R2 : Blk ((((w.alloc (.cells #[.int .i64 k, .slice A n c] 25)).alloc (.cells #[.string s] 9)).alloc (.cells #[.string ⟨#[]⟩] 9)).alloc (.cells #[.bool false] 4)) (w.heap.size + 1 + 1) 9 #[.string ⟨#[]⟩] := (Blk.new3 _ _ _ _ _).alloc _
  have R3 : Blk ((((w.alloc (.cells #[.int .i64 k, .slice A n c] 25)).alloc (.cells #[.string s] 9)).alloc (.cells #[.string ⟨#[]⟩] 9)).alloc (.cells #[.bool false] 4)) (w.heap.size + 1 + 1 + 1) 4 #[.bool false] := Blk.new4 _ _ _ _ _ _
  generalize (((w.alloc (.cells #[.int .i64 k, .slice A n c] 25)).alloc (.cells #[.string s] 9)).alloc (.cells #[.string ⟨#[]⟩] 9)).alloc (.cells #[.bool false] 4) = w0 at *
  refine ⟨trivial, (callsIn_wide.2 (canReduce_any k A n c B l s w0 (HO.out.below b0) hsm hs (HL.out.keep b0 (Nat.le_refl _)))).mono ?_⟩
  rintro e w1 ⟨rfl, hb1⟩
  have b1 := b0.trans (hb1.mono b0.size)
  replace R0 := R0.below hb1 R0.lt
  replace R1 := R1.below hb1 R1.lt
  replace R2 := R2.below hb1 R2.lt
  replace R3 := R3.below hb1 R3.lt
  have h1s : w.heap.size + 4 ≤ w1.heap.size := by have := R3.lt; omega
  clear hb1 b0
  obtain ⟨r0, r1, -, -, rl⟩ := R0.two
  have s0 := R1.cell 0
  have y0 := R2.cell 0
  have yf := R2.frozen 0
  have z0 := R3.cell 0
  have zf := R3.frozen 0
  cases h1 : canRed k l s
  · have HF := Lib.hid (nextC_no h1)
    clear h1
    gi_wp2_with fail
    have q2 := (((R2.set_ 0 (.string ⟨#[]⟩)).far (p := ⟨w.heap.size + 1 + 1 + 1, 0, none⟩) (by show w.heap.size + 1 + 1 ≠ _; simp) (.bool false))).cell 0
    have q3 := ((R3.far (p := ⟨w.heap.size + 1 + 1, 0, none⟩) (by simp) (.string ⟨#[]⟩)).set_ 0 (.bool false)).cell 0
    refine ⟨.tuple #[.string ⟨#[]⟩, .bool false], ?_, ret_found (.inr ⟨rfl, rfl, HF.out⟩), (b1.setCell (p := ⟨w.heap.size + 1 + 1, 0, none⟩) (by simp; omega) _).setCell (p := ⟨w.heap.size + 1 + 1 + 1, 0, none⟩) (by simp; omega) _⟩
    simp [results, Tryd.f14, go_sem, q2, q3]
  · obtain ⟨k, rfl, hk4, hs16, hc, h12, hl⟩ := canRed_parts h1
    have Hl := Lib.hid (fun r (hr : r ∈ l) => (hl r hr).1)
    have HNS := Lib.hid (fun h2 => nextC_same (l := l) (s := s) h1 h2)
    have HNM := Lib.hid (fun h2 h3 => nextC_more (l := l) (s := s) h1 h2 h3)
    have HNE := Lib.hid (fun h2 h3 => nextC_end (l := l) (s := s) h1 h2 h3)
    clear h1 hl hc
    gi_wp2_with fail
    refine ⟨trivial, (callsIn_wide.2 (languageOf_any k A n c B l w1 (HO.out.below b1) Hl.out h12 hk4 (HL.out.keep b1 (Nat.le_refl _)))).mono ?_⟩
    rintro e w2 ⟨gL, mA, Q, rfl, hLS, hQ, hb2⟩
    have b2 := b1.trans (hb2.mono b1.size)
    have HLS := Lib.hid hLS
    have HQ := Lib.hid hQ
    replace R1 := R1.below hb2 R1.lt
    replace R2 := R2.below hb2 R2.lt
    replace R3 := R3.below hb2 R3.lt
    have h2s := hb2.size
    clear hb2 hLS hQ r0 r1 s0 y0 yf z0 zf R0
    have s0 := R1.cell 0
    gi_wp2_with fail
    refine ⟨trivial, (callsIn_wide.2 (words_any k l w1.heap.size gL mA 1000 s.size s Q w2 Hl.out h12 hk4 HQ.out (HL.out.keep b2 (Nat.le_refl _)) HLS.out (by omega))).mono ?_⟩
    rintro e w3 ⟨bx, rfl, hWA, hb3⟩
    have b3 := b2.trans (hb3.mono b2.size)
    have HWA := Lib.hid hWA
    have HL3 := Lib.hid (HLS.out.below hb3)
    replace R1 := R1.below hb3 R1.lt
    replace R2 := R2.below hb3 R2.lt
    replace R3 := R3.below hb3 R3.lt
    have h3s := hb3.size
    clear hb3 hWA s0 HLS
    gi_wp2_with fail
    have h5s : w.heap.size + 4 ≤ w3.heap.size := by omega
    refine wpIn_rangeFunc_ownH rfl (by omega) (gf := 67) (lb := #[.pointer (some ⟨bx, 0, none⟩)]) rfl trivial (enters_of Tryd.func67 (by kernel_rfl) rfl)
      (words_stops 5 (by omega) l k bx s.size s (· < w3.heap.size) w3 hk4 (by omega) Hl.out h12 HWA.out (fun _ h => h)) keepE_t (keepE_b (fun _ h => h)) (Below.refl _ _) (fun _ => rfl)
      (fun pre W => (∀ y ∈ pre, y = s) ∧ Below w3.heap.size w3 W)
      (fun c pre W => (c = .ret ∧ (∃ p x, pre = p ++ [x] ∧ (∀ y ∈ p, y = s) ∧ x ≠ s ∧ Blk W (w.heap.size + 1 + 1) 9 #[.string x]) ∧ Blk W (w.heap.size + 1 + 1 + 1) 4 #[.bool true]) ∧ Below w.heap.size w W)
      (OwnFrom.and (fun _ _ _ _ h hg hr => h) (ownFrom_below (Nat.le_refl _) (Nat.le_refl _)))
      (fun c => OwnFrom.and (fun _ _ _ _ h hg hr => ⟨h.1, by obtain ⟨p, x, hx, hp, hn, hb⟩ := h.2.1; exact ⟨p, x, hx, hp, hn, blk_kept hb hg (fun r e => (hr r e).2)⟩, blk_kept h.2.2 hg (fun r e => (hr r e).2)⟩) (ownFrom_below (Nat.le_refl _) (by omega)))
      ⟨fun y hy => by simp at hy, Below.refl _ _⟩
      (fun x a' _ => a' = { tmps := #[.agg #[.int .i64 k, .slice A n c], .string s, .pointer (some ⟨w.heap.size, 0, none⟩), .pointer (some ⟨w.heap.size + 1, 0, none⟩), .pointer (some ⟨w.heap.size + 1 + 1, 0, none⟩), .pointer (some ⟨w.heap.size + 1 + 1 + 1, 0, none⟩), .pointer (some ⟨gL, 0, none⟩), .string x, undef, .agg #[.int .i64 k, .slice A n c], .string s, .bool true, .bool false, .agg #[.int .i64 k, .slice A n c], .pointer (some ⟨gL, 0, none⟩), .pointer (some ⟨gL, 0, none⟩), .string s, .int .i64 s.size, .string s, .func (.func 67) #[] #[.pointer (some ⟨bx, 0, none⟩)], .string x, undef, undef, undef, undef, undef, undef, undef, undef, undef, undef, undef, undef, undef, undef], defers := [] })
      (fun x a' _ _ _ _ h _ _ => h)
      ?assign ?body ?done ?stop
    case assign =>
      rintro lp pre x W K hI hK
      gi_wp2_with fail
      exact hK _ _ (KeepsFrom.refl _ _) (KeepE.refl _ _) hI rfl
    case body =>
      rintro lp pre x a' W hl hr ⟨hp, hb⟩ rfl hlt
      have s0 := (R1.below hb R1.lt).cell 0
      have R2 := R2.below hb R2.lt
      have R3 := R3.below hb R3.lt
      have y0 := R2.cell 0
      have yf := R2.frozen 0
      have z0 := R3.cell 0
      have zf := R3.frozen 0
      have b4 := b3.trans (hb.mono b3.size)
      by_cases hx : x = s
      · subst hx
        gi_wp2_with fail
        exact ⟨KeepsFrom.refl _ _, KeepE.refl _ _, fun y hy => by rcases List.mem_append.1 hy with h | h; exact hp y h; exact List.mem_singleton.1 h, hb⟩
      · have hxe : (x.toList == s.toList) = false := by
          rw [beq_eq_false_iff_ne]; intro h
          rw [toList_data, toList_data] at h
          exact hx (ByteArray.ext (Array.toList_inj.1 h))
        gi_wp2_with fail
        refine ⟨((KeepsOthers.setCell _ _ _).trans (KeepsOthers.setCell _ _ _)).from _, ⟨rfl, ⟨pre, x, rfl, hp, hx, ?_⟩, ?_⟩, ?_⟩
        · exact (R2.set_ 0 (.string x)).far (by simp) _
        · exact (R3.far (by simp) _).set_ 0 (.bool true)
        · exact (b4.setCell (by simp; omega) _).setCell (by simp; omega) _
    case stop =>
      rintro D c pre W hD hpre ⟨⟨rfl, ⟨p, x, rfl, hp, hx, h2⟩, h3⟩, h4⟩ hK
      have HF := Lib.hid (nxtW_stop hpre hp hx)
      clear hpre
      gi_wp2_with fail
      refine ⟨by simp, .inl ⟨_, _, rfl, run_takeDeferred hK, ?_⟩⟩
      have q2 := (blk_kept h2 (grownBy_putObj' _ D (.deferred none)) (fun r e => by cases e; exact ⟨_, hK, rfl⟩)).cell 0
      have q3 := (blk_kept h3 (grownBy_putObj' _ D (.deferred none)) (fun r e => by cases e; exact ⟨_, hK, rfl⟩)).cell 0
      have HF2 := HNS.out HF.out.2
      refine ⟨.tuple #[.string x, .bool true], ?_, ret_found (.inl ⟨rfl, HF2.2, by rw [HF2.1, HF.out.1]⟩), h4.trans (belowK_b (w := w) (Nat.le_refl _) _ D _ _ (by omega) hK rfl rfl)⟩
      simp [results, Tryd.f14, go_sem, q2, q3]
    case done =>
      rintro D ys W hD rfl ⟨hp, hb⟩ hK
      have HN := Lib.hid (nxtW_done hp)
      have s0 := (R1.below hb R1.lt).cell 0
      have R2 := R2.below hb R2.lt
      have R3 := R3.below hb R3.lt
      have y0 := R2.cell 0
      have yf := R2.frozen 0
      have z0 := R3.cell 0
      have zf := R3.frozen 0
      have b4 := b3.trans (hb.mono b3.size)
      have hDW : D < W.heap.size := (Array.getElem?_eq_some_iff.1 hK).1
      clear hp
      by_cases h16 : s.size < 16
      · have h16' : (s.size : Int) ≠ 16 := by omega
        have HM := Lib.hid (HNM.out HN.out h16)
        have hc1 : (s.size : Int) + 1 = ((s.size + 1 : Nat) : Int) := by omega
        have HWo := Lib.hid (words_any k l w1.heap.size gL mA 1000 (s.size + 1) ⟨#[]⟩ Q W Hl.out h12 hk4 HQ.out (HL.out.keep b4 (Nat.le_refl _)) (HL3.out.below hb) (by omega))
        rw [← hc1] at HWo
        clear hc1 y0 yf z0 zf
        gi_wp2_with fail
        refine ⟨trivial, (callsIn_wide.2 HWo.out).mono ?_⟩
        rintro e w4 ⟨bx2, rfl, hWB, hb4⟩
        have b5 := b4.trans (hb4.mono b4.size)
        have HWB := Lib.hid hWB
        replace R2 := R2.below hb4 R2.lt
        replace R3 := R3.below hb4 R3.lt
        have hK4 : w4.heap[D]? = some (.deferred (some [])) := (hb4.block D hDW).trans hK
        have h4s := hb4.size
        have hDW4 : D < w4.heap.size := by omega
        clear hb4 hWB s0 HWo
        gi_wp2_with fail
        have h6s : w.heap.size + 4 ≤ w4.heap.size := by have := b3.size; omega
        refine wpIn_rangeFunc_ownH rfl (by omega) (gf := 67) (lb := #[.pointer (some ⟨bx2, 0, none⟩)]) rfl trivial (enters_of Tryd.func67 (by kernel_rfl) rfl)
          (words_stops 5 (by omega) l k bx2 (s.size + 1) ⟨#[]⟩ (· < w4.heap.size) w4 hk4 (by omega) Hl.out h12 HWB.out (fun _ h => h)) keepE_t (keepE_b (fun _ h => h)) (Below.refl _ _) (fun _ => rfl)
          (fun pre W => pre = [] ∧ Below w4.heap.size w4 W)
          (fun c pre W => (c = .ret ∧ (∃ x, pre = [x] ∧ Blk W (w.heap.size + 1 + 1) 9 #[.string x]) ∧ Blk W (w.heap.size + 1 + 1 + 1) 4 #[.bool true] ∧ W.heap[D]? = some (.deferred (some []))) ∧ Below w.heap.size w W)
          (OwnFrom.and (fun _ _ _ _ h hg hr => h) (ownFrom_below (Nat.le_refl _) (Nat.le_refl _)))
          (fun c => OwnFrom.and (fun _ _ _ _ h hg hr => ⟨h.1, by obtain ⟨x, hx, hb⟩ := h.2.1; exact ⟨x, hx, blk_kept hb hg (fun r e => (hr r e).2)⟩, blk_kept h.2.2.1 hg (fun r e => (hr r e).2), (hg.block D (Array.getElem?_eq_some_iff.1 h.2.2.2).1 (fun e => by have := (hr D e.symm).1; omega)).trans h.2.2.2⟩) (ownFrom_below (Nat.le_refl _) (by omega)))
          ⟨rfl, Below.refl _ _⟩
          (fun x a' _ => a' = { tmps := #[.agg #[.int .i64 k, .slice A n c], .string s, .pointer (some ⟨w.heap.size, 0, none⟩), .pointer (some ⟨w.heap.size + 1, 0, none⟩), .pointer (some ⟨w.heap.size + 1 + 1, 0, none⟩), .pointer (some ⟨w.heap.size + 1 + 1 + 1, 0, none⟩), .pointer (some ⟨gL, 0, none⟩), undef, .string x, .agg #[.int .i64 k, .slice A n c], .string s, .bool true, .bool false, .agg #[.int .i64 k, .slice A n c], .pointer (some ⟨gL, 0, none⟩), .pointer (some ⟨gL, 0, none⟩), .string s, .int .i64 s.size, .string s, .func (.func 67) #[] #[.pointer (some ⟨bx, 0, none⟩)], undef, undef, undef, undef, undef, .string s, .int .i64 s.size, .bool false, .pointer (some ⟨gL, 0, none⟩), .string s, .int .i64 s.size, .int .i64 ((s.size : Int) + 1), .func (.func 67) #[] #[.pointer (some ⟨bx2, 0, none⟩)], .string x, undef], defers := [] })
          (fun x a' _ _ _ _ h _ _ => h)
          ?assign2 ?body2 ?done2 ?stop2
        case assign2 =>
          rintro lp pre x W K hI hK
          gi_wp2_with fail
          exact hK _ _ (KeepsFrom.refl _ _) (KeepE.refl _ _) hI rfl
        case body2 =>
          rintro lp pre x a' W hl hr ⟨rfl, hb⟩ rfl hlt
          have R2 := R2.below hb R2.lt
          have R3 := R3.below hb R3.lt
          have y0 := R2.cell 0
          have yf := R2.frozen 0
          have z0 := R3.cell 0
          have zf := R3.frozen 0
          have b6 := b5.trans (hb.mono b5.size)
          have hK6 := (hb.block D hDW4).trans hK4
          gi_wp2_with fail
          refine ⟨((KeepsOthers.setCell _ _ _).trans (KeepsOthers.setCell _ _ _)).from _, ⟨rfl, ⟨x, rfl, ?_⟩, ?_, ?_⟩, ?_⟩
          · exact (R2.set_ 0 (.string x)).far (by simp) _
          · exact (R3.far (by simp) _).set_ 0 (.bool true)
          · exact ((KeepsOthers.setCell _ _ _).trans (KeepsOthers.setCell _ _ _)).same D _ hK6 rfl
          · exact (b6.setCell (by simp; omega) _).setCell (by simp; omega) _
        case stop2 =>
          rintro D2 c pre W hD2 hpre ⟨⟨rfl, ⟨x, rfl, h2⟩, h3, hK1⟩, h4⟩ hK2
          have HF : Hid (hdS (nextC k l s) = x ∧ nextC k l s ≠ []) := by
            show _ ∧ _
            rw [HM.out, ← listTo_empty]
            obtain ⟨r, hr⟩ := hpre
            rw [← hr]; exact ⟨rfl, by simp⟩
          clear hpre
          gi_wp2_with fail
          have hne : D ≠ D2 := by omega
          have hK1' : (W.putObj D2 (.deferred none)).heap[D]? = some (.deferred (some [])) := (World.putObj_heap_other hne).trans hK1
          refine ⟨by simp, .inl ⟨_, _, rfl, run_takeDeferred hK2, ⟨by simp, .inl ⟨_, _, rfl, run_takeDeferred hK1', ?_⟩⟩⟩⟩
          have q2' := blk_kept h2 (grownBy_putObj' _ D2 (.deferred none)) (fun r e => by cases e; exact ⟨_, hK2, rfl⟩)
          have q3' := blk_kept h3 (grownBy_putObj' _ D2 (.deferred none)) (fun r e => by cases e; exact ⟨_, hK2, rfl⟩)
          have q2 := (blk_kept q2' (grownBy_putObj' _ D (.deferred none)) (fun r e => by cases e; exact ⟨_, hK1', rfl⟩)).cell 0
          have q3 := (blk_kept q3' (grownBy_putObj' _ D (.deferred none)) (fun r e => by cases e; exact ⟨_, hK1', rfl⟩)).cell 0
          refine ⟨.tuple #[.string x, .bool true], ?_, ret_found (.inl ⟨rfl, HF.out.2, HF.out.1.symm⟩), (h4.trans (belowK_b (w := w) (Nat.le_refl _) _ D2 _ _ (by omega) hK2 rfl rfl)).trans (belowK_b (w := w) (Nat.le_refl _) _ D _ _ (by omega) hK1' rfl rfl)⟩
          simp [results, Tryd.f14, go_sem, q2, q3]
        case done2 =>
          rintro D2 ys W hD2 hys ⟨rfl, hb⟩ hK2
          have HF : Hid (nextC k l s = []) := by
            show _ = _
            rw [HM.out, ← listTo_empty]; exact hys.symm
          clear hys
          have R2 := R2.below hb R2.lt
          have R3 := R3.below hb R3.lt
          have y0 := R2.cell 0
          have yf := R2.frozen 0
          have z0 := R3.cell 0
          have zf := R3.frozen 0
          have b6 := b5.trans (hb.mono b5.size)
          have hK1 := (hb.block D hDW4).trans hK4
          gi_wp2_with fail
          have hne : D ≠ D2 := by omega
          have q2' := ((R2.set_ 0 (.string ⟨#[]⟩)).far (p := ⟨w.heap.size + 1 + 1 + 1, 0, none⟩) (by show w.heap.size + 1 + 1 ≠ _; simp) (.bool false))
          have q3' := ((R3.far (p := ⟨w.heap.size + 1 + 1, 0, none⟩) (by simp) (.string ⟨#[]⟩)).set_ 0 (.bool false))
          have hK2' := ((KeepsOthers.setCell W ⟨w.heap.size + 1 + 1, 0, none⟩ (.string ⟨#[]⟩)).trans (KeepsOthers.setCell _ ⟨w.heap.size + 1 + 1 + 1, 0, none⟩ (.bool false))).same D2 _ hK2 rfl
          have hK1w := ((KeepsOthers.setCell W ⟨w.heap.size + 1 + 1, 0, none⟩ (.string ⟨#[]⟩)).trans (KeepsOthers.setCell _ ⟨w.heap.size + 1 + 1 + 1, 0, none⟩ (.bool false))).same D _ hK1 rfl
          have hK1' : (((W.setCell ⟨w.heap.size + 1 + 1, 0, none⟩ (.string ⟨#[]⟩)).setCell ⟨w.heap.size + 1 + 1 + 1, 0, none⟩ (.bool false)).putObj D2 (.deferred none)).heap[D]? = some (.deferred (some [])) := (World.putObj_heap_other hne).trans hK1w
          refine ⟨by simp, .inl ⟨_, _, rfl, run_takeDeferred hK2', ⟨by simp, .inl ⟨_, _, rfl, run_takeDeferred hK1', ?_⟩⟩⟩⟩
          have q2'' := blk_kept q2' (grownBy_putObj' _ D2 (.deferred none)) (fun r e => by cases e; exact ⟨_, hK2', rfl⟩)
          have q3'' := blk_kept q3' (grownBy_putObj' _ D2 (.deferred none)) (fun r e => by cases e; exact ⟨_, hK2', rfl⟩)
          have q2 := (blk_kept q2'' (grownBy_putObj' _ D (.deferred none)) (fun r e => by cases e; exact ⟨_, hK1', rfl⟩)).cell 0
          have q3 := (blk_kept q3'' (grownBy_putObj' _ D (.deferred none)) (fun r e => by cases e; exact ⟨_, hK1', rfl⟩)).cell 0
          refine ⟨.tuple #[.string ⟨#[]⟩, .bool false], ?_, ret_found (.inr ⟨rfl, rfl, HF.out⟩), (((b6.setCell (p := ⟨w.heap.size + 1 + 1, 0, none⟩) (by simp; omega) _).setCell (p := ⟨w.heap.size + 1 + 1 + 1, 0, none⟩) (by simp; omega) _).trans (belowK_b (w := w) (Nat.le_refl _) _ D2 _ _ (by omega) hK2' rfl rfl)).trans (belowK_b (w := w) (Nat.le_refl _) _ D _ _ (by omega) hK1' rfl rfl)⟩
          simp [results, Tryd.f14, go_sem, q2, q3]
      · have h16' : (s.size : Int) = 16 := by omega
        have HE := Lib.hid (HNE.out HN.out h16)
        gi_wp2_with fail
        have q2' := ((R2.set_ 0 (.string ⟨#[]⟩)).far (p := ⟨w.heap.size + 1 + 1 + 1, 0, none⟩) (by show w.heap.size + 1 + 1 ≠ _; simp) (.bool false))
        have q3' := ((R3.far (p := ⟨w.heap.size + 1 + 1, 0, none⟩) (by simp) (.string ⟨#[]⟩)).set_ 0 (.bool false))
        have hK' := ((KeepsOthers.setCell W ⟨w.heap.size + 1 + 1, 0, none⟩ (.string ⟨#[]⟩)).trans (KeepsOthers.setCell _ ⟨w.heap.size + 1 + 1 + 1, 0, none⟩ (.bool false))).same D _ hK rfl
        refine ⟨by simp, .inl ⟨_, _, rfl, run_takeDeferred hK', ?_⟩⟩
        have q2 := (blk_kept q2' (grownBy_putObj' _ D (.deferred none)) (fun r e => by cases e; exact ⟨_, hK', rfl⟩)).cell 0
        have q3 := (blk_kept q3' (grownBy_putObj' _ D (.deferred none)) (fun r e => by cases e; exact ⟨_, hK', rfl⟩)).cell 0
        refine ⟨.tuple #[.string ⟨#[]⟩, .bool false], ?_, ret_found (.inr ⟨rfl, rfl, HE.out⟩), ((b4.setCell (p := ⟨w.heap.size + 1 + 1, 0, none⟩) (by simp; omega) _).setCell (p := ⟨w.heap.size + 1 + 1 + 1, 0, none⟩) (by simp; omega) _).trans (belowK_b (w := w) (Nat.le_refl _) _ D _ _ (by omega) hK' rfl rfl)⟩
        simp [results, Tryd.f14, go_sem, q2, q3]
end Go.Proofs.YtjecadpofkblnaaDoor

namespace Go.Proofs.YtjecadpofkblnaaDoor.fnExactNextReduced
open Go.ChangeShapes Go.WideShapes Go.ChangeAt Go.RowKit
open Go.ChangeMaps (open_string)
set_option maxRecDepth 100000 in
set_option maxHeartbeats 1600000 in
theorem walk (k : Int) (_wk : (Lit.int .i64 k).wf = true) (A : Option Addr) (n c : Nat) (xs : List R) (s : ByteArray) (hss : s.size ≤ maxLen) (w : World) (hI : InR w A n c xs) (h : Let w) :
    Calls Tryd.prog 7 #[.agg #[.int .i64 k, .slice A n c], .string s] w fun e w' => e = .returned (.bool true) ∧ Below w.heap.size w w' := by
  have HL := Lib.hid (fun (w' : World) (hb : Below w.heap.size w w') => h.keep hb (Nat.le_refl _))
  have HI := Lib.hid (fun (w' : World) (hb : Below w.heap.size w w') => hI.keep hb)
  unfold maxLen at hss
  clear h hI
  by_cases hbig : 1048576 < s.size
  · go_enter Tryd.func7, Tryd.ntmps7
    go_wp2_with fail
    go_ret
    exact ⟨rfl, bel1 _ _⟩
  have hs : s.size ≤ 1048576 := by omega
  go_enter Tryd.func7, Tryd.ntmps7
  go_wp2_with fail
  refine (szSystem_any k A n c xs 1048576 _ (HI.out _ (bel1 _ _)) (Nat.le_refl _)).mono ?_
  rintro e w1 ⟨q, rfl, hq, hb1⟩
  have b1 := (bel1 w _).trans (hb1.mono (by simp))
  have B1 := Lib.hid ((Blk.new1 w _ _).below hb1 (by simp))
  obtain ⟨q0, q1, -, -, ql⟩ := B1.out.two
  clear hb1
  by_cases hq0 : q < 0
  · go_wp2_with fail
    go_ret
    exact ⟨rfl, b1⟩
  have Hsz : Hid (n + rulesSz xs ≤ 1048576) := by rcases hq with h | h <;> (show _ ≤ _; omega)
  have Hn : Hid (n ≤ 1048576) := by have := Hsz.out; show _ ≤ _; omega
  have Hsm : Hid (smallR xs) := small_of xs (by have := Hsz.out; omega)
  clear hq
  go_wp2_with fail
  refine (toSystem_any k A n c xs _ (HI.out _ b1) Hn.out).mono ?_
  rintro e w2 ⟨v2, rfl, o2, hb2⟩
  have b2 := b1.trans (hb2.mono b1.size)
  have B2 := Lib.hid (B1.out.below hb2 B1.out.lt)
  obtain ⟨A2, c2, rfl⟩ := o2.form
  clear hb2 q0 q1 ql B1
  obtain ⟨q0, q1, -, -, ql⟩ := B2.out.two
  go_wp2_with fail
  refine (specNextReduced k A2 n c2 _ xs s _ o2 Hsm.out hs).mono ?_
  rintro e w3 ⟨rfl, hb3⟩
  have b3 := b2.trans (hb3.mono b2.size)
  have B3 := Lib.hid (B2.out.below hb3 B2.out.lt)
  clear hb3 o2 q0 q1 ql B2
  obtain ⟨r1, hr1⟩ : ∃ r, hdS (nextC k xs s) = r := ⟨_, rfl⟩
  obtain ⟨r2, hr2⟩ : ∃ r, (!(nextC k xs s).isEmpty) = r := ⟨_, rfl⟩
  have Hr1 := Lib.hid hr1
  have Hr2 := Lib.hid hr2
  rw [hr1, hr2]
  clear hr1 hr2
  obtain ⟨q0, q1, -, -, ql⟩ := B3.out.two
  have b4 := b3
  have B4 := B3
  obtain ⟨w4, rfl⟩ : ∃ x : World, x = w3 := ⟨_, rfl⟩
  clear b3 B3
  go_wp2_with fail
  refine (toSystem_any k A n c xs _ (HI.out _ b4) Hn.out).mono ?_
  rintro e w5 ⟨v5, rfl, o5, hb5⟩
  have b5 := b4.trans (hb5.mono b4.size)
  have B5 := Lib.hid (B4.out.below hb5 B4.out.lt)
  obtain ⟨A5, c5, rfl⟩ := o5.form
  have O5 := Lib.hid o5
  clear hb5 o5 q0 q1 ql B4
  go_wp2_with fail
  have b6 := b5.alloc b5.size (.cells #[.int .i64 k, .slice A5 n c5] 25)
  have B6 := Lib.hid (B5.out.alloc (.cells #[.int .i64 k, .slice A5 n c5] 25))
  have X6 := Lib.hid (Blk.new1 w5 #[.int .i64 k, .slice A5 n c5] 25)
  have O6 := Lib.hid (O5.out.below (bel1 w5 (.cells #[.int .i64 k, .slice A5 n c5] 25)))
  clear b5 B5 O5
  generalize w5.alloc (.cells #[.int .i64 k, .slice A5 n c5] 25) = w6 at *
  refine (implNextReduced k A5 n c5 _ xs s _ O6.out Hsm.out hs (HL.out _ b6)).mono ?_
  rw [Hr1.out, Hr2.out]
  rintro e w7 ⟨rfl, hb7⟩
  have b7 := b6.trans (hb7.mono b6.size)
  have B7 := Lib.hid (B6.out.below hb7 B6.out.lt)
  have X7 := Lib.hid (X6.out.below hb7 X6.out.lt)
  have O7 := Lib.hid (O6.out.below hb7)
  clear hb7 B6 X6 O6
  have b8 := b7
  have B8 := B7
  have X8 := X7
  have O8 := O7
  obtain ⟨w8, rfl⟩ : ∃ x : World, x = w7 := ⟨_, rfl⟩
  clear b7 B7 X7 O7
  have O8d : Hid (Own w4.heap.size w8.drew (.slice A5 n c5) 2 n (rulesC xs)) := O8
  obtain ⟨q0, q1, -, -, ql⟩ := B8.out.two
  obtain ⟨x0, x1, -, -, xl⟩ := X8.out.two
  go_wp2_with fail
  go_region_held3 (fun w' => w'.cell? ⟨w5.heap.size, 0, none⟩ = some (.int .i64 k) ∧ w'.cell? ⟨w5.heap.size, 1, none⟩ = some (.slice A5 n c5) ∧ w'.cell? ⟨w.heap.size, 0, none⟩ = some (.int .i64 k) ∧ w'.cell? ⟨w.heap.size, 1, none⟩ = some (.slice A n c) ∧ Below w8.heap.size w8 w')
    (first | exact ⟨x0, x1, q0, q1, (Below.refl _ w8).drew⟩ | exact held4_keep (by assumption) hb9 (Nat.le_refl _) xl ql | exact held4_keep (by assumption) hb10 (Nat.le_refl _) xl ql)
    ((first | (go_at_call 22; refine (toSystem_any k A n c xs _ (HI.out _ b8.drew) Hn.out).mono ?_; rintro e w9 ⟨v9, rfl, o9, hb9⟩; obtain ⟨A9, c9, rfl⟩ := o9.form) | (go_at_call 24; refine (eqSystem_yes k A5 _ n c5 _ _ _ xs _ (O8d.out.below hb9) o9).mono ?_; rintro e w10 ⟨rfl, hb10⟩)))
  have hS := (‹_ ∧ _ ∧ _ ∧ _ ∧ Below w8.heap.size w8 w10›).2.2.2.2
  go_wp2_with fail
  go_ret
  exact ⟨rfl, b8.trans (hS.mono b8.size)⟩
set_option maxRecDepth 100000 in
theorem contract (H : Type) (enc : TypeId × Value → H) (W : World) (base : Nat) (args : Array Value) (ds gs : List (DataW H)) (before : List MemPlace)
    (hval : ∀ (j : Nat) t v, Tryd.f7.params[j]? = some t → args[j]? = some v → Value.okWide Tryd.prog W .any base t v)
    (hW : DataW.Whole enc Tryd.prog Tryd.f7.params.toList Rows.fnExactNextReducedSpec.vars false W args.toList ds gs before) (hL : laidMetH Tryd.prog Rows.fnExactNextReducedRow.laid W) :
    Calls Tryd.prog 7 args W fun e W' => ∃ v, e = .returned v ∧ Rows.fnExactNextReducedSpec.post enc Tryd.prog Tryd.f7 false true false false W args v W' := by
  have hW' := hW
  have hL' : laidMet Tryd.prog [("loop.example/g03201/impl.letters", Rows.laid_loop_example_g03201_impl_letters)] W := hL
  obtain ⟨p, q, hA0, hV, rfl, hfz, hnd⟩ := hW
  obtain ⟨g0, rfl⟩ := vars_len1 (trodVars_len hV)
  have hA : DataW.TrodAll enc Tryd.prog W 0 (fun _ => true) true Tryd.f7.params.toList args.toList ds p := hA0
  rw [Tryd.params7] at hA hval
  obtain ⟨v0, vs0, d0, ds0, p0, q0, hargs, rfl, rfl, h0, r0⟩ := trodAll_cons hA
  obtain ⟨v1, vs1, d1, ds1, p1, q1, rfl, rfl, rfl, h1, r1⟩ := trodAll_cons r0
  obtain ⟨rfl, rfl, rfl⟩ := trodAll_nil r1
  obtain rfl : args = #[v0, v1] := by first | exact Array.toList_inj.1 hargs | exact Array.toList_inj.1 hargs.symm | (cases args; simp_all)
  obtain ⟨k0, A0, n0, c0, xs0, rfl, wk0, I0⟩ := open_system Tryd.underlying44 (by kernel_rfl) (by kernel_rfl) Tryd.underlying3 Tryd.underlying42 Tryd.underlying122 (by kernel_rfl) (by kernel_rfl) Tryd.underlying9 Tryd.underlying9 (hval 0 44 v0 rfl rfl) h0
  obtain ⟨a1, rfl, rfl, rfl, b1⟩ := open_string Tryd.underlying9 (hval 1 9 v1 rfl rfl) h1
  refine (walk k0 wk0 A0 n0 c0 xs0 a1 b1 W I0 (let_of hL')).mono fun e W' ⟨he, hb⟩ => ?_
  subst he
  exact ⟨_, rfl, law_postV hW' rfl rfl Tryd.underlying4 laidOut (by kernel_rfl) (by kernel_rfl) hb⟩

theorem laid_met (os : Os) : laidMet Tryd.prog Rows.fnExactNextReducedRow.laid ((laidWorld os).forCall (fun _ _ => 0) ⟨#[], #[.agg #[.int .i64 0, .slice none 0 0], .string .empty], []⟩).memory :=
  laidMet_of_run' 8 (by kernel_rfl) (by kernel_rfl)
theorem reads (os : Os) {H : Type} (enc : TypeId × Value → H) : ∃ places, DataW.whole enc Tryd.prog ((laidWorld os).forCall (fun _ _ => 0) ⟨#[], #[.agg #[.int .i64 0, .slice none 0 0], .string .empty], []⟩).memory Tryd.f7.params.toList Rows.fnExactNextReducedSpec.vars false (#[.agg #[.int .i64 0, .slice none 0 0], .string .empty] : Array Value).toList 8 = some ([.agg [.lit (.int .i64 0), .nil], .lit (.string [])], [Rows.laid_loop_example_g03201_impl_letters], places) :=
  ⟨MemPlace.row ⟨0, 0, none⟩ 4, by kernel_rfl⟩
set_option maxRecDepth 100000 in
theorem lifted (os : Os) (started : os.Started) (H : Type) (enc : TypeId × Value → H) (F : Stop.Interp) :
    ReturnsInHanded {} Tryd.checked os 7 .any ((OpenSpec.ofChange Rows.fnExactNextReducedSpec).preRow enc Tryd.prog Tryd.f7 Rows.fnExactNextReducedRow.domain false Rows.fnExactNextReducedRow.laid) (((OpenSpec.ofChange Rows.fnExactNextReducedSpec).at F).post enc Tryd.prog Tryd.f7 false true false false) := by
  obtain ⟨places, hx⟩ := reads os enc
  refine returnsInHanded_of_row (C := Tryd.checked) (s := OpenSpec.ofChange Rows.fnExactNextReducedSpec) own started (by kernel_rfl) Tryd.func7
    (witness_row_at (enc := enc) (C := Tryd.checked) false (laidWorld os) #[.agg #[.int .i64 0, .slice none 0 0], .string .empty] rfl (by kernel_rfl) (by kernel_rfl) (by kernel_rfl)
      (OpenSpec.preRow_of_cond 8 hx (by kernel_rfl) (fun k hk => by cases hk) (by kernel_rfl) (laid_met os))) ?_
  intro W base args ds gs before hval hW _ _ _ hL _ _
  exact contract H enc W base args ds gs before hval hW hL
theorem said : Rows.FnExactNextReducedSaid :=
  OpenClaim.holds_of_cond 7 Tryd.f7 rfl rfl rfl rfl rfl rfl rfl ⟨rfl, rfl, rfl, rfl, rfl⟩ rfl rfl rfl rfl rfl (by kernel_rfl) Tryd.func7 (by kernel_rfl)
    (of_decide_eq_true (by kernel_rfl)) (by unfold Func.isWrapper; first | (rw [if_pos (by decide +kernel)]; kernel_rfl) | (rw [if_neg (by decide +kernel)]; exact ⟨rfl, rfl⟩))
    (fun os started H enc _ F => by rw [OpenClaim.pre_eq_preRow]; exact lifted os started H enc F)
theorem plain (f : FuncId) (fn : Func) (hf : Tryd.pinned.checked.prog.funcNamed Rows.fnExactNextReducedRow.func = some f) (hfn : Tryd.pinned.checked.prog.funcs[f]? = some fn) :
    false = Tryd.pinned.checked.prog.looks [] ∧ ∀ (j : Nat) t, fn.params[j]? = some t → Tryd.pinned.checked.prog.wantsStandIn t = false := by
  obtain rfl : f = 7 := Option.some.inj ((show Tryd.prog.funcNamed Rows.fnExactNextReducedRow.func = some 7 by kernel_rfl).symm.trans hf) |>.symm
  obtain rfl : fn = Tryd.f7 := (Option.some.inj (Tryd.func7.symm.trans hfn)).symm
  refine ⟨by kernel_rfl, fun j t ht => ?_⟩
  rw [Tryd.params7] at ht
  match j, ht with
  | 0, ht => (simp at ht; subst ht; exact (show Tryd.prog.wantsStandIn 44 = false by kernel_rfl))
  | 1, ht => (simp at ht; subst ht; exact (show Tryd.prog.wantsStandIn 9 = false by kernel_rfl))
  | n + 2, ht => simp at ht
theorem proved : Rows.FnExactNextReducedCardSaid :=
  Claim7.holds_tied_plain_at .later [] _ _ _ _ said (fun _ h => by cases h) (by kernel_rfl) (fun _ h => by cases h) fnExactNextReduced_row_tie rfl ⟨rfl, rfl⟩ (by kernel_rfl) rfl plain (by kernel_rfl)
end Go.Proofs.YtjecadpofkblnaaDoor.fnExactNextReduced

