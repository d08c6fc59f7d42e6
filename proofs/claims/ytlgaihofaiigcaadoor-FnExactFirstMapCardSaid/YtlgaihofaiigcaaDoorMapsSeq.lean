/- The iterator over the lists of images that satisfy the rules: what its value gives. -/
import Derived.Test.YtlgaihofaiigcaaDoorImplMaps
import Derived.Test.YtlgaihofaiigcaaDoorTellsC
import Derived.Shelf.Abstract
import Derived.Shelf.RegionOpen
import Derived.WalkKit
import Derived.OwnWalkIn
import Derived.TacticsInMore
import Derived.LoopNIn
import Derived.LoopIn
import Derived.Stop.RegionWithIn
import Derived.Sort.LoopGhostIn
import Derived.ControlIn
import Derived.Deep.RegionHeld3
namespace Go.Proofs.YtlgaihofaiigcaaDoor
open Go.RowKit Go.Shelf
attribute [local go_sem] Oper.semAt_some

/-- The numbers of the lists that satisfy the rules, in order. -/
def hits (N K : Nat) (xs : List Int) (l : List R) : List Nat := (List.range (N ^ K)).filter (mapB N K xs l)
def hitsTo (N K : Nat) (xs : List Int) (l : List R) (n : Nat) : List Nat := (List.range n).filter (mapB N K xs l)
theorem hitsTo_succ (N K : Nat) (xs : List Int) (l : List R) (n : Nat) : hitsTo N K xs l (n + 1) = hitsTo N K xs l n ++ (if mapB N K xs l n then [n] else []) := by
  unfold hitsTo; rw [List.range_succ, List.filter_append]; cases h : mapB N K xs l n <;> simp [h]
theorem hitsTo_pre (N K : Nat) (xs : List Int) (l : List R) (n : Nat) : ∀ d, hitsTo N K xs l n <+: hitsTo N K xs l (n + d)
  | 0 => List.prefix_refl _
  | d + 1 => (hitsTo_pre N K xs l n d).trans (by rw [← Nat.add_assoc, hitsTo_succ]; exact List.prefix_append _ _)
theorem hits_at {N K n : Nat} {xs : List Int} {l : List R} (hn : n < N ^ K) (h : mapB N K xs l n = true) : (hits N K xs l)[(hitsTo N K xs l n).length]? = some n ∧ (hitsTo N K xs l n).length < (hits N K xs l).length := by
  have h1 := hitsTo_pre N K xs l (n + 1) (N ^ K - (n + 1))
  rw [show n + 1 + (N ^ K - (n + 1)) = N ^ K by omega, hitsTo_succ, h, if_pos rfl] at h1
  obtain ⟨t, e⟩ := h1
  have e2 : hits N K xs l = hitsTo N K xs l n ++ [n] ++ t := e.symm
  rw [e2]
  refine ⟨by rw [List.append_assoc, List.getElem?_append_right (Nat.le_refl _), Nat.sub_self]; rfl, ?_⟩
  rw [List.length_append, List.length_append, List.length_singleton]; omega
/-- What it yields at the i-th time: block B holds the list. -/
def mapE (N K : Nat) (xs : List Int) (l : List R) (B i : Nat) (args : Array Value) (W : World) : Prop :=
  args = #[.slice (some ⟨B, 0, none⟩) K K] ∧ ∃ n, (hits N K xs l)[i]? = some n ∧ Nums W B (imgsAt N K n)
/-- What a round must leave. -/
def mapD (D : Nat → Prop) (B b : Nat) : Prop := D b ∨ b = B
theorem monAt_keepD {D : Nat → Prop} {w w' : World} {g N : Nat} {xs : List Int} (h : MonAt w g N xs) (hk : KeepD D w w') (hg : D g) : MonAt w' g N xs :=
  ⟨Nat.lt_of_lt_of_le h.lt hk.size, (World.cell?_of_block (w := w) (a := ⟨g, 0, none⟩) (hk.block g hg)).trans h.size, fun i k hi hj => (World.cell?_of_block (w := w) (a := ⟨g, 1 + i * 40 + k, none⟩) (hk.block g hg)).trans (h.row i k hi hj)⟩
theorem own_keepD {B n m c : Nat} {D : Nat → Prop} {w w' : World} {A : Option Addr} {xs : List Value} (h : Own B w (.slice A n c) m n xs) (hb : KeepD D w w') (hA : 0 < n → D (blockOf A)) : Own B w' (.slice A n c) m n xs := by
  obtain ⟨h1, A9, c9, hv, hc, hm, h2⟩ := h
  obtain ⟨rfl, rfl⟩ : A = A9 ∧ c = c9 := by injection hv with a _ b; exact ⟨a, b⟩
  refine ⟨h1, A, c, rfl, hc, hm, fun hn => ?_⟩
  obtain ⟨g, off, e, hg, hlt, r⟩ := h2 hn
  have hb1 : blockOf A = g := by rw [e]; rfl
  have hh := hb.block g (by rw [← hb1]; exact hA hn)
  exact ⟨g, off, e, hg, Nat.lt_of_lt_of_le hlt hb.size, fun j hj => ⟨(World.cell?_of_block (w := w) (a := ⟨g, off + j, none⟩) hh).trans (r j hj).1, (World.frozen?_of_block (w := w) (a := ⟨g, off + j, none⟩) hh).trans (r j hj).2⟩⟩
theorem keepD_turn {D : Nat → Prop} {b : Nat} {w w' : World} (h : Turn [b] w w') (hD : ∀ d, D d → d < w.heap.size) (hne : ∀ d, D d → d ≠ b) : KeepD D w w' :=
  ⟨h.size, fun d hd => h.block d (hD d hd) (by have := hne d hd; simp; omega)⟩
theorem nums_own {b B : Nat} {L : List Nat} {w w' : World} (h : Nums w b L) (ht : Turn [b] w w') (hB : B ≤ b) : OwnC B w w' :=
  ⟨[b], ht, fun d hd => by rw [List.mem_singleton] at hd; subst hd; exact ⟨hB, _, _, _, h⟩⟩
theorem yield_bool {e : Ending} {J1 J2 : Prop} (h : (e = .returned (.bool true) ∧ J1) ∨ (e = .returned (.bool false) ∧ J2)) : ∃ b, e = .returned (.bool b) ∧ ((b = true ∧ J1) ∨ (b = false ∧ J2)) := by
  rcases h with ⟨rfl, h⟩ | ⟨rfl, h⟩
  · exact ⟨true, rfl, .inl ⟨rfl, h⟩⟩
  · exact ⟨false, rfl, .inr ⟨rfl, h⟩⟩
theorem held2b_keep {W W1 w : World} {g g' o o' : Nat} {a b : Value} {B : Nat} (h : W.cell? ⟨g, o, none⟩ = some a ∧ W.cell? ⟨g', o', none⟩ = some b ∧ Below B w W) (hb : Below W.heap.size W W1) (hB : B ≤ w.heap.size) (hg : g < w.heap.size) (hg' : g' < w.heap.size) :
    W1.cell? ⟨g, o, none⟩ = some a ∧ W1.cell? ⟨g', o', none⟩ = some b ∧ Below B w W1 := by
  obtain ⟨h1, h2, h5⟩ := h
  have hs := h5.size
  exact ⟨(hb.cell (by show g < _; omega)).trans h1, (hb.cell (by show g' < _; omega)).trans h2, h5.trans (hb.mono (by omega))⟩
set_option maxRecDepth 100000 in
set_option maxHeartbeats 4000000 in
theorem maps1_tells (m : Nat) (hm : 1 ≤ m) (K N g : Nat) (Z : Option Addr) (nz cz Bz : Nat) (xs : List Int) (l : List R) (bs bg : Nat) (D : Nat → Prop) (w0 : World) (hr : rulesOk K l = true) (hT : TabOk N xs) (hD : ∀ b, D b → b < w0.heap.size)
    (h1 : Blk w0 bs 41 #[.int .i64 (K : Int), .slice Z nz cz]) (h2 : Blk w0 bg 71 #[.pointer (some ⟨g, 0, none⟩)]) (hM : MonAt w0 g N xs) (hZ : Own Bz w0 (.slice Z nz cz) 2 nz (rulesC l)) (d1 : D bs) (d2 : D bg) (d3 : D g) (d4 : 0 < nz → D (blockOf Z)) :
    SeqTellsC Fence.wide m Tryd.prog 74 #[.pointer (some ⟨bs, 0, none⟩), .pointer (some ⟨bg, 0, none⟩)] (mapE N K xs l) (mapD D) (hits N K xs l).length w0 := by
  intro lp J Jx W hW hJ hY h0
  have hK := rulesOk_letters hr
  have HB1 := Lib.hid (h1.below hW h1.lt)
  have HB2 := Lib.hid (h2.below hW h2.lt)
  have hq0 : W.cell? ⟨bs, 0, none⟩ = some (.int .i64 (K : Int)) := HB1.out.cell 0
  have hmk := fun u => run_makeInts u K (by omega)
  refine callsIn_of_wp Tryd.func74 rfl trivial ?_ rfl
  simp only [Tryd.ntmps74, List.size_toArray, List.length_cons, List.length_nil, Nat.reduceAdd, Nat.reduceSub, Array.replicate_succ, Array.replicate_zero, List.push_toArray, List.append_toArray, List.nil_append, List.cons_append]
  gi_wp2_with fail
  clear hq0 hmk
  have hsz := hW.size
  have HZ1 := Lib.hid (hZ.below hW)
  have HM1 := Lib.hid (hM.below hW)
  have hDW : ∀ b, D b → b < W.heap.size := fun b hb => by have := hD b hb; omega
  have HDW := Lib.hid hDW
  have N1 := Lib.hid (Nums.new W K)
  have bW := bel1 W (.cells (madeCells #[.int .i64 0] K) 3)
  have hJ1 := Lib.hid (hJ 0 W _ h0 (ownC_below bW))
  have hK1 : Hid (KeepD D W (W.alloc (.cells (madeCells #[.int .i64 0] K) 3))) := ⟨bW.size, fun b hb => bW.block b (hDW b hb)⟩
  have hs1 : W.heap.size < (W.alloc (.cells (madeCells #[.int .i64 0] K) 3)).heap.size := by simp
  have hT1 := hT.lo
  have h40 := hT.hi
  have HT := Lib.hid hT
  have HR := Lib.hid hr
  have HI := Lib.hid (fun n => imgsAt_lt (N := N) hT1 K n)
  have Hlen := Lib.hid (fun n => imgsAt_length N K n)
  rw [← imgsAt_zero N K] at N1
  have hpow : 0 < N ^ K := Nat.pow_pos hT1
  clear hW h1 h2 hM hZ hT hr h0 bW hDW
  generalize W.alloc (.cells (madeCells #[.int .i64 0] K) 3) = w1 at *
  gi_loopg [5] (N ^ K - 0 + 1) (fun gh v wr => ∃ n : Nat, ((v = .bool true ∧ n < N ^ K ∧ gh = N ^ K - n + 1 ∧ Hid (Nums wr W.heap.size (imgsAt N K n))) ∨ (v = .bool false ∧ n = N ^ K ∧ gh = 0)) ∧ n ≤ N ^ K ∧ Hid (J (hitsTo N K xs l n).length wr) ∧ Hid (KeepD D W wr) ∧ W.heap.size < wr.heap.size)
  case atStart => exact ⟨0, .inl ⟨rfl, hpow, rfl, N1⟩, Nat.zero_le _, hJ1, hK1, hs1⟩
  case round =>
    obtain ⟨n, hn, hnK, HJn, HK, hsr⟩ := hrel
    rcases hn with ⟨rfl, hlt, rfl, HN⟩ | ⟨rfl, rfl, rfl⟩
    · have HBs : Hid (Blk wr bs 41 #[.int .i64 (K : Int), .slice Z nz cz]) := (HK.out.block bs d1).trans HB1.out
      have HBg : Hid (Blk wr bg 71 #[.pointer (some ⟨g, 0, none⟩)]) := (HK.out.block bg d2).trans HB2.out
      have HMr := Lib.hid (monAt_keepD HM1.out HK.out d3)
      have HZr := Lib.hid (own_keepD HZ1.out HK.out d4)
      have x0 : wr.cell? ⟨bg, 0, none⟩ = some (.pointer (some ⟨g, 0, none⟩)) := HBg.out.cell 0
      have x1 : wr.cell? ⟨bs, 1, none⟩ = some (.slice Z nz cz) := HBs.out.cell 1
      have hgs := HBs.out.lt
      have hgg := HBg.out.lt
      have hnz : nz ≤ 1048576 := by have h1 := (rulesOk_letters HR.out).2.2; have := HZr.out.rlen; omega
      have Hside := Lib.hid (fun r (hr : r ∈ l) => rulesOk_side HR.out hr)
      have hIm := Hlen.out n
      rw [← hIm] at Hside
      have HOw : Hid (∀ X, Below wr.heap.size wr X → Own W.heap.size X (.slice (some ⟨W.heap.size, 0, none⟩) K K) 1 K (ints (nints (imgsAt N K n)))) := fun X hX => by
        have h2 := (HN.out.below hX).own (by rw [hIm]; unfold maxLen; omega) (Nat.le_refl W.heap.size)
        rwa [hIm] at h2
      have HMo := Lib.hid (fun X (hX : Below wr.heap.size wr X) => meaningOf_any g N (some ⟨W.heap.size, 0, none⟩) K K W.heap.size xs (imgsAt N K n) X (HMr.out.below hX) (HOw.out X hX) (by omega))
      have HZo := Lib.hid (fun X (hX : Below wr.heap.size wr X) => HZr.out.below hX)
      have hD0 : Below wr.heap.size wr wr.drew := (Below.refl _ wr).drew
      have Hob := Lib.hid (show obeyB N xs (imgsAt N K n) l = mapB N K xs l n from rfl)
      have hI4 : (imgsAt N K n).length ≤ 4 := by rw [hIm]; omega
      have HI4 := Lib.hid hI4
      clear hIm hI4
      cases hmb : mapB N K xs l n
      · rw [hmb] at Hob
        have Hh := Lib.hid (show hitsTo N K xs l (n + 1) = hitsTo N K xs l n by rw [hitsTo_succ, hmb]; simp)
        clear hmb HBs HBg
        refine wpIn_wide.2 ?_
        go_wp2_with fail
        first | go_region_with ((first
            | (go_at_call 63; refine (HMo.out _ (by assumption)).mono ?_; rintro e w5 ⟨v5, rfl, o5, hb5⟩; obtain ⟨A5, c5, rfl⟩ := o5.form; have hB5 := Below.trans (by assumption : Below wr.heap.size wr _) (hb5.mono (Below.size (by assumption))); have x5 := (hB5.cell (p := ⟨bs, 1, none⟩) hgs).trans x1)
            | (go_at_call 70; refine (keepsRules_any g N _ Bz _ c5 nz cz A5 Z xs (imgsAt N K n) l _ o5 (HZo.out _ hB5) HT.out (HI.out n) HI4.out Hside.out hnz).mono ?_; rw [Hob.out]; rintro e w9 ⟨rfl, hb9⟩))) | fail
        all_goals (have b9 := hB5.trans (hb9.mono hB5.size))
        all_goals (have HN9 := Lib.hid (HN.out.below b9))
        all_goals (have HM9 := Lib.hid (HMr.out.below b9))
        all_goals (have HK9 : Hid (KeepD D W w9) := HK.out.trans ⟨b9.size, fun b hb => b9.block b (by have := HDW.out b hb; omega)⟩)
        all_goals (have HJ9 : Hid (J (hitsTo N K xs l (n + 1)).length w9) := by show J _ _; rw [Hh.out]; exact hJ _ wr w9 HJn.out (ownC_below b9))
        all_goals (have hs9 := b9.size)
        all_goals (have q0 := (b9.cell (p := ⟨bg, 0, none⟩) hgg).trans x0)
        all_goals clear b9 hb5 hb9 o5 x0 x1 x5 hB5 HN HMr HZr HOw HMo HZo HJn HK hD0
        all_goals go_wp2_with fail
        all_goals
          refine (nextList_any g N K n W.heap.size xs _ HM9.out hT1 h40 (by omega) hlt HN9.out (by have := HDW.out g d3; omega)).mono ?_
          rintro e w10 ⟨rfl, hnx, ht10, hz10⟩
          have HJ10 := Lib.hid (hJ _ w9 w10 HJ9.out (nums_own HN9.out ht10 (Nat.le_refl _)))
          have HK10 : Hid (KeepD D W w10) := HK9.out.trans (keepD_turn ht10 (fun b hb => by have := HDW.out b hb; omega) (fun b hb => by have := HDW.out b hb; omega))
          have hs10 : W.heap.size < w10.heap.size := by omega
          by_cases hlast : n + 1 < N ^ K
          · have HN10 := Lib.hid (hnx hlast)
            have hd : decide (n + 1 < N ^ K) = true := decide_eq_true hlast
            rw [hd]
            clear hnx hd ht10 HN9 HM9 HJ9 HK9
            go_wp2_with fail
            gi_roundg (N ^ K - (n + 1) + 1)
            case measure => omega
            case rel => exact ⟨n + 1, .inl ⟨rfl, hlast, rfl, HN10⟩, by omega, HJ10, HK10, hs10⟩
          · have hd : decide (n + 1 < N ^ K) = false := decide_eq_false hlast
            rw [hd]
            clear hnx hd ht10 HN9 HM9 HJ9 HK9
            go_wp2_with fail
            gi_roundg 0
            case measure => omega
            case rel => exact ⟨n + 1, .inr ⟨rfl, by omega, rfl⟩, by omega, HJ10, HK10, hs10⟩
      · rw [hmb] at Hob
        obtain ⟨hat1, hat2⟩ := hits_at hlt hmb
        have Hh := Lib.hid (show (hitsTo N K xs l (n + 1)).length = (hitsTo N K xs l n).length + 1 by rw [hitsTo_succ, hmb]; simp)
        have HY0 := fun X (h1 : J (hitsTo N K xs l n).length X) (h2 : Nums X W.heap.size (imgsAt N K n)) => hY _ #[.slice (some ⟨W.heap.size, 0, none⟩) K K] X h1 ⟨rfl, n, hat1, h2⟩ hat2
        unfold YieldAt at HY0
        have HY := Lib.hid HY0
        have Hx := Lib.hid hat2
        have HFn : Hid (∀ n : Nat, Fence.wide.fn n) := fun _ => trivial
        clear hmb HBs HBg hat1 hat2 HY0
        gi_wp2_with fail
        gi_region_with ((first
            | (with_reducible refine And.intro ?hf ?_; (case hf => exact HFn.out _); gi_at_call 63; refine ((callsIn_wide.2 (HMo.out _ (by assumption))).mono ?_); rintro e w5 ⟨v5, rfl, o5, hb5⟩; obtain ⟨A5, c5, rfl⟩ := o5.form; have hB5 := Below.trans (by assumption : Below wr.heap.size wr _) (hb5.mono (Below.size (by assumption))); have x5 := (hB5.cell (p := ⟨bs, 1, none⟩) hgs).trans x1)
            | (with_reducible refine And.intro ?hf ?_; (case hf => exact HFn.out _); gi_at_call 70; refine ((callsIn_wide.2 (keepsRules_any g N _ Bz _ c5 nz cz A5 Z xs (imgsAt N K n) l _ o5 (HZo.out _ hB5) HT.out (HI.out n) HI4.out Hside.out hnz)).mono ?_); rw [Hob.out]; rintro e w6 ⟨rfl, hb6⟩; have b6 := hB5.trans (hb6.mono hB5.size); obtain ⟨fn, tmps, assign, body, hy, hRy⟩ := HY.out w6 (hJ _ wr w6 HJn.out (ownC_below b6)) (HN.out.below b6))
            | (with_reducible refine hRy.mono ?_; intro e w9 hq; obtain ⟨b, he, hp⟩ := yield_bool hq; subst he)))
        all_goals
          have hs6 := b6.size
          rcases hp with ⟨rfl, hj9, hk9⟩ | ⟨rfl, hjx⟩
          · have HN9 : Hid (Nums w9 W.heap.size (imgsAt N K n)) := (hk9.block _ (.inr rfl)).trans (HN.out.below b6)
            have HM9 := Lib.hid (monAt_keepD (HMr.out.below b6) hk9 (.inl d3))
            have HK9 : Hid (KeepD D W w9) := (HK.out.trans ⟨b6.size, fun b hb => b6.block b (by have := HDW.out b hb; omega)⟩).trans ⟨hk9.size, fun b hb => hk9.block b (.inl hb)⟩
            have HJ9 : Hid (J (hitsTo N K xs l (n + 1)).length w9) := by show J _ _; rw [Hh.out]; exact hj9
            have hs9 := hk9.size
            have q0 : w9.cell? ⟨bg, 0, none⟩ = some (.pointer (some ⟨g, 0, none⟩)) := (World.cell?_of_block (w := w6) (a := ⟨bg, 0, none⟩) (hk9.block bg (.inl d2))).trans ((b6.cell (p := ⟨bg, 0, none⟩) hgg).trans x0)
            clear hj9 hk9 hRy hy b6 hb5 hb6 o5 x0 x1 x5 hB5 HN HMr HZr HOw HMo HZo HJn HK hD0 HY
            gi_wp2_with fail
            refine ⟨trivial, (callsIn_wide.2 (nextList_any g N K n W.heap.size xs _ HM9.out hT1 h40 (by omega) hlt HN9.out (by have := HDW.out g d3; omega))).mono ?_⟩
            rintro e w10 ⟨rfl, hnx, ht10, hz10⟩
            have HJ10 := Lib.hid (hJ _ w9 w10 HJ9.out (nums_own HN9.out ht10 (Nat.le_refl _)))
            have HK10 : Hid (KeepD D W w10) := HK9.out.trans (keepD_turn ht10 (fun b hb => by have := HDW.out b hb; omega) (fun b hb => by have := HDW.out b hb; omega))
            have hs10 : W.heap.size < w10.heap.size := by omega
            by_cases hlast : n + 1 < N ^ K
            · have HN10 := Lib.hid (hnx hlast)
              have hd : decide (n + 1 < N ^ K) = true := decide_eq_true hlast
              rw [hd]
              clear hnx hd ht10 HN9 HM9 HJ9 HK9
              gi_wp2_with fail
              gi_roundg (N ^ K - (n + 1) + 1)
              case measure => omega
              case rel => exact ⟨n + 1, .inl ⟨rfl, hlast, rfl, HN10⟩, by omega, HJ10, HK10, hs10⟩
            · have hd : decide (n + 1 < N ^ K) = false := decide_eq_false hlast
              rw [hd]
              clear hnx hd ht10 HN9 HM9 HJ9 HK9
              gi_wp2_with fail
              gi_roundg 0
              case measure => omega
              case rel => exact ⟨n + 1, .inr ⟨rfl, by omega, rfl⟩, by omega, HJ10, HK10, hs10⟩
          · gi_wp2_with fail
            refine bodyPost_ret (results_none rfl _ _ _) rfl ?_
            exact ⟨⟨_, rfl⟩, .inr ⟨_, Hx.out, hjx⟩⟩
    · have He := Lib.hid (show hitsTo N K xs l (N ^ K) = hits N K xs l from rfl)
      gi_wp2_with fail
      go_end0
      exact ⟨⟨_, rfl⟩, .inl (by rw [← He.out]; exact HJn.out)⟩
end Go.Proofs.YtlgaihofaiigcaaDoor
