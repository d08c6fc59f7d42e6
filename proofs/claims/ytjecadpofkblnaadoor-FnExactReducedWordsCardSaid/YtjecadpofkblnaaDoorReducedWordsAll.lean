/- WordsOf ImplList SpecList MarkStrs LawReducedWords, one behind the other. -/
import Derived.Maps.AppendAt
import Derived.Test.YtjecadpofkblnaaDoorVisit
import Derived.Test.YtjecadpofkblnaaDoorCollect
import Derived.Test.YtjecadpofkblnaaDoorImplGrowth
import Derived.Test.YtjecadpofkblnaaDoorSpecCount
import Derived.Test.YtjecadpofkblnaaDoorL01In
import Derived.Test.YtjecadpofkblnaaDoorMarkRules
import Derived.Test.YtjecadpofkblnaaDoorArgs
import Derived.Test.YtjecadpofkblnaaDoorWorld
import Derived.Deep.RegionHeld3
namespace Go.Proofs.YtjecadpofkblnaaDoor
open Go.RowKit Go.Maps Go.Shelf
attribute [local go_sem] Oper.semAt_some

/-- What the value of words needs of a world. -/
structure WordsAt (l : List R) (k bx n : Nat) (s : ByteArray) (D : Nat → Prop) (W : World) : Prop where
  at_ : ∃ gX gL mA gR Q, Blk W bx 109 #[.pointer (some ⟨gX, 0, none⟩)] ∧ ListAt l k gX gL mA gR n s Q D W ∧ Ends l k Q
  dB : D bx
theorem WordsAt.keep {l : List R} {k bx n : Nat} {s : ByteArray} {D : Nat → Prop} {W W' : World} (h : WordsAt l k bx n s D W) (hk : KeepE D W W') : WordsAt l k bx n s D W' := by
  obtain ⟨⟨gX, gL, mA, gR, Q, h1, h2, h3⟩, d⟩ := h
  exact ⟨⟨gX, gL, mA, gR, Q, hk.blk h1 d, h2.keep hk, h3⟩, d⟩
theorem ListAt.weak {l : List R} {k gX gL mA gR n : Nat} {s : ByteArray} {Q : List E} {D D' : Nat → Prop} {W : World} (h : ListAt l k gX gL mA gR n s Q D W) (hD : ∀ b, b < W.heap.size → D b → D' b) : ListAt l k gX gL mA gR n s Q D' W := by
  obtain ⟨h1, ⟨v, h2⟩, ⟨c, h3⟩, ⟨c', h4⟩, h5, d1, d2, d3, d4, d5⟩ := h
  exact ⟨h1, ⟨v, h2⟩, ⟨c, h3⟩, ⟨c', h4⟩, h5, hD _ h1.lt d1, hD _ h2.lt d2, hD _ (h3.lt moveK) d3, hD _ (h4.lt endK) d4, hD _ (World.block_lt_of_cell? W _ (h5 0 (by omega))) d5⟩
theorem WordsAt.weak {l : List R} {k bx n : Nat} {s : ByteArray} {D D' : Nat → Prop} {W : World} (h : WordsAt l k bx n s D W) (hD : ∀ b, b < W.heap.size → D b → D' b) : WordsAt l k bx n s D' W := by
  obtain ⟨⟨gX, gL, mA, gR, Q, h1, h2, h3⟩, d⟩ := h
  exact ⟨⟨gX, gL, mA, gR, Q, h1, h2.weak hD, h3⟩, hD _ h1.lt d⟩
set_option maxRecDepth 100000 in
set_option maxHeartbeats 1600000 in
theorem words_any (k : Nat) (l : List R) (b0 gL mA c0 n : Nat) (s : ByteArray) (Q : List E) (w : World) (hl : ∀ r ∈ l, r.1.size ≤ 8) (h12 : l.length ≤ 12) (hk : k ≤ 4) (hQ : Ends l k Q) (hlet : Let w) (hL : LangS w b0 gL mA k c0 Q (aftQ l k Q)) (hn : n ≤ 1000) :
    Calls Tryd.prog 37 #[.pointer (some ⟨gL, 0, none⟩), .int .i64 n, .string s] w fun y w' => ∃ bx, y = .returned (.func (.func 67) #[] #[.pointer (some ⟨bx, 0, none⟩)]) ∧ WordsAt l k bx n s (· < w'.heap.size) w' ∧ Below w.heap.size w w' := by
  have HL := Lib.hid hL
  have HQ := Lib.hid hQ
  have HT := Lib.hid (fun (w' : World) (hb : Below w.heap.size w w') => hlet.keep hb (Nat.le_refl _))
  have HR := Lib.hid (room_any k l b0 gL mA c0 n Q w hl h12 hk hQ hlet hL hn)
  clear hL hQ hlet hl h12
  go_enter Tryd.func37, Tryd.ntmps37
  go_wp2_with fail
  refine HR.out.mono ?_
  rintro y w1 ⟨gR, rfl, hgR, hM, hb1⟩
  have HM := Lib.hid hM
  have HB1 := Lib.hid hb1
  clear hM hb1
  go_wp2_with fail
  go_ret
  have b2 := bel2 w1 (.cells #[.pointer (some ⟨gL, 0, none⟩), .int .i64 n, .string s, .map (some gR)] 113) (.cells #[.pointer (some ⟨w1.heap.size, 0, none⟩)] 109)
  have b3 := HB1.out.trans (b2.mono HB1.out.size)
  have X1 := (Blk.new1 w1 #[.pointer (some ⟨gL, 0, none⟩), .int .i64 n, .string s, .map (some gR)] 113).alloc (.cells #[.pointer (some ⟨w1.heap.size, 0, none⟩)] 109)
  have X2 := Blk.new2 w1 (.cells #[.pointer (some ⟨gL, 0, none⟩), .int .i64 n, .string s, .map (some gR)] 113) #[.pointer (some ⟨w1.heap.size, 0, none⟩)] 109
  have hM2 := HM.out.below endK b2 (HM.out.lt endK)
  have hT2 := HT.out _ b3
  obtain ⟨⟨A2, cap, hblk, -⟩, hmap, -, -⟩ := HL.out.below b3
  generalize (w1.alloc (.cells #[.pointer (some ⟨gL, 0, none⟩), .int .i64 n, .string s, .map (some gR)] 113)).alloc (.cells #[.pointer (some ⟨w1.heap.size, 0, none⟩)] 109) = w2 at *
  exact ⟨w1.heap.size + 1, rfl, ⟨⟨w1.heap.size, gL, mA, gR, Q, X2, ⟨X1, ⟨_, hblk⟩, ⟨_, hmap⟩, ⟨_, hM2⟩, fun j hj => hT2.cell j hj, X1.lt, hblk.lt, hmap.lt moveK, hM2.lt endK, World.block_lt_of_cell? w2 _ (hT2.cell 0 (by omega))⟩, HQ.out⟩, X2.lt⟩, b3⟩
set_option maxRecDepth 100000 in
set_option maxHeartbeats 800000 in
theorem words_stops (m : Nat) (hm : 1 ≤ m) (l : List R) (k bx n : Nat) (s : ByteArray) (D : Nat → Prop) (w : World) (hk4 : k ≤ 4) (hn : n ≤ 1000) (hl : ∀ r ∈ l, r.1.size ≤ 8) (h12 : l.length ≤ 12) (h : WordsAt l k bx n s D w) (hD : ∀ b, D b → b < w.heap.size) :
    SeqStopsK Fence.wide m Tryd.prog 67 #[.pointer (some ⟨bx, 0, none⟩)] (fun x : ByteArray => #[.string x]) (KeepE D) (fun ys => ys = listTo l k (lowS s) n ⟨#[]⟩ (0, 0)) (fun pre => pre <+: listTo l k (lowS s) n ⟨#[]⟩ (0, 0)) (listTo l k (lowS s) n ⟨#[]⟩ (0, 0)).length w := by
  intro lp J Jx W hW hJ _ hY h0
  have h' := h.keep (keepE_of hW hD)
  obtain ⟨⟨gX, gL, mA, gR, Q, hb, hA, hQ⟩, -⟩ := h'
  have x0 := hb.cell 0
  have hz := hQ.zero
  have HV := Lib.hid (visit_in m hm l k gX gL mA gR n s Q D lp _ J Jx hk4 hn hl h12 hQ hY W hJ (fun b hd => by have := hD b hd; have := hW.size; omega) hA n ⟨#[]⟩ (0, 0) [] W (by show 0 + n = n; omega) hz (List.prefix_refl _) (KeepE.refl _ _) h0)
  clear hY hb hA hQ hz h
  refine callsIn_of_wp Tryd.func67 rfl trivial ?_ rfl
  simp only [Tryd.ntmps67, List.size_toArray, List.length_cons, List.length_nil, Nat.reduceAdd, Nat.reduceSub, Array.replicate_succ, Array.replicate_zero, List.push_toArray, List.append_toArray, List.nil_append, List.cons_append]
  gi_wp2_with fail
  refine ⟨trivial, (callsIn_wide.2 (callsIn_wide.1 HV.out)).mono ?_⟩
  rintro y w1 (⟨rfl, hJ1, -⟩ | ⟨rfl, p, hp, hJx⟩)
  · have HJ := Lib.hid hJ1
    clear hJ1
    gi_wp2_with fail
    go_end0
    exact ⟨⟨_, rfl⟩, .inl ⟨_, rfl, HJ.out⟩⟩
  · have HJ := Lib.hid hJx
    have Hp := Lib.hid hp
    clear hJx hp
    gi_wp2_with fail
    go_end0
    exact ⟨⟨_, rfl⟩, .inr ⟨p, Hp.out, HJ.out⟩⟩
/-- A variable's box B holds a slice whose row lies beyond; behind an append and the store back: variables that hold ends lie as they lay. -/
theorem boxE_appended {W w1 : World} {base B : Nat} {t e : TypeId} {size : Nat} {v v' : Value} {k : Nat} {xs : List Value} {tmp : Obj} {D : Nat → Prop} (hv : Blk W B t #[v]) (ht : t ≠ 97) (he : e ≠ 97) (hB : B < base) (hb : base ≤ W.heap.size)
    (hrow : W.ownsRow base e size v k xs) (hgrow : (W.alloc tmp).grownBy w1 v.ownBlock) (hD : ∀ k, D k → k < base ∧ k ≠ B) : KeepE D W (w1.setCell ⟨B, 0, none⟩ v') := by
  have hsz : W.heap.size ≤ w1.heap.size := by have := hgrow.size; simp at this; omega
  refine ⟨by simp [World.size_setCell]; omega, fun b hbb => ?_⟩
  have key : b < W.heap.size ∧ b ≠ B ∧ some b ≠ v.ownBlock := by
    rcases hbb with hd | ⟨cs, hc⟩
    · obtain ⟨h1, h2⟩ := hD b hd
      refine ⟨by omega, h2, fun e1 => ?_⟩
      have := (hrow.lt b e1.symm).1
      omega
    · refine ⟨(Array.getElem?_eq_some_iff.1 hc).1, fun e1 => ?_, fun e1 => ?_⟩
      · subst e1
        unfold Blk at hv
        rw [hc] at hv; injection hv with hv; injection hv with _ h2; exact ht h2.symm
      · rcases hrow.2 with ⟨rfl, _⟩ | ⟨g, cap, cur, rfl, _, hgb, _⟩
        · simp [Value.ownBlock] at e1
        · have e2 : b = g := by simpa [Value.ownBlock] using e1
          subst e2
          rw [hc] at hgb; injection hgb with hgb; injection hgb with _ h2; exact he h2.symm
  obtain ⟨k1, k2, k3⟩ := key
  exact (Below.heap_setCell w1 ⟨B, 0, none⟩ v' b k2).trans ((hgrow.block b (by simp; omega) k3).trans (Below.heap_alloc W tmp b k1))
set_option maxRecDepth 100000 in
set_option maxHeartbeats 2000000 in
theorem appendWords_any (l : List R) (k bx n : Nat) (s : ByteArray) (L : List ByteArray) (w : World) (hk4 : k ≤ 4) (hn : n ≤ 1000) (hl : ∀ r ∈ l, r.1.size ≤ 8) (h12 : l.length ≤ 12) (hL : listTo l k (lowS s) n ⟨#[]⟩ (0, 0) = L) (hS : WordsAt l k bx n s (· < w.heap.size) w) (hN : L.length ≤ 8589934592) :
    Calls Tryd.prog 42 #[.slice none 0 0, .func (.func 67) #[] #[.pointer (some ⟨bx, 0, none⟩)]] w fun e w' =>
      ∃ v, e = .returned v ∧ Own w.heap.size w' v 1 L.length (strs L) ∧ Below w.heap.size w w' := by
  obtain ⟨i0, hi, hz0, hz1, hz2⟩ := info_parts infoStr
  refine (callsIn_wide (n := 6)).1 ?_
  refine callsIn_of_wp_marks Tryd.func42 rfl trivial ?_ rfl
  simp only [Tryd.ntmps42, List.size_toArray, List.length_cons, List.length_nil, Nat.reduceAdd, Nat.reduceSub, Array.replicate_succ, Array.replicate_zero, List.push_toArray, List.append_toArray, List.nil_append, List.cons_append]
  gi_wp2_with fail
  have hsz : (w.alloc (.cells #[.slice none 0 0] 28)).heap.size = w.heap.size + 1 := by simp
  have R1 : Blk (w.alloc (.cells #[.slice none 0 0] 28)) w.heap.size 28 #[.slice none 0 0] := Blk.new1 _ _ _
  have b1 := bel1 w (.cells #[.slice none 0 0] 28)
  have hS1 := hS.keep (keepE_of b1 (fun _ h => h))
  generalize w.alloc (.cells #[.slice none 0 0] 28) = w1 at *
  have hst := words_stops 5 (by omega) l k bx n s (· < w.heap.size) w1 hk4 hn hl h12 hS1 (fun _ h => by show _ < w1.heap.size; omega)
  rw [hL] at hst
  refine wpIn_rangeFunc_ownH rfl (by omega) (gf := 67) (lb := #[.pointer (some ⟨bx, 0, none⟩)]) rfl trivial (enters_of Tryd.func67 (by kernel_rfl) rfl)
    hst keepE_t (keepE_b (fun _ h => by show _ < w1.heap.size; omega)) (Below.refl _ _) (fun _ => rfl)
    (fun pre W => (w.heap.size + 1 ≤ W.heap.size ∧ ∃ v, Blk W w.heap.size 28 #[v] ∧ W.ownsRow (w.heap.size + 1) 9 1 v pre.length (strs pre)) ∧ Below w.heap.size w W)
    (fun _ _ _ => False)
    (OwnFrom.and (fun _ _ _ _ h hg hr => ⟨Nat.le_trans h.1 hg.size, by obtain ⟨v, h1, h2⟩ := h.2; exact ⟨v, blk_kept h1 hg (fun r e => (hr r e).2), row_kept h2 hg (fun r e => (hr r e).2)⟩⟩) (ownFrom_below (Nat.le_refl _) (by omega)))
    (fun _ _ _ _ _ hs _ _ => hs)
    ⟨⟨by omega, _, R1, World.ownsRow_nil _ _ _ _⟩, b1⟩
    (fun x a' _ => a' = { tmps := #[.slice none 0 0, .func (.func 67) #[] #[.pointer (some ⟨bx, 0, none⟩)], .pointer (some ⟨w.heap.size, 0, none⟩), undef, .slice none 0 0, .string x, .func (.func 67) #[] #[.pointer (some ⟨bx, 0, none⟩)], .string x, undef, undef, undef, undef, undef], defers := [] })
    (fun x a' _ _ _ _ h _ _ => h)
    ?assign ?body ?done ?stop
  case assign =>
    rintro lp pre x W K ⟨⟨hws, v, h2, h3⟩, h4⟩ hK
    gi_wp2_with fail
    exact hK _ _ (KeepsFrom.refl _ _) (KeepE.refl _ _) ⟨⟨hws, v, h2, h3⟩, h4⟩ rfl
  case body =>
    rintro lp pre x a' W hl hr ⟨⟨hws, v, h2, h3⟩, h4⟩ rfl hlt
    have z0 := h2.cell 0
    gi_wp2_with (gi_at_builtin; refine wpListIn_append_own _ rfl _ _ 28 rfl (w.heap.size + 1) 9 i0 (.string ⟨#[]⟩) 1 16 Tryd.underlying28 hi hz0 hz1 hz2 rfl (by decide) _ _ _ rfl (h3.alloc _) ⟨W.heap.size, 0, none⟩ 1 1 [.string x] rfl rfl ?c1 ?c2 ?c3 ?c4 ?c5 ?_)
    case c1 =>
      intro j u hj
      match j, hj with
      | 0, hj => simp at hj; subst hj; simp [Addr.add]
    case c2 => intro u hu; simp at hu; subst hu; rfl
    case c3 => unfold maxLen; omega
    case c4 => omega
    case c5 => simp; omega
    intro v' w6 hown' hgrow _
    have hown2 : w6.ownsRow (w.heap.size + 1) 9 1 v' (pre.length + 1) (strs (pre ++ [x])) := by
      simpa [strs] using hown'
    obtain ⟨r1, r2, r3, r4, r5, r6⟩ := box_appended (D := (· < w.heap.size)) h2 (by omega) hws h3 hown2 hgrow (fun k (hk : k < _) => ⟨by omega, by omega⟩)
    have r7 := boxE_appended (v' := v') (D := (· < w.heap.size)) h2 (by decide) (by decide) (by omega) hws h3 hgrow (fun k (hk : k < _) => ⟨by omega, by omega⟩)
    obtain ⟨g4, o4, c4, hv4⟩ := (Own.of_row hown2).formR (by simp)
    subst hv4
    have y0 := r1.cell 0
    have yf := r1.frozen 0
    gi_wp2_with fail
    exact ⟨r4.from _, r7, ⟨by have := r6.size; omega, _, r2, by rw [List.length_append]; exact r3⟩, h4.trans r6⟩
  case done =>
    rintro D ys W hD rfl ⟨⟨hws, v, h2, h3⟩, h4⟩ hK
    have z0 := h2.cell 0
    gi_wp2_with fail
    refine ⟨by simp, .inl ⟨_, _, rfl, run_takeDeferred hK, ?_⟩⟩
    have hg := grownBy_putObj' W D (.deferred none)
    refine ⟨v, ?_, v, rfl, ?_, h4.trans (belowK_b (w := w) (Nat.le_refl _) _ D _ _ (by omega) hK rfl rfl)⟩
    · simp [results, Tryd.f42, go_sem]
    · have h5 := row_kept h3 hg (fun r e => by cases e; exact ⟨_, hK, rfl⟩)
      exact (Own.of_row h5).mono (by omega)
  case stop =>
    rintro D c pre W hD _ h _
    exact h.elim
set_option maxHeartbeats 800000 in
theorem collectWords_any (l : List R) (k bx n : Nat) (s : ByteArray) (L : List ByteArray) (w : World) (hk4 : k ≤ 4) (hn : n ≤ 1000) (hl : ∀ r ∈ l, r.1.size ≤ 8) (h12 : l.length ≤ 12) (hL : listTo l k (lowS s) n ⟨#[]⟩ (0, 0) = L) (hS : WordsAt l k bx n s (· < w.heap.size) w) (hN : L.length ≤ 8589934592) :
    Calls Tryd.prog 36 #[.func (.func 67) #[] #[.pointer (some ⟨bx, 0, none⟩)]] w fun e w' =>
      ∃ v, e = .returned v ∧ Own w.heap.size w' v 1 L.length (strs L) ∧ Below w.heap.size w w' := by
  have HS := Lib.hid (appendWords_any l k bx n s L w hk4 hn hl h12 hL hS hN)
  clear hS hL
  go_enter Tryd.func36, Tryd.ntmps36
  go_wp2_with fail
  refine HS.out.mono ?_
  rintro e w1 ⟨v, rfl, o1, b1⟩
  go_wp2_with fail
  go_ret
  exact ⟨v, rfl, o1, b1⟩
end Go.Proofs.YtjecadpofkblnaaDoor

namespace Go.Proofs.YtjecadpofkblnaaDoor
open Go.RowKit Go.Maps

theorem ret_vb {v : Value} {a b : Bool} (h : a = b) : Ending.returned (.tuple #[v, .bool a]) = .returned (.tuple #[v, .bool b]) := by rw [h]
/-- May the reduced words of x letters be listed? -/
def redOk (k : Int) (l : List R) (x : Int) : Bool := canC k l x && decide (countN l k.toNat x.toNat ≤ 256)
def redL (k : Int) (l : List R) (x : Int) : List ByteArray := if redOk k l x then lvl l k.toNat x.toNat else []
theorem redOk_no {k : Int} {l : List R} {x : Int} (h : canC k l x = false) : redOk k l x = false := by unfold redOk; rw [h, Bool.false_and]
theorem redOk_yes {k x : Nat} {l : List R} (h : canC k l x = true) : redOk k l x = decide (countN l k x ≤ 256) := by unfold redOk; rw [h, Bool.true_and]; rfl
theorem redL_no {k : Int} {l : List R} {x : Int} (h : redOk k l x = false) : redL k l x = [] := by unfold redL; rw [h]; rfl
theorem redL_yes {k x : Nat} {l : List R} (h : redOk k l x = true) : redL k l x = lvl l k x := by unfold redL; rw [if_pos h]; rfl
theorem redL_len (k : Int) (l : List R) (x : Int) : (redL k l x).length ≤ 256 := by
  unfold redL
  split
  · rename_i h
    unfold redOk at h
    rw [Bool.and_eq_true, decide_eq_true_eq] at h
    rw [lvl_len]; exact h.2
  · simp
theorem lowS_empty (b : ByteArray) : lowS ⟨#[]⟩ b = false := by
  unfold lowS
  have h : ((⟨#[]⟩ : ByteArray).extract 0 (min (⟨#[]⟩ : ByteArray).size b.size)).toList = [] := by
    rw [toList_data, show min (⟨#[]⟩ : ByteArray).size b.size = 0 from Nat.zero_min _, extract_beg]; rfl
  rw [h]
  cases b.toList <;> rfl
theorem listTo_empty (l : List R) (k n : Nat) : listTo l k (lowS ⟨#[]⟩) n ⟨#[]⟩ (0, 0) = lvl l k n := by
  rw [show lowS ⟨#[]⟩ = fun _ => false from funext lowS_empty]; exact listTo_lvl l k n
set_option maxRecDepth 100000 in
set_option maxHeartbeats 1600000 in
theorem implReducedWords (k : Int) (A : Option Addr) (n c B : Nat) (l : List R) (x : Int) (w : World) (h : Own B w (.slice A n c) 2 n (rulesC l)) (hsm : smallR l) (hlet : Let w) :
    Calls Tryd.prog 10 #[.agg #[.int .i64 k, .slice A n c], .int .i64 x] w fun e w' => ∃ v, e = .returned (.tuple #[v, .bool (redOk k l x)]) ∧ Own w.heap.size w' v 1 (redL k l x).length (strs (redL k l x)) ∧ Below w.heap.size w w' := by
  have HO := Lib.hid h
  have HL := Lib.hid hlet
  clear h hlet
  go_enter Tryd.func10, Tryd.ntmps10
  go_wp2_with fail
  refine (canCount_any k A n c B l x _ (HO.out.below (bel1 w _)) hsm (HL.out.keep (bel1 w _) (Nat.le_refl _))).mono ?_
  rintro e w1 ⟨rfl, hb1⟩
  have b1 := (bel1 w _).trans (hb1.mono (by simp))
  have HS1 := Lib.hid ((Blk.new1 w #[.int .i64 k, .slice A n c] 25).below hb1 (by simp))
  obtain ⟨q0, q1, -, -, ql⟩ := HS1.out.two
  clear hb1
  cases h1 : canC k l x
  · have HF := Lib.hid (redOk_no h1)
    have HG := Lib.hid (redL_no (redOk_no h1))
    clear h1
    go_wp2_with fail
    go_ret2
    exact ⟨_, ret_vb HF.out.symm, by rw [HG.out]; exact Own.none_, b1⟩
  · obtain ⟨k, x, rfl, rfl, hk1, hk4, hx, h12, hl⟩ := canC_parts h1
    have HC := Lib.hid h1
    have Hl := Lib.hid (fun r (hr : r ∈ l) => (hl r hr).1)
    have H12 := Lib.hid h12
    clear h1 hl h12
    go_wp2_with fail
    refine (languageOf_any k A n c B l w1 (HO.out.below b1) Hl.out H12.out hk4 (HL.out.keep b1 (Nat.le_refl _))).mono ?_
    rintro e w2 ⟨gL, mA, Q, rfl, hLS, hQ, hb2⟩
    have b2 := b1.trans (hb2.mono b1.size)
    have HLS := Lib.hid hLS
    have HQ := Lib.hid hQ
    clear hb2 hLS hQ q0 q1
    go_wp2_with fail
    refine (growth_any k l w1.heap.size gL mA 1000 x Q w2 Hl.out H12.out hk4 HQ.out (HL.out.keep b2 (Nat.le_refl _)) HLS.out (by omega)).mono ?_
    rintro e w3 ⟨v3, rfl, o3, hb3⟩
    have b3 := b2.trans (hb3.mono b2.size)
    have HL3 := Lib.hid (HLS.out.below hb3)
    obtain ⟨A3, c3, rfl⟩ := o3.form
    obtain ⟨g, off, hA3, -, hgl, hcell⟩ := o3.int (by omega)
    subst hA3
    obtain ⟨y, hy, x0, -⟩ := hcell x (by omega)
    rw [growL_get l k _ x (by omega)] at hy
    injection hy with hy
    subst hy
    have hcn : countN l k x ≤ 4294967296 := by rw [← lvl_len]; exact lvl_16 l k x hk4 hx
    rw [wr_small hcn] at x0
    have HE := Lib.hid (redOk_yes HC.out)
    have Hcn := Lib.hid hcn
    clear hcell o3 hb3 hcn
    by_cases hc : countN l k x ≤ 256
    · have HG := Lib.hid (redL_yes (show redOk (k : Int) l (x : Int) = true by rw [HE.out]; exact decide_eq_true hc))
      have HE2 := Lib.hid (show redOk (k : Int) l (x : Int) = true by rw [HE.out]; exact decide_eq_true hc)
      generalize countN l k x = CN at *
      go_wp2_with fail
      refine (words_any k l w1.heap.size gL mA 1000 x ⟨#[]⟩ Q w3 Hl.out H12.out hk4 HQ.out (HL.out.keep b3 (Nat.le_refl _)) HL3.out (by omega)).mono ?_
      rintro e w4 ⟨bx, rfl, hWA, hb4⟩
      have b4 := b3.trans (hb4.mono b3.size)
      have HWA := Lib.hid hWA
      clear hb4 hWA x0
      go_wp2_with fail
      refine (collectWords_any l k bx x ⟨#[]⟩ _ w4 hk4 (by omega) Hl.out H12.out (listTo_empty l k x) HWA.out (by have := lvl_16 l k x hk4 hx; omega)).mono ?_
      rintro e w5 ⟨v5, rfl, o5, hb5⟩
      have b5 := b4.trans (hb5.mono b4.size)
      have O5 := Lib.hid (o5.mono b4.size)
      obtain ⟨A5, c5, rfl⟩ := o5.form
      clear o5 hb5
      go_wp2_with fail
      go_ret2
      exact ⟨_, ret_vb HE2.out.symm, by rw [HG.out]; exact O5.out, b5⟩
    · have HE2 := Lib.hid (show redOk (k : Int) l (x : Int) = false by rw [HE.out]; exact decide_eq_false hc)
      have HG := Lib.hid (redL_no HE2.out)
      generalize countN l k x = CN at *
      go_wp2_with fail
      go_ret2
      exact ⟨_, ret_vb HE2.out.symm, by rw [HG.out]; exact Own.none_, b3⟩
end Go.Proofs.YtjecadpofkblnaaDoor

namespace Go.Proofs.YtjecadpofkblnaaDoor
open Go.RowKit

theorem row_lit (w : World) (e : TypeId) (v : Value) : (w.alloc (.cells #[v] e)).ownsRow w.heap.size e 1 (.slice (some ⟨w.heap.size, 0, none⟩) 1 1) 1 [v] :=
  ⟨rfl, Or.inr ⟨w.heap.size, 1, #[v], rfl, Nat.le_refl _, heap_alloc_new w _, Nat.le_refl _, by unfold maxLen; omega, rfl, rfl⟩⟩
theorem row_none (w : World) (e : TypeId) : (w.alloc (.cells #[] e)).ownsRow w.heap.size e 1 (.slice (some ⟨w.heap.size, 0, none⟩) 0 0) 0 [] :=
  ⟨rfl, Or.inr ⟨w.heap.size, 0, #[], rfl, Nat.le_refl _, heap_alloc_new w _, Nat.le_refl _, by unfold maxLen; omega, rfl, rfl⟩⟩
theorem countR_red {k x : Nat} {l : List R} (h : canC k l x = true) (hk : k ≤ 4) (hx : x ≤ 16) : countR k l x = (countN l k x : Nat) := by
  rw [countR_yes h, wr_small (by rw [← lvl_len]; exact lvl_16 l k x hk hx)]
set_option maxRecDepth 100000 in
set_option maxHeartbeats 2000000 in
theorem specReducedWords (k : Int) (A : Option Addr) (n c B : Nat) (l : List R) (x : Int) (w : World) (h : Own B w (.slice A n c) 2 n (rulesC l)) (hsm : smallR l) :
    Calls Tryd.prog 21 #[.agg #[.int .i64 k, .slice A n c], .int .i64 x] w fun e w' => ∃ v, e = .returned (.tuple #[v, .bool (redOk k l x)]) ∧ Own w.heap.size w' v 1 (redL k l x).length (strs (redL k l x)) ∧ Below w.heap.size w w' := by
  obtain ⟨i0, hi, hz0, hz1, hz2⟩ := info_parts infoStr
  have HO := Lib.hid h
  clear h
  go_enter Tryd.func21, Tryd.ntmps21
  go_wp2_with fail
  refine (specCountReduced k A n c B l x _ (HO.out.below (bel1 w _)) hsm).mono ?_
  rintro e w1 ⟨rfl, hb1⟩
  have b1 := (bel1 w _).trans (hb1.mono (by simp))
  have HS1 := Lib.hid ((Blk.new1 w #[.int .i64 k, .slice A n c] 25).below hb1 (by simp))
  obtain ⟨q0, q1, -, -, ql⟩ := HS1.out.two
  clear hb1
  cases h1 : canC k l x
  · have HF := Lib.hid (redOk_no h1)
    have HG := Lib.hid (redL_no (redOk_no h1))
    rw [countR_no h1]
    clear h1
    go_wp2_with fail
    refine (l01In_no (-1) 0 256 _ (by omega)).mono ?_
    rintro e w2 ⟨rfl, rfl⟩
    go_wp2_with fail
    go_ret2
    exact ⟨_, ret_vb HF.out.symm, by rw [HG.out]; exact Own.none_, b1⟩
  · obtain ⟨k, x, rfl, rfl, hk1, hk4, hx, h12, hl⟩ := canC_parts h1
    have HC := Lib.hid h1
    have Hl := Lib.hid (fun r (hr : r ∈ l) => (hl r hr).1)
    rw [countR_red h1 hk4 hx]
    have HE := Lib.hid (redOk_yes HC.out)
    clear h1 hl h12
    by_cases hc : countN l k x ≤ 256
    · have HG := Lib.hid (redL_yes (show redOk (k : Int) l (x : Int) = true by rw [HE.out]; exact decide_eq_true hc))
      have HE2 := Lib.hid (show redOk (k : Int) l (x : Int) = true by rw [HE.out]; exact decide_eq_true hc)
      go_wp2_with fail
      refine (l01In_yes _ 0 256 _ (by omega) (by omega)).mono ?_
      rintro e w2 ⟨rfl, rfl⟩
      go_wp2_with fail
      clear q0 q1 hc
      have hw1 : w.heap.size + 1 ≤ w1.heap.size := by omega
      have HR0 : Hid ((w1.alloc (.cells #[.string ⟨#[]⟩] 9)).ownsRow (w.heap.size + 1) 9 1 (.slice (some ⟨w1.heap.size, 0, none⟩) 1 1) (lvl l k 0).length (strs (lvl l k 0))) := row_mono (row_lit w1 9 (.string ⟨#[]⟩)) hw1
      have b2 := b1.alloc b1.size (.cells #[.string ⟨#[]⟩] 9)
      have HB2 := Lib.hid (HS1.out.alloc (.cells #[.string ⟨#[]⟩] 9))
      generalize w1.alloc (.cells #[.string ⟨#[]⟩] 9) = w2 at *
      go_loopw [7, 8] (fun v i' wr => ∃ i : Nat, i' = .int .i64 i ∧ i ≤ x ∧ Hid (wr.ownsRow (w.heap.size + 1) 9 1 v (lvl l k i).length (strs (lvl l k i))) ∧ Hid (Blk wr w.heap.size 25 #[.int .i64 k, .slice A n c]) ∧ Below w.heap.size w wr) (fun _ i' _ => x - (intOf i').toNat)
      case atStart => exact ⟨0, rfl, Nat.zero_le _, HR0, HB2, b2⟩
      case round =>
        clear HR0 HB2 b2
        obtain ⟨i, rfl, hix, HR, HB, hb⟩ := hrel
        obtain ⟨wo, rfl⟩ : ∃ y : World, y = wr := ⟨_, rfl⟩
        by_cases hlt : i < x
        · have hbs := hb.size
          have hsl := HB.out.lt
          obtain ⟨A9, c9, hv9⟩ := (Own.of_row HR.out).form
          subst hv9
          have hWl := lvl_16 l k i hk4 (by omega)
          have HNX := Lib.hid (show lvl l k (i + 1) = kids l k (lvl l k i) from rfl)
          have HSZ := Lib.hid (fun v (hv : v ∈ lvl l k i) => lvl_size i v hv)
          generalize lvl l k i = Ws at *
          go_wp2_with fail
          have HN0 : Hid ((wo.alloc (.cells #[] 9)).ownsRow wo.heap.size 9 1 (.slice (some ⟨wo.heap.size, 0, none⟩) 0 0) (kids l k (Ws.take 0)).length (strs (kids l k (Ws.take 0)))) := row_none wo 9
          have HBe0 := Lib.hid (bel1 wo (.cells #[] 9))
          generalize wo.alloc (.cells #[] 9) = wa at *
          generalize hnb : wo.heap.size = nb at *
          have Hnb := Lib.hid hnb
          clear hnb
          have HRW := Lib.hid (fun (W : World) (hW : Below nb wo W) => (ownsRow_below HR.out (by rw [Hnb.out]; exact hW) : W.ownsRow (w.heap.size + 1) 9 1 (.slice A9 Ws.length c9) Ws.length (strs Ws)))
          have HBW := Lib.hid (fun (W : World) (hW : Below nb wo W) => HB.out.below hW (by have := Hnb.out; omega))
          have HbW := Lib.hid (fun (W : World) (hW : Below nb wo W) => hb.trans (hW.mono (by have := Hnb.out; omega)))
          have hnbs : w.heap.size + 1 ≤ nb := by have := Hnb.out; omega
          clear HR HB
          go_loopw [9, 29] (fun v9 i' wx => ∃ a : Nat, i' = .int .i64 a ∧ a ≤ Ws.length ∧ Hid (wx.ownsRow nb 9 1 v9 (kids l k (Ws.take a)).length (strs (kids l k (Ws.take a)))) ∧ Hid (Below nb wo wx) ∧ nb ≤ wx.heap.size) (fun _ i' _ => Ws.length - (intOf i').toNat)
          case atStart => exact ⟨0, rfl, Nat.zero_le _, HN0, HBe0, by have h1 := HBe0.out.size; have := Hnb.out; omega⟩
          case round =>
            clear HN0 HBe0
            obtain ⟨a, rfl, ha, HN, HBe, hnx⟩ := hrel
            obtain ⟨wx, rfl⟩ : ∃ y : World, y = wr := ⟨_, rfl⟩
            by_cases hla : a < Ws.length
            · obtain ⟨gw, ow, hAw, -, hgw, hcw⟩ := (Own.of_row (HRW.out _ HBe.out)).str (by omega)
              subst hAw
              obtain ⟨wd, hwd, x0, -⟩ := hcw a hla
              have Hwd := Lib.hid hwd
              have hws : wd.size ≤ 16 := by have := HSZ.out wd (List.mem_of_getElem? hwd); omega
              have Htk := Lib.hid (kids_take (l := l) (k := k) hwd)
              have hkl : (kids l k (Ws.take a)).length ≤ 17179869184 := by
                have h1 := kids_len l k (Ws.take a)
                have h2 : (Ws.take a).length * k ≤ 4294967296 * 4 := Nat.mul_le_mul (by rw [List.length_take]; omega) hk4
                omega
              clear hcw hwd
              go_wp2_with fail
              clear x0
              generalize hKK : kids l k (Ws.take a) = KK at *
              have HKK := Lib.hid hKK
              clear hKK
              have HN2 : Hid (wx.ownsRow nb 9 1 u9 (KK ++ kidTo l wd 0).length (strs (KK ++ kidTo l wd 0))) := by
                show World.ownsRow _ _ _ _ _ _ _
                rw [show kidTo l wd 0 = [] from rfl, List.append_nil]; exact HN.out
              go_loopw [9, 12] (fun v9 i' wy => ∃ j : Nat, i' = .int .i64 j ∧ j ≤ k ∧ Hid (wy.ownsRow nb 9 1 v9 (KK ++ kidTo l wd j).length (strs (KK ++ kidTo l wd j))) ∧ Hid (Below nb wo wy) ∧ nb ≤ wy.heap.size) (fun _ i' _ => k - (intOf i').toNat)
              case atStart => exact ⟨0, rfl, Nat.zero_le _, HN2, HBe, hnx⟩
              case round =>
                clear HN HN2 HBe hnx
                obtain ⟨j, rfl, hj4, HN, HBe, hnx⟩ := hrel
                obtain ⟨wy, rfl⟩ : ∃ y : World, y = wr := ⟨_, rfl⟩
                have HBx := Lib.hid (HBW.out _ HBe.out)
                have hbx := HbW.out _ HBe.out
                have hbxs := hbx.size
                obtain ⟨s0, s1, -, -, sl⟩ := HBx.out.two
                by_cases hlt2 : j < k
                · have hyw : (97 + (j : Int)) % 256 = 97 + (j : Int) := by omega
                  have hcv := one_byte (P := Tryd.prog) Tryd.underlying22 Tryd.underlying5 Tryd.underlying9 wy (97 + (j : Int)) (by omega) (by omega)
                  have hb97 : (97 + (j : Int)).toNat = 97 + j := by omega
                  rw [hb97] at hcv
                  have hsz1b : (⟨#[UInt8.ofNat (97 + j)]⟩ : ByteArray).size = 1 := rfl
                  have Hb := Lib.hid (show wd ++ ⟨#[UInt8.ofNat (97 + j)]⟩ = ext1 wd j from rfl)
                  have hxs : (ext1 wd j).size ≤ 17 := by rw [ext1_size]; omega
                  have HN1 := Lib.hid (HN.out.alloc (.cells #[.int .u8 (97 + (j : Int))] 5))
                  have HBe1 := Lib.hid (HBe.out.alloc hnx (.cells #[.int .u8 (97 + (j : Int))] 5))
                  have hjl := kidTo_len l wd j
                  generalize (⟨#[UInt8.ofNat (97 + j)]⟩ : ByteArray) = bb at *
                  go_wp2_with fail
                  clear s0 s1 sl hcv HBx
                  rw [Hb.out]
                  have hnx3 := HBe1.out.size
                  generalize wy.alloc (.cells #[.int .u8 (97 + (j : Int))] 5) = w3 at *
                  have hn3 : nb ≤ w3.heap.size := by have := Hnb.out; omega
                  refine (specEnds_any k A n c B l (ext1 wd j) w3 (HO.out.below (HbW.out w3 HBe1.out)) (by omega)).mono ?_
                  rintro e w4 ⟨rfl, hb4⟩
                  have HN4 := Lib.hid (ownsRow_below HN1.out hb4)
                  have HBe4 := Lib.hid (HBe1.out.trans (hb4.mono hn3))
                  have hn4 : nb ≤ w4.heap.size := by have := hb4.size; omega
                  clear hb4 HN1 HBe1 HN HBe
                  cases hh : hitS l (ext1 wd j)
                  · have HST := Lib.hid (kidTo_new hh)
                    clear hh
                    generalize hKT : kidTo l wd j = KT at *
                    have HKT := Lib.hid hKT
                    clear hKT
                    have hle : (KK ++ KT).length ≤ 17179869188 := by rw [List.length_append]; omega
                    generalize ext1 wd j = xw at *
                    generalize hKL : KK ++ KT = KL at *
                    have HKL := Lib.hid hKL
                    clear hKL
                    go_wp2_with (at_builtin; refine wpList_append_own _ rfl _ _ 28 rfl nb 9 i0 (.string ⟨#[]⟩) 1 16 Tryd.underlying28 hi hz0 hz1 hz2 rfl (by decide) _ _ _ rfl (HN4.out.alloc _) ⟨w4.heap.size, 0, none⟩ 1 1 [.string xw] rfl rfl ?c1 ?c2 ?c3 ?c4 ?c5 ?_)
                    case c1 => intro j u hj; match j, hj with | 0, hj => (simp at hj; subst hj; simp [Addr.add])
                    case c2 => intro u hu; simp at hu; subst hu; rfl
                    case c3 => unfold maxLen; omega
                    case c4 => omega
                    case c5 => simp; omega
                    intro v' w6 hown' hgrow _
                    have HX6 : Hid (w6.ownsRow nb 9 1 v' (KK ++ kidTo l wd (j + 1)).length (strs (KK ++ kidTo l wd (j + 1)))) := by
                      show World.ownsRow _ _ _ _ _ _ _
                      rw [HST.out, ← List.append_assoc, HKL.out]
                      have h1 : (KL ++ [xw]).length = KL.length + 1 := List.length_append
                      rw [h1]
                      simpa [strs] using hown'
                    have hbw6 := Lib.hid (grown_one HN4.out hgrow HBe4.out (Nat.le_refl _) hn4)
                    have hn6 : nb ≤ w6.heap.size := by have := hbw6.out.size; have := Hnb.out; omega
                    clear hown' hgrow HN4
                    go_wp2_with fail
                    go_roundw
                    case rel => exact ⟨j + 1, by go_num, by omega, HX6, hbw6, hn6⟩
                    case measure => simp [intOf]; omega
                  · have HX6 : Hid (w4.ownsRow nb 9 1 u9 (KK ++ kidTo l wd (j + 1)).length (strs (KK ++ kidTo l wd (j + 1)))) := by
                      show World.ownsRow _ _ _ _ _ _ _
                      rw [kidTo_hit hh]; exact HN4.out
                    clear hh HN4
                    go_wp2_with fail
                    go_roundw
                    case rel => exact ⟨j + 1, by go_num, by omega, HX6, HBe4, hn4⟩
                    case measure => simp [intOf]; omega
                · obtain rfl : k = j := by omega
                  have HX6 : Hid (wy.ownsRow nb 9 1 u9 (kids l k (Ws.take (a + 1))).length (strs (kids l k (Ws.take (a + 1))))) := by
                    show World.ownsRow _ _ _ _ _ _ _
                    rw [Htk.out]; exact HN.out
                  go_wp2_with fail
                  go_roundw
                  case rel => exact ⟨a + 1, by go_num, by omega, HX6, HBe, hnx⟩
                  case measure => simp [intOf]; omega
            · have hla2 : a = Ws.length := by omega
              have HX6 : Hid (wx.ownsRow (w.heap.size + 1) 9 1 u9 (lvl l k (i + 1)).length (strs (lvl l k (i + 1)))) := by
                show World.ownsRow _ _ _ _ _ _ _
                have h1 := HN.out
                rw [hla2, List.take_length, ← HNX.out] at h1
                exact row_mono h1 hnbs
              have HB6 := Lib.hid (HBW.out _ HBe.out)
              have hb6 := HbW.out _ HBe.out
              go_wp2_with fail
              go_roundw
              case rel => exact ⟨i + 1, by go_num, by omega, HX6, HB6, hb6⟩
              case measure => simp [intOf]; omega
        · obtain rfl : i = x := by omega
          obtain ⟨A9, c9, hv9⟩ := (Own.of_row HR.out).form
          subst hv9
          go_wp2_with fail
          go_ret2
          exact ⟨_, ret_vb HE2.out.symm, by rw [HG.out]; exact (Own.of_row HR.out).mono (by omega), hb⟩
    · have HE2 := Lib.hid (show redOk (k : Int) l (x : Int) = false by rw [HE.out]; exact decide_eq_false hc)
      have HG := Lib.hid (redL_no HE2.out)
      have Hc := Lib.hid (show ((countN l k x : Nat) : Int) < 0 ∨ 256 < ((countN l k x : Nat) : Int) by omega)
      clear hc
      generalize countN l k x = CN at *
      go_wp2_with fail
      refine (l01In_no _ 0 256 _ Hc.out).mono ?_
      rintro e w2 ⟨rfl, rfl⟩
      go_wp2_with fail
      go_ret2
      exact ⟨_, ret_vb HE2.out.symm, by rw [HG.out]; exact Own.none_, b1⟩
end Go.Proofs.YtjecadpofkblnaaDoor

namespace Go.Proofs.YtjecadpofkblnaaDoor
open Go.RowKit

theorem eqStringB (A A' : Option Addr) (n c c' B B' : Nat) (l : List ByteArray) (w : World) (h : Own B w (.slice A n c) 1 n (strs l)) (h' : Own B' w (.slice A' n c') 1 n (strs l)) (hn : n ≤ 4611686018427387904) :
    Calls Tryd.prog 23 #[.slice A n c, .slice A' n c'] w fun e w' => e = .returned (.bool true) ∧ Below w.heap.size w w' :=
  (eqStringS_yes A A' n c c' B B' l w h h' hn).mono (by rintro e w' ⟨rfl, m, rfl⟩; exact ⟨rfl, below_drewN (Below.refl _ w) m⟩)
set_option maxHeartbeats 400000 in
theorem markStrK (A : Option Addr) (n c B : Nat) (k : Int) (l : List ByteArray) (w : World) (h : Own B w (.slice A n c) 1 n (strs l)) (hB : B ≤ w.heap.size) (h0 : 0 ≤ k) (hk : k + n ≤ 4611686018427387904) :
    Calls Tryd.prog 26 #[.slice A n c, .int .i64 k] w fun e w' => e = .returned (.int .i64 (k + n)) ∧ Own B w' (.slice A n c) 1 n (strs (marks k n)) ∧ Below B w w' ∧ KeptA A n w w' := by
  have hl : l.length = n := by have := h.1; simpa [strs] using this
  have hmax : n ≤ c ∧ c ≤ maxLen := by
    obtain ⟨_, A', c', hv, hc, hm, _⟩ := h
    injection hv with _ _ e; subst e; exact ⟨hc, hm⟩
  by_cases hn : 0 < n
  · obtain ⟨g, off, rfl, hg, -, -⟩ := h.str hn
    have Hl := Lib.hid hl
    clear hl
    go_enter Tryd.func26, Tryd.ntmps26
    go_wp2
    go_loopw [1, 5] (fun q i wr => ∃ j : Nat, j ≤ n ∧ q = .int .i64 (k + j) ∧ i = .int .i64 j ∧ Hid (Own B wr (.slice (some ⟨g, off, none⟩) n c) 1 n (strs (marks k j ++ l.drop j))) ∧ Below B w wr ∧ Hid (w.heap.size ≤ wr.heap.size ∧ KeptA (some ⟨g, off, none⟩) n w wr)) (fun _ i _ => n - (intOf i).toNat)
    case atStart => exact ⟨0, Nat.zero_le _, by simp, rfl, by simpa [marks, Hid] using h, Below.refl _ _, Nat.le_refl _, fun d _ _ => rfl⟩
    case round =>
      obtain ⟨j, hj, rfl, rfl, ho, hb, HK⟩ := hrel
      have hbs := hb.size
      by_cases hlt : j < n
      · go_wp2_with (go_at_call 51; refine (markText_any _ _ (by omega)).mono ?_)
        rintro e w1 ⟨rfl, hb1⟩
        have ho1 := ho.out.below hb1
        obtain ⟨g', off', e, -, hlt1, hcell⟩ := Own.str (l := marks k j ++ l.drop j) ho1 hn
        obtain ⟨rfl, rfl⟩ : g = g' ∧ off = off' := by injection e with e; injection e with e1 e2; exact ⟨e1, e2⟩
        clear e
        obtain ⟨s, -, hx, hf⟩ := hcell j hlt
        have ho2 := Own.set ho1 (j := j) (by rw [strs_length]; simp [marks_length, Hl.out]; omega) (.string (markT (k + j)))
        rw [marks_step k j l (by rw [Hl.out]; exact hlt)] at ho2
        have HO2 := Lib.hid ho2
        have K4 := Lib.hid ((HK.out.2.below HK.out.1 hb1).setCell hn (off + j) (.string (markT (k + j))))
        have hs : w.heap.size ≤ w1.heap.size := Nat.le_trans HK.out.1 hb1.size
        clear ho2 ho1 hcell HK
        go_wp2
        go_roundw
        case rel => exact ⟨j + 1, by omega, by go_num, by go_num, HO2, (hb.trans (hb1.mono (by omega))).setCell hg _, by simpa [World.size_setCell] using hs, K4.out⟩
        case measure => simp [intOf]; omega
      · obtain rfl : j = n := by omega
        have ho1 := ho.out
        rw [List.drop_of_length_le (by rw [Hl.out]; exact Nat.le_refl _), List.append_nil] at ho1
        go_wp2_with fail
        go_ret
        exact ⟨rfl, ho1, hb, HK.out.2⟩
  · obtain rfl : n = 0 := by omega
    go_enter Tryd.func26, Tryd.ntmps26
    go_wp2
    refine wp_loop_rounds 1 ?_
    rw [rounds_succ]
    go_wp2
    go_ret
    obtain rfl : l = [] := List.eq_nil_of_length_eq_zero hl
    exact ⟨by simp, h, Below.refl _ _, fun d _ _ => rfl⟩

end Go.Proofs.YtjecadpofkblnaaDoor

namespace Go.Proofs.YtjecadpofkblnaaDoor.fnExactReducedWords
open Go.ChangeShapes Go.WideShapes Go.ChangeAt Go.RowKit
open Go.ChangeMaps (open_string)
set_option maxRecDepth 100000 in
set_option maxHeartbeats 1600000 in
theorem walk (k : Int) (_wk : (Lit.int .i64 k).wf = true) (A : Option Addr) (n c : Nat) (xs : List R) (s : Int) (_ws : (Lit.int .i64 s).wf = true) (w : World) (hI : InR w A n c xs) (h : Let w) :
    Calls Tryd.prog 5 #[.agg #[.int .i64 k, .slice A n c], .int .i64 s] w fun e w' => e = .returned (.bool true) ∧ Below w.heap.size w w' := by
  have HL := Lib.hid (fun (w' : World) (hb : Below w.heap.size w w') => h.keep hb (Nat.le_refl _))
  have HI := Lib.hid (fun (w' : World) (hb : Below w.heap.size w w') => hI.keep hb)
  clear h hI
  go_enter Tryd.func5, Tryd.ntmps5
  go_wp2_with fail
  refine (szSystem_any k A n c xs 1048576 _ (HI.out _ (bel1 _ _)) (Nat.le_refl _)).mono ?_
  rintro e w1 ⟨q, rfl, hq, hb1⟩
  have b1 := (bel1 w _).trans (hb1.mono (by simp))
  have B1 := Lib.hid ((Blk.new1 w _ _).below hb1 (by simp))
  obtain ⟨q0, q1, -, -, ql⟩ := B1.out.two
  clear hb1
  by_cases hq0 : q < 0
  · go_wp2_with fail
    go_ret
    exact ⟨rfl, b1⟩
  have Hsz : Hid (n + rulesSz xs ≤ 1048576) := by rcases hq with h | h <;> (show _ ≤ _; omega)
  have Hn : Hid (n ≤ 1048576) := by have := Hsz.out; show _ ≤ _; omega
  have Hsm : Hid (smallR xs) := small_of xs (by have := Hsz.out; omega)
  clear hq
  go_wp2_with fail
  refine (toSystem_any k A n c xs _ (HI.out _ b1) Hn.out).mono ?_
  rintro e w2 ⟨v2, rfl, o2, hb2⟩
  have b2 := b1.trans (hb2.mono b1.size)
  have B2 := Lib.hid (B1.out.below hb2 B1.out.lt)
  obtain ⟨A2, c2, rfl⟩ := o2.form
  clear hb2 q0 q1 ql B1
  obtain ⟨q0, q1, -, -, ql⟩ := B2.out.two
  go_wp2_with fail
  have HLN := Lib.hid (redL_len k xs s)
  have HM := Lib.hid (fun A5 c5 B5 w5 (o5 : Own B5 w5 (.slice A5 n c5) 2 n (rulesC xs)) (b5 : Below w.heap.size w w5) => implReducedWords k A5 n c5 B5 xs s w5 o5 Hsm.out (HL.out _ b5))
  refine (specReducedWords k A2 n c2 _ xs s _ o2 Hsm.out).mono ?_
  rintro e w3 ⟨v3, rfl, o3, hb3⟩
  have b3 := b2.trans (hb3.mono b2.size)
  have B3 := Lib.hid (B2.out.below hb3 B2.out.lt)
  have R3 := Lib.hid o3
  have hlt3 := B3.out.lt
  obtain ⟨A3, c3, rfl⟩ := o3.form
  have h23 := hb3.size
  clear hb3 o2 o3 q0 q1 ql B2
  generalize redL k xs s = L at *
  generalize redOk k xs s = ok at *
  generalize hN : L.length = N at *
  have hNb : N ≤ 256 := HLN.out
  have hR3 := Lib.hid (fun hn : 0 < N => R3.out.blk_lt hn)
  obtain ⟨q0, q1, -, -, ql⟩ := B3.out.two
  go_wp2_with fail
  refine (toSystem_any k A n c xs _ (HI.out _ b3) Hn.out).mono ?_
  rintro e w4 ⟨v4, rfl, o4, hb4⟩
  obtain ⟨A5, c5, rfl⟩ := o4.form
  have hP4 := Lib.hid (fun hn : 0 < n => o4.blk_lt hn)
  have b5 := (b3.trans (hb4.mono b3.size)).alloc (by have := b3.size; have := hb4.size; omega) (.cells #[.int .i64 k, .slice A5 n c5] 25)
  have x5 := bel1 w4 (.cells #[.int .i64 k, .slice A5 n c5] 25)
  have B5 := Lib.hid ((B3.out.below hb4 B3.out.lt).alloc (.cells #[.int .i64 k, .slice A5 n c5] 25))
  have X5 := Lib.hid (Blk.new1 w4 #[.int .i64 k, .slice A5 n c5] 25)
  have P5 := Lib.hid (o4.below x5)
  have R5 := Lib.hid ((R3.out.below hb4).below x5)
  have h34 := hb4.size
  have h45 : w4.heap.size < (w4.alloc (.cells #[.int .i64 k, .slice A5 n c5] 25)).heap.size := by simp
  clear hb4 o4 q0 q1 ql B3 x5 R3
  go_wp2_with fail
  generalize w4.alloc (.cells #[.int .i64 k, .slice A5 n c5] 25) = w5 at *
  refine (HM.out A5 c5 _ _ P5.out b5).mono ?_
  rintro e w6 ⟨v6, rfl, o6, hb6⟩
  obtain ⟨A6, c6, rfl⟩ := o6.form
  have Q6 := Lib.hid o6
  have hQ6 := Lib.hid (fun hn : 0 < N => o6.blk_lt hn)
  have b6 := b5.trans (hb6.mono b5.size)
  have B6 := Lib.hid (B5.out.below hb6 B5.out.lt)
  have X6 := Lib.hid (X5.out.below hb6 X5.out.lt)
  have P6 := Lib.hid (P5.out.below hb6)
  have R6 := Lib.hid (R5.out.below hb6)
  have h56 := hb6.size
  clear hb6 o6 B5 X5 P5 R5 b5
  go_wp2_with fail
  refine (eqStringB A6 A3 N c6 c3 _ _ L _ Q6.out R6.out (by omega)).mono ?_
  rintro e w7 ⟨rfl, hb7⟩
  have b7 := b6.trans (hb7.mono b6.size)
  have B7 := Lib.hid (B6.out.below hb7 B6.out.lt)
  have X7 := Lib.hid (X6.out.below hb7 X6.out.lt)
  have P7 := Lib.hid (P6.out.below hb7)
  have Q7 := Lib.hid (Q6.out.below hb7)
  have R7 := Lib.hid (R6.out.below hb7)
  have h67 := hb7.size
  clear hb7 B6 X6 P6 Q6 R6 b6
  obtain ⟨q0, q1, -, -, ql⟩ := B7.out.two
  obtain ⟨x0, x1, -, -, xl⟩ := X7.out.two
  have P7d : Hid (Own w3.heap.size w7.drew (.slice A5 n c5) 2 n (rulesC xs)) := P7
  go_wp2_with fail
  go_region_held3 (fun w' => w'.cell? ⟨w4.heap.size, 0, none⟩ = some (.int .i64 k) ∧ w'.cell? ⟨w4.heap.size, 1, none⟩ = some (.slice A5 n c5) ∧ w'.cell? ⟨w.heap.size, 0, none⟩ = some (.int .i64 k) ∧ w'.cell? ⟨w.heap.size, 1, none⟩ = some (.slice A n c) ∧ Below w7.heap.size w7 w')
    (first | exact ⟨x0, x1, q0, q1, (Below.refl _ w7).drew⟩ | exact held4_keep (by assumption) hb8 (Nat.le_refl _) xl ql | exact held4_keep (by assumption) hb9 (Nat.le_refl _) xl ql)
    ((first | (go_at_call 22; refine (toSystem_any k A n c xs _ (HI.out _ b7.drew) Hn.out).mono ?_; rintro e w8 ⟨v8, rfl, o8, hb8⟩; obtain ⟨A8, c8, rfl⟩ := o8.form) | (go_at_call 24; refine (eqSystem_yes k A5 _ n c5 _ _ _ xs _ (P7d.out.below hb8) o8).mono ?_; rintro e w9 ⟨rfl, hb9⟩)))
  have hS := (‹_ ∧ _ ∧ _ ∧ _ ∧ Below w7.heap.size w7 w9›).2.2.2.2
  have b9 := b7.trans (hS.mono b7.size)
  have B9 := Lib.hid (B7.out.below hS B7.out.lt)
  have X9 := Lib.hid (X7.out.below hS X7.out.lt)
  have P9 := Lib.hid (P7.out.below hS)
  have Q9 := Lib.hid (Q7.out.below hS)
  have R9 := Lib.hid (R7.out.below hS)
  have h79 := hS.size
  clear hb8 hb9 hS o8 B7 X7 P7 Q7 R7 P7d b7 q0 q1 ql x0 x1 xl
  obtain ⟨x0, x1, -, -, xl⟩ := X9.out.two
  have hnb := Hn.out
  have hw3 := b3.size
  have hwx := B9.out.lt
  go_wp2_with fail
  refine (markSystem_any k 1 A5 n c5 _ xs _ P9.out (by omega) (by omega) (by omega)).mono ?_
  rintro e w10 ⟨rfl, -, hb10, k10⟩
  have h910 := hb10.size
  have b10 := b9.trans (hb10.mono hw3)
  have B10 := Lib.hid (k10.blk B9.out (fun hn => by have := (hP4.out hn).1; omega))
  have Q10 := Lib.hid (Own.keptA Q9.out k10 h910 (fun h1 h2 => by have := (hQ6.out h1).1; have := (hP4.out h2).2; omega))
  have R10 := Lib.hid (Own.keptA R9.out k10 h910 (fun h1 h2 => by have := (hR3.out h1).2; have := (hP4.out h2).1; omega))
  clear hb10 k10 B9 X9 P9 Q9 R9 x0 x1 xl b9
  go_wp2_with fail
  refine (eqStringB A6 A3 N c6 c3 _ _ L _ Q10.out R10.out (by omega)).mono ?_
  rintro e w11 ⟨rfl, hb11⟩
  have b11 := b10.trans (hb11.mono b10.size)
  have B11 := Lib.hid (B10.out.below hb11 B10.out.lt)
  have Q11 := Lib.hid (Q10.out.below hb11)
  have R11 := Lib.hid (R10.out.below hb11)
  have h1011 := hb11.size
  clear hb11 B10 Q10 R10 b10
  go_wp2_with fail
  refine (markStrK A6 N c6 _ 1 L _ Q11.out (by omega) (by omega) (by omega)).mono ?_
  rintro e w12 ⟨rfl, o12, hb12, k12⟩
  have h1112 := hb12.size
  have b12 := b11.trans (hb12.mono (by omega))
  have B12 := Lib.hid (k12.blk B11.out (fun hn => by have := (hQ6.out hn).1; omega))
  have R12 := Lib.hid (Own.keptA R11.out k12 h1112 (fun h1 h2 => by have := (hR3.out h1).2; have := (hQ6.out h2).1; omega))
  have Q12 := Lib.hid o12
  clear hb12 k12 o12 B11 Q11 R11 b11
  go_wp2_with fail
  refine (heldStringS_yes A6 N c6 _ 1 _ Q12.out (by omega) (by omega)).mono ?_
  rintro e w13 ⟨rfl, hb13⟩
  have b13 := b12.trans (hb13.mono b12.size)
  have B13 := Lib.hid (B12.out.below hb13 B12.out.lt)
  have Q13 := Lib.hid (Q12.out.below hb13)
  have R13 := Lib.hid (R12.out.below hb13)
  clear hb13 B12 Q12 R12 b12
  obtain ⟨q0, q1, -, -, ql⟩ := B13.out.two
  go_wp2_with fail
  refine (toSystem_any k A n c xs _ (HI.out _ b13) Hn.out).mono ?_
  rintro e w14 ⟨v14, rfl, o14, hb14⟩
  obtain ⟨A14, c14, rfl⟩ := o14.form
  have b14 := b13.trans (hb14.mono b13.size)
  have Q14 := Lib.hid (Q13.out.below hb14)
  have R14 := Lib.hid (R13.out.below hb14)
  clear hb14 B13 Q13 R13 b13 q0 q1 ql
  go_wp2_with fail
  refine (HM.out A14 c14 _ _ o14 b14).mono ?_
  rintro e w15 ⟨v15, rfl, o15, hb15⟩
  obtain ⟨A15, c15, rfl⟩ := o15.form
  have b15 := b14.trans (hb15.mono b14.size)
  have Q15 := Lib.hid (Q14.out.below hb15)
  have R15 := Lib.hid (R14.out.below hb15)
  have V15 := Lib.hid o15
  clear hb15 Q14 R14 b14 o14 o15
  go_wp2_with fail
  refine (eqStringB A15 A3 N c15 c3 _ _ L _ V15.out R15.out (by omega)).mono ?_
  rintro e w16 ⟨rfl, hb16⟩
  have b16 := b15.trans (hb16.mono b15.size)
  have Q16 := Lib.hid (Q15.out.below hb16)
  clear hb16 Q15 R15 V15 b15
  go_wp2_with fail
  refine (heldStringS_yes A6 N c6 _ 1 _ Q16.out (by omega) (by omega)).mono ?_
  rintro e w17 ⟨rfl, hb17⟩
  have b17 := b16.trans (hb17.mono b16.size)
  clear hb17
  go_wp2_with fail
  go_ret
  exact ⟨rfl, b17⟩
set_option maxRecDepth 100000 in
theorem contract (H : Type) (enc : TypeId × Value → H) (W : World) (base : Nat) (args : Array Value) (ds gs : List (DataW H)) (before : List MemPlace)
    (hval : ∀ (j : Nat) t v, Tryd.f5.params[j]? = some t → args[j]? = some v → Value.okWide Tryd.prog W .any base t v)
    (hW : DataW.Whole enc Tryd.prog Tryd.f5.params.toList Rows.fnExactReducedWordsSpec.vars false W args.toList ds gs before) (hL : laidMetH Tryd.prog Rows.fnExactReducedWordsRow.laid W) :
    Calls Tryd.prog 5 args W fun e W' => ∃ v, e = .returned v ∧ Rows.fnExactReducedWordsSpec.post enc Tryd.prog Tryd.f5 false true false false W args v W' := by
  have hW' := hW
  have hL' : laidMet Tryd.prog [("loop.example/g03201/impl.letters", Rows.laid_loop_example_g03201_impl_letters)] W := hL
  obtain ⟨p, q, hA0, hV, rfl, hfz, hnd⟩ := hW
  obtain ⟨g0, rfl⟩ := vars_len1 (trodVars_len hV)
  have hA : DataW.TrodAll enc Tryd.prog W 0 (fun _ => true) true Tryd.f5.params.toList args.toList ds p := hA0
  rw [Tryd.params5] at hA hval
  obtain ⟨v0, vs0, d0, ds0, p0, q0, hargs, rfl, rfl, h0, r0⟩ := trodAll_cons hA
  obtain ⟨v1, vs1, d1, ds1, p1, q1, rfl, rfl, rfl, h1, r1⟩ := trodAll_cons r0
  obtain ⟨rfl, rfl, rfl⟩ := trodAll_nil r1
  obtain rfl : args = #[v0, v1] := by first | exact Array.toList_inj.1 hargs | exact Array.toList_inj.1 hargs.symm | (cases args; simp_all)
  obtain ⟨k0, A0, n0, c0, xs0, rfl, wk0, I0⟩ := open_system Tryd.underlying44 (by kernel_rfl) (by kernel_rfl) Tryd.underlying3 Tryd.underlying42 Tryd.underlying122 (by kernel_rfl) (by kernel_rfl) Tryd.underlying9 Tryd.underlying9 (hval 0 44 v0 rfl rfl) h0
  obtain ⟨a1, rfl, rfl, rfl, b1⟩ := open_int Tryd.underlying3 (hval 1 3 v1 rfl rfl) h1
  refine (walk k0 wk0 A0 n0 c0 xs0 a1 b1 W I0 (let_of hL')).mono fun e W' ⟨he, hb⟩ => ?_
  subst he
  exact ⟨_, rfl, law_postV hW' rfl rfl Tryd.underlying4 laidOut (by kernel_rfl) (by kernel_rfl) hb⟩

theorem laid_met (os : Os) : laidMet Tryd.prog Rows.fnExactReducedWordsRow.laid ((laidWorld os).forCall (fun _ _ => 0) ⟨#[], #[.agg #[.int .i64 0, .slice none 0 0], .int .i64 0], []⟩).memory :=
  laidMet_of_run' 8 (by kernel_rfl) (by kernel_rfl)
theorem reads (os : Os) {H : Type} (enc : TypeId × Value → H) : ∃ places, DataW.whole enc Tryd.prog ((laidWorld os).forCall (fun _ _ => 0) ⟨#[], #[.agg #[.int .i64 0, .slice none 0 0], .int .i64 0], []⟩).memory Tryd.f5.params.toList Rows.fnExactReducedWordsSpec.vars false (#[.agg #[.int .i64 0, .slice none 0 0], .int .i64 0] : Array Value).toList 8 = some ([.agg [.lit (.int .i64 0), .nil], .lit (.int .i64 0)], [Rows.laid_loop_example_g03201_impl_letters], places) :=
  ⟨MemPlace.row ⟨0, 0, none⟩ 4, by kernel_rfl⟩
set_option maxRecDepth 100000 in
theorem lifted (os : Os) (started : os.Started) (H : Type) (enc : TypeId × Value → H) (F : Stop.Interp) :
    ReturnsInHanded {} Tryd.checked os 5 .any ((OpenSpec.ofChange Rows.fnExactReducedWordsSpec).preRow enc Tryd.prog Tryd.f5 Rows.fnExactReducedWordsRow.domain false Rows.fnExactReducedWordsRow.laid) (((OpenSpec.ofChange Rows.fnExactReducedWordsSpec).at F).post enc Tryd.prog Tryd.f5 false true false false) := by
  obtain ⟨places, hx⟩ := reads os enc
  refine returnsInHanded_of_row (C := Tryd.checked) (s := OpenSpec.ofChange Rows.fnExactReducedWordsSpec) own started (by kernel_rfl) Tryd.func5
    (witness_row_at (enc := enc) (C := Tryd.checked) false (laidWorld os) #[.agg #[.int .i64 0, .slice none 0 0], .int .i64 0] rfl (by kernel_rfl) (by kernel_rfl) (by kernel_rfl)
      (OpenSpec.preRow_of_cond 8 hx (by kernel_rfl) (fun k hk => by cases hk) (by kernel_rfl) (laid_met os))) ?_
  intro W base args ds gs before hval hW _ _ _ hL _ _
  exact contract H enc W base args ds gs before hval hW hL
theorem said : Rows.FnExactReducedWordsSaid :=
  OpenClaim.holds_of_cond 5 Tryd.f5 rfl rfl rfl rfl rfl rfl rfl ⟨rfl, rfl, rfl, rfl, rfl⟩ rfl rfl rfl rfl rfl (by kernel_rfl) Tryd.func5 (by kernel_rfl)
    (of_decide_eq_true (by kernel_rfl)) (by unfold Func.isWrapper; first | (rw [if_pos (by decide +kernel)]; kernel_rfl) | (rw [if_neg (by decide +kernel)]; exact ⟨rfl, rfl⟩))
    (fun os started H enc _ F => by rw [OpenClaim.pre_eq_preRow]; exact lifted os started H enc F)
theorem plain (f : FuncId) (fn : Func) (hf : Tryd.pinned.checked.prog.funcNamed Rows.fnExactReducedWordsRow.func = some f) (hfn : Tryd.pinned.checked.prog.funcs[f]? = some fn) :
    false = Tryd.pinned.checked.prog.looks [] ∧ ∀ (j : Nat) t, fn.params[j]? = some t → Tryd.pinned.checked.prog.wantsStandIn t = false := by
  obtain rfl : f = 5 := Option.some.inj ((show Tryd.prog.funcNamed Rows.fnExactReducedWordsRow.func = some 5 by kernel_rfl).symm.trans hf) |>.symm
  obtain rfl : fn = Tryd.f5 := (Option.some.inj (Tryd.func5.symm.trans hfn)).symm
  refine ⟨by kernel_rfl, fun j t ht => ?_⟩
  rw [Tryd.params5] at ht
  match j, ht with
  | 0, ht => (simp at ht; subst ht; exact (show Tryd.prog.wantsStandIn 44 = false by kernel_rfl))
  | 1, ht => (simp at ht; subst ht; exact (show Tryd.prog.wantsStandIn 3 = false by kernel_rfl))
  | n + 2, ht => simp at ht
theorem proved : Rows.FnExactReducedWordsCardSaid :=
  Claim7.holds_tied_plain_at .later [] _ _ _ _ said (fun _ h => by cases h) (by kernel_rfl) (fun _ h => by cases h) fnExactReducedWords_row_tie rfl ⟨rfl, rfl⟩ (by kernel_rfl) rfl plain (by kernel_rfl)
end Go.Proofs.YtjecadpofkblnaaDoor.fnExactReducedWords

