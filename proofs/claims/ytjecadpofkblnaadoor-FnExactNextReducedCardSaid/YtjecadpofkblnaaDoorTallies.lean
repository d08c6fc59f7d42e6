/- The iterator over the tallies: tallies, and what its value tells. -/
import Derived.Test.YtjecadpofkblnaaDoorAddLonger
import Derived.Test.YtjecadpofkblnaaDoorTells
import Derived.Shelf.Abstract
import Derived.Shelf.RegionOpen
import Derived.WalkKit
import Derived.OwnWalkIn
import Derived.TacticsInMore
import Derived.LoopNIn
import Derived.LoopIn
namespace Go.Proofs.YtjecadpofkblnaaDoor
open Go.RowKit Go.Maps Go.Shelf
attribute [local go_sem] Oper.semAt_some

set_option maxHeartbeats 400000 in
theorem tallies_any (gL : Nat) (most : Int) (w : World) :
    Calls Tryd.prog 64 #[.pointer (some ⟨gL, 0, none⟩), .int .i64 most] w fun y w' =>
      y = .returned (.func (.func 89) #[] #[.pointer (some ⟨w.heap.size, 0, none⟩), .pointer (some ⟨w.heap.size + 1, 0, none⟩)]) ∧
      w' = (w.alloc (.cells #[.pointer (some ⟨gL, 0, none⟩)] 58)).alloc (.cells #[.int .i64 most] 3) := by
  go_enter Tryd.func64, Tryd.ntmps64
  go_wp2_with fail
  go_ret
  exact ⟨rfl, rfl⟩

theorem LangS.same {W W' : World} {b0 gL mA k c : Nat} {Q : List E} {F : E → Nat → Option E} (h : LangS W b0 gL mA k c Q F) (hb : ∀ b, b < W.heap.size → W'.heap[b]? = W.heap[b]?) : LangS W' b0 gL mA k c Q F := by
  obtain ⟨⟨A, cap, h1, h2⟩, h3, h4, h5⟩ := h
  refine ⟨⟨A, cap, (hb gL h1.lt).trans h1, h2.1, ?_⟩, h3.same moveK (hb mA (h3.lt moveK)), h4, h5⟩
  rcases h2.2 with h2 | ⟨g, cp, cur, e, hg, hh, r⟩
  · exact Or.inl h2
  · exact Or.inr ⟨g, cp, cur, e, hg, (hb g (Array.getElem?_eq_some_iff.1 hh).1).trans hh, r⟩
theorem Let.same {W W' : World} (h : Let W) (hs : W.heap.size ≤ W'.heap.size) (hb : ∀ b, b < W.heap.size → W'.heap[b]? = W.heap[b]?) : Let W' := by
  have h1 : Let { W' with os := W.os, tape := W.tape, output := W.output } := h.keep (B := W.heap.size) ⟨rfl, rfl, rfl, hs, hb⟩ (Nat.le_refl _)
  exact h1

/-- The blocks that a round over the tallies leaves as they lay. -/
def talD (n0 bl bm : Nat) (B b : Nat) : Prop := b < n0 ∨ b = bl ∨ b = bm ∨ (B ≤ b ∧ b < B + 4)
/-- Which of its two tallies the iterator yields. -/
def two (B g m g' m' : Nat) : Prop := (g = B + 1 ∧ m = B ∧ g' = B + 3 ∧ m' = B + 2) ∨ (g = B + 3 ∧ m = B + 2 ∧ g' = B + 1 ∧ m' = B)
/-- How the world lies when it yields. -/
def talE (l : List R) (k : Nat) (Q : List E) (B i : Nat) (args : Array Value) (W : World) : Prop :=
  ∃ g m g' m', args = #[.int .i64 i, .pointer (some ⟨g, 0, none⟩)] ∧ two B g m g' m' ∧ TalAt W g m 1000 (talF l k Q i) ∧ B + 4 ≤ W.heap.size
theorem talE_keep {l : List R} {k n0 bl bm B i : Nat} {Q : List E} {args : Array Value} {X Y : World} (h : talE l k Q B i args X) (hk : KeepD (talD n0 bl bm B) X Y) : talE l k Q B i args Y := by
  obtain ⟨g, m, g', m', h1, h2, h3, h4⟩ := h
  refine ⟨g, m, g', m', h1, h2, ⟨(hk.block g ?_).trans h3.1, h3.2.same endK (hk.block m ?_)⟩, Nat.le_trans h4 hk.size⟩
  · rcases h2 with h2 | h2 <;> (unfold talD; omega)
  · rcases h2 with h2 | h2 <;> (unfold talD; omega)

theorem TalAt.made (w : World) : TalAt ((w.alloc (.map #[] 0)).alloc (.cells #[.map (some w.heap.size)] 144)) (w.heap.size + 1) w.heap.size 0 (fun _ => none) :=
  ⟨Blk.new2 w _ _ _, (MapOf.made endK w).alloc endK _⟩
set_option maxRecDepth 100000 in
set_option maxHeartbeats 2000000 in
theorem tallies1_tells (m : Nat) (hm : 1 ≤ m) (k : Nat) (l : List R) (b0 gL mA c0 bl bm most : Nat) (Q : List E) (wB w0 : World) (hl : ∀ r ∈ l, r.1.size ≤ 8) (h12 : l.length ≤ 12) (hk : k ≤ 4) (hQ : Ends l k Q) (hlet : Let wB) (hL : LangS wB b0 gL mA k c0 Q (aftQ l k Q))
    (hbB : Below wB.heap.size wB w0) (h1 : Blk w0 bl 58 #[.pointer (some ⟨gL, 0, none⟩)]) (h2 : Blk w0 bm 3 #[.int .i64 most]) (hmost : most ≤ 1000) :
    SeqTells Fence.wide m Tryd.prog 89 #[.pointer (some ⟨bl, 0, none⟩), .pointer (some ⟨bm, 0, none⟩)] (talE l k Q) (talD wB.heap.size bl bm) (most + 1) w0 := by
  intro lp J Jx W hW hJ hY h0
  have HB1 := Lib.hid (h1.below hW h1.lt)
  have HB2 := Lib.hid (h2.below hW h2.lt)
  have hq0 : W.cell? ⟨bl, 0, none⟩ = some (.pointer (some ⟨gL, 0, none⟩)) := HB1.out.cell 0
  have hq1 : W.cell? ⟨bm, 0, none⟩ = some (.int .i64 most) := HB2.out.cell 0
  refine callsIn_of_wp Tryd.func89 rfl trivial ?_ rfl
  simp only [Tryd.ntmps89, List.size_toArray, List.length_cons, List.length_nil, Nat.reduceAdd, Nat.reduceSub, Array.replicate_succ, Array.replicate_zero, List.push_toArray, List.append_toArray, List.nil_append, List.cons_append]
  gi_wp2_with fail
  refine ⟨trivial, (callsIn_wide.2 (newTally_any W)).mono ?_⟩
  rintro y w1 ⟨rfl, hw1⟩
  have hs1 : w1.heap.size = W.heap.size + 2 := by rw [hw1]; simp
  have b1 : Below W.heap.size W w1 := by rw [hw1]; exact bel2 W _ _
  have T1 := TalAt.made W
  rw [← hw1] at T1
  clear hw1
  gi_wp2_with fail
  refine ⟨trivial, (callsIn_wide.2 (newTally_any w1)).mono ?_⟩
  rintro y w2 ⟨rfl, hw2⟩
  have hs2 : w2.heap.size = W.heap.size + 4 := by rw [hw2]; simp; omega
  have b2 : Below w1.heap.size w1 w2 := by rw [hw2]; exact bel2 w1 _ _
  have T2 := TalAt.made w1
  rw [← hw2, hs1] at T2
  have T1' := Lib.hid (T1.below b2 (by omega) (by omega))
  have T2' := Lib.hid T2
  have b3 := b1.trans (b2.mono (by omega))
  have HB1' := Lib.hid (HB1.out.below b3 HB1.out.lt)
  have HB2' := Lib.hid (HB2.out.below b3 HB2.out.lt)
  have hJ2 := Lib.hid (hJ 0 W w2 h0 (own2_below b3))
  have b4 := hbB.trans (hW.mono hbB.size)
  have hsz0 := hbB.size
  have hsz1 := hW.size
  have HF : Hid (∀ b, b < wB.heap.size → w2.heap[b]? = wB.heap[b]?) := fun b hb => (b3.block b (by omega)).trans ((hW.block b (by omega)).trans (hbB.block b hb))
  have hq2 : w2.cell? ⟨bl, 0, none⟩ = some (.pointer (some ⟨gL, 0, none⟩)) := HB1'.out.cell 0
  have HLB := Lib.hid hL
  have HlB := Lib.hid hlet
  have HQ := Lib.hid hQ
  have hQl := hQ.len hl h12
  have Hl := Lib.hid hl
  have H12 := Lib.hid h12
  obtain ⟨⟨A2, cap, hblk, hrow⟩, -, -, -⟩ := (HLB.out.same HF.out)
  have hq3 : w2.cell? ⟨gL, 1, none⟩ = some (.slice A2 Q.length cap) := hblk.cell 1
  rw [hs1]
  clear T1 T2 hw2 b1 b2 b3 HB1 HB2 hq0 hq1 h0 h1 h2 hlet hL hQ hl h12 hblk hbB hW
  gi_wp2_with fail
  clear hq2 hq3
  have hmp := T1'.out.obj
  have HMp := Lib.hid hmp
  clear hmp
  generalize W.heap.size = B at *
  have HT0 : Hid (TalAt w2 (B + 1) B 0 (talOne Q 0)) := by rw [talOne_start]; exact T1'.out
  have Hrow : Hid (∀ W', Turn [B] w2 W' → Own b0 W' (.slice A2 Q.length cap) 2 Q.length (endsC Q)) := fun W' ht => by
    refine Own.of_row (e := 97) ⟨hrow.1, ?_⟩
    rcases hrow.2 with h | ⟨g, cp, cur, e, hg, hh, r⟩
    · exact Or.inl h
    · exact Or.inr ⟨g, cp, cur, e, hg, ht.obj hh (by simpa using Blk.ne_map (W := w2) (t := 97) (cs := cur) hh HMp.out), r⟩
  clear hrow
  gi_loopw [16] (fun i wr => ∃ a : Nat, i = .int .i64 a ∧ a ≤ Q.length ∧ Hid (TalAt wr (B + 1) B a (talOne Q a)) ∧ Hid (Turn [B] w2 wr)) (fun i _ => Q.length - (intOf i).toNat)
  case atStart => exact ⟨0, rfl, Nat.zero_le _, HT0, Turn.refl _ _⟩
  case round =>
    obtain ⟨a, rfl, hal, H1, HT⟩ := hrel
    clear HT0
    have hTs := HT.out.size
    by_cases hlt : a < Q.length
    · have hO := Hrow.out wr HT.out
      obtain ⟨g, off, cc, hv⟩ := hO.formR (by omega)
      obtain ⟨rfl, rfl⟩ : A2 = some ⟨g, off, none⟩ ∧ cap = cc := by injection hv with a _ b; exact ⟨a, b⟩
      clear hv
      obtain ⟨-, hgl, e, he, x0, x1⟩ := hO.endAt hlt
      have hmem : e ∈ Q := List.mem_of_getElem? he
      have hoe : okE e := (HQ.out.good e hmem).lt Hl.out H12.out
      have hno : talOne Q a e = none := by unfold talOne; rw [if_neg (not_mem_take HQ.out.nodup he)]
      have hput : Hid (putT (talOne Q a) e (wrap64 ((talOne Q a e).getD 0 + 1)) = talOne Q (a + 1)) := by
        show _ = _
        rw [hno]
        funext e1
        rw [talOne_step he]
        unfold putT
        have h1 : wrap64 ((none : Option Int).getD 0 + 1) = 1 := by rw [Option.getD_none]; unfold wrap64; omega
        rw [h1]
      have H11 := Lib.hid (H1.out.turn (turn_below (S := []) (bel1 wr (.cells #[.int .i64 e.1, .int .i64 e.2] 97))) (by simp) (by simp))
      have HT1 := Lib.hid (HT.out.trans (turn_below (bel1 wr (.cells #[.int .i64 e.1, .int .i64 e.2] 97))))
      clear hO he hmem hno H1 HT
      gi_wp2_with fail
      clear x0 x1 hgl
      generalize wr.alloc (.cells #[.int .i64 e.1, .int .i64 e.2] 97) = w3 at *
      refine ⟨trivial, (callsIn_wide.2 (add_any (B + 1) B a (talOne Q a) e 1 w3 H11.out hoe (by omega))).mono ?_⟩
      rintro y w4 ⟨⟨vv, rfl⟩, hT4, hA4⟩
      rw [hput.out] at hA4
      have HA4 := Lib.hid hA4
      have HT4 := Lib.hid (HT1.out.trans hT4)
      clear hA4 hT4 H11 HT1
      gi_wp2_with fail
      go_roundw
      case rel => exact ⟨a + 1, by go_num, by omega, HA4, HT4⟩
      case measure => simp [intOf]; omega
    · have hla : a = Q.length := by omega
      have H12' : Hid (TalAt wr (B + 1) B 1000 (talF l k Q 0)) := by
        show TalAt _ _ _ _ _
        rw [← talOne_end, ← hla]
        exact ⟨H1.out.1, H1.out.2.mono endK (by omega)⟩
      subst hla
      have HB1r := Lib.hid (HT.out.blk HB1'.out (by simpa using HB1'.out.ne_map HMp.out))
      have HB2r := Lib.hid (HT.out.blk HB2'.out (by simpa using HB2'.out.ne_map HMp.out))
      have H2r := Lib.hid (T2'.out.turn HT.out (by simp <;> omega) (by simp <;> omega))
      have hJr := Lib.hid (hJ 0 w2 wr hJ2.out ⟨[B], HT.out, fun b hb => by simp at hb; subst hb; exact ⟨Nat.le_refl _, HMp.out⟩⟩)
      have HFr : Hid (∀ b, b < wB.heap.size → wr.heap[b]? = wB.heap[b]?) := fun b hb => (HT.out.block b (by omega) (by simp; omega)).trans (HF.out b hb)
      have hqm : wr.cell? ⟨bm, 0, none⟩ = some (.int .i64 most) := HB2r.out.cell 0
      clear H1 HT Hrow HF HB1' HB2' T2' T1' hJ2 HMp
      gi_wp2_with fail
      clear hqm
      rw [show B + 2 + 1 = B + 3 from rfl]
      gi_loopw [4, 5, 26] (fun v4 v5 i wx => ∃ t g m1 g' m2 : Nat, v4 = .pointer (some ⟨g, 0, none⟩) ∧ v5 = .pointer (some ⟨g', 0, none⟩) ∧ i = .int .i64 t ∧ t ≤ most + 1 ∧ two B g m1 g' m2 ∧ Hid (TalAt wx g m1 1000 (talF l k Q t)) ∧ Hid (TalAt wx g' m2 0 (fun _ => none)) ∧ Hid (Blk wx bl 58 #[.pointer (some ⟨gL, 0, none⟩)]) ∧ Hid (∀ b, b < wB.heap.size → wx.heap[b]? = wB.heap[b]?) ∧ Hid (J t wx) ∧ B + 4 ≤ wx.heap.size) (fun _ _ i _ => most + 1 - (intOf i).toNat)
      case atStart => exact ⟨0, B + 1, B, B + 3, B + 2, rfl, rfl, rfl, Nat.zero_le _, .inl ⟨rfl, rfl, rfl, rfl⟩, H12', H2r, HB1r, HFr, hJr, by omega⟩
      case round =>
        clear H12' H2r HB1r HB2r HFr hJr
        obtain ⟨t, g, m1, g', m2, rfl, rfl, rfl, ht, h2w, H1, H2, HB1, HF, HJ, hsz⟩ := hrel
        by_cases hlt3 : (t : Int) < (most : Int) + 1
        · have hlt2 : t < most + 1 := by omega
          obtain ⟨fn, tmps, assign, body, hy, hR⟩ := hY t #[.int .i64 t, .pointer (some ⟨g, 0, none⟩)] wr HJ.out ⟨g, m1, g', m2, rfl, h2w, H1.out, hsz⟩ hlt2
          gi_wp2_with fail
          refine hR.mono ?_
          rintro y w6 (⟨rfl, hJ6, hk6⟩ | ⟨rfl, hJx6⟩)
          · have hgm : B ≤ g ∧ g < B + 4 ∧ B ≤ m1 ∧ m1 < B + 4 ∧ B ≤ g' ∧ g' < B + 4 ∧ B ≤ m2 ∧ m2 < B + 4 ∧ m1 ≠ m2 ∧ g ≠ m1 ∧ g ≠ m2 ∧ g' ≠ m1 ∧ g' ≠ m2 := by rcases h2w with h | h <;> omega
            obtain ⟨y1, y2, y3, y4, y5, y6, y7, y8, y9, z1, z2, z3, z4⟩ := hgm
            have H16 : TalAt w6 g m1 1000 (talF l k Q t) := ⟨(hk6.block g (by unfold talD; omega)).trans H1.out.1, H1.out.2.same endK (hk6.block m1 (by unfold talD; omega))⟩
            have H26 : TalAt w6 g' m2 0 (fun _ => none) := ⟨(hk6.block g' (by unfold talD; omega)).trans H2.out.1, H2.out.2.same endK (hk6.block m2 (by unfold talD; omega))⟩
            have HB6 : Hid (Blk w6 bl 58 #[.pointer (some ⟨gL, 0, none⟩)]) := (hk6.block bl (.inr (.inl rfl))).trans HB1.out
            have HF6 : Hid (∀ b, b < wB.heap.size → w6.heap[b]? = wB.heap[b]?) := fun b hb => (hk6.block b (.inl hb)).trans (HF.out b hb)
            have hs6 := hk6.size
            have hq6 : w6.cell? ⟨bl, 0, none⟩ = some (.pointer (some ⟨gL, 0, none⟩)) := HB6.out.cell 0
            have hmA : mA < wB.heap.size := HLB.out.map.lt moveK
            have hBw : wB.heap.size ≤ B := by omega
            have hm2 : m2 < w6.heap.size := by omega
            have HL6 := Lib.hid (HLB.out.same HF6.out)
            have HLt : Hid (∀ w', Turn [m2] w6 w' → Let w') := fun w' htn => HlB.out.same (by have := htn.size; omega) (fun b hb => (htn.block b (by omega) (by simp; omega)).trans (HF6.out b hb))
            have H16' := Lib.hid H16
            have H26' := Lib.hid H26
            clear H16 H26 H1 H2 HB1 HF HJ hk6 hy hR
            gi_wp2_with fail
            clear hq6
            refine ⟨trivial, (callsIn_wide.2 (addLonger_any k l b0 gL mA c0 g m1 1000 g' m2 t Q w6 Hl.out H12.out hk HQ.out HLt.out HL6.out H16'.out H26'.out (by omega) y9)).mono ?_⟩
            rintro y w7 ⟨⟨vv, rfl⟩, hT7, hA7⟩
            have hs7 := hT7.size
            have hJ7 := hJ (t + 1) w6 w7 hJ6 ⟨[m2], hT7, fun b hb => by simp at hb; subst hb; exact ⟨y7, H26'.out.obj⟩⟩
            have H17 := Lib.hid (H16'.out.turn hT7 (by simpa using z2) (by simpa using y9))
            have HB7 := Lib.hid (hT7.blk HB6.out (by simpa using HB6.out.ne_map H26'.out.obj))
            have HF7 : Hid (∀ b, b < wB.heap.size → w7.heap[b]? = wB.heap[b]?) := fun b hb => (hT7.block b (by omega) (by simp; omega)).trans (HF6.out b hb)
            have HA7 := Lib.hid hA7
            clear hT7 hA7 hJ6 H16' H26' HB6 HF6 HL6 HLt
            gi_wp2_with fail
            refine ⟨trivial, (callsIn_wide.2 (forget_any g m1 1000 _ w7 H17.out)).mono ?_⟩
            rintro y w8 ⟨⟨vv, rfl⟩, hT8, hA8⟩
            have hs8 := hT8.size
            have hm1 : m1 < w7.heap.size := by omega
            have HJ8 := Lib.hid (hJ (t + 1) w7 w8 hJ7 ⟨[m1], hT8, fun b hb => by simp at hb; subst hb; exact ⟨y3, H17.out.obj⟩⟩)
            have H18 := Lib.hid (HA7.out.turn hT8 (by simpa using z3) (by simpa using Ne.symm y9))
            have HB8 := Lib.hid (hT8.blk HB7.out (by simpa using HB7.out.ne_map H17.out.obj))
            have HF8 : Hid (∀ b, b < wB.heap.size → w8.heap[b]? = wB.heap[b]?) := fun b hb => (hT8.block b (by omega) (by simp; omega)).trans (HF7.out b hb)
            have HA8 := Lib.hid hA8
            clear hT8 hA8 hJ7 H17 HB7 HF7 HA7
            have h2w' : two B g' m2 g m1 := by rcases h2w with ⟨e1, e2, e3, e4⟩ | ⟨e1, e2, e3, e4⟩; exact .inr ⟨e3, e4, e1, e2⟩; exact .inl ⟨e3, e4, e1, e2⟩
            gi_wp2_with fail
            go_roundw
            case rel => exact ⟨t + 1, g', m2, g, m1, rfl, rfl, by go_num, by omega, h2w', H18, HA8, HB8, HF8, HJ8, by omega⟩
            case measure => simp [intOf]; omega
          · gi_wp2_with fail
            refine bodyPost_ret (results_none rfl _ _ _) rfl ?_
            exact ⟨⟨_, rfl⟩, .inr ⟨t, hlt2, hJx6⟩⟩
        · have htm : t = most + 1 := by omega
          have HJ9 := HJ.out
          rw [htm] at HJ9
          have HJ9' := Lib.hid HJ9
          clear HJ9
          gi_wp2_with fail
          go_end0
          exact ⟨⟨_, rfl⟩, .inl HJ9'.out⟩
end Go.Proofs.YtjecadpofkblnaaDoor
